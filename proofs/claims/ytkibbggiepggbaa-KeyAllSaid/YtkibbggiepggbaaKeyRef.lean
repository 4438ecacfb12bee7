/-
  The document's MayKey, ShardOf, Rising by their contracts.
-/
import Derived.Test.YtkibbggiepggbaaKeyMath
import Derived.Test.YtkibbggiepggbaaWords3
import Derived.Test.YtkibbggiepggbaaProg
import Derived.Deep.QuietTactic
import Derived.BigQuiet
namespace Go.Proofs.Ytkibbggiepggbaa
open Go.RowKit KeyMath

theorem list_size (s : ByteArray) : s.data.toList.length = s.size := by rw [Array.length_toList]; rfl
theorem byte_at {s : ByteArray} {k : Nat} (h : k < s.size) : s[k] = s.data.toList[k]'(by rw [list_size]; exact h) := by
  rw [Array.getElem_toList]
  rfl
theorem okB_eq (b : UInt8) : okB b = (!decide ((b.toNat : Int) < 33) && !decide ((126 : Int) < (b.toNat : Int))) := by
  unfold okB
  rw [Bool.eq_iff_iff]
  simp
  omega
theorem mayK_all {s : ByteArray} (h : (s.data.toList.take s.size).all okB = true) : mayK s = (decide (1 ≤ s.size) && decide (s.size ≤ 8)) := by
  rw [List.take_of_length_le (by rw [list_size]; exact Nat.le_refl _)] at h
  unfold mayK
  rw [h, Bool.and_true]
theorem mayK_not {s : ByteArray} (h : s.data.toList.all okB = false) : mayK s = false := by
  unfold mayK
  rw [h, Bool.and_false]

set_option maxHeartbeats 400000 in
theorem RefMay_ok (s : ByteArray) (hs : (s.size : Int) ≤ 281474976710656) (w : World) : Calls Try.prog 9 #[.string s] w fun e w' => e = .returned (.bool (mayK s)) ∧ w' = w := by
  go_enter Try.func9, Try.ntmps9
  go_wp2_with fail
  go_loop [3] (fun i => ∃ k : Nat, i = .int .i64 k ∧ k ≤ s.size ∧ Hid ((s.data.toList.take k).all okB = true)) (fun i => s.size - (intOf i).toNat)
  case atStart => exact ⟨0, rfl, by omega, rfl⟩
  case round =>
    obtain ⟨k, rfl, hk, hall⟩ := hrel
    by_cases hlt : k < s.size
    · have hlt' : (k : Int) < (s.size : Int) := by omega
      have hkl : k < s.data.toList.length := by rw [list_size]; exact hlt
      have hb := byte_at hlt
      have hm := hide (all_take hkl)
      have hn := hide (all_not hkl)
      obtain ⟨b, hbb⟩ : ∃ b, s.data.toList[k] = b := ⟨_, rfl⟩
      rw [hbb] at hb hm hn
      have ho := okB_eq b
      clear hbb hkl
      by_cases c1 : (b.toNat : Int) < 33
      · have d1 : decide ((b.toNat : Int) < 33) = true := by rw [decide_eq_true_eq]; exact c1
        rw [d1] at ho
        have hno := hide (mayK_not (hn.out ho))
        clear ho hm hn hall
        go_wp2_with fail
        go_ret
        exact ⟨by rw [hno.out]; rfl, rfl⟩
      · have d1 : decide ((b.toNat : Int) < 33) = false := by rw [decide_eq_false_iff_not]; exact c1
        by_cases c2 : (126 : Int) < (b.toNat : Int)
        · have d2 : decide ((126 : Int) < (b.toNat : Int)) = true := by rw [decide_eq_true_eq]; exact c2
          rw [d1, d2] at ho
          have hno := hide (mayK_not (hn.out ho))
          clear ho hm hn hall
          go_wp2_with fail
          go_ret
          exact ⟨by rw [hno.out]; rfl, rfl⟩
        · have d2 : decide ((126 : Int) < (b.toNat : Int)) = false := by rw [decide_eq_false_iff_not]; exact c2
          rw [d1, d2] at ho
          have hyes := hide (p := (s.data.toList.take (k + 1)).all okB = true) (by rw [hm.out, hall.out, ho]; rfl)
          clear ho hm hn hall
          go_wp2_with fail
          go_round
          case rel => exact ⟨k + 1, by go_num, by omega, hyes⟩
          case measure => simp [intOf]; omega
    · obtain rfl : k = s.size := by omega
      have hy := hide (mayK_all hall.out)
      clear hall
      by_cases c1 : 1 ≤ s.size
      · have d1 : decide ((1 : Int) ≤ (s.size : Int)) = true := by rw [decide_eq_true_eq]; omega
        have d2 : decide ((s.size : Int) ≤ 8) = decide (s.size ≤ 8) := by rw [decide_eq_decide]; omega
        go_wp2_with fail
        go_ret
        exact ⟨by rw [hy.out, decide_eq_true c1, Bool.true_and, ← d2]; rfl, rfl⟩
      · have d1 : decide ((1 : Int) ≤ (s.size : Int)) = false := by rw [decide_eq_false_iff_not]; omega
        go_wp2_with fail
        go_ret
        exact ⟨by rw [hy.out, decide_eq_false c1, Bool.false_and]; rfl, rfl⟩

set_option maxHeartbeats 400000 in
theorem RefShard_ok (s : ByteArray) (hs : (s.size : Int) ≤ 1000000) (n : Int) (h0 : -9223372036854775808 ≤ n) (h1 : n ≤ 9223372036854775807) (w : World) : Calls Try.prog 11 #[.string s, .int .i64 n] w fun e w' => e = .returned (.int .i64 (shardK s n)) ∧ w' = w := by
  by_cases hn : n < 1
  · have d1 : decide (n < 1) = true := by rw [decide_eq_true_eq]; exact hn
    have hz : shardK s n = 0 := by unfold shardK; rw [if_pos hn]
    rw [hz]
    go_enter Try.func11, Try.ntmps11
    go_wp2_with fail
    go_ret
    exact ⟨rfl, rfl⟩
  · have d1 : decide (n < 1) = false := by rw [decide_eq_false_iff_not]; exact hn
    obtain ⟨m, rfl⟩ := Int.eq_ofNat_of_zero_le (show 0 ≤ n by omega)
    have hz : shardK s m = ((sumB s.data.toList % m : Nat) : Int) := by unfold shardK; rw [if_neg hn, Int.natCast_emod]
    rw [hz]
    have hm0 : ¬ ((m : Int) = 0) := by omega
    go_enter Try.func11, Try.ntmps11
    go_wp2_with fail
    go_loop [5, 6] (fun x i => ∃ k y : Nat, i = .int .i64 k ∧ k ≤ s.size ∧ x = .int .i64 y ∧ y < m ∧ y ≤ 255 * k ∧ Hid (y = sumB (s.data.toList.take k) % m)) (fun _ i => s.size - (intOf i).toNat)
    case atStart => exact ⟨0, 0, rfl, by omega, rfl, by omega, by omega, by simp [Hid, sumB]⟩
    case round =>
      obtain ⟨k, y, rfl, hk, rfl, hy, hyk, HY⟩ := hrel
      by_cases hlt : k < s.size
      · have hlt' : (k : Int) < (s.size : Int) := by omega
        have hkl : k < s.data.toList.length := by rw [list_size]; exact hlt
        have hb := byte_at hlt
        have hm := hide (sumB_take hkl)
        obtain ⟨b, hbb⟩ : ∃ b, s.data.toList[k] = b := ⟨_, rfl⟩
        rw [hbb] at hb hm
        have hb8 := b.toNat_lt
        clear hbb hkl
        go_wp2_with fail
        refine ⟨⟨k + 1, (y + b.toNat) % m, by go_num, by omega, by congr 1, Nat.mod_lt _ (by omega), ?_, ?_⟩, by simp [intOf]; omega⟩
        · have := Nat.mod_le (y + b.toNat) m
          omega
        · show _ = _
          rw [HY.out, hm.out, Nat.mod_add_mod]
      · obtain rfl : k = s.size := by omega
        go_wp2_with fail
        go_ret
        exact ⟨by rw [HY.out, List.take_of_length_le (by rw [list_size]; exact Nat.le_refl _)]; rfl, rfl⟩

theorem riseAt_no {l : List ByteArray} {k : Nat} (h : mayK (l.getD k nothing) = false) : riseAt l k = false := by unfold riseAt; rw [h, Bool.false_and]
theorem riseAt_first {l : List ByteArray} (h : mayK (l.getD 0 nothing) = true) : riseAt l 0 = true := by unfold riseAt; rw [h]; rfl
theorem riseAt_next {l : List ByteArray} {j k : Nat} (hj : j + 1 = k) (h : mayK (l.getD k nothing) = true) : riseAt l k = !leK (l.getD k nothing) (l.getD j nothing) := by subst hj; unfold riseAt; rw [h]; simp
theorem Strs.at_ {w : World} {A : Option Addr} {c : Nat} {ss : List ByteArray} (h : Strs w A c ss) (j : Nat) (hj : j < ss.length) : ∃ ad, A = some ad ∧ w.cell? (ad.add j) = some (.string (ss.getD j nothing)) := by
  obtain ⟨ad, h1, h2⟩ := h.rd j hj
  exact ⟨ad, h1, by rw [h2, List.getD_eq_getElem?_getD, List.getElem?_eq_getElem hj]; rfl⟩
theorem size_at {ss : List ByteArray} (hm : ∀ s ∈ ss, (s.size : Int) ≤ 1000000) (j : Nat) (hj : j < ss.length) : ((ss.getD j nothing).size : Int) ≤ 1000000 := by
  rw [List.getD_eq_getElem?_getD, List.getElem?_eq_getElem hj]
  exact hm _ (List.getElem_mem hj)

set_option maxHeartbeats 400000 in
theorem RefRising_ok (A : Option Addr) (n c : Nat) (ss : List ByteArray) (hn : n = ss.length) (w : World) (hss : Strs w A c ss) (hm : ∀ s ∈ ss, (s.size : Int) ≤ 1000000) (hmax : (ss.length : Int) ≤ 1000000) :
    Calls Try.prog 15 #[.slice A n c] w fun e w' => e = .returned (.bool (risingK ss)) ∧ Gr w w' := by
  subst hn
  have hsz := hide (size_at hm)
  have HM := hide hm
  clear hm
  go_enter Try.func15, Try.ntmps15
  go_wp2_with fail
  go_loopw [3] (fun i wr => ∃ k : Nat, i = .int .i64 k ∧ k ≤ ss.length ∧ Hid (risesTo ss k = true) ∧ Gr w wr) (fun i _ => ss.length - (intOf i).toNat)
  case atStart => exact ⟨0, rfl, by omega, rfl, Gr.refl _⟩
  case round =>
    obtain ⟨k, rfl, hk, hrs, hgr⟩ := hrel
    by_cases hlt : k < ss.length
    · have hlt' : (k : Int) < (ss.length : Int) := by omega
      have hss2 := hss.gr hgr
      obtain ⟨ad, rfl, hcell⟩ := hss2.at_ k hlt
      have hsk := hsz.out k hlt
      have hsu := hide (risesTo_succ ss k)
      have hno := hide (rising_not hlt)
      cases hmk : mayK (ss.getD k nothing)
      · have hrn := hide (hno.out (riseAt_no hmk))
        have hc := fun w => RefMay_ok (ss.getD k nothing) (by omega) w
        rw [hmk] at hc
        obtain ⟨x, hx⟩ : ∃ x, ss.getD k nothing = x := ⟨_, rfl⟩
        rw [hx] at hcell hc
        have HC := hide hc
        clear hx hc hmk hss2 hsk
        go_wp2_with fail
        go_quiet (refine Calls.quiet_of_same (HC.out _))
        go_wp2_with fail
        go_ret
        exact ⟨by rw [hrn.out]; rfl, hgr.drewN _⟩
      · have hc := hide (fun w => by have := RefMay_ok (ss.getD k nothing) (by omega) w; rwa [hmk] at this)
        by_cases hk0 : k = 0
        · subst hk0
          have hr1 := hide (p := risesTo ss 1 = true) (by rw [hsu.out, hrs.out, riseAt_first hmk]; rfl)
          rw [add_zero_] at hcell
          obtain ⟨x, hx⟩ : ∃ x, ss.getD 0 nothing = x := ⟨_, rfl⟩
          rw [hx] at hcell hc
          have hl0 : 0 < ss.length := hlt
          clear hx hmk hss2 hsk hsu hno
          go_wp2_with fail
          go_quiet (refine Calls.quiet_of_same (hc.out _))
          go_wp2_with fail
          go_round
          case rel => exact ⟨1, rfl, by omega, hr1, hgr.drewN _⟩
          case measure => simp [intOf]; omega
        · obtain ⟨j, hj⟩ : ∃ j, j + 1 = k := ⟨k - 1, by omega⟩
          have hra := riseAt_next hj hmk
          obtain ⟨ad', e', hcell0⟩ := hss2.at_ j (by omega)
          injection e' with e'
          subst e'
          have hw0 : (k : Int) - 1 = (j : Int) := by omega
          have hw1 : IntKind.i64.wrap (j : Int) = (j : Int) := by rw [IntKind.wrap_i64]; omega
          have hd0 : decide ((0 : Int) < (k : Int)) = true := by rw [decide_eq_true_eq]; omega
          have hjl : (j : Int) < (ss.length : Int) := by omega
          have hk1 : 0 < k := by omega
          cases hle : leK (ss.getD k nothing) (ss.getD j nothing)
          · have hr1 := hide (p := risesTo ss (k + 1) = true) (by rw [hsu.out, hrs.out, hra, hle]; rfl)
            unfold leK at hle
            obtain ⟨x, hx⟩ : ∃ x, ss.getD k nothing = x := ⟨_, rfl⟩
            obtain ⟨y, hy⟩ : ∃ y, ss.getD j nothing = y := ⟨_, rfl⟩
            rw [hx] at hcell hc hle
            rw [hy] at hcell0 hle
            clear hx hy hmk hss2 hsk hsu hno hra hj
            go_wp2_with fail
            go_quiet (refine Calls.quiet_of_same (hc.out _))
            go_wp2_with fail
            go_round
            case rel => exact ⟨k + 1, by go_num, by omega, hr1, hgr.drewN _⟩
            case measure => simp [intOf]; omega
          · have hrn := hide (hno.out (by rw [hra, hle]; rfl))
            unfold leK at hle
            obtain ⟨x, hx⟩ : ∃ x, ss.getD k nothing = x := ⟨_, rfl⟩
            obtain ⟨y, hy⟩ : ∃ y, ss.getD j nothing = y := ⟨_, rfl⟩
            rw [hx] at hcell hc hle
            rw [hy] at hcell0 hle
            clear hx hy hmk hss2 hsk hsu hno hra hj
            go_wp2_with fail
            go_quiet (refine Calls.quiet_of_same (hc.out _))
            go_wp2_with fail
            go_ret
            exact ⟨by rw [hrn.out]; rfl, hgr.drewN _⟩
    · obtain rfl : k = ss.length := by omega
      go_wp2_with fail
      go_ret
      exact ⟨by unfold risingK; rw [hrs.out]; rfl, hgr⟩

end Go.Proofs.Ytkibbggiepggbaa
