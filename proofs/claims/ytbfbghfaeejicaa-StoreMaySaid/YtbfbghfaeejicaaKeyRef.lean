/-
  The document's MayKey, Rising by their contracts.
-/
import Derived.Test.YtbfbghfaeejicaaKeyWords
namespace Go.Proofs.Ytbfbghfaeejicaa
open Go.RowKit KeyMath
set_option maxRecDepth 100000

set_option maxHeartbeats 400000 in
theorem RefMay_ok (s : ByteArray) (hs : (s.size : Int) ≤ 281474976710656) (w : World) : Calls Try.prog 74 #[.string s] w fun e w' => e = .returned (.bool (mayK s)) ∧ w' = w := by
  go_enter Try.func74, Try.ntmps74
  go_wp2_with fail
  go_loop [3] (fun i => ∃ k : Nat, i = .int .i64 k ∧ k ≤ s.size ∧ Hid ((s.data.toList.take k).all okB = true)) (fun i => s.size - (intOf i).toNat)
  case atStart => exact ⟨0, rfl, by omega, rfl⟩
  case round =>
    obtain ⟨k, rfl, hk, hall⟩ := hrel
    by_cases hlt : k < s.size
    · have hlt' : (k : Int) < (s.size : Int) := by omega
      have hkl : k < s.data.toList.length := by rw [list_size]; exact hlt
      have hb := byte_at hlt
      have hm := hide (all_take hkl)
      have hn := hide (all_not hkl)
      obtain ⟨b, hbb⟩ : ∃ b, s.data.toList[k] = b := ⟨_, rfl⟩
      rw [hbb] at hb hm hn
      have ho := okB_eq b
      clear hbb hkl
      by_cases c1 : (b.toNat : Int) < 33
      · have d1 : decide ((b.toNat : Int) < 33) = true := by rw [decide_eq_true_eq]; exact c1
        rw [d1] at ho
        have hno := hide (mayK_not (hn.out ho))
        clear ho hm hn hall
        go_wp2_with fail
        go_ret
        exact ⟨by rw [hno.out]; rfl, rfl⟩
      · have d1 : decide ((b.toNat : Int) < 33) = false := by rw [decide_eq_false_iff_not]; exact c1
        by_cases c2 : (126 : Int) < (b.toNat : Int)
        · have d2 : decide ((126 : Int) < (b.toNat : Int)) = true := by rw [decide_eq_true_eq]; exact c2
          rw [d1, d2] at ho
          have hno := hide (mayK_not (hn.out ho))
          clear ho hm hn hall
          go_wp2_with fail
          go_ret
          exact ⟨by rw [hno.out]; rfl, rfl⟩
        · have d2 : decide ((126 : Int) < (b.toNat : Int)) = false := by rw [decide_eq_false_iff_not]; exact c2
          rw [d1, d2] at ho
          have hyes := hide (p := (s.data.toList.take (k + 1)).all okB = true) (by rw [hm.out, hall.out, ho]; rfl)
          clear ho hm hn hall
          go_wp2_with fail
          go_round
          case rel => exact ⟨k + 1, by go_num, by omega, hyes⟩
          case measure => simp [intOf]; omega
    · obtain rfl : k = s.size := by omega
      have hy := hide (mayK_all hall.out)
      clear hall
      by_cases c1 : 1 ≤ s.size
      · have d1 : decide ((1 : Int) ≤ (s.size : Int)) = true := by rw [decide_eq_true_eq]; omega
        have d2 : decide ((s.size : Int) ≤ 8) = decide (s.size ≤ 8) := by rw [decide_eq_decide]; omega
        go_wp2_with fail
        go_ret
        exact ⟨by rw [hy.out, decide_eq_true c1, Bool.true_and, ← d2]; rfl, rfl⟩
      · have d1 : decide ((1 : Int) ≤ (s.size : Int)) = false := by rw [decide_eq_false_iff_not]; omega
        go_wp2_with fail
        go_ret
        exact ⟨by rw [hy.out, decide_eq_false c1, Bool.false_and]; rfl, rfl⟩

set_option maxHeartbeats 400000 in
theorem RefRisingB_ok (A : Option Addr) (n c : Nat) (ss : List ByteArray) (hn : n = ss.length) (w : World) (hss : Strs w A c ss) (hm : ∀ s ∈ ss, (s.size : Int) ≤ 281474976710656) (hmax : (ss.length : Int) ≤ 1000000) :
    Calls Try.prog 53 #[.slice A n c] w fun e w' => e = .returned (.bool (risingK ss)) ∧ Gr w w' := by
  subst hn
  have hsz := hide (size_at hm)
  have HM := hide hm
  clear hm
  go_enter Try.func53, Try.ntmps53
  go_wp2_with fail
  go_loopw [3] (fun i wr => ∃ k : Nat, i = .int .i64 k ∧ k ≤ ss.length ∧ Hid (risesTo ss k = true) ∧ Gr w wr) (fun i _ => ss.length - (intOf i).toNat)
  case atStart => exact ⟨0, rfl, by omega, rfl, Gr.refl _⟩
  case round =>
    obtain ⟨k, rfl, hk, hrs, hgr⟩ := hrel
    by_cases hlt : k < ss.length
    · have hlt' : (k : Int) < (ss.length : Int) := by omega
      have hss2 := hss.gr hgr
      obtain ⟨ad, rfl, hcell⟩ := hss2.at_ k hlt
      have hsk := hsz.out k hlt
      have hsu := hide (risesTo_succ ss k)
      have hno := hide (rising_not hlt)
      cases hmk : mayK (ss.getD k nothing)
      · have hrn := hide (hno.out (riseAt_no hmk))
        have hc := fun w => RefMay_ok (ss.getD k nothing) (by omega) w
        rw [hmk] at hc
        obtain ⟨x, hx⟩ : ∃ x, ss.getD k nothing = x := ⟨_, rfl⟩
        rw [hx] at hcell hc
        have HC := hide hc
        clear hx hc hmk hss2 hsk
        go_wp2_with fail
        go_quiet (refine Calls.quiet_of_same (HC.out _))
        go_wp2_with fail
        go_ret
        exact ⟨by rw [hrn.out]; rfl, hgr.drewN _⟩
      · have hc := hide (fun w => by have := RefMay_ok (ss.getD k nothing) (by omega) w; rwa [hmk] at this)
        by_cases hk0 : k = 0
        · subst hk0
          have hr1 := hide (p := risesTo ss 1 = true) (by rw [hsu.out, hrs.out, riseAt_first hmk]; rfl)
          rw [add_zero_] at hcell
          obtain ⟨x, hx⟩ : ∃ x, ss.getD 0 nothing = x := ⟨_, rfl⟩
          rw [hx] at hcell hc
          have hl0 : 0 < ss.length := hlt
          clear hx hmk hss2 hsk hsu hno
          go_wp2_with fail
          go_quiet (refine Calls.quiet_of_same (hc.out _))
          go_wp2_with fail
          go_round
          case rel => exact ⟨1, rfl, by omega, hr1, hgr.drewN _⟩
          case measure => simp [intOf]; omega
        · obtain ⟨j, hj⟩ : ∃ j, j + 1 = k := ⟨k - 1, by omega⟩
          have hra := riseAt_next hj hmk
          obtain ⟨ad', e', hcell0⟩ := hss2.at_ j (by omega)
          injection e' with e'
          subst e'
          have hw0 : (k : Int) - 1 = (j : Int) := by omega
          have hw1 : IntKind.i64.wrap (j : Int) = (j : Int) := by rw [IntKind.wrap_i64]; omega
          have hd0 : decide ((0 : Int) < (k : Int)) = true := by rw [decide_eq_true_eq]; omega
          have hjl : (j : Int) < (ss.length : Int) := by omega
          have hk1 : 0 < k := by omega
          cases hle : leK (ss.getD k nothing) (ss.getD j nothing)
          · have hr1 := hide (p := risesTo ss (k + 1) = true) (by rw [hsu.out, hrs.out, hra, hle]; rfl)
            unfold leK at hle
            obtain ⟨x, hx⟩ : ∃ x, ss.getD k nothing = x := ⟨_, rfl⟩
            obtain ⟨y, hy⟩ : ∃ y, ss.getD j nothing = y := ⟨_, rfl⟩
            rw [hx] at hcell hc hle
            rw [hy] at hcell0 hle
            clear hx hy hmk hss2 hsk hsu hno hra hj
            go_wp2_with fail
            go_quiet (refine Calls.quiet_of_same (hc.out _))
            go_wp2_with fail
            go_round
            case rel => exact ⟨k + 1, by go_num, by omega, hr1, hgr.drewN _⟩
            case measure => simp [intOf]; omega
          · have hrn := hide (hno.out (by rw [hra, hle]; rfl))
            unfold leK at hle
            obtain ⟨x, hx⟩ : ∃ x, ss.getD k nothing = x := ⟨_, rfl⟩
            obtain ⟨y, hy⟩ : ∃ y, ss.getD j nothing = y := ⟨_, rfl⟩
            rw [hx] at hcell hc hle
            rw [hy] at hcell0 hle
            clear hx hy hmk hss2 hsk hsu hno hra hj
            go_wp2_with fail
            go_quiet (refine Calls.quiet_of_same (hc.out _))
            go_wp2_with fail
            go_ret
            exact ⟨by rw [hrn.out]; rfl, hgr.drewN _⟩
    · obtain rfl : k = ss.length := by omega
      go_wp2_with fail
      go_ret
      exact ⟨by unfold risingK; rw [hrs.out]; rfl, hgr⟩

theorem RefRising_ok (A : Option Addr) (n c : Nat) (ss : List ByteArray) (hn : n = ss.length) (w : World) (hss : Strs w A c ss) (hm : ∀ s ∈ ss, (s.size : Int) ≤ 1000000) (hmax : (ss.length : Int) ≤ 1000000) :
    Calls Try.prog 53 #[.slice A n c] w fun e w' => e = .returned (.bool (risingK ss)) ∧ Gr w w' :=
  RefRisingB_ok A n c ss hn w hss (fun s hs => Int.le_trans (hm s hs) (by decide)) hmax

end Go.Proofs.Ytbfbghfaeejicaa
