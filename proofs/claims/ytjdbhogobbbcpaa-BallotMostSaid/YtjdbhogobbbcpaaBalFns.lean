/-
  ballot's Majority, Many, Most, by their contracts.
-/
import Derived.Test.YtjdbhogobbbcpaaBalDown
namespace Go.Proofs.Ytjdbhogobbbcpaa
open Go Go.RowKit BalMath
set_option maxRecDepth 100000

/-- a slice that reads as these values -/
def ValX (w : World) (v : Value) (xs : List Value) : Prop := ∃ A c, v = .slice A xs.length c ∧ Mine.Vs w A c xs
theorem ValX.gr {w w' : World} {v : Value} {xs : List Value} (h : ValX w v xs) (hg : Gr w w') : ValX w' v xs := by
  obtain ⟨A, c, h1, h2⟩ := h
  exact ⟨A, c, h1, h2.gr hg⟩
def IntsX (w : World) (v : Value) (l : List Int) : Prop := ValX w v (ivs l)
theorem IntsX.gr {w w' : World} {v : Value} {l : List Int} (h : IntsX w v l) (hg : Gr w w') : IntsX w' v l := ValX.gr h hg
theorem OwnI.ints {w : World} {B : Nat} {v : Value} {l : List Int} (h : OwnI w B v l) : IntsX w v l := by
  obtain ⟨A, c, rfl, _⟩ := OwnI.is h
  exact ⟨A, c, by rw [ivs_len], Mine.vs_own h⟩
theorem IntsX.is {w : World} {v : Value} {l : List Int} (h : IntsX w v l) : ∃ A c, v = .slice A l.length c ∧ (l.length : Int) ≤ (c : Int) ∧ ∀ j (hj : j < l.length), ∃ ad, A = some ad ∧ w.cell? (ad.add j) = some (iv l[j]) := by
  obtain ⟨A, c, h1, h2⟩ := h
  rw [ivs_len] at h1
  refine ⟨A, c, h1, by have := h2.le; rw [ivs_len] at this; omega, fun j hj => ?_⟩
  obtain ⟨ad, h3, h4⟩ := h2.rd j (by rw [ivs_len]; exact hj)
  exact ⟨ad, h3, by rw [h4]; simp [ivs]⟩
def bvals (l : List Bool) : List Value := l.map .bool
theorem bvals_len (l : List Bool) : (bvals l).length = l.length := by simp [bvals]
def BoolsX (w : World) (v : Value) (l : List Bool) : Prop := ValX w v (bvals l)
theorem BoolsX.gr {w w' : World} {v : Value} {l : List Bool} (h : BoolsX w v l) (hg : Gr w w') : BoolsX w' v l := ValX.gr h hg
theorem BoolsX.is {w : World} {v : Value} {l : List Bool} (h : BoolsX w v l) : ∃ A c, v = .slice A l.length c ∧ ∀ j (hj : j < l.length), ∃ ad, A = some ad ∧ w.cell? (ad.add j) = some (.bool l[j]) := by
  obtain ⟨A, c, h1, h2⟩ := h
  rw [bvals_len] at h1
  refine ⟨A, c, h1, fun j hj => ?_⟩
  obtain ⟨ad, h3, h4⟩ := h2.rd j (by rw [bvals_len]; exact hj)
  exact ⟨ad, h3, by rw [h4]; simp [bvals]⟩

theorem Majority_ok (n : Nat) (w : World) (hn : n ≤ 1000000000) : Calls Try.prog 13 #[.int .i64 n] w fun e w' => e = .returned (.int .i64 (majN n)) ∧ w' = w := by
  go_enter Try.func13, Try.ntmps13
  go_wp2_with fail
  go_ret
  exact ⟨by congr 2, rfl⟩

theorem RefMajority_ok (n : Nat) (w : World) (hn : n ≤ 1000000000) : Calls Try.prog 25 #[.int .i64 n] w fun e w' => e = .returned (.int .i64 (majN n)) ∧ w' = w := by
  have e1 : (n : Int).tdiv 2 = ((n / 2 : Nat) : Int) := by rw [Int.tdiv_eq_ediv_of_nonneg (by omega)]; omega
  go_enter Try.func25, Try.ntmps25
  go_wp2_with fail
  go_ret
  exact ⟨by congr 2, rfl⟩

theorem many_more {l : List Bool} {k : Nat} (hk : k < l.length) : manyL (l.take (k + 1)) = manyL (l.take k) + (if l[k] then 1 else 0) := by
  unfold manyL
  rw [List.take_succ_eq_append_getElem hk, List.countP_append]
  simp [List.countP_cons]
theorem many_le (l : List Bool) : manyL l ≤ l.length := List.countP_le_length

theorem Many_ok (v : Value) (l : List Bool) (w : World) (hv : BoolsX w v l) (hl : l.length ≤ 1000000000) : Calls Try.prog 14 #[v] w fun e w' => e = .returned (.int .i64 (manyL l)) ∧ w' = w := by
  have HV := hide hv
  obtain ⟨A, c, rfl, _⟩ := hv.is
  clear hv
  go_enter Try.func14, Try.ntmps14
  go_wp2_with fail
  go_loopw [3, 8] (fun u v wr => ∃ k : Nat, v = .int .i64 k ∧ k ≤ l.length ∧ u = .int .i64 (manyL (l.take k)) ∧ wr = w) (fun _ v _ => l.length - (intOf v).toNat)
  case atStart => exact ⟨0, rfl, by omega, rfl, rfl⟩
  case round =>
    obtain ⟨k, rfl, hk, rfl, rfl⟩ := hrel
    have hml : manyL (l.take k) ≤ 1000000000 := Nat.le_trans (many_le _) (by simp; omega)
    by_cases hlt : k < l.length
    · have hlt' : (k : Int) < (l.length : Int) := by omega
      obtain ⟨A', c', e1, hc⟩ := HV.out.is
      injection e1 with e1 _ e2
      subst e1 e2
      obtain ⟨ad, rfl, c0⟩ := hc k hlt
      have hm := many_more hlt
      have HM := hide hm
      clear hm hc
      generalize manyL (l.take k) = q at *
      cases hb : l[k]
      · rw [hb] at c0
        go_wp2_with fail
        go_roundw
        case rel => exact ⟨k + 1, by go_num, by omega, by rw [HM.out, hb]; simp, trivial⟩
        case measure => simp [intOf]; omega
      · rw [hb] at c0
        go_wp2_with fail
        go_roundw
        case rel => exact ⟨k + 1, by go_num, by omega, by rw [HM.out, hb]; simp, trivial⟩
        case measure => simp [intOf]; omega
    · obtain rfl : k = l.length := by omega
      have hm : manyL (l.take l.length) = manyL l := by rw [List.take_length]
      rw [hm]
      clear hml hm
      go_wp2_with fail
      go_ret
      exact ⟨rfl, rfl⟩

theorem RefMany_ok (v : Value) (l : List Bool) (w : World) (hv : BoolsX w v l) (hl : l.length ≤ 1000000000) : Calls Try.prog 15 #[v] w fun e w' => e = .returned (.int .i64 (manyL l)) ∧ w' = w := by
  have HV := hide hv
  obtain ⟨A, c, rfl, _⟩ := hv.is
  clear hv
  go_enter Try.func15, Try.ntmps15
  go_wp2_with fail
  go_loopw [3, 4] (fun u v wr => ∃ k : Nat, v = .int .i64 k ∧ k ≤ l.length ∧ u = .int .i64 (manyL (l.take k)) ∧ wr = w) (fun _ v _ => l.length - (intOf v).toNat)
  case atStart => exact ⟨0, rfl, by omega, rfl, rfl⟩
  case round =>
    obtain ⟨k, rfl, hk, rfl, rfl⟩ := hrel
    have hml : manyL (l.take k) ≤ 1000000000 := Nat.le_trans (many_le _) (by simp; omega)
    by_cases hlt : k < l.length
    · have hlt' : (k : Int) < (l.length : Int) := by omega
      obtain ⟨A', c', e1, hc⟩ := HV.out.is
      injection e1 with e1 _ e2
      subst e1 e2
      obtain ⟨ad, rfl, c0⟩ := hc k hlt
      have hm := many_more hlt
      have HM := hide hm
      clear hm hc
      generalize manyL (l.take k) = q at *
      cases hb : l[k]
      · rw [hb] at c0
        go_wp2_with fail
        go_roundw
        case rel => exact ⟨k + 1, by go_num, by omega, by rw [HM.out, hb]; simp, trivial⟩
        case measure => simp [intOf]; omega
      · rw [hb] at c0
        go_wp2_with fail
        go_roundw
        case rel => exact ⟨k + 1, by go_num, by omega, by rw [HM.out, hb]; simp, trivial⟩
        case measure => simp [intOf]; omega
    · obtain rfl : k = l.length := by omega
      have hm : manyL (l.take l.length) = manyL l := by rw [List.take_length]
      rw [hm]
      clear hml hm
      go_wp2_with fail
      go_ret
      exact ⟨rfl, rfl⟩

/-- the empty heap -/
theorem HP.start (w : World) : HP w (w.alloc (.cells #[.slice none 0 0] 52)) w.heap.size [] :=
  ⟨⟨.slice none 0 0, Bl.new w _ _, OwnI.none_ _ _⟩, (Gr.refl w).alloc _, Nat.le_refl _⟩

theorem MostP.mem {l : List Int} {x : Int} (h : MostP l x) (hl : 0 < l.length) : x ∈ l := (h.2 hl).1

set_option maxHeartbeats 2000000 in
theorem Most_ok (v : Value) (l : List Int) (w : World) (hv : IntsX w v l) (hl : l.length ≤ 100000) (h0 : ∀ x ∈ l, 0 ≤ x) :
    Calls Try.prog 16 #[v] w fun e w' => ∃ x, e = .returned (.int .i64 x) ∧ MostP l x ∧ Gr w w' := by
  have HV := hide hv
  obtain ⟨A, c, rfl, hlc, _⟩ := hv.is
  clear hv
  rcases Nat.eq_zero_or_pos l.length with hz | hz
  · have hnil := List.eq_nil_of_length_eq_zero hz
    subst hnil
    clear hz hlc
    go_enter Try.func16, Try.ntmps16
    go_wp2_with fail
    go_ret
    exact ⟨0, rfl, ⟨rfl, fun h => by simp at h⟩, Gr.refl _⟩
  have hz' : ((l.length : Int) == 0) = false := by rw [beq_eq_false_iff_ne]; omega
  have HS := hide (HP.start w)
  have HSel := hide (Sel.nil (majN l.length))
  have HMJ := hide (show majN l.length = l.length / 2 + 1 from rfl)
  generalize majN l.length = mj at HSel HMJ
  go_enter Try.func16, Try.ntmps16
  go_wp2_with fail
  generalize w.alloc (.cells #[.slice none 0 0] 52) = wA at HS ⊢
  generalize w.heap.size = g at HS ⊢
  go_loopw [11] (fun v wr => ∃ (k : Nat) (h : List Int), v = .int .i64 k ∧ k ≤ l.length ∧ Hid (HP w wr g h) ∧ Hid (Sel (l.take k) h mj)) (fun v _ => l.length - (intOf v).toNat)
  case atStart => exact ⟨0, [], rfl, by omega, HS, by rw [List.take_zero]; exact HSel⟩
  case round =>
    obtain ⟨k, h, rfl, hk, HH, HL⟩ := hrel
    have hhl : h.length ≤ 100000 := by have := HL.out.len; simp at this; omega
    by_cases hlt : k < l.length
    · have hlt' : (k : Int) < (l.length : Int) := by omega
      obtain ⟨A', c', e1, _, hc⟩ := (HV.out.gr HH.out.gr).is
      injection e1 with e1 _ e2
      subst e1 e2
      obtain ⟨ad, rfl, c0⟩ := hc k hlt
      have HT := hide (List.take_succ_eq_append_getElem hlt)
      have HP1 := hide (HeapPush_ok w wr g h l[k] HH.out HL.out.heap (by omega))
      generalize l[k] = x at c0 HT HP1
      clear hc
      unfold iv at c0 HP1
      go_wp2_with fail
      refine HP1.out.mono ?_
      rintro e w1 ⟨rfl, h1, hp1, hh1, hc1⟩
      have H1 := hide hp1
      have HH1 := hide hh1
      have HC1 := hide hc1
      have hl1 : h1.length ≤ 100001 := by rw [len_cnt, hc1, ← len_cnt]; simp [one]; omega
      clear hp1 hh1 hc1 HP1 c0 HS
      obtain ⟨v1, hb1, ho1⟩ := H1.out.own
      have cv : w1.cell? ⟨g, 0, none⟩ = some v1 := by rw [hb1.cell]; rfl
      have HLen := hide (Len_ok w1 _ v1 h1 ho1)
      have HMaj := hide (Majority_ok l.length w1 (by omega))
      obtain ⟨A1, c1, rfl, _⟩ := ho1.is
      clear hb1 ho1
      unfold majN at HMaj
      rw [← HMJ.out] at HMaj
      go_wp2_with fail
      refine HLen.out.mono ?_
      rintro e w2 ⟨rfl, hw2⟩
      subst hw2
      go_wp2_with fail
      refine HMaj.out.mono ?_
      rintro e w3 ⟨rfl, hw3⟩
      subst hw3
      clear HLen HMaj
      by_cases hgt : mj < h1.length
      · have hgt' : (mj : Int) < (h1.length : Int) := by omega
        obtain ⟨q, hq⟩ : ∃ q, h1.length = q + 1 := ⟨h1.length - 1, by omega⟩
        have HP2 := hide (HeapPop_ok w w3 g h1 q H1.out HH1.out hq (by omega))
        have HQ := hide hq
        clear hq cv
        go_wp2_with fail
        refine HP2.out.mono ?_
        rintro e w4 ⟨u, rfl, h2, hp2, hh2, hc2⟩
        have H2 := hide hp2
        have HF := hide (HL.out.pop HH1.out HC1.out hgt hh2 hc2)
        clear hp2 hh2 hc2 HP2
        go_wp2_with fail
        go_roundw
        case rel => exact ⟨k + 1, h2, by go_num, by omega, H2, by rw [HT.out]; exact HF⟩
        case measure => simp [intOf]; omega
      · have hgt' : ¬ (mj : Int) < (h1.length : Int) := by omega
        clear cv
        go_wp2_with fail
        go_roundw
        case rel => exact ⟨k + 1, h1, by go_num, by omega, H1, by rw [HT.out]; exact HL.out.push HH1.out HC1.out (by omega)⟩
        case measure => simp [intOf]; omega
    · obtain rfl : k = l.length := by omega
      have hfin := HL.out
      rw [List.take_length, HMJ.out] at hfin
      obtain ⟨m1, m2, m3, m4, m5⟩ := hfin.most hz h0
      have HR : Hid (MostP l (at_ h 0)) := ⟨m1.symm, fun _ => ⟨m3, m4, m5⟩⟩
      obtain ⟨v1, hb1, ho1⟩ := HH.out.own
      have cv : wr.cell? ⟨g, 0, none⟩ = some v1 := by rw [hb1.cell]; rfl
      obtain ⟨b, cap, rfl, _, _, hcap, _, hrow⟩ := ho1.block_ m2
      have cr : wr.cell? ⟨b, 0, none⟩ = some (.int .i64 (at_ h 0)) := by rw [hrow.cellAt 0 (by omega), ivs_at m2, at_of m2]; rfl
      clear m1 m3 m4 m5 hfin hb1 ho1 hrow HS HSel HL
      generalize at_ h 0 = x at cr HR
      have m2' : (0 : Int) < (h.length : Int) := by omega
      go_wp2_with fail
      go_ret
      exact ⟨x, rfl, HR.out, HH.out.gr⟩

end Go.Proofs.Ytjdbhogobbbcpaa
