/-
  The walk of 'NumBack'.
-/
import Derived.Test.YtidcoilaebjdjaaNumBegun
namespace Go.Proofs.Ytidcoilaebjdjaa
open Go.RowKit NumPlain

/-- the law's answer on this way -/
def YesGr (w : World) (e : Ending) (w' : World) : Prop := e = .returned (.bool true) ∧ Gr w w'

theorem num_back_take {v : Nat} (hv : (v : Int) ≤ 9223372036854775807) (r : List UInt8) : takeV (putN v ++ r) = v ∧ takeK (putN v ++ r) = (putN v).length ∧ takeB (putN v ++ r) = true := by
  have h := takeF_putN v r (by omega)
  simp [takeV, takeK, takeB, h]
theorem num_back_cut {v j : Nat} (hv : (v : Int) ≤ 9223372036854775807) (hj : j < (putN v).length) : takeB ((putN v).take j) = false := by
  simp [takeB, takeF_cut (v := v) (by omega) hj]
theorem num_back_text {s : List UInt8} (hs : s.length ≤ 255) (r : List UInt8) : textV (putT s ++ r) = bs s ∧ textK (putT s ++ r) = (putT s).length ∧ textB (putT s ++ r) = true := by
  have h := takeT_putT s r hs
  simp [textV, textK, textB, h]
theorem num_back_text_cut {s : List UInt8} {j : Nat} (hs : s.length ≤ 255) (hj : j < (putT s).length) : textB ((putT s).take j) = false := by
  simp [textB, takeT_cut hs hj]

theorem rem_nat (a : Int) {n : Nat} (hn : 0 < n) : ∃ j : Nat, a % (n : Int) = (j : Int) ∧ j < n := by
  have h1 := Int.emod_nonneg a (show (n : Int) ≠ 0 by omega)
  have h2 := Int.emod_lt_of_pos a (show (0 : Int) < n by omega)
  exact ⟨(a % (n : Int)).toNat, by omega, by omega⟩

set_option maxRecDepth 100000 in
set_option maxHeartbeats 1000000 in
theorem back_yes (w : World) (v : Nat) (hv : (v : Int) ≤ 9223372036854775807) (s : ByteArray) (hs : (s.size : Int) ≤ 255) (A : Option Addr) (n c : Nat) (l : List UInt8) (hn : n = l.length) (hby : By w A c l) (hl : (l.length : Int) ≤ 20)
    (cut : Int) (hc0 : 0 ≤ cut) (hc1 : cut ≤ 65535) :
    Calls Try.prog 4 #[.int .i64 v, .string s, .slice A n c, .int .u16 cut] w (YesGr w) := by
  subst hn
  obtain ⟨i0, hi, hz0, hz1, hz2⟩ := info_parts info_u8
  have d1 : decide ((v : Int) < 0) = false := by rw [decide_eq_false_iff_not]; omega
  have d2 : decide ((255 : Int) < (s.size : Int)) = false := by rw [decide_eq_false_iff_not]; omega
  have d3 : decide ((20 : Int) < (l.length : Int)) = false := by rw [decide_eq_false_iff_not]; omega
  have hsl : s.data.toList.length = s.size := by rw [Array.length_toList]; rfl
  have hs255 : s.data.toList.length ≤ 255 := by omega
  have hp := putN_len9 v (by omega)
  have ht := putT_len hs255
  rw [hsl] at ht
  have Hsl := hide hsl
  clear hsl
  go_enter Try.func4, Try.ntmps4
  go_wp2_with fail
  refine (begun_ok _).mono ?_
  rintro e w1 ⟨rfl, hg1⟩
  go_wp2_with fail
  refine (put_any v hv _).mono ?_
  rintro e w2 ⟨v2, rfl, ho2, hg2⟩
  obtain ⟨A2, c2, rfl, hb2⟩ := ho2.by_
  go_wp2_with fail
  refine (PutText_ok s (by omega) _).mono ?_
  rintro e w3 ⟨v3, rfl, ho3, hg3⟩
  obtain ⟨A3, c3, rfl, hb3⟩ := ho3.by_
  clear ho2 ho3
  obtain ⟨LN, hLN⟩ : ∃ LN, LN = putN v := ⟨_, rfl⟩
  obtain ⟨LT, hLT⟩ : ∃ LT, LT = putT s.data.toList := ⟨_, rfl⟩
  rw [← hLN] at hb2 hp
  rw [← hLT] at hb3 ht
  rw [← hLN, ← hLT]
  have HLN := hide hLN
  have HLT := hide hLT
  clear hLN hLT
  have d4 : decide (LN.length < 1) = false := by rw [decide_eq_false_iff_not]; omega
  have d5 : decide ((9 : Int) < (LN.length : Int)) = false := by rw [decide_eq_false_iff_not]; omega
  have d6 : decide (LT.length ≤ s.size) = false := by rw [decide_eq_false_iff_not]; omega
  have g34 : Gr w3 (w3.alloc (.cells #[] 5)) := (Gr.refl w3).alloc _
  have hb2' := (hb2.gr hg3).gr g34
  have gw3 : Gr w w3 := hg1.trans (hg2.trans hg3)
  have hbA := (hby.gr gw3).gr g34
  go_wp2_with (first | (at_builtin; refine wpList_app rfl (.tmp 57) (.tmp 58) _ rfl 5 i0 Try.underlying22 hi hz0 hz1 hz2 (r := LN) rfl rfl (own_empty w3 _ (Gr.refl w3)) g34 rfl hb2'.rd hb2'.nil (by simp; omega) ?_; intro v5 w5 ho5 hg5; have g35 := hg5) | (at_builtin; refine wpList_app rfl (.tmp 59) (.tmp 60) _ rfl 5 i0 Try.underlying22 hi hz0 hz1 hz2 (r := l) rfl rfl ho5 hg5 rfl ((hby.gr gw3).gr hg5).rd hby.nil (by simp; omega) ?_; intro v6 w6 ho6 hg6))
  simp only [List.nil_append] at ho6
  obtain ⟨A6, c6, rfl, hb6⟩ := ho6.by_
  have t1 : takeV (LN ++ l) = v ∧ takeK (LN ++ l) = (LN.length : Int) ∧ takeB (LN ++ l) = true := by rw [HLN.out]; exact num_back_take hv l
  have g36 : Gr w3 w6 := hg6
  clear ho6 ho5 hg5 hg6 hb2' g34 g35 hbA
  refine (take_by A6 _ c6 _ rfl _ hb6 (by rw [List.length_append]; omega)).mono ?_
  rintro e w7 ⟨rfl, hg7⟩
  rw [t1.1, t1.2.1, t1.2.2]
  clear hb6 t1
  have g78 : Gr w7 (w7.alloc (.cells #[] 5)) := (Gr.refl w7).alloc _
  have g37 : Gr w3 w7 := g36.trans hg7
  have hb3' := (hb3.gr g37).gr g78
  go_wp2_with (first | (at_builtin; refine wpList_app rfl (.tmp 67) (.tmp 68) _ rfl 5 i0 Try.underlying22 hi hz0 hz1 hz2 (r := LT) rfl rfl (own_empty w7 _ (Gr.refl w7)) g78 rfl hb3'.rd hb3'.nil (by simp; omega) ?_; intro v9 w9 ho9 hg9) | (at_builtin; refine wpList_app rfl (.tmp 69) (.tmp 70) _ rfl 5 i0 Try.underlying22 hi hz0 hz1 hz2 (r := l) rfl rfl ho9 hg9 rfl (((hby.gr gw3).gr g37).gr hg9).rd hby.nil (by simp; omega) ?_; intro v10 w10 ho10 hg10))
  simp only [List.nil_append] at ho10
  obtain ⟨A10, c10, rfl, hb10⟩ := ho10.by_
  have t2 : textV (LT ++ l) = s ∧ textK (LT ++ l) = (LT.length : Int) ∧ textB (LT ++ l) = true := by
    have h := num_back_text hs255 l
    rw [bs_of] at h
    rw [HLT.out]; exact h
  clear ho10 ho9 hg9 hb3' g78
  refine (takeText_by A10 _ c10 _ rfl _ hb10 (by rw [List.length_append]; omega)).mono ?_
  rintro e w11 ⟨rfl, hg11⟩
  rw [t2.1, t2.2.1, t2.2.2]
  clear hb10 t2
  have g311 : Gr w3 w11 := g37.trans (hg10.trans hg11)
  have hb2'' := (hb2.gr hg3).gr g311
  have hb3'' := hb3.gr g311
  have hc2 : (LN.length : Int) ≤ (c2 : Int) := by have := hb2.le; omega
  have hc3 : (LT.length : Int) ≤ (c3 : Int) := by have := hb3.le; omega
  obtain ⟨j1, ej1, lj1⟩ := rem_nat cut (show 0 < LN.length by omega)
  obtain ⟨j2, ej2, lj2⟩ := rem_nat cut (show 0 < LT.length by omega)
  have lj1' : (j1 : Int) < (LN.length : Int) := by omega
  have lj2' : (j2 : Int) < (LT.length : Int) := by omega
  have l1 : (LN.take j1).length = j1 := by rw [List.length_take]; omega
  have l2 : (LT.take j2).length = j2 := by rw [List.length_take]; omega
  have L1 := hide l1
  have L2 := hide l2
  have u1 : takeB (LN.take j1) = false := by rw [HLN.out]; exact num_back_cut hv (by rw [← HLN.out]; exact lj1)
  have u2 : textB (LT.take j2) = false := by rw [HLT.out]; exact num_back_text_cut hs255 (by rw [← HLT.out]; exact lj2)
  have U1 := hide u1
  have U2 := hide u2
  clear l1 l2 u1 u2
  go_wp2_with fail
  refine (take_by A2 j1 c2 (LN.take j1) L1.out.symm _ (hb2''.take j1) (by rw [L1.out]; omega)).mono ?_
  rintro e w12 ⟨rfl, hg12⟩
  rw [U1.out]
  go_wp2_with fail
  refine (takeText_by A3 j2 c3 (LT.take j2) L2.out.symm _ ((hb3''.gr hg12).take j2) (by rw [L2.out]; omega)).mono ?_
  rintro e w13 ⟨rfl, hg13⟩
  rw [U2.out]
  go_wp2_with fail
  go_ret
  exact ⟨rfl, gw3.trans (g311.trans (hg12.trans hg13))⟩

set_option maxRecDepth 100000 in
set_option maxHeartbeats 400000 in
theorem back_out (w : World) (v : Int) (s : ByteArray) (A : Option Addr) (n c : Nat) (cut : Int) (h : v < 0 ∨ (255 : Int) < (s.size : Int) ∨ (20 : Int) < (n : Int)) :
    Calls Try.prog 4 #[.int .i64 v, .string s, .slice A n c, .int .u16 cut] w (YesGr w) := by
  by_cases h1 : v < 0
  · have d1 : decide (v < 0) = true := by rw [decide_eq_true_eq]; exact h1
    clear h
    go_enter Try.func4, Try.ntmps4
    go_wp2_with fail
    refine (begun_ok _).mono ?_
    rintro e w1 ⟨rfl, hg1⟩
    go_wp2_with fail
    go_ret
    exact ⟨rfl, hg1⟩
  · have d1 : decide (v < 0) = false := by rw [decide_eq_false_iff_not]; exact h1
    by_cases h2 : (255 : Int) < (s.size : Int)
    · have d2 : decide ((255 : Int) < (s.size : Int)) = true := by rw [decide_eq_true_eq]; exact h2
      clear h h1
      go_enter Try.func4, Try.ntmps4
      go_wp2_with fail
      refine (begun_ok _).mono ?_
      rintro e w1 ⟨rfl, hg1⟩
      go_wp2_with fail
      go_ret
      exact ⟨rfl, hg1⟩
    · have d2 : decide ((255 : Int) < (s.size : Int)) = false := by rw [decide_eq_false_iff_not]; exact h2
      have d3 : decide ((20 : Int) < (n : Int)) = true := by rw [decide_eq_true_eq]; omega
      clear h h1 h2
      go_enter Try.func4, Try.ntmps4
      go_wp2_with fail
      refine (begun_ok _).mono ?_
      rintro e w1 ⟨rfl, hg1⟩
      go_wp2_with fail
      go_ret
      exact ⟨rfl, hg1⟩

theorem walk_NumBack (w : World) (a0 : Int) (w0 : (Lit.int .i64 a0).wf = true) (s : ByteArray) (_w1 : s.size ≤ maxLen) (A : Option Addr) (n c : Nat) (l : List UInt8) (hn : n = l.length) (hby : By w A c l) (cut : Int) (w3 : (Lit.int .u16 cut).wf = true) :
    Calls Try.prog 4 #[.int .i64 a0, .string s, .slice A n c, .int .u16 cut] w fun e w' => e = .returned (.bool true) ∧ Gr w w' := by
  have h0 : a0 ≤ 9223372036854775807 := by simp [Lit.wf, IntKind.min, IntKind.max, IntKind.signed, IntKind.bits] at w0; omega
  have h3 : 0 ≤ cut ∧ cut ≤ 65535 := by simpa [Lit.wf, IntKind.min, IntKind.max, IntKind.signed, IntKind.bits] using w3
  by_cases h : a0 < 0 ∨ (255 : Int) < (s.size : Int) ∨ (20 : Int) < (n : Int)
  · exact back_out w a0 s A n c cut h
  · obtain ⟨v, rfl⟩ := Int.eq_ofNat_of_zero_le (show 0 ≤ a0 by omega)
    exact back_yes w v h0 s (by omega) A n c l hn hby (by omega) cut h3.1 h3.2

end Go.Proofs.Ytidcoilaebjdjaa
