/-
  The walk of 'NumLess'.
-/
import Derived.Test.YtidcoilaebjdjaaNumBegun
import Derived.Test.YtidcoilaebjdjaaNumPut
namespace Go.Proofs.Ytidcoilaebjdjaa
open Go.RowKit NumPlain

theorem putZ_mono {a b : Int} (ha : 0 ≤ a) (h : a ≤ b) : (putZ a).length ≤ (putZ b).length := by
  unfold putZ
  rw [if_neg (by omega), if_neg (by omega)]
  exact putN_mono (by omega)
theorem putZ_inj {a b : Int} (ha : 0 ≤ a) (hb : 0 ≤ b) (ha' : a ≤ 9223372036854775807) (hb' : b ≤ 9223372036854775807) (h : putZ a = putZ b) : a = b := by
  unfold putZ at h
  rw [if_neg (by omega), if_neg (by omega)] at h
  have := putN_inj (by omega) (by omega) h
  omega
theorem bs_toList (l : List UInt8) : (bs l).toList = l := by rw [ByteArray.toList_eq, bs_list]

set_option maxRecDepth 100000 in
set_option maxHeartbeats 400000 in
theorem walk_NumLess (w : World) (a : Int) (ha : (Lit.int .i64 a).wf = true) (b : Int) (hb : (Lit.int .i64 b).wf = true) :
    Calls Try.prog 7 #[.int .i64 a, .int .i64 b] w fun e w' => e = .returned (.bool true) ∧ Gr w w' := by
  have ba : a ≤ 9223372036854775807 := by simp [Lit.wf, IntKind.min, IntKind.max, IntKind.signed, IntKind.bits] at ha; omega
  have bb : b ≤ 9223372036854775807 := by simp [Lit.wf, IntKind.min, IntKind.max, IntKind.signed, IntKind.bits] at hb; omega
  clear ha hb
  by_cases hneg : a < 0 ∨ b < 0
  · by_cases hna : a < 0
    · have d1 : decide (a < 0) = true := by rw [decide_eq_true_eq]; exact hna
      clear hneg
      go_enter Try.func7, Try.ntmps7
      go_wp2_with fail
      refine (begun_ok _).mono ?_
      rintro e w1 ⟨rfl, hg1⟩
      go_wp2_with fail
      go_ret
      exact ⟨rfl, hg1⟩
    · have d1 : decide (a < 0) = false := by rw [decide_eq_false_iff_not]; exact hna
      have d2 : decide (b < 0) = true := by rw [decide_eq_true_eq]; omega
      clear hneg
      go_enter Try.func7, Try.ntmps7
      go_wp2_with fail
      refine (begun_ok _).mono ?_
      rintro e w1 ⟨rfl, hg1⟩
      go_wp2_with fail
      go_ret
      exact ⟨rfl, hg1⟩
  · have d1 : decide (a < 0) = false := by rw [decide_eq_false_iff_not]; omega
    have d2 : decide (b < 0) = false := by rw [decide_eq_false_iff_not]; omega
    have ha0 : 0 ≤ a := by omega
    have hb0 : 0 ≤ b := by omega
    clear hneg
    go_enter Try.func7, Try.ntmps7
    go_wp2_with fail
    refine (begun_ok _).mono ?_
    rintro e w1 ⟨rfl, hg1⟩
    go_wp2_with fail
    refine (Put_ok a ba _).mono ?_
    rintro e w2 ⟨v2, rfl, ho2, hg2⟩
    obtain ⟨A2, c2, rfl, hb2⟩ := ho2.by_
    go_wp2_with fail
    refine (Put_ok b bb _).mono ?_
    rintro e w3 ⟨v3, rfl, ho3, hg3⟩
    obtain ⟨A3, c3, rfl, hb3⟩ := ho3.by_
    have hgw : Gr w w3 := hg1.trans (hg2.trans hg3)
    have k2 := run_conv (P := Try.prog) w3 22 9 5 Try.underlying22 Try.underlying5 Try.underlying9 _ c2 rfl (hb2.gr hg3).rd
    have k3 := run_conv (P := Try.prog) w3 22 9 5 Try.underlying22 Try.underlying5 Try.underlying9 _ c3 rfl hb3.rd
    have t2 := bs_toList (putZ a)
    have t3 := bs_toList (putZ b)
    clear ho2 ho3 hb2 hb3 d1 d2 hg1 hg2 hg3
    by_cases hab : a = b
    · subst hab
      have d3 : decide (a < a) = false := by rw [decide_eq_false_iff_not]; omega
      have d4 : decide ((putZ a).length ≤ (putZ a).length) = true := by rw [decide_eq_true_eq]; exact Nat.le_refl _
      go_wp2_with fail
      go_ret
      exact ⟨rfl, hgw⟩
    · have e1 : (a == b) = false := by rw [beq_eq_false_iff_ne]; exact hab
      have e2 : (putZ a == putZ b) = false := by rw [beq_eq_false_iff_ne]; exact fun h => hab (putZ_inj ha0 hb0 ba bb h)
      by_cases hlt : b < a
      · have d3 : decide (b < a) = true := by rw [decide_eq_true_eq]; exact hlt
        clear hab
        go_wp2_with fail
        go_ret
        exact ⟨rfl, hgw⟩
      · have d3 : decide (b < a) = false := by rw [decide_eq_false_iff_not]; exact hlt
        have d4 : decide ((putZ a).length ≤ (putZ b).length) = true := by rw [decide_eq_true_eq]; exact putZ_mono ha0 (by omega)
        clear hab
        go_wp2_with fail
        go_ret
        exact ⟨rfl, hgw⟩

end Go.Proofs.Ytidcoilaebjdjaa
