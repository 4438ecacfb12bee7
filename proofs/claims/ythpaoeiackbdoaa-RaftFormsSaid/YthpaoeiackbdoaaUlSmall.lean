/-
  ulog's Newer, by its contract.
-/
import Derived.Test.YthpaoeiackbdoaaUlHas
namespace Go.Proofs.Ythpaoeiackbdoaa
open Go Go.RowKit TxnMath KeyMath MsgMath
set_option maxRecDepth 100000

theorem Newer_ok (v : Value) (l : List EntT) (i t : Int) (w : World) (hv : EntsX Any w v l) (hl : l.length ≤ 1000000000) : Calls Try.prog 84 #[v, .int .i64 i, .int .i64 t] w fun e w' => e = .returned (.bool (newerL l i t)) ∧ w' = w := by
  have HM := hide (Term_ok v l l.length w hv hl)
  obtain ⟨A, c, rfl⟩ := hv.is
  clear hv
  unfold newerL
  generalize termL l l.length = tm at HM ⊢
  by_cases h1 : tm < t
  · rw [show (decide (tm < t) || (decide (t = tm) && decide ((l.length : Int) ≤ i))) = true by simp [h1]]
    go_enter Try.func84, Try.ntmps84
    go_wp2_with fail
    refine HM.out.mono ?_
    rintro e w1 ⟨rfl, rfl⟩
    go_wp2_with fail
    go_ret
    exact ⟨rfl, rfl⟩
  · rw [show (decide (tm < t) || (decide (t = tm) && decide ((l.length : Int) ≤ i))) = (decide (t = tm) && decide ((l.length : Int) ≤ i)) by simp [h1]]
    by_cases h2 : t = tm
    · subst h2
      rw [show (decide (t = t) && decide ((l.length : Int) ≤ i)) = decide ((l.length : Int) ≤ i) by simp]
      go_enter Try.func84, Try.ntmps84
      go_wp2_with fail
      refine HM.out.mono ?_
      rintro e w1 ⟨rfl, rfl⟩
      go_wp2_with fail
      go_ret
      exact ⟨by simp, rfl⟩
    · have hb : (t == tm) = false := beq_no h2
      rw [show (decide (t = tm) && decide ((l.length : Int) ≤ i)) = false by simp [h2]]
      go_enter Try.func84, Try.ntmps84
      go_wp2_with fail
      refine HM.out.mono ?_
      rintro e w1 ⟨rfl, rfl⟩
      go_wp2_with fail
      go_ret
      exact ⟨by simp [h1], rfl⟩

end Go.Proofs.Ythpaoeiackbdoaa
