/-
  The walk of 'CrcAll'.
-/
import Derived.Test.YteondijecaljlaaCrcBegun
import Derived.Test.YteondijecaljlaaCrcRef
import Derived.Test.YteondijecaljlaaLent
namespace Go.Proofs.Yteondijecaljlaa
open Go.RowKit CrcMath

def YesCrc (w : World) (e : Ending) (w' : World) : Prop := e = .returned (.bool true) ∧ Gr w w'

set_option maxRecDepth 100000 in
set_option maxHeartbeats 400000 in
theorem walk_CrcAll (w : World) (A : Option Addr) (n c : Nat) (l : List UInt8) (hn : n = l.length) (hby : By w A c l) :
    Calls Try.prog 3 #[.slice A n c] w (YesCrc w) := by
  subst hn
  by_cases h1 : (300 : Int) < (l.length : Int)
  · have d1 : decide ((300 : Int) < (l.length : Int)) = true := by rw [decide_eq_true_eq]; exact h1
    clear h1
    go_enter Try.func3, Try.ntmps3
    go_wp2_with fail
    refine (begun_ok _).mono ?_
    rintro e w1 ⟨rfl, hg1⟩
    go_wp2_with fail
    go_ret
    exact ⟨rfl, hg1⟩
  · have d1 : decide ((300 : Int) < (l.length : Int)) = false := by rw [decide_eq_false_iff_not]; exact h1
    go_enter Try.func3, Try.ntmps3
    go_wp2_with fail
    refine (begun_ok _).mono ?_
    rintro e w1 ⟨rfl, hg1⟩
    go_wp2_with fail
    refine (Lent_ok A _ c l rfl _ (hby.gr hg1) (by omega)).mono ?_
    rintro e w2 ⟨g, cur, rfl, hbl2, hlent, hg2⟩
    have hb2 := hlent.by_ hbl2 (by omega)
    go_wp2_with fail
    refine (Sum_ok _ _ _ l rfl _ hb2 (by omega)).mono ?_
    rintro e w3 ⟨rfl, hg3⟩
    go_wp2_with fail
    refine (RefSum_ok A _ c l rfl _ (((hby.gr hg1).gr hg2).gr hg3) (by omega)).mono ?_
    rintro e w4 ⟨rfl, rfl⟩
    unfold wv
    go_wp2_with fail
    refine (Back_ok A _ c l rfl g cur _ (((hby.gr hg1).gr hg2).gr hg3) (hbl2.gr hg3) hlent (by omega)).mono ?_
    rintro e w5 ⟨rfl, rfl⟩
    go_wp2_with fail
    go_ret
    exact ⟨rfl, hg1.trans (hg2.trans hg3)⟩

end Go.Proofs.Yteondijecaljlaa
