/-
  The document's Within by its contract.
-/
import Derived.Test.YtkibbggiepggbaaKeyRef
namespace Go.Proofs.Ytkibbggiepggbaa
open Go.RowKit KeyMath

set_option maxHeartbeats 400000 in
theorem RefWithin_ok (k f t : ByteArray) (w : World) : Calls Try.prog 13 #[.string k, .string f, .string t] w fun e w' => e = .returned (.bool (withinK k f t)) ∧ w' = w := by
  go_enter Try.func13, Try.ntmps13
  go_wp2_with fail
  all_goals
    go_ret
    refine ⟨congrArg (fun b => Ending.returned (Value.bool b)) ?_, rfl⟩
    simp_all [withinK, leK, ltK]

end Go.Proofs.Ytkibbggiepggbaa
