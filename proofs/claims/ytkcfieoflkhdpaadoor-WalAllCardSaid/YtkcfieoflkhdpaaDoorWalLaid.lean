/-
  The library's tables that the rows list: a world in which they lie, and what the walks want of them.
-/
import Derived.Test.YtkcfieoflkhdpaaDoorRows
import Derived.Test.YtkcfieoflkhdpaaDoorWalMath0
import Derived.ProofKit
import Derived.LaidLaws
import Derived.LaidSub
import Derived.Stop.Joined
import Derived.Lib.LaidTab
import Derived.Lib.LaidIn
namespace Go.Proofs.YtkcfieoflkhdpaaDoor.WalLaid
open Go Go.Proofs.YtkcfieoflkhdpaaDoor WalName
set_option maxRecDepth 100000

abbrev laidL : List (String × DataW Unit) := [("math/bits.deBruijn32tab", Rows.laid_math_bits_deBruijn32tab), ("math/bits.deBruijn64tab", Rows.laid_math_bits_deBruijn64tab), ("internal/strconv.uint64pow10", Rows.laid_internal_strconv_uint64pow10)]
/-- the cells of a table -/
def cellsOfD : DataW Unit → Array Value
  | .agg ds => (ds.map fun d => match d with | .lit (.int k z) => Value.int k z | _ => undef).toArray
  | _ => #[]
/-- the settled world, the tables laid -/
noncomputable def laidWorld (os : Os) : World :=
  let w0 := World.holding Tryd.prog os ⟨#[], #[], []⟩
  let put (g : Nat) (d : DataW Unit) (w : World) : World := { w with heap := w.heap.modify g fun
      | .cells _ t frozen => .cells (cellsOfD d) t frozen
      | o => o }
  put 0 Rows.laid_internal_strconv_uint64pow10 (put 2 Rows.laid_math_bits_deBruijn64tab (put 1 Rows.laid_math_bits_deBruijn32tab w0))
theorem laidWorld_met (os : Os) (args : Array Value) : laidMetH Tryd.prog laidL ((laidWorld os).forCall (fun _ _ => 0) ⟨#[], args, []⟩).memory :=
  show laidMet Tryd.prog laidL ((laidWorld os).forCall (fun _ _ => 0) ⟨#[], args, []⟩).memory from
    (LaidIn.of_run [0, 1, 2] 8 (by kernel_rfl) (by kernel_rfl) (by kernel_rfl) (by kernel_rfl)).met
theorem gT : Tryd.prog.globalNamed "internal/strconv.uint64pow10" = some 0 := by kernel_rfl
theorem tab_of_laid {W : World} (h : laidMetH Tryd.prog laidL W) : TabW W := by
  have h1 : laidMet Tryd.prog laidL W := h
  have h2 := h1.filter fun x => x.1 == "internal/strconv.uint64pow10"
  have h3 : laidMet Tryd.prog [("internal/strconv.uint64pow10", Lib.tabData .u64 Lib.pow10Tab)] W := h2
  exact Lib.tabIs_of_head gT (by kernel_rfl) Tryd.underlying139 Tryd.underlying121 (by kernel_rfl) (by kernel_rfl) h3

end Go.Proofs.YtkcfieoflkhdpaaDoor.WalLaid
