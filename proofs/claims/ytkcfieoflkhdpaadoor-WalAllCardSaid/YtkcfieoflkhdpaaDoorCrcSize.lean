/-
  How wide a byte is.
-/
import Derived.Test.YtkcfieoflkhdpaaDoorCrcBits
import Derived.Test.YtkcfieoflkhdpaaDoorProg
namespace Go.Proofs.YtkcfieoflkhdpaaDoor
open Go.RowKit CrcMath
set_option maxRecDepth 100000

theorem size_u8 : ∀ w, (sizeOf (Tryd.prog.elem 33)).run Tryd.prog w = .ok 1 w := fun w => by kernel_rfl

end Go.Proofs.YtkcfieoflkhdpaaDoor
