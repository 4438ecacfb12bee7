/-
  How wide a byte is.
-/
import Derived.Test.YtfabcpdljclkpaaDoorCrcBits
import Derived.Test.YtfabcpdljclkpaaDoorProg
namespace Go.Proofs.YtfabcpdljclkpaaDoor
open Go.RowKit CrcMath
set_option maxRecDepth 100000

theorem size_u8 : ∀ w, (sizeOf (Tryd.prog.elem 33)).run Tryd.prog w = .ok 1 w := fun w => by kernel_rfl

end Go.Proofs.YtfabcpdljclkpaaDoor
