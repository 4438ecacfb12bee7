/-
  What the laws' walks want besides.
-/
import Derived.Test.YtcghbmpajolgpaaChBegun
import Derived.Test.YtcghbmpajolgpaaChMade
import Derived.Test.YtcghbmpajolgpaaChRef
namespace Go.Proofs.Ytcghbmpajolgpaa
open Go Go.RowKit ChMath KeyMath
set_option maxRecDepth 100000

theorem u8_nat {a : Int} (h : (Lit.int .u8 a).wf = true) : ∃ k : Nat, a = (k : Int) ∧ k < 256 := by
  have h0 : 0 ≤ a ∧ a ≤ 255 := by simpa [Lit.wf, IntKind.min, IntKind.max, IntKind.signed, IntKind.bits] using h
  exact ⟨a.toNat, by omega, by omega⟩
theorem verOf_bnd (p : Int) (b : UInt8) : ((verOf p b).val.size : Int) ≤ 16 := by
  unfold verOf
  split
  · show ((nothing.size : Nat) : Int) ≤ 16; decide
  · exact text_len _
theorem made_bnd : ∀ (l : List UInt8) (p : Int), ∀ v ∈ madeV p l, (v.val.size : Int) ≤ 16
  | [], _, v, h => by simp [madeV] at h
  | b :: r, p, v, h => by
    unfold madeV at h
    rcases List.mem_cons.1 h with rfl | h
    · exact verOf_bnd _ _
    · exact made_bnd r _ v h
theorem made_ver (l : List UInt8) (p : Int) : VerBnd (madeV p l) := fun v h => Int.le_trans (made_bnd l p v h) (by decide)
theorem VerBnd.trim {l : List VerT} (h : VerBnd l) (m : Int) : VerBnd (trimL m l) := fun v hv => h v (List.mem_of_mem_drop hv)


end Go.Proofs.Ytcghbmpajolgpaa
