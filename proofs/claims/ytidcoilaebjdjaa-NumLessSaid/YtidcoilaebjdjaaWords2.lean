/-
  More words for bytes in memory. No program.
-/
import Derived.Test.YtidcoilaebjdjaaWords
namespace Go.Proofs.Ytidcoilaebjdjaa
open Go.RowKit

/-- a new block of just these bytes -/
theorem by_new (w : World) (e : TypeId) (l : List UInt8) (h : l.length ≤ maxLen) : By (w.alloc (.cells (bvs l).toArray e)) (some ⟨w.heap.size, 0, none⟩) l.length l := by
  refine ⟨fun j hj => ⟨_, rfl, ?_⟩, Nat.le_refl _, h, fun h => by cases h⟩
  · have hb := Bl.new w e (bvs l).toArray
    have : (⟨w.heap.size, 0, none⟩ : Addr).add j = ⟨w.heap.size, j, none⟩ := by unfold Addr.add; split <;> simp_all
    rw [this, hb.cell j]
    simp [bvs, hj]

end Go.Proofs.Ytidcoilaebjdjaa
