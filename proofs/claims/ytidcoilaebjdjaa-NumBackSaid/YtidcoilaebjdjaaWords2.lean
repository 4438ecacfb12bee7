/-
  More words for bytes in memory. No program.
-/
import Derived.Test.YtidcoilaebjdjaaWords
namespace Go.Proofs.Ytidcoilaebjdjaa
open Go.RowKit

/-- a new block of just these bytes -/
theorem by_new (w : World) (e : TypeId) (l : List UInt8) (h : l.length ≤ maxLen) : By (w.alloc (.cells (bvs l).toArray e)) (some ⟨w.heap.size, 0, none⟩) l.length l := by
  refine ⟨fun j hj => ⟨_, rfl, ?_⟩, Nat.le_refl _, h, fun h => by cases h⟩
  · have hb := Bl.new w e (bvs l).toArray
    have : (⟨w.heap.size, 0, none⟩ : Addr).add j = ⟨w.heap.size, j, none⟩ := by unfold Addr.add; split <;> simp_all
    rw [this, hb.cell j]
    simp [bvs, hj]

/-- '[]byte{}' -/
theorem own_empty (w : World) (e : TypeId) {w0 : World} (hg : Gr w0 w) : OwnE e (w.alloc (.cells #[] e)) w0.heap.size (.slice (some ⟨w.heap.size, 0, none⟩) 0 0) [] :=
  ⟨by simp [bvs], .inr ⟨w.heap.size, 0, #[], rfl, hg.size, heap_alloc_new w _, Nat.le_refl _, by simp [maxLen], by simp, by simp [bvs]⟩⟩

/-- 'b[:j]' -/
theorem By.take {w : World} {A : Option Addr} {c : Nat} {l : List UInt8} (h : By w A c l) (j : Nat) : By w A c (l.take j) :=
  ⟨h.rd.take j, by have := h.le; rw [List.length_take]; omega, h.max, h.nil⟩

end Go.Proofs.Ytidcoilaebjdjaa
