/-
  More words for bytes in memory. No program.
-/
import Derived.Test.YtidcoilaebjdjaaWords
namespace Go.Proofs.Ytidcoilaebjdjaa
open Go.RowKit

/-- a new block of just these bytes -/
theorem by_new (w : World) (e : TypeId) (l : List UInt8) (h : l.length ≤ maxLen) : By (w.alloc (.cells (bvs l).toArray e)) (some ⟨w.heap.size, 0, none⟩) l.length l := by
  refine ⟨fun j hj => ⟨_, rfl, ?_⟩, Nat.le_refl _, h, fun h => by cases h⟩
  · have hb := Bl.new w e (bvs l).toArray
    have : (⟨w.heap.size, 0, none⟩ : Addr).add j = ⟨w.heap.size, j, none⟩ := by unfold Addr.add; split <;> simp_all
    rw [this, hb.cell j]
    simp [bvs, hj]

/-- '[]byte{}' -/
theorem own_empty (w : World) (e : TypeId) {w0 : World} (hg : Gr w0 w) : OwnE e (w.alloc (.cells #[] e)) w0.heap.size (.slice (some ⟨w.heap.size, 0, none⟩) 0 0) [] :=
  ⟨by simp [bvs], .inr ⟨w.heap.size, 0, #[], rfl, hg.size, heap_alloc_new w _, Nat.le_refl _, by simp [maxLen], by simp, by simp [bvs]⟩⟩

/-- 'b[:j]' -/
theorem By.take {w : World} {A : Option Addr} {c : Nat} {l : List UInt8} (h : By w A c l) (j : Nat) : By w A c (l.take j) :=
  ⟨h.rd.take j, by have := h.le; rw [List.length_take]; omega, h.max, h.nil⟩

/-- the slice '.slice A zs.length c' reads as these numbers -/
structure Ints (k : IntKind) (w : World) (A : Option Addr) (c : Nat) (zs : List Int) : Prop where
  rd : ∀ j (h : j < zs.length), ∃ ad, A = some ad ∧ w.cell? (ad.add j) = some (.int k zs[j])
  le : zs.length ≤ c
  max : c ≤ maxLen
  wf : ∀ z ∈ zs, (Lit.int k z).wf = true
theorem Ints.gr {k : IntKind} {w w' : World} {A : Option Addr} {c : Nat} {zs : List Int} (h : Ints k w A c zs) (hg : Gr w w') : Ints k w' A c zs :=
  ⟨fun j hj => by obtain ⟨ad, h1, h2⟩ := h.rd j hj; exact ⟨ad, h1, gr_cell hg _ _ h2⟩, h.le, h.max, h.wf⟩
/-- the slice '.slice A ss.length c' reads as these strings -/
structure Strs (w : World) (A : Option Addr) (c : Nat) (ss : List ByteArray) : Prop where
  rd : ∀ j (h : j < ss.length), ∃ ad, A = some ad ∧ w.cell? (ad.add j) = some (.string ss[j])
  le : ss.length ≤ c
  max : c ≤ maxLen
  wf : ∀ s ∈ ss, s.size ≤ maxLen
theorem Strs.gr {w w' : World} {A : Option Addr} {c : Nat} {ss : List ByteArray} (h : Strs w A c ss) (hg : Gr w w') : Strs w' A c ss :=
  ⟨fun j hj => by obtain ⟨ad, h1, h2⟩ := h.rd j hj; exact ⟨ad, h1, gr_cell hg _ _ h2⟩, h.le, h.max, h.wf⟩

end Go.Proofs.Ytidcoilaebjdjaa
