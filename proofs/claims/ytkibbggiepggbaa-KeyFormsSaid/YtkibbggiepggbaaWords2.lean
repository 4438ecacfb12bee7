/-
  More words for bytes in memory. No program.
-/
import Derived.Test.YtkibbggiepggbaaWords
namespace Go.Proofs.Ytkibbggiepggbaa
open Go.RowKit

/-- a new block of just these bytes -/
theorem by_new (w : World) (e : TypeId) (l : List UInt8) (h : l.length ≤ maxLen) : By (w.alloc (.cells (bvs l).toArray e)) (some ⟨w.heap.size, 0, none⟩) l.length l := by
  refine ⟨fun j hj => ⟨_, rfl, ?_⟩, Nat.le_refl _, h, fun h => by cases h⟩
  · have hb := Bl.new w e (bvs l).toArray
    have : (⟨w.heap.size, 0, none⟩ : Addr).add j = ⟨w.heap.size, j, none⟩ := by unfold Addr.add; split <;> simp_all
    rw [this, hb.cell j]
    simp [bvs, hj]

/-- a new block of just these bytes, marked behind its end -/
theorem by_lit (w : World) (e : TypeId) (l : List UInt8) (m : Nat × Nat) (h : l.length ≤ maxLen) : By (w.alloc (.cells (bvs l).toArray e m)) (some ⟨w.heap.size, 0, none⟩) l.length l := by
  refine ⟨fun j hj => ⟨_, rfl, ?_⟩, Nat.le_refl _, h, fun h => by cases h⟩
  have : (⟨w.heap.size, 0, none⟩ : Addr).add j = ⟨w.heap.size, j, none⟩ := by unfold Addr.add; split <;> simp_all
  rw [this, cell_of_row _ w.heap.size j _ e m (heap_alloc_new w _)]
  simp [bvs, hj]

/-- 'make([]byte, n)' -/
theorem made_zeros (n : Nat) : madeCells #[.int .u8 0] n = (bvs (List.replicate n 0)).toArray := by
  apply Array.ext_getElem?
  intro i
  by_cases h : i < n
  · simp [madeCells, bvs, bv, Nat.mod_one, h]
  · simp [madeCells, bvs, bv, Nat.mod_one, h]

/-- '[]byte{}' -/
theorem own_empty (w : World) (e : TypeId) {w0 : World} (hg : Gr w0 w) : OwnE e (w.alloc (.cells #[] e)) w0.heap.size (.slice (some ⟨w.heap.size, 0, none⟩) 0 0) [] :=
  ⟨by simp [bvs], .inr ⟨w.heap.size, 0, #[], rfl, hg.size, heap_alloc_new w _, Nat.le_refl _, by simp [maxLen], by simp, by simp [bvs]⟩⟩

/-- the block's cells begin with these bytes -/
def Front (cap : Nat) (l : List UInt8) (cur : Array Value) : Prop := cur.size = cap ∧ l.length ≤ cap ∧ ∀ j (h : j < l.length), cur[j]? = some (bv l[j])
/-- what the call owns, as a block -/
theorem OwnE.block_ {e : TypeId} {w : World} {B : Nat} {v : Value} {l : List UInt8} (h : OwnE e w B v l) (hl : 0 < l.length) : ∃ g cap cur, v = .slice (some ⟨g, 0, none⟩) l.length cap ∧ Bl w g e cur ∧ Front cap l cur ∧ B ≤ g ∧ cap ≤ maxLen := by
  have h0 := h
  rcases h.2 with ⟨rfl, hn⟩ | ⟨g, cap, cur, rfl, hb, hg, hnc, hm, hs, ht⟩
  · omega
  · have hbl : Bl w g e cur := hg
    refine ⟨g, cap, cur, rfl, hbl, ⟨by omega, hnc, fun j hj => ?_⟩, hb, hm⟩
    have := World.ownsRow.cells h0 (g := g) rfl j (bv l[j]) (by simp [bvs, hj])
    have e2 : (⟨g, 0, none⟩ : Addr).add j = ⟨g, j, none⟩ := by unfold Addr.add; split <;> simp_all
    rw [← hbl.cell j, ← e2]
    exact this

/-- the block reads as these bytes -/
theorem by_front {w : World} {g : Nat} {e : TypeId} {cap : Nat} {l : List UInt8} {cur : Array Value} (hb : Bl w g e cur) (h : Front cap l cur) (hm : cap ≤ maxLen) : By w (some ⟨g, 0, none⟩) cap l := by
  refine ⟨fun j hj => ⟨_, rfl, ?_⟩, h.2.1, hm, fun h => by cases h⟩
  have : (⟨g, 0, none⟩ : Addr).add j = ⟨g, j, none⟩ := by unfold Addr.add; split <;> simp_all
  rw [this, hb.cell j]
  exact h.2.2 j hj

/-- 'b[:j]' -/
theorem By.take {w : World} {A : Option Addr} {c : Nat} {l : List UInt8} (h : By w A c l) (j : Nat) : By w A c (l.take j) :=
  ⟨h.rd.take j, by have := h.le; rw [List.length_take]; omega, h.max, h.nil⟩

/-- the slice '.slice A zs.length c' reads as these numbers -/
structure Ints (k : IntKind) (w : World) (A : Option Addr) (c : Nat) (zs : List Int) : Prop where
  rd : ∀ j (h : j < zs.length), ∃ ad, A = some ad ∧ w.cell? (ad.add j) = some (.int k zs[j])
  le : zs.length ≤ c
  max : c ≤ maxLen
  wf : ∀ z ∈ zs, (Lit.int k z).wf = true
theorem Ints.gr {k : IntKind} {w w' : World} {A : Option Addr} {c : Nat} {zs : List Int} (h : Ints k w A c zs) (hg : Gr w w') : Ints k w' A c zs :=
  ⟨fun j hj => by obtain ⟨ad, h1, h2⟩ := h.rd j hj; exact ⟨ad, h1, gr_cell hg _ _ h2⟩, h.le, h.max, h.wf⟩
/-- the slice '.slice A ss.length c' reads as these strings -/
structure Strs (w : World) (A : Option Addr) (c : Nat) (ss : List ByteArray) : Prop where
  rd : ∀ j (h : j < ss.length), ∃ ad, A = some ad ∧ w.cell? (ad.add j) = some (.string ss[j])
  le : ss.length ≤ c
  max : c ≤ maxLen
  wf : ∀ s ∈ ss, s.size ≤ maxLen
theorem Strs.gr {w w' : World} {A : Option Addr} {c : Nat} {ss : List ByteArray} (h : Strs w A c ss) (hg : Gr w w') : Strs w' A c ss :=
  ⟨fun j hj => by obtain ⟨ad, h1, h2⟩ := h.rd j hj; exact ⟨ad, h1, gr_cell hg _ _ h2⟩, h.le, h.max, h.wf⟩

end Go.Proofs.Ytkibbggiepggbaa
