/-
  Entries of a log in memory. No function of the program.
-/
import Derived.Test.YthpaoeiackbdoaaTxnRows
namespace Go.Proofs.Ythpaoeiackbdoaa.MsgMath
open Go NumPlain KeyMath TxnMath
structure EntT where
  term : Int
  shut : Bool
  t : TxT
deriving DecidableEq
def noTxn : TxT := ⟨0, 0, [], []⟩
end Go.Proofs.Ythpaoeiackbdoaa.MsgMath
namespace Go.Proofs.Ythpaoeiackbdoaa
open Go Go.RowKit TxnMath KeyMath MsgMath
set_option maxRecDepth 100000

def Any : Nat → Prop := fun _ => True
/-- a row that is not empty lies in such a block -/
def Wh (X : Nat → Prop) (v : Value) : Prop := ∀ ad n c, v = .slice (some ad) n c → 0 < n → X ad.block
def RowX (X : Nat → Prop) (k : Nat) (w : World) (v : Value) (rs : List (List Value)) : Prop := RowAt k w v rs ∧ Wh X v
/-- what is at home in X is as it was, and at home in X' -/
def Moves (X X' : Nat → Prop) (w w' : World) : Prop := ∀ j, j < w.heap.size → X j → w'.heap[j]? = w.heap[j]? ∧ X' j

theorem Moves.of_gr {X : Nat → Prop} {w w' : World} (h : Gr w w') : Moves X X w w' := fun j hj hx => ⟨h.block j hj, hx⟩
theorem Moves.same {X X' : Nat → Prop} {w : World} (h : ∀ j, j < w.heap.size → X j → X' j) : Moves X X' w w := fun j hj hx => ⟨rfl, h j hj hx⟩
theorem RowX.nil (X : Nat → Prop) (k : Nat) (w : World) : RowX X k w (.slice none 0 0) [] :=
  ⟨⟨none, 0, rfl, Nat.le_refl _, fun j i r u hj _ => by simp at hj⟩, fun ad n c e => by simp at e⟩
/-- an empty row, wherever it is said to lie -/
theorem RowX.empty (X : Nat → Prop) (k : Nat) (w : World) (A : Option Addr) (c : Nat) : RowX X k w (.slice A 0 c) [] :=
  ⟨⟨A, c, rfl, Nat.zero_le _, fun j i r u hj _ => by simp at hj⟩, fun ad n d e h => by injection e with _ e2; omega⟩
theorem RowX.move {X X' : Nat → Prop} {k : Nat} {w w' : World} {v : Value} {rs : List (List Value)} (h : RowX X k w v rs) (hm : Moves X X' w w') (hk : ∀ r ∈ rs, 0 < r.length) : RowX X' k w' v rs := by
  obtain ⟨⟨A, c, rfl, hc, hr⟩, hx⟩ := h
  have hin : ∀ ad, A = some ad → 0 < rs.length → ad.block < w.heap.size := by
    intro ad hA hl
    obtain ⟨r, l, rfl⟩ : ∃ r l, rs = r :: l := by
      cases rs with
      | nil => simp at hl
      | cons r l => exact ⟨r, l, rfl⟩
    have h0 := hk r (by simp)
    obtain ⟨ad', h1, h2⟩ := hr 0 0 r r[0] (by simp) (by simp)
    rw [hA] at h1
    injection h1 with h1
    subst h1
    have := World.block_lt_of_cell? w _ h2
    rwa [add_block] at this
  refine ⟨⟨A, c, rfl, hc, fun j i r u hj hi => ?_⟩, fun ad n d e hn => ?_⟩
  · obtain ⟨ad, hA, h2⟩ := hr j i r u hj hi
    have hl : 0 < rs.length := by have := (List.getElem?_eq_some_iff.1 hj).1; omega
    refine ⟨ad, hA, ?_⟩
    have hb := (hm ad.block (hin ad hA hl) (hx ad _ _ (by rw [hA]) hl)).1
    exact (World.cell?_of_block (show w'.heap[(ad.add (j * k + i)).block]? = w.heap[(ad.add (j * k + i)).block]? by rw [add_block]; exact hb)).trans h2
  · injection e with e1 e2 e3
    subst e2
    exact (hm ad.block (hin ad e1 hn) (hx ad _ _ (by rw [e1]) hn)).2
theorem RowX.wide {X X' : Nat → Prop} {k : Nat} {w : World} {v : Value} {rs : List (List Value)} (h : RowX X k w v rs) (hx : ∀ j, X j → X' j) : RowX X' k w v rs :=
  ⟨h.1, fun ad n c e hn => hx _ (h.2 ad n c e hn)⟩

theorem rdC_pos (xs : List RdT) : ∀ r ∈ xs.map rdC, 0 < r.length := fun r hr => by obtain ⟨x, _, rfl⟩ := List.mem_map.1 hr; simp [rdC]
theorem wrC_pos (xs : List WrT) : ∀ r ∈ xs.map wrC, 0 < r.length := fun r hr => by obtain ⟨x, _, rfl⟩ := List.mem_map.1 hr; simp [wrC]

/-- a transaction's two rows -/
structure RowsX (X : Nat → Prop) (w : World) (t : TxT) (p : Value × Value) : Prop where
  rd : RowX X 4 w p.1 (t.reads.map rdC)
  wr : RowX X 3 w p.2 (t.writes.map wrC)
theorem RowsX.move {X X' : Nat → Prop} {w w' : World} {t : TxT} {p : Value × Value} (h : RowsX X w t p) (hm : Moves X X' w w') : RowsX X' w' t p := ⟨h.rd.move hm (rdC_pos _), h.wr.move hm (wrC_pos _)⟩
theorem RowsX.wide {X X' : Nat → Prop} {w : World} {t : TxT} {p : Value × Value} (h : RowsX X w t p) (hx : ∀ j, X j → X' j) : RowsX X' w t p := ⟨h.rd.wide hx, h.wr.wide hx⟩
theorem RowsX.none_ (X : Nat → Prop) (w : World) : RowsX X w noTxn (.slice none 0 0, .slice none 0 0) := ⟨RowX.nil _ _ _, RowX.nil _ _ _⟩
def txC (t : TxT) (p : Value × Value) : List Value := [.int .i64 t.ses, .int .i64 t.seq, p.1, p.2]
theorem RowsX.txAt {X : Nat → Prop} {w : World} {t : TxT} {p : Value × Value} (h : RowsX X w t p) : TxAt w (.agg (txC t p).toArray) t := ⟨p.1, p.2, rfl, h.rd.1, h.wr.1⟩

def entC (e : EntT) (p : Value × Value) : List Value := [.int .i64 e.term, .bool e.shut, .int .i64 e.t.ses, .int .i64 e.t.seq, p.1, p.2]
/-- entries as a row -/
def EntsX (X : Nat → Prop) (w : World) (v : Value) (es : List EntT) : Prop :=
  ∃ f : Nat → Value × Value, RowX X 6 w v (es.mapIdx fun j e => entC e (f j)) ∧ ∀ j e, es[j]? = some e → RowsX X w e.t (f j)
theorem entC_pos (es : List EntT) (f : Nat → Value × Value) : ∀ r ∈ es.mapIdx fun j e => entC e (f j), 0 < r.length := fun r hr => by
  obtain ⟨j, h, rfl⟩ := List.mem_mapIdx.1 hr
  simp [entC]
theorem EntsX.move {X X' : Nat → Prop} {w w' : World} {v : Value} {es : List EntT} (h : EntsX X w v es) (hm : Moves X X' w w') : EntsX X' w' v es := by
  obtain ⟨f, h1, h2⟩ := h
  exact ⟨f, h1.move hm (entC_pos _ _), fun j e hj => (h2 j e hj).move hm⟩
theorem EntsX.wide {X X' : Nat → Prop} {w : World} {v : Value} {es : List EntT} (h : EntsX X w v es) (hx : ∀ j, X j → X' j) : EntsX X' w v es := by
  obtain ⟨f, h1, h2⟩ := h
  exact ⟨f, h1.wide hx, fun j e hj => (h2 j e hj).wide hx⟩
theorem EntsX.nil (X : Nat → Prop) (w : World) : EntsX X w (.slice none 0 0) [] := ⟨fun _ => (undef, undef), RowX.nil _ _ _, fun j e hj => by simp at hj⟩

theorem EntsX.ent {X : Nat → Prop} {w : World} {v : Value} {es : List EntT} {k : Nat} (h : EntsX X w v es) (hk : k < es.length) :
    ∃ ad c p, v = .slice (some ad) es.length c ∧ RowsX X w es[k].t p ∧ w.cell? (ad.add (k * 6)) = some (.int .i64 es[k].term) ∧ w.cell? ⟨(ad.add (k * 6)).block, (ad.add (k * 6)).off + 1, none⟩ = some (.bool es[k].shut) ∧
      w.cell? ⟨(ad.add (k * 6)).block, (ad.add (k * 6)).off + 2, none⟩ = some (.int .i64 es[k].t.ses) ∧ w.cell? ⟨(ad.add (k * 6)).block, (ad.add (k * 6)).off + 3, none⟩ = some (.int .i64 es[k].t.seq) ∧
      w.cell? ⟨(ad.add (k * 6)).block, (ad.add (k * 6)).off + 4, none⟩ = some p.1 ∧ w.cell? ⟨(ad.add (k * 6)).block, (ad.add (k * 6)).off + 5, none⟩ = some p.2 := by
  obtain ⟨F, h1, h2⟩ := h
  obtain ⟨ad, c, e, _, h0, h3⟩ := h1.1.cell (j := k) (r := entC es[k] (F k)) (by rw [List.getElem?_mapIdx, List.getElem?_eq_getElem hk]; rfl) (by simp [entC])
  rw [List.length_mapIdx] at e
  exact ⟨ad, c, F k, e, h2 k es[k] (List.getElem?_eq_getElem hk), h0 _ rfl, h3 1 _ (by decide) rfl, h3 2 _ (by decide) rfl, h3 3 _ (by decide) rfl, h3 4 _ (by decide) rfl, h3 5 _ (by decide) rfl⟩
theorem EntsX.is {X : Nat → Prop} {w : World} {v : Value} {es : List EntT} (h : EntsX X w v es) : ∃ A c, v = .slice A es.length c := by
  obtain ⟨F, h1, _⟩ := h
  obtain ⟨⟨A, c, e, _⟩, _⟩ := h1
  rw [List.length_mapIdx] at e
  exact ⟨A, c, e⟩
theorem RowsX.gr {X : Nat → Prop} {w w' : World} {t : TxT} {p : Value × Value} (h : RowsX X w t p) (hg : Gr w w') : RowsX X w' t p := h.move (Moves.of_gr hg)
theorem EntsX.gr {X : Nat → Prop} {w w' : World} {v : Value} {es : List EntT} (h : EntsX X w v es) (hg : Gr w w') : EntsX X w' v es := h.move (Moves.of_gr hg)
/-- two entries are alike, or where they are not -/
theorem ent_cases (x y : EntT) : x = y ∨ ¬ x.term = y.term ∧ x ≠ y ∨ x.term = y.term ∧ ¬ x.shut = y.shut ∧ x ≠ y ∨ x.term = y.term ∧ x.shut = y.shut ∧ ¬ x.t = y.t ∧ x ≠ y := by
  by_cases h : x = y
  · exact .inl h
  by_cases h1 : x.term = y.term
  · by_cases h2 : x.shut = y.shut
    · refine .inr (.inr (.inr ⟨h1, h2, fun h3 => h ?_, h⟩))
      cases x; cases y
      simp_all
    · exact .inr (.inr (.inl ⟨h1, h2, h⟩))
  · exact .inr (.inl ⟨h1, h⟩)

/-- an entry whose rows are not too long -/
def EntBnd (e : EntT) : Prop := e.t.reads.length ≤ 1000000000 ∧ e.t.writes.length ≤ 1000000000
end Go.Proofs.Ythpaoeiackbdoaa
