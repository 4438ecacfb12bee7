/-
  A transaction as a value: what reads as one, its limits; one that came in.
-/
import Derived.Test.YthpaoeiackbdoaaBaseW
import Derived.Test.YthpaoeiackbdoaaPlayMay
namespace Go.Proofs.Ythpaoeiackbdoaa
open Go.ChangeShapes Go.WideShapes Go.ChangeAt Go.RowKit Go.Deep TxnMath
set_option maxRecDepth 100000

/-- the value reads as the transaction -/
def TxAt (w : World) (v : Value) (t : TxT) : Prop :=
  ∃ rv wv, v = .agg #[.int .i64 t.ses, .int .i64 t.seq, rv, wv] ∧ RowAt 4 w rv (t.reads.map rdC) ∧ RowAt 3 w wv (t.writes.map wrC)
theorem TxAt.gr {w w' : World} {v : Value} {t : TxT} (h : TxAt w v t) (hg : Gr w w') : TxAt w' v t := by
  obtain ⟨rv, wv, h1, h2, h3⟩ := h
  exact ⟨rv, wv, h1, h2.gr hg, h3.gr hg⟩
theorem OwnTx.at_ {w : World} {B : Nat} {v : Value} {t : TxT} (h : OwnTx w B v t) : TxAt w v t := by
  obtain ⟨rv, wv, h1, h2, h3, _⟩ := h
  exact ⟨rv, wv, h1, h2.rowAt, h3.rowAt⟩

def I64 (z : Int) : Prop := -9223372036854775808 ≤ z ∧ z ≤ 9223372036854775807
structure RdLim (M : Nat) (x : RdT) : Prop where
  key : x.key.size ≤ M
  val : x.val.size ≤ M
  ver : I64 x.ver
structure WrLim (M : Nat) (x : WrT) : Prop where
  key : x.key.size ≤ M
  val : x.val.size ≤ M
/-- no text, no row is longer than M; numbers are numbers -/
structure TxLim (M : Nat) (t : TxT) : Prop where
  ses : I64 t.ses
  seq : I64 t.seq
  rn : t.reads.length ≤ M
  wn : t.writes.length ≤ M
  rd : ∀ x ∈ t.reads, RdLim M x
  wr : ∀ x ∈ t.writes, WrLim M x

/-- what asking whether it may be wants of a transaction: its texts may be long -/
structure KBnd (s : ByteArray) : Prop where
  key : s.size ≤ 281474976710656
structure TxBnd (t : TxT) : Prop where
  rn : t.reads.length ≤ 1000000
  wn : t.writes.length ≤ 1000000
  rd : ∀ x ∈ t.reads, KBnd x.key
  wr : ∀ x ∈ t.writes, KBnd x.key
theorem TxLim.bnd {t : TxT} (h : TxLim 1000000 t) : TxBnd t := ⟨h.rn, h.wn, fun x hx => ⟨by have := (h.rd x hx).key; omega⟩, fun x hx => ⟨by have := (h.wr x hx).key; omega⟩⟩

theorem i64_of {z : Int} (h : (Lit.int .i64 z).wf = true) : I64 z := by
  simpa [I64, Lit.wf, IntKind.min, IntKind.max, IntKind.signed, IntKind.bits] using h

section
variable {H : Type} {enc : TypeId × Value → H} {W : World} {base M : Nat} {held : Bool}

theorem rd_of (fuel : Nat) (cs : List Value) (x : DataW H × List MemPlace) (h : DataW.trod enc Try.prog W base (fun _ => true) held fuel 100 cs = some x) (hw : Weighs Try.prog M 100 x.1) : ∃ a : RdT, cs = rdC a ∧ RdLim M a := by
  obtain ⟨hl, n, hf⟩ := flat_of Try.underlying100 (by kernel_rfl) (by kernel_rfl) h hw
  obtain ⟨v0, y0, e0, t0, w0⟩ := hf 0 _ rfl
  obtain ⟨v1, y1, e1, t1, w1⟩ := hf 1 _ rfl
  obtain ⟨v2, y2, e2, t2, w2⟩ := hf 2 _ rfl
  obtain ⟨v3, y3, e3, t3, w3⟩ := hf 3 _ rfl
  obtain ⟨k, rfl, hk⟩ := str_of Try.underlying9 t0 w0
  obtain ⟨z, rfl, hz⟩ := int_of Try.underlying3 t1
  obtain ⟨s, rfl, hs⟩ := str_of Try.underlying9 t2 w2
  obtain ⟨b, rfl⟩ := bool_of Try.underlying4 t3
  refine ⟨⟨k, z, s, b⟩, ?_, hk, hs, i64_of hz⟩
  have hl' : cs.length = 4 := hl
  match cs, hl' with
  | [a0, a1, a2, a3], _ =>
    simp at e0 e1 e2 e3
    subst e0 e1 e2 e3
    rfl
theorem wr_of (fuel : Nat) (cs : List Value) (x : DataW H × List MemPlace) (h : DataW.trod enc Try.prog W base (fun _ => true) held fuel 103 cs = some x) (hw : Weighs Try.prog M 103 x.1) : ∃ a : WrT, cs = wrC a ∧ WrLim M a := by
  obtain ⟨hl, n, hf⟩ := flat_of Try.underlying103 (by kernel_rfl) (by kernel_rfl) h hw
  obtain ⟨v0, y0, e0, t0, w0⟩ := hf 0 _ rfl
  obtain ⟨v1, y1, e1, t1, w1⟩ := hf 1 _ rfl
  obtain ⟨v2, y2, e2, t2, w2⟩ := hf 2 _ rfl
  obtain ⟨k, rfl, hk⟩ := str_of Try.underlying9 t0 w0
  obtain ⟨s, rfl, hs⟩ := str_of Try.underlying9 t1 w1
  obtain ⟨b, rfl⟩ := bool_of Try.underlying4 t2
  refine ⟨⟨k, s, b⟩, ?_, hk, hs⟩
  have hl' : cs.length = 3 := hl
  match cs, hl' with
  | [a0, a1, a2], _ =>
    simp at e0 e1 e2
    subst e0 e1 e2
    rfl
/-- a transaction's cells -/
theorem tx_of (fuel : Nat) (cs : List Value) (x : DataW H × List MemPlace) (h : DataW.trod enc Try.prog W base (fun _ => true) held fuel 36 cs = some x) (hw : Weighs Try.prog M 36 x.1) : ∃ t : TxT, TxAt W (.agg cs.toArray) t ∧ TxLim M t := by
  obtain ⟨hl, n, hf⟩ := flat_of Try.underlying36 (by kernel_rfl) (by kernel_rfl) h hw
  obtain ⟨v0, y0, e0, t0, _⟩ := hf 0 _ rfl
  obtain ⟨v1, y1, e1, t1, _⟩ := hf 1 _ rfl
  obtain ⟨v2, y2, e2, t2, w2⟩ := hf 2 _ rfl
  obtain ⟨v3, y3, e3, t3, w3⟩ := hf 3 _ rfl
  obtain ⟨s, rfl, hs⟩ := int_of Try.underlying3 t0
  obtain ⟨q, rfl, hq⟩ := int_of Try.underlying3 t1
  obtain ⟨rs, hr, hro, hrn⟩ := rows_of rdC (RdLim M) Try.underlying33 (k := 4) (by kernel_rfl) (by decide +kernel) rd_of t2 w2
  obtain ⟨ws, hwr, hwo, hwn⟩ := rows_of wrC (WrLim M) Try.underlying34 (k := 3) (by kernel_rfl) (by decide +kernel) wr_of t3 w3
  refine ⟨⟨s, q, rs, ws⟩, ⟨v2, v3, ?_, hr, hwr⟩, i64_of hs, i64_of hq, hrn, hwn, hro, hwo⟩
  have hl' : cs.length = 4 := hl
  match cs, hl' with
  | [a0, a1, a2, a3], _ =>
    simp at e0 e1 e2 e3
    subst e0 e1 e2 e3
    rfl
theorem arg_txn {r : Reach} {b0 : Nat} {v : Value} {d : DataW H} {p : List MemPlace} (hv : Value.okWide Try.prog W r b0 36 v) (h : DataW.Trod enc Try.prog W base (fun _ => true) held 36 v d p) (hw : Weighs Try.prog M 36 d) :
    ∃ t : TxT, TxAt W v t ∧ TxLim M t := by
  simp only [Value.okWide, Try.underlying36] at hv
  obtain ⟨cs, rfl, hcs, _⟩ := hv
  obtain ⟨fuel, hf⟩ := h
  have := tx_of fuel _ _ hf hw
  simpa [Value.cells] using this
end

end Go.Proofs.Ythpaoeiackbdoaa

/-
  What makes reads, writes, transactions alike. No program.
-/
namespace Go.Proofs.Ythpaoeiackbdoaa
open Go Go.RowKit TxnMath
set_option maxRecDepth 100000

theorem bytes_eq {a b : ByteArray} (h : a.toList = b.toList) : a = b := by
  rw [ByteArray.toList_eq, ByteArray.toList_eq] at h
  cases a; cases b
  simpa using h
/-- alike, or where they are not -/
theorem rd_cases (x y : RdT) : x = y ∨ ¬ x.key.toList = y.key.toList ∧ x ≠ y ∨ x.key.toList = y.key.toList ∧ ¬ x.ver = y.ver ∧ x ≠ y ∨ x.key.toList = y.key.toList ∧ x.ver = y.ver ∧ ¬ x.val.toList = y.val.toList ∧ x ≠ y ∨ x.key.toList = y.key.toList ∧ x.ver = y.ver ∧ x.val.toList = y.val.toList ∧ ¬ x.there = y.there ∧ x ≠ y := by
  by_cases h : x = y
  · exact .inl h
  by_cases h1 : x.key.toList = y.key.toList
  · by_cases h2 : x.ver = y.ver
    · by_cases h3 : x.val.toList = y.val.toList
      · refine .inr (.inr (.inr (.inr ⟨h1, h2, h3, fun h4 => h ?_, h⟩)))
        have e1 := bytes_eq h1
        have e3 := bytes_eq h3
        cases x; cases y
        simp_all
      · exact .inr (.inr (.inr (.inl ⟨h1, h2, h3, h⟩)))
    · exact .inr (.inr (.inl ⟨h1, h2, h⟩))
  · exact .inr (.inl ⟨h1, h⟩)
theorem wr_cases (x y : WrT) : x = y ∨ ¬ x.key.toList = y.key.toList ∧ x ≠ y ∨ x.key.toList = y.key.toList ∧ ¬ x.val.toList = y.val.toList ∧ x ≠ y ∨ x.key.toList = y.key.toList ∧ x.val.toList = y.val.toList ∧ ¬ x.gone = y.gone ∧ x ≠ y := by
  by_cases h : x = y
  · exact .inl h
  by_cases h1 : x.key.toList = y.key.toList
  · by_cases h3 : x.val.toList = y.val.toList
    · refine .inr (.inr (.inr ⟨h1, h3, fun h4 => h ?_, h⟩))
      have e1 := bytes_eq h1
      have e3 := bytes_eq h3
      cases x; cases y
      simp_all
    · exact .inr (.inr (.inl ⟨h1, h3, h⟩))
  · exact .inr (.inl ⟨h1, h⟩)
theorem list_ne {α : Type} {xs ys : List α} {k : Nat} (hx : k < xs.length) (hy : k < ys.length) (h : xs[k] ≠ ys[k]) : xs ≠ ys := by
  rintro rfl
  exact h rfl
theorem list_same {α : Type} {xs ys : List α} (hl : xs.length = ys.length) (h : ∀ j, j < xs.length → xs[j]? = ys[j]?) : xs = ys := by
  apply List.ext_getElem?
  intro j
  by_cases hj : j < xs.length
  · exact h j hj
  · rw [List.getElem?_eq_none (by omega), List.getElem?_eq_none (by omega)]
theorem same_more {α : Type} {xs ys : List α} {k : Nat} (h : ∀ j, j < k → xs[j]? = ys[j]?) (hx : k < xs.length) (hy : k < ys.length) (he : xs[k] = ys[k]) : ∀ j, j < k + 1 → xs[j]? = ys[j]? := by
  intro j hj
  by_cases hjk : j < k
  · exact h j hjk
  · obtain rfl : j = k := by omega
    rw [List.getElem?_eq_getElem hx, List.getElem?_eq_getElem hy, he]

/-- two parameters that lie in cells of their own -/
theorem boxes2 {w w1 : World} {t : TypeId} {cs ds : Array Value} (hg : Gr ((w.alloc (.cells cs t)).alloc (.cells ds t)) w1) : Bl w1 w.heap.size t cs ∧ Bl w1 (w.heap.size + 1) t ds := by
  refine ⟨((Bl.new w t cs).gr ((Gr.refl _).alloc _)).gr hg, ?_⟩
  have := (Bl.new (w.alloc (.cells cs t)) t ds).gr hg
  have e : (w.alloc (.cells cs t)).heap.size = w.heap.size + 1 := by simp
  rwa [e] at this

theorem tx_ne_ses {t u : TxT} (h : t.ses ≠ u.ses) : t ≠ u := fun e => h (by rw [e])
theorem tx_ne_seq {t u : TxT} (h : t.seq ≠ u.seq) : t ≠ u := fun e => h (by rw [e])
theorem tx_ne_rd {t u : TxT} (h : t.reads ≠ u.reads) : t ≠ u := fun e => h (by rw [e])
theorem tx_ne_wr {t u : TxT} (h : t.writes ≠ u.writes) : t ≠ u := fun e => h (by rw [e])
theorem tx_eq {t u : TxT} (h1 : t.ses = u.ses) (h2 : t.seq = u.seq) (h3 : t.reads = u.reads) (h4 : t.writes = u.writes) : t = u := by cases t; cases u; simp_all

end Go.Proofs.Ythpaoeiackbdoaa
