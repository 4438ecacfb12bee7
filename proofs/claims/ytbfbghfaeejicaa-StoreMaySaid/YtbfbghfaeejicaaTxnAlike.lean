/-
  What makes reads, writes, transactions alike. No program.
-/
import Derived.Test.YtbfbghfaeejicaaTxnArgs
import Derived.Test.YtbfbghfaeejicaaBaseW
namespace Go.Proofs.Ytbfbghfaeejicaa
open Go Go.RowKit TxnMath
set_option maxRecDepth 100000

theorem bytes_eq {a b : ByteArray} (h : a.toList = b.toList) : a = b := by
  rw [ByteArray.toList_eq, ByteArray.toList_eq] at h
  cases a; cases b
  simpa using h
/-- alike, or where they are not -/
theorem rd_cases (x y : RdT) : x = y ∨ ¬ x.key.toList = y.key.toList ∧ x ≠ y ∨ x.key.toList = y.key.toList ∧ ¬ x.ver = y.ver ∧ x ≠ y ∨ x.key.toList = y.key.toList ∧ x.ver = y.ver ∧ ¬ x.val.toList = y.val.toList ∧ x ≠ y ∨ x.key.toList = y.key.toList ∧ x.ver = y.ver ∧ x.val.toList = y.val.toList ∧ ¬ x.there = y.there ∧ x ≠ y := by
  by_cases h : x = y
  · exact .inl h
  by_cases h1 : x.key.toList = y.key.toList
  · by_cases h2 : x.ver = y.ver
    · by_cases h3 : x.val.toList = y.val.toList
      · refine .inr (.inr (.inr (.inr ⟨h1, h2, h3, fun h4 => h ?_, h⟩)))
        have e1 := bytes_eq h1
        have e3 := bytes_eq h3
        cases x; cases y
        simp_all
      · exact .inr (.inr (.inr (.inl ⟨h1, h2, h3, h⟩)))
    · exact .inr (.inr (.inl ⟨h1, h2, h⟩))
  · exact .inr (.inl ⟨h1, h⟩)
theorem wr_cases (x y : WrT) : x = y ∨ ¬ x.key.toList = y.key.toList ∧ x ≠ y ∨ x.key.toList = y.key.toList ∧ ¬ x.val.toList = y.val.toList ∧ x ≠ y ∨ x.key.toList = y.key.toList ∧ x.val.toList = y.val.toList ∧ ¬ x.gone = y.gone ∧ x ≠ y := by
  by_cases h : x = y
  · exact .inl h
  by_cases h1 : x.key.toList = y.key.toList
  · by_cases h3 : x.val.toList = y.val.toList
    · refine .inr (.inr (.inr ⟨h1, h3, fun h4 => h ?_, h⟩))
      have e1 := bytes_eq h1
      have e3 := bytes_eq h3
      cases x; cases y
      simp_all
    · exact .inr (.inr (.inl ⟨h1, h3, h⟩))
  · exact .inr (.inl ⟨h1, h⟩)
theorem list_ne {α : Type} {xs ys : List α} {k : Nat} (hx : k < xs.length) (hy : k < ys.length) (h : xs[k] ≠ ys[k]) : xs ≠ ys := by
  rintro rfl
  exact h rfl
theorem list_same {α : Type} {xs ys : List α} (hl : xs.length = ys.length) (h : ∀ j, j < xs.length → xs[j]? = ys[j]?) : xs = ys := by
  apply List.ext_getElem?
  intro j
  by_cases hj : j < xs.length
  · exact h j hj
  · rw [List.getElem?_eq_none (by omega), List.getElem?_eq_none (by omega)]
theorem same_more {α : Type} {xs ys : List α} {k : Nat} (h : ∀ j, j < k → xs[j]? = ys[j]?) (hx : k < xs.length) (hy : k < ys.length) (he : xs[k] = ys[k]) : ∀ j, j < k + 1 → xs[j]? = ys[j]? := by
  intro j hj
  by_cases hjk : j < k
  · exact h j hjk
  · obtain rfl : j = k := by omega
    rw [List.getElem?_eq_getElem hx, List.getElem?_eq_getElem hy, he]

/-- two parameters that lie in cells of their own -/
theorem boxes2 {w w1 : World} {t : TypeId} {cs ds : Array Value} (hg : Gr ((w.alloc (.cells cs t)).alloc (.cells ds t)) w1) : Bl w1 w.heap.size t cs ∧ Bl w1 (w.heap.size + 1) t ds := by
  refine ⟨((Bl.new w t cs).gr ((Gr.refl _).alloc _)).gr hg, ?_⟩
  have := (Bl.new (w.alloc (.cells cs t)) t ds).gr hg
  have e : (w.alloc (.cells cs t)).heap.size = w.heap.size + 1 := by simp
  rwa [e] at this

theorem tx_ne_ses {t u : TxT} (h : t.ses ≠ u.ses) : t ≠ u := fun e => h (by rw [e])
theorem tx_ne_seq {t u : TxT} (h : t.seq ≠ u.seq) : t ≠ u := fun e => h (by rw [e])
theorem tx_ne_rd {t u : TxT} (h : t.reads ≠ u.reads) : t ≠ u := fun e => h (by rw [e])
theorem tx_ne_wr {t u : TxT} (h : t.writes ≠ u.writes) : t ≠ u := fun e => h (by rw [e])
theorem tx_eq {t u : TxT} (h1 : t.ses = u.ses) (h2 : t.seq = u.seq) (h3 : t.reads = u.reads) (h4 : t.writes = u.writes) : t = u := by cases t; cases u; simp_all

end Go.Proofs.Ytbfbghfaeejicaa
