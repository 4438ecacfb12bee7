/-
  Transactions in memory, by rows; small words. No function of the program.
-/
import Derived.Test.YthpaoeiackbdoaaTxnArgs
import Derived.Test.YthpaoeiackbdoaaBaseM
import Derived.Test.YthpaoeiackbdoaaBaseW
namespace Go.Proofs.Ythpaoeiackbdoaa
open Go Go.RowKit TxnMath KeyMath
set_option maxRecDepth 100000

theorem RowAt.rd {w : World} {v : Value} {xs : List RdT} {k : Nat} (h : RowAt 4 w v (xs.map rdC)) (hk : k < xs.length) :
    ∃ ad c, v = .slice (some ad) xs.length c ∧ w.cell? (ad.add (k * 4)) = some (.string xs[k].key) ∧ w.cell? ⟨(ad.add (k * 4)).block, (ad.add (k * 4)).off + 1, none⟩ = some (.int .i64 xs[k].ver) ∧
      w.cell? ⟨(ad.add (k * 4)).block, (ad.add (k * 4)).off + 2, none⟩ = some (.string xs[k].val) ∧ w.cell? ⟨(ad.add (k * 4)).block, (ad.add (k * 4)).off + 3, none⟩ = some (.bool xs[k].there) := by
  obtain ⟨ad, c, e, _, h0, h1⟩ := h.cell (j := k) (r := rdC xs[k]) (by rw [List.getElem?_map, List.getElem?_eq_getElem hk]; rfl) (by simp [rdC])
  rw [List.length_map] at e
  exact ⟨ad, c, e, h0 _ rfl, h1 1 _ (by decide) rfl, h1 2 _ (by decide) rfl, h1 3 _ (by decide) rfl⟩
theorem RowAt.wr {w : World} {v : Value} {xs : List WrT} {k : Nat} (h : RowAt 3 w v (xs.map wrC)) (hk : k < xs.length) :
    ∃ ad c, v = .slice (some ad) xs.length c ∧ w.cell? (ad.add (k * 3)) = some (.string xs[k].key) ∧ w.cell? ⟨(ad.add (k * 3)).block, (ad.add (k * 3)).off + 1, none⟩ = some (.string xs[k].val) ∧
      w.cell? ⟨(ad.add (k * 3)).block, (ad.add (k * 3)).off + 2, none⟩ = some (.bool xs[k].gone) := by
  obtain ⟨ad, c, e, _, h0, h1⟩ := h.cell (j := k) (r := wrC xs[k]) (by rw [List.getElem?_map, List.getElem?_eq_getElem hk]; rfl) (by simp [wrC])
  rw [List.length_map] at e
  exact ⟨ad, c, e, h0 _ rfl, h1 1 _ (by decide) rfl, h1 2 _ (by decide) rfl⟩
theorem RowAt.is {k : Nat} {w : World} {v : Value} {α : Type} {C : α → List Value} {xs : List α} (h : RowAt k w v (xs.map C)) : ∃ A c, v = .slice A xs.length c ∧ RowAt k w (.slice A xs.length c) (xs.map C) := by
  have h0 := h
  obtain ⟨A, c, rfl, _, _⟩ := h
  rw [List.length_map] at h0 ⊢
  exact ⟨A, c, rfl, h0⟩
/-- a parameter that lies in cells of its own -/
theorem box1 {w w1 : World} {t : TypeId} {cs : Array Value} (hg : Gr (w.alloc (.cells cs t)) w1) : Bl w1 w.heap.size t cs := (Bl.new w t cs).gr hg
theorem all_false {α : Type} {xs : List α} {p : α → Bool} {k : Nat} (hk : k < xs.length) (h : p xs[k] = false) : xs.all p = false := by
  rw [List.all_eq_false]
  exact ⟨_, List.getElem_mem hk, by rw [h]; simp⟩
theorem all_done {α : Type} {xs : List α} {p : α → Bool} {k : Nat} (hk : xs.length ≤ k) (h : ∀ j (hj : j < xs.length), j < k → p xs[j] = true) : xs.all p = true := by
  rw [List.all_eq_true]
  intro x hx
  obtain ⟨j, hj, rfl⟩ := List.getElem_of_mem hx
  exact h j hj (by omega)
theorem all_more {α : Type} {xs : List α} {p : α → Bool} {k : Nat} (h : ∀ j (hj : j < xs.length), j < k → p xs[j] = true) (hk : k < xs.length) (he : p xs[k] = true) : ∀ j (hj : j < xs.length), j < k + 1 → p xs[j] = true := by
  intro j hj hjk
  by_cases hlt : j < k
  · exact h j hj hlt
  · obtain rfl : j = k := by omega
    exact he
theorem any_more {α : Type} {xs : List α} {p : α → Bool} {k : Nat} (hk : k < xs.length) : (xs.take (k + 1)).any p = ((xs.take k).any p || p xs[k]) := by
  rw [List.take_succ_eq_append_getElem hk, List.any_append]
  simp
theorem any_true {α : Type} {xs : List α} {p : α → Bool} {k : Nat} (hk : k < xs.length) (h : p xs[k] = true) : xs.any p = true := by
  rw [List.any_eq_true]
  exact ⟨_, List.getElem_mem hk, h⟩
theorem any_all {α : Type} {xs : List α} {p : α → Bool} {k : Nat} (hk : xs.length ≤ k) : (xs.take k).any p = xs.any p := by rw [List.take_of_length_le hk]
theorem beq_no {a b : Int} (h : ¬ a = b) : (a == b) = false := by rw [beq_eq_false_iff_ne]; exact h
theorem agg_int : ∀ w, (isAgg 3).run Try.prog w = .ok false w := fun w => by kernel_rfl
theorem agg_bool : ∀ w, (isAgg 4).run Try.prog w = .ok false w := fun w => by kernel_rfl
theorem agg_reads : ∀ w, (isAgg 33).run Try.prog w = .ok false w := fun w => by kernel_rfl
theorem agg_writes : ∀ w, (isAgg 34).run Try.prog w = .ok false w := fun w => by kernel_rfl
theorem TxAt.none_ (w : World) : TxAt w (.agg #[.int .i64 0, .int .i64 0, .slice none 0 0, .slice none 0 0]) ⟨0, 0, [], []⟩ :=
  ⟨_, _, rfl, ⟨none, 0, rfl, Nat.le_refl _, fun j i r u hj _ => by simp at hj⟩, ⟨none, 0, rfl, Nat.le_refl _, fun j i r u hj _ => by simp at hj⟩⟩
theorem Gr.fresh {w wr wz : World} {k : Nat} (h : Gr w wr) (hb : But wr wz k) (hk : w.heap.size ≤ k) : Gr w wz :=
  h.below.grown hb h.size (fun j hj => by injection hj with hj; omega)
theorem OwnR.apart {e : TypeId} {k : Nat} {w w' : World} {B g : Nat} {v : Value} {rs : List (List Value)} (h : OwnR e k w B v rs) (hb : But w w' g) (hg : some g ≠ v.ownBlock) : OwnR e k w' B v rs :=
  ⟨h.1, World.ownsRow.kept h.2 hb (.inr fun e2 => hg e2.symm)⟩

theorem OwnV.strs {e : TypeId} {w : World} {B : Nat} {v : Value} {l : List ByteArray} (h : OwnV e w B v (l.map Value.string)) (hl : ∀ s ∈ l, s.size ≤ maxLen) : ∃ A c, v = .slice A l.length c ∧ Strs w A c l := by
  have h0 := h
  rcases h.2 with ⟨rfl, hn⟩ | ⟨g, cap, cur, rfl, _, _, hnc, hm, _, _⟩
  · rw [List.length_map] at hn
    have : l = [] := List.eq_nil_of_length_eq_zero hn
    subst this
    exact ⟨none, 0, rfl, fun j hj => absurd hj (by simp), by simp, by simp [maxLen], hl⟩
  · rw [List.length_map] at hnc ⊢
    exact ⟨_, cap, rfl, fun j hj => ⟨_, rfl, World.ownsRow.cells h0 (g := g) rfl j _ (by simp [hj])⟩, hnc, hm, hl⟩
theorem map_take_more {α β : Type} {l : List α} (f : α → β) {k : Nat} (hk : k < l.length) : (l.take (k + 1)).map f = (l.take k).map f ++ [f l[k]] := by
  rw [List.take_succ_eq_append_getElem hk, List.map_append]
  rfl
end Go.Proofs.Ythpaoeiackbdoaa
