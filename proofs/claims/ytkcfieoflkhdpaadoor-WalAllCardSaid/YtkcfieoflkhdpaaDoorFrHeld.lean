/-
  Rows of byte slices that the call owns, of which each stands in memory that is newer than a world. No program.
-/
import Derived.Test.YtkcfieoflkhdpaaDoorFrBase
namespace Go.Proofs.YtkcfieoflkhdpaaDoor
open Go.RowKit

/-- texts that the call owns as a row, all of it newer than w0 -/
def HeldN (e : TypeId) (w0 w : World) (v : Value) (ls : List (List UInt8)) : Prop :=
  ∃ vals, w.ownsRow w0.heap.size e 1 v ls.length vals ∧ ∀ j (h : j < ls.length), ∃ A c, vals[j]? = some (.slice A ls[j].length c) ∧ By w A c ls[j] ∧ Apart v.ownBlock A ls[j] ∧ New w0 A ls[j]

section
variable {P : Program} {e : TypeId} {w0 w w' : World} {v : Value} {ls : List (List UInt8)}

theorem HeldN.none_ (w0 w : World) : HeldN e w0 w (.slice none 0 0) [] := ⟨[], World.ownsRow_nil _ _ _ _, fun j h => absurd h (by simp)⟩
theorem HeldN.held (h : HeldN e w0 w v ls) : Held e w w0.heap.size v ls := by
  obtain ⟨vals, h1, h2⟩ := h
  exact ⟨vals, h1, fun j hj => by obtain ⟨A, c, h3, h4, h5, _⟩ := h2 j hj; exact ⟨A, c, h3, h4, h5⟩⟩
theorem HeldN.but {g : Nat} (h : HeldN e w0 w v ls) (hb : But w w' g) (hg : g < w0.heap.size) : HeldN e w0 w' v ls := by
  obtain ⟨vals, h1, h2⟩ := h
  have hl := World.ownsRow.lt h1
  refine ⟨vals, World.ownsRow.kept (row := some g) h1 hb ?_, fun j hj => ?_⟩
  · cases hv : v.ownBlock with
    | none => exact .inl rfl
    | some k => exact .inr (fun e => by have := (hl k hv).1; injection e with e; omega)
  · obtain ⟨A, c, h3, h4, h5, h6⟩ := h2 j hj
    exact ⟨A, c, h3, ⟨h4.rd.but hb (fun hlt ad hA => by have := h6 hlt ad hA; omega), h4.le, h4.max, h4.nil⟩, h5, h6⟩
theorem HeldN.lt (h : HeldN e w0 w v ls) : ∀ k, v.ownBlock = some k → w0.heap.size ≤ k ∧ k < w.heap.size := h.held.lt

/-- one text more -/
theorem wpList_pushN {ops : Array Oper} {rest : List Oper} {o : Oper} {a : Act} {Q : Exit → Act → World → Prop} (hgd : o.guard = none) (s x : Operand) (t : TypeId)
    (ho : o.op = .call { callee := .builtin .append, args := #[s, x], argTypes := #[t, t] }) (e : TypeId) (i : TypeInfo) (ht : P.underlying t = some (.slice e)) (hi : P.info? e = some i)
    (hz : i.zero = some (.slice none 0 0)) (hsize : i.size = 1) (hby : i.bytes = 24) {g : Nat} {A : Option Addr} {c : Nat} {l : List UInt8} {m : Nat} (hm : m = l.length) (hb : By w A c l)
    (hs : a.eval s = v) (hown : HeldN e w0 w v ls) (hbut : But w0 w g) (hap : Apart v.ownBlock A l) (hnew : New w0 A l)
    (hx : a.eval x = .slice (some ⟨w.heap.size, 0, none⟩) 1 1) (hl : (ls.length : Int) ≤ 140737488351232 / 24)
    (h : ∀ v' w', HeldN e w0 w' v' (ls ++ [l]) → But w0 w' g → (∀ k cs tt, k < w0.heap.size → Bl w k tt cs → Bl w' k tt cs) → wpList P ops Q rest (a.put o.dst v') w') : wpList P ops Q (o :: rest) a (w.alloc (.cells #[.slice A m c] e)) := by
  subst hm
  obtain ⟨vals, h1, h2⟩ := hown
  have hlen : vals.length = ls.length := by rw [h1.1]; omega
  refine wpList_append_own_at _ hgd s x t ho w0.heap.size e i _ 1 24 ht hi hz hsize hby rfl (by decide) v ls.length vals hs (h1.alloc _) ⟨w.heap.size, 0, none⟩ 1 1 [.slice A l.length c] hx rfl (cell_one_new _ _ _)
    (by intro u hu; simp at hu; subst hu; rfl) (by unfold maxLen; omega) (by omega) (Nat.le_trans hbut.size (by simp)) ?_
  intro v' w' g1 g2 _ g4
  have hlt := World.ownsRow.lt h1
  have hkeep : ∀ k, k < w0.heap.size → w'.heap[k]? = w.heap[k]? := fun k hk => by
    have hk' : k < w.heap.size := Nat.lt_of_lt_of_le hk hbut.size
    rw [g2.block k (by simp; omega) (fun e => by have := (hlt k e.symm).1; omega)]
    exact Below.heap_alloc w _ k hk'
  refine h v' w' ⟨vals ++ [.slice A l.length c], by rw [List.length_append]; exact g1, fun j hj => ?_⟩ ?_ (fun k cs tt hk hbl => (hkeep k hk).trans hbl)
  · have hnw : ∀ {A' : Option Addr} {c' : Nat} {l' : List UInt8}, By w A' c' l' → Apart v.ownBlock A' l' → By w' A' c' l' ∧ Apart v'.ownBlock A' l' := by
      intro A' c' l' hb' hap'
      refine ⟨(hb'.gr ((Gr.refl w).alloc _)).but_row g2 hap', ?_⟩
      rcases g4 with g4 | g4
      · rw [g4]; exact hap'
      · rw [g4]
        intro hl' ad hA e
        have := hb'.rd.lt hl' hA
        injection e with e
        simp at e
        omega
    by_cases hjl : j < ls.length
    · obtain ⟨A', c', h3, h4, h5, h6⟩ := h2 j hjl
      have e1 : (ls ++ [l])[j] = ls[j] := List.getElem_append_left hjl
      rw [e1]
      obtain ⟨k1, k2⟩ := hnw h4 h5
      exact ⟨A', c', by rw [List.getElem?_append_left (by omega)]; exact h3, k1, k2, h6⟩
    · have e0 : j = ls.length := by rw [List.length_append, List.length_singleton] at hj; omega
      subst e0
      have e1 : (ls ++ [l])[ls.length]'hj = l := by simp
      rw [e1]
      obtain ⟨k1, k2⟩ := hnw hb hap
      exact ⟨A, c, by rw [← hlen]; simp, k1, k2, hnew⟩
  · refine ⟨?_, ?_, ?_, ?_, fun k hk hne => (hkeep k hk).trans (hbut.block k hk hne)⟩
    · exact g2.os.trans hbut.os
    · exact g2.tape.trans hbut.tape
    · exact g2.output.trans hbut.output
    · exact Nat.le_trans hbut.size (Nat.le_trans (by simp) g2.size)
end

end Go.Proofs.YtkcfieoflkhdpaaDoor
