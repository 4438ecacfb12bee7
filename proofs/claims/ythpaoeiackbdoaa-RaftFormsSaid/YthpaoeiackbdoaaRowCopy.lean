/-
  What 'append([]T(nil), x...)' wants to know of a transaction's rows. No function of the program.
-/
import Derived.Test.YthpaoeiackbdoaaRowCut
import Derived.Test.YthpaoeiackbdoaaEntOwn
namespace Go.Proofs.Ythpaoeiackbdoaa
open Go Go.RowKit TxnMath KeyMath MsgMath
set_option maxRecDepth 100000

theorem boxesAB {w w1 : World} {t t' : TypeId} {cs ds : Array Value} (hg : Gr ((w.alloc (.cells cs t)).alloc (.cells ds t')) w1) : Bl w1 w.heap.size t cs ∧ Bl w1 (w.heap.size + 1) t' ds :=
  ⟨((Bl.new w t cs).gr ((Gr.refl _).alloc _)).gr hg, by have := (Bl.new (w.alloc (.cells cs t)) t' ds).gr hg; simpa using this⟩
theorem rdC_four (xs : List RdT) : ∀ r ∈ xs.map rdC, r.length = 4 := fun r hr => by obtain ⟨x, _, rfl⟩ := List.mem_map.1 hr; rfl
theorem wrC_three (xs : List WrT) : ∀ r ∈ xs.map wrC, r.length = 3 := fun r hr => by obtain ⟨x, _, rfl⟩ := List.mem_map.1 hr; rfl
theorem rdC_one (xs : List RdT) : ∀ r ∈ xs.map rdC, ∀ y ∈ r, y.oneCell' = true := fun r hr y hy => by
  obtain ⟨x, _, rfl⟩ := List.mem_map.1 hr
  simp only [rdC, List.mem_cons, List.not_mem_nil, or_false] at hy
  rcases hy with rfl | rfl | rfl | rfl <;> simp [Value.oneCell']
theorem wrC_one (xs : List WrT) : ∀ r ∈ xs.map wrC, ∀ y ∈ r, y.oneCell' = true := fun r hr y hy => by
  obtain ⟨x, _, rfl⟩ := List.mem_map.1 hr
  simp only [wrC, List.mem_cons, List.not_mem_nil, or_false] at hy
  rcases hy with rfl | rfl | rfl <;> simp [Value.oneCell']
/-- what a row begins as is new -/
theorem Put1.gr0 {w w' : World} {n c : Nat} {v' : Value} (h : Put1 w w' (.slice none n c) v') : Gr w w' := ⟨h.1.os, h.1.tape, h.1.output, h.1.size, fun k hk => h.1.block k hk (by simp [Value.ownBlock])⟩

end Go.Proofs.Ythpaoeiackbdoaa
