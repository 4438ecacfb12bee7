/-
  Small words for walks. No program.
-/
import Derived.Test.YtkibbggiepggbaaWords2
namespace Go.Proofs.Ytkibbggiepggbaa
open Go.RowKit

theorem Gr.drewN {a w : World} (h : Gr a w) (n : Nat) : Gr a (w.drewN n) := ⟨h.os, h.tape, h.output, h.size, h.block⟩
theorem add_zero_ (a : Addr) : a.add 0 = a := by unfold Addr.add; split <;> simp_all
theorem By.cell {w : World} {A : Option Addr} {c : Nat} {l : List UInt8} (h : By w A c l) (j : Nat) (hj : j < l.length) : ∃ ad, A = some ad ∧ w.cell? (ad.add j) = some (bv (l.getD j 0)) := by
  obtain ⟨ad, h1, h2⟩ := h.rd j hj
  refine ⟨ad, h1, ?_⟩
  rw [h2, List.getD_eq_getElem?_getD, List.getElem?_eq_getElem hj]
  rfl

end Go.Proofs.Ytkibbggiepggbaa
