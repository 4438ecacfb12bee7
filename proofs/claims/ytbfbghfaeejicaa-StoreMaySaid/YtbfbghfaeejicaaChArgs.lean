/-
  Versions that came in.
-/
import Derived.Test.YtbfbghfaeejicaaChDo
import Derived.SizedLaws
namespace Go.Proofs.Ytbfbghfaeejicaa
open Go Go.ChangeShapes Go.WideShapes Go.ChangeAt Go.RowKit Go.Deep ChMath
set_option maxRecDepth 100000

section
variable {H : Type} {enc : TypeId × Value → H} {W : World} {base : Nat} {held : Bool}

def VerLim (v : VerT) : Prop := (v.val.size : Int) ≤ 281474976710656
theorem ver_of (fuel : Nat) (cs : List Value) (x : DataW H × List MemPlace) (h : DataW.trod enc Try.prog W base (fun _ => true) held fuel 51 cs = some x) (hw : Weighs Try.prog reachBytes 51 x.1) : ∃ a : VerT, cs = verC a ∧ VerLim a := by
  obtain ⟨hl, n, hf⟩ := flat_of Try.underlying51 (by kernel_rfl) (by kernel_rfl) h hw
  obtain ⟨v0, y0, e0, t0, _⟩ := hf 0 _ rfl
  obtain ⟨v1, y1, e1, t1, w1⟩ := hf 1 _ rfl
  obtain ⟨v2, y2, e2, t2, _⟩ := hf 2 _ rfl
  obtain ⟨z, rfl, _⟩ := int_of Try.underlying3 t0
  obtain ⟨s, rfl, hs⟩ := str_of Try.underlying9 t1 w1
  obtain ⟨b, rfl⟩ := bool_of Try.underlying4 t2
  refine ⟨⟨z, s, b⟩, ?_, ?_⟩
  · have hl' : cs.length = 3 := hl
    match cs, hl' with
    | [a0, a1, a2], _ =>
      simp at e0 e1 e2
      subst e0 e1 e2
      rfl
  · have := Nat.le_trans hs (show reachBytes ≤ 281474976710656 by decide)
    show (s.size : Int) ≤ 281474976710656
    omega
theorem arg_vers {r : Reach} {b0 : Nat} {v : Value} {d : DataW H} {p : List MemPlace} (hv : Value.okWide Try.prog W r b0 52 v) (h : DataW.Trod enc Try.prog W base (fun _ => true) held 52 v d p) (hw : Weighs Try.prog reachBytes 52 d) :
    ∃ ls : List VerT, VersX W v ls ∧ VerBnd ls ∧ ls.length ≤ reachBytes := by
  obtain ⟨A, n, c, rfl⟩ := okWide_slice Try.underlying52 hv
  obtain ⟨fuel, hf⟩ := h
  have hf' : DataW.trod enc Try.prog W base (fun _ => true) held fuel 52 [.slice A n c] = some (d, p) := by simpa [Value.cells] using hf
  exact rows_of verC VerLim Try.underlying52 (k := 3) (by kernel_rfl) (by decide +kernel) ver_of hf' hw
theorem arg_ver {r : Reach} {b0 : Nat} {v : Value} {d : DataW H} {p : List MemPlace} (hv : Value.okWide Try.prog W r b0 51 v) (h : DataW.Trod enc Try.prog W base (fun _ => true) held 51 v d p) (hw : Weighs Try.prog reachBytes 51 d) :
    ∃ x : VerT, v = verA x ∧ VerBnd [x] := by
  simp only [Value.okWide, Try.underlying51] at hv
  obtain ⟨cs, rfl, hcs, _⟩ := hv
  obtain ⟨fuel, hf⟩ := h
  obtain ⟨x, hx, hb⟩ := ver_of fuel _ _ hf hw
  refine ⟨x, ?_, fun y hy => by rw [List.mem_singleton.1 hy]; exact hb⟩
  have hc : cs.toList = verC x := by simpa [Value.cells] using hx
  show Value.agg cs = _
  rw [show cs = (verC x).toArray by rw [← hc]]
  rfl
end

end Go.Proofs.Ytbfbghfaeejicaa
