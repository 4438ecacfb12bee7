/-
  What comes in: a slice of bools, an array of bools.
-/
import Derived.Test.YtjdbhogobbbcpaaBalFns
import Derived.Deep.Grids
namespace Go.Proofs.Ytjdbhogobbbcpaa
open Go Go.RowKit Go.Proofs.Ytjdbhogobbbcpaa
theorem nat8 {a : Int} (h : (Lit.int .u8 a).wf = true) : ∃ k : Nat, a = (k : Int) ∧ k < 256 := by
  have h0 : 0 ≤ a ∧ a ≤ 255 := by simpa [Lit.wf, IntKind.min, IntKind.max, IntKind.signed, IntKind.bits] using h
  exact ⟨a.toNat, by omega, by omega⟩
section
open Go.ChangeShapes Go.WideShapes Go.ChangeAt
variable {H : Type} {enc : TypeId × Value → H} {P : Program} {W : World} {base : Nat} {held : Bool}

theorem arg_bools {t e : TypeId} {r : Reach} {b0 : Nat} {v : Value} {d : DataW H} {p : List MemPlace} (ht : P.underlying t = some (.slice e)) (he : P.underlying e = some .bool) (hE : P.cellsOf e = 1)
    (hv : Value.okWide P W r b0 t v) (h : DataW.Trod enc P W base (fun _ => true) held t v d p) : ∃ l : List Bool, BoolsX W v l := by
  obtain ⟨A, n, c, rfl⟩ := okWide_slice ht hv
  obtain ⟨fuel, hf⟩ := h
  rcases Deep.open_bools ht he hE hf with ⟨hcs, _⟩ | ⟨x, l, c', B, hcs, _, hl, hm, _, hcell⟩
  · simp [Value.cells] at hcs
    obtain ⟨rfl, rfl, rfl⟩ := hcs
    exact ⟨[], none, 0, rfl, fun j hj => absurd hj (by simp [bvals]), by simp [bvals], by simp [maxLen], fun _ => rfl⟩
  · simp [Value.cells] at hcs
    obtain ⟨rfl, rfl, rfl⟩ := hcs
    refine ⟨(List.range n).map B, some x, c, by simp [bvals], fun j hj => ⟨x, rfl, ?_⟩, by simpa [bvals] using hl, hm, fun e => by cases e⟩
    have hj' : j < n := by simpa [bvals] using hj
    rw [hcell j (by omega)]
    simp [bvals]

def boolOf : Value → Bool
  | .bool b => b
  | _ => false
theorem arg_arrayb {t e : TypeId} {n : Nat} {r : Reach} {b0 : Nat} {v : Value} {d : DataW H} {p : List MemPlace} (ht : P.underlying t = some (.array n e)) (he : P.underlying e = some .bool) (hE : P.cellsOf e = 1) (hT : P.cellsOf t = n)
    (hv : Value.okWide P W r b0 t v) (h : DataW.Trod enc P W base (fun _ => true) held t v d p) : ∃ l : List Bool, l.length = n ∧ v = .agg (bvals l).toArray := by
  simp only [Value.okWide, ht] at hv
  obtain ⟨cs, rfl, hcs, _⟩ := hv
  obtain ⟨fuel, hf⟩ := h
  rw [hT] at hcs
  obtain ⟨xs, m, _, _, _, hxl, hx⟩ := DataW.trod_array ht hf
  have hone : ∀ i (hi : i < n), cs[i]'(by omega) = .bool (boolOf (cs[i]'(by omega))) := fun i hi => by
    have h1 := hx i hi
    rw [hE, List.getElem?_eq_getElem (by omega)] at h1
    obtain ⟨a, ea, _⟩ := DataW.trod_bool he h1
    have e2 : cs[i]'(by omega) = .bool a := by
      have e3 : (List.take 1 (List.drop (i * 1) (Value.agg cs).cells.toList))[0]? = [Value.bool a][0]? := by rw [ea]
      simp [Value.cells, hcs ▸ hi] at e3
      simpa using e3
    rw [e2]
    rfl
  refine ⟨cs.toList.map boolOf, by simp [hcs], ?_⟩
  congr 1
  apply Array.ext
  · simp [bvals]
  · intro i h1 h2
    simp only [bvals, List.getElem_toArray, List.getElem_map, Array.getElem_toList]
    exact hone i (by omega)
end
end Go.Proofs.Ytjdbhogobbbcpaa
