/-
  A slice of slices of bytes that came in reads as a list of texts. No program.
-/
import Derived.Test.YtfcbhmfhhkifnaaRowWords
import Derived.Test.YtfcbhmfhhkifnaaHeld
import Derived.Deep.Slices
namespace Go.Proofs.Ytfcbhmfhhkifnaa
open Go.ChangeShapes Go.WideShapes Go.ChangeAt Go.RowKit Go.Deep

section
variable {H : Type} {enc : TypeId × Value → H} {P : Program} {W : World} {base : Nat} {spare : Nat → Bool} {held : Bool}

/-- a slice of bytes, by its reading alone -/
theorem bytes_of_trod {t e : TypeId} {fuel : Nat} {v : Value} {x : DataW H × List MemPlace} (ht : P.underlying t = some (.slice e)) (he : P.underlying e = some (.int .u8)) (hE : P.cellsOf e = 1)
    (hf : DataW.trod enc P W base (fun _ => true) held fuel t [v] = some x) : ∃ (l : List UInt8) (A : Option Addr) (c : Nat), v = .slice A l.length c ∧ By W A c l := by
  rcases open_ints ht he hE hf with ⟨hcs, _⟩ | ⟨a, l, c', zs, hcs, _, hl, hm, hz, _, hcell, hwz⟩
  · simp at hcs
    subst hcs
    exact ⟨[], none, 0, rfl, Rd.nil _ _, by simp, by simp [maxLen], fun _ => rfl⟩
  · simp at hcs
    subst hcs
    have hz' : zs.length = c' := by simpa using hz
    have hb := by_of_ints (W := W) hl hm (by omega) hcell hwz
    refine ⟨_, some a, c', ?_, hb⟩
    simp
    omega

theorem arg_rows {t s e : TypeId} {r : Reach} {b0 : Nat} {v : Value} {d : DataW H} {p : List MemPlace} (ht : P.underlying t = some (.slice s)) (hs : P.underlying s = some (.slice e)) (he : P.underlying e = some (.int .u8)) (hS : P.cellsOf s = 1) (hE : P.cellsOf e = 1)
    (hv : Value.okWide P W r b0 t v) (h : DataW.Trod enc P W base (fun _ => true) held t v d p) : ∃ (A : Option Addr) (n c : Nat) (ls : List (List UInt8)), v = .slice A n c ∧ n = ls.length ∧ Rws W A c ls := by
  obtain ⟨A, n, c, rfl⟩ := okWide_slice ht hv
  obtain ⟨fuel, hf⟩ := h
  rcases open_slice1 ht hS hf with ⟨hcs, _⟩ | ⟨a, len, cap, m, k, V, D, Pl, hcs, _, hl, hm, hmm, _, hx⟩
  · simp [Value.cells] at hcs
    obtain ⟨rfl, rfl, rfl⟩ := hcs
    exact ⟨none, 0, 0, [], rfl, rfl, fun j hj => absurd hj (by simp), by simp, by simp [maxLen], fun _ => rfl⟩
  · simp [Value.cells] at hcs
    obtain ⟨rfl, rfl, rfl⟩ := hcs
    have hmc : m = c := by simpa using hmm
    obtain ⟨f, hfl⟩ := choose_lt (α := List UInt8) (n := n) (p := fun i l => ∃ (B : Option Addr) (d : Nat), V i = .slice B l.length d ∧ By W B d l) (fun i hi => bytes_of_trod hs he hE (hx i (by omega)).2)
    refine ⟨some a, n, c, (List.range n).map f, rfl, by simp, fun j hj => ?_, by simpa using hl, hm, fun h => by cases h⟩
    rw [List.length_map, List.length_range] at hj
    obtain ⟨B, d2, h1, h2⟩ := hfl j hj
    refine ⟨a, rfl, B, d2, ?_, ?_⟩
    · rw [(hx j (by omega)).1, h1]
      simp
    · simpa using h2
end

end Go.Proofs.Ytfcbhmfhhkifnaa
