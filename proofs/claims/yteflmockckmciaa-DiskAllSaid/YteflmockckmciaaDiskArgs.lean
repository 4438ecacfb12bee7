/-
  Deeds that came in.
-/
import Derived.Test.YteflmockckmciaaDiskDeeds
import Derived.SizedLaws
namespace Go.Proofs.Yteflmockckmciaa
open Go Go.ChangeShapes Go.WideShapes Go.ChangeAt Go.RowKit Go.Deep MapS DiskMem
set_option maxRecDepth 100000

section
variable {H : Type} {enc : TypeId × Value → H} {W : World} {base : Nat} {held : Bool}

theorem ints_of_trod {P : Program} {t e : TypeId} {k : IntKind} {fuel : Nat} {v : Value} {x : DataW H × List MemPlace} (ht : P.underlying t = some (.slice e)) (he : P.underlying e = some (.int k)) (hE : P.cellsOf e = 1)
    (hf : DataW.trod enc P W base (fun _ => true) held fuel t [v] = some x) : ∃ (zs : List Int) (A : Option Addr) (c : Nat), v = .slice A zs.length c ∧ Ints k W A c zs := by
  rcases open_ints ht he hE hf with ⟨hcs, _⟩ | ⟨a, l, c', zs, hcs, _, hl, hm, hz, _, hcell, hwz⟩
  · simp at hcs
    subst hcs
    exact ⟨[], none, 0, rfl, fun j hj => absurd hj (by simp), by simp, by simp [maxLen], by simp⟩
  · simp at hcs
    subst hcs
    have hz' : zs.length = c' := by simpa using hz
    have hlen : (zs.take l).length = l := by rw [List.length_take]; omega
    refine ⟨zs.take l, some a, c', by rw [hlen], fun j hj => ⟨a, rfl, ?_⟩, by omega, hm, fun z hz => hwz z (List.mem_of_mem_take hz)⟩
    rw [hlen] at hj
    rw [hcell j (by omega)]
    simp [show j < zs.length by omega]
theorem i64_in {z : Int} (h : (Lit.int .i64 z).wf = true) : -9223372036854775808 ≤ z ∧ z ≤ 9223372036854775807 := by
  simpa [Lit.wf, IntKind.min, IntKind.max, IntKind.signed, IntKind.bits] using h
theorem deed_of (fuel : Nat) (cs : List Value) (x : DataW H × List MemPlace) (h : DataW.trod enc Try.prog W base (fun _ => true) held fuel 31 cs = some x) (hw : Weighs Try.prog reachBytes 31 x.1) : ∃ a : DeedT, cs = deedC a ∧ DeedOk W a := by
  obtain ⟨hl, n, hf⟩ := flat_of Try.underlying31 (by kernel_rfl) (by kernel_rfl) h hw
  obtain ⟨v0, y0, e0, t0, _⟩ := hf 0 _ rfl
  obtain ⟨v1, y1, e1, t1, _⟩ := hf 1 _ rfl
  obtain ⟨v2, y2, e2, t2, w2⟩ := hf 2 _ rfl
  obtain ⟨v3, y3, e3, t3, _⟩ := hf 3 _ rfl
  obtain ⟨v4, y4, e4, t4, _⟩ := hf 4 _ rfl
  obtain ⟨a, rfl, ha⟩ := int_of Try.underlying3 t0
  obtain ⟨b, rfl, hb⟩ := int_of Try.underlying3 t1
  obtain ⟨s, rfl, hs⟩ := str_of Try.underlying9 t2 w2
  obtain ⟨l, B, c, rfl, hby⟩ := bytes_of_trod Try.underlying28 Try.underlying5 (by kernel_rfl) t3
  obtain ⟨zs, K, d, rfl, hin⟩ := ints_of_trod Try.underlying29 Try.underlying3 (by kernel_rfl) t4
  refine ⟨⟨a, b, s, l, B, c, zs, K, d⟩, ?_, i64_in ha, i64_in hb, Nat.le_trans hs (by decide), hby, hin⟩
  have hl' : cs.length = 5 := hl
  match cs, hl' with
  | [a0, a1, a2, a3, a4], _ =>
    simp at e0 e1 e2 e3 e4
    subst e0 e1 e2 e3 e4
    rfl
theorem arg_deeds {r : Reach} {b0 : Nat} {v : Value} {d : DataW H} {p : List MemPlace} (hv : Value.okWide Try.prog W r b0 22 v) (h : DataW.Trod enc Try.prog W base (fun _ => true) held 22 v d p) (hw : Weighs Try.prog reachBytes 22 d) :
    ∃ ds : List DeedT, RowAt 5 W v (ds.map deedC) ∧ (∀ x ∈ ds, DeedOk W x) ∧ ds.length ≤ reachBytes := by
  obtain ⟨A, n, c, rfl⟩ := okWide_slice Try.underlying22 hv
  obtain ⟨fuel, hf⟩ := h
  have hf' : DataW.trod enc Try.prog W base (fun _ => true) held fuel 22 [.slice A n c] = some (d, p) := by simpa [Value.cells] using hf
  exact rows_of deedC (DeedOk W) Try.underlying22 (k := 5) (by kernel_rfl) (by decide +kernel) deed_of hf' hw
end

end Go.Proofs.Yteflmockckmciaa
