/-
  A deed as a value.
-/
import Derived.Test.YteflmockckmciaaDiskAllMath
namespace Go.Proofs.Yteflmockckmciaa
open Go Go.RowKit MapS DiskMem
set_option maxRecDepth 100000

/-- a deed: what it is, and where its rows lie -/
structure DeedT where
  kind : Int
  n : Int
  name : ByteArray
  b : List UInt8
  B : Option Addr
  bc : Nat
  keep : List Int
  K : Option Addr
  kc : Nat
def deedC (x : DeedT) : List Value := [.int .i64 x.kind, .int .i64 x.n, .string x.name, .slice x.B x.b.length x.bc, .slice x.K x.keep.length x.kc]
structure DeedOk (w : World) (x : DeedT) : Prop where
  kind : -9223372036854775808 ≤ x.kind ∧ x.kind ≤ 9223372036854775807
  n : -9223372036854775808 ≤ x.n ∧ x.n ≤ 9223372036854775807
  name : x.name.size ≤ 140737488355328
  b : By w x.B x.bc x.b
  keep : Ints .i64 w x.K x.kc x.keep
theorem RowAt.is_ {k : Nat} {w : World} {v : Value} {α : Type} {C : α → List Value} {xs : List α} (h : RowAt k w v (xs.map C)) : ∃ A c, v = .slice A xs.length c ∧ RowAt k w (.slice A xs.length c) (xs.map C) := by
  have h0 := h
  obtain ⟨A, c, rfl, _, _⟩ := h
  rw [List.length_map] at h0 ⊢
  exact ⟨A, c, rfl, h0⟩
theorem RowAt.deed {w : World} {v : Value} {xs : List DeedT} {k : Nat} (h : RowAt 5 w v (xs.map deedC)) (hk : k < xs.length) :
    ∃ ad c, v = .slice (some ad) xs.length c ∧ w.cell? (ad.add (k * 5)) = some (.int .i64 xs[k].kind) ∧ w.cell? ⟨(ad.add (k * 5)).block, (ad.add (k * 5)).off + 1, none⟩ = some (.int .i64 xs[k].n) ∧
      w.cell? ⟨(ad.add (k * 5)).block, (ad.add (k * 5)).off + 2, none⟩ = some (.string xs[k].name) ∧ w.cell? ⟨(ad.add (k * 5)).block, (ad.add (k * 5)).off + 3, none⟩ = some (.slice xs[k].B xs[k].b.length xs[k].bc) ∧
      w.cell? ⟨(ad.add (k * 5)).block, (ad.add (k * 5)).off + 4, none⟩ = some (.slice xs[k].K xs[k].keep.length xs[k].kc) := by
  obtain ⟨ad, c, e, _, h0, h1⟩ := h.cell (j := k) (r := deedC xs[k]) (by rw [List.getElem?_map, List.getElem?_eq_getElem hk]; rfl) (by simp [deedC])
  rw [List.length_map] at e
  exact ⟨ad, c, e, h0 _ rfl, h1 1 _ (by decide) rfl, h1 2 _ (by decide) rfl, h1 3 _ (by decide) rfl, h1 4 _ (by decide) rfl⟩
end Go.Proofs.Yteflmockckmciaa
