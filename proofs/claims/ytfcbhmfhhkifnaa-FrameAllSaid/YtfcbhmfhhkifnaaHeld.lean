/-
  Rows of byte slices in memory: that came in, or that the call owns. No program.
-/
import Derived.Test.YtfcbhmfhhkifnaaWords2
import Derived.Maps.AppendAt
namespace Go.Proofs.Ytfcbhmfhhkifnaa
open Go.RowKit

/-- the slice '.slice A ls.length c' reads as these texts, one slice of bytes each -/
structure Rws (w : World) (A : Option Addr) (c : Nat) (ls : List (List UInt8)) : Prop where
  rd : ∀ j (h : j < ls.length), ∃ ad, A = some ad ∧ ∃ B d, w.cell? (ad.add j) = some (.slice B ls[j].length d) ∧ By w B d ls[j]
  le : ls.length ≤ c
  max : c ≤ maxLen
  nil : A = none → c = 0
theorem Rws.gr {w w' : World} {A : Option Addr} {c : Nat} {ls : List (List UInt8)} (h : Rws w A c ls) (hg : Gr w w') : Rws w' A c ls :=
  ⟨fun j hj => by obtain ⟨ad, h1, B, d, h2, h3⟩ := h.rd j hj; exact ⟨ad, h1, B, d, gr_cell hg _ _ h2, h3.gr hg⟩, h.le, h.max, h.nil⟩
theorem Rws.drewN {w : World} {A : Option Addr} {c : Nat} {ls : List (List UInt8)} (h : Rws w A c ls) (n : Nat) : Rws (w.drewN n) A c ls :=
  ⟨fun j hj => by obtain ⟨ad, h1, B, d, h2, h3⟩ := h.rd j hj; exact ⟨ad, h1, B, d, h2, h3.drewN n⟩, h.le, h.max, h.nil⟩

/-- these bytes don't stand in that block -/
def Apart (o : Option Nat) (A : Option Addr) (l : List UInt8) : Prop := 0 < l.length → ∀ ad, A = some ad → some ad.block ≠ o
theorem Rd.but_row {w w' : World} {o : Option Nat} {A : Option Addr} {l : List UInt8} (h : Rd w A l) (hb : w.grownBy w' o) (ho : Apart o A l) : Rd w' A l := fun j hj => by
  obtain ⟨ad, hA, hc⟩ := h j hj
  refine ⟨ad, hA, ?_⟩
  have hne := ho (by omega) ad hA
  have hlt : (ad.add j).block < w.heap.size := World.block_lt_of_cell? w _ hc
  rw [World.cell?_of_block (hb.block _ hlt (by rw [add_block]; exact hne))]
  exact hc
theorem By.but_row {w w' : World} {o : Option Nat} {A : Option Addr} {c : Nat} {l : List UInt8} (h : By w A c l) (hb : w.grownBy w' o) (ho : Apart o A l) : By w' A c l := ⟨h.rd.but_row hb ho, h.le, h.max, h.nil⟩
theorem Rd.lt {w : World} {A : Option Addr} {l : List UInt8} (h : Rd w A l) (hl : 0 < l.length) {ad : Addr} (hA : A = some ad) : ad.block < w.heap.size := by
  obtain ⟨ad', h1, h2⟩ := h 0 hl
  rw [hA] at h1
  injection h1 with h1
  subst h1
  have := World.block_lt_of_cell? w _ h2
  rwa [add_block] at this
/-- what stands below a block of the call's own stands apart from it -/
theorem Apart.below {w0 : World} {A : Option Addr} {c : Nat} {l : List UInt8} (h : By w0 A c l) {o : Option Nat} (ho : ∀ k, o = some k → w0.heap.size ≤ k) : Apart o A l := fun hl ad hA e => by
  have h1 := h.rd.lt hl hA
  have h2 := ho _ e.symm
  omega

/-- texts that the call owns as a row, from block B on ('e': the type of a slice of bytes) -/
def Held (e : TypeId) (w : World) (B : Nat) (v : Value) (ls : List (List UInt8)) : Prop :=
  ∃ vals, w.ownsRow B e 1 v ls.length vals ∧ ∀ j (h : j < ls.length), ∃ A c, vals[j]? = some (.slice A ls[j].length c) ∧ By w A c ls[j] ∧ Apart v.ownBlock A ls[j]

section
variable {P : Program} {e : TypeId} {w w' : World} {B : Nat} {v : Value} {ls : List (List UInt8)}

theorem Held.none_ (w : World) (B : Nat) : Held e w B (.slice none 0 0) [] := ⟨[], World.ownsRow_nil _ _ _ _, fun j h => absurd h (by simp)⟩
theorem Held.gr (h : Held e w B v ls) (hg : Gr w w') : Held e w' B v ls := by
  obtain ⟨vals, h1, h2⟩ := h
  refine ⟨vals, World.ownsRow.kept (row := none) h1 ⟨hg.os, hg.tape, hg.output, hg.size, fun k hk _ => hg.block k hk⟩ (by cases hv : v.ownBlock <;> simp), fun j hj => ?_⟩
  obtain ⟨A, c, h3, h4, h5⟩ := h2 j hj
  exact ⟨A, c, h3, h4.gr hg, h5⟩
theorem Held.alloc (h : Held e w B v ls) (o : Obj) : Held e (w.alloc o) B v ls := h.gr ((Gr.refl w).alloc o)
theorem Held.lt (h : Held e w B v ls) : ∀ k, v.ownBlock = some k → B ≤ k ∧ k < w.heap.size := by
  obtain ⟨vals, h1, _⟩ := h
  exact World.ownsRow.lt h1
theorem Held.rws (h : Held e w B v ls) : ∃ A c, v = .slice A ls.length c ∧ Rws w A c ls := by
  obtain ⟨vals, h1, h2⟩ := h
  have hr := h1
  rcases h1.2 with ⟨rfl, hn⟩ | ⟨g, cap, cur, rfl, _, _, hnc, hm, _, _⟩
  · have : ls = [] := List.eq_nil_of_length_eq_zero hn
    subst this
    exact ⟨none, 0, rfl, fun j h => absurd h (by simp), by simp, by simp [maxLen], fun _ => rfl⟩
  · refine ⟨_, cap, rfl, fun j hj => ?_, hnc, hm, fun h => by cases h⟩
    obtain ⟨A, c, h3, h4, _⟩ := h2 j hj
    exact ⟨_, rfl, A, c, World.ownsRow.cells hr (g := g) rfl j _ h3, h4⟩

/-- one text more: 'append(own, x)', x a slice of bytes, in a new block of its own -/
theorem wpList_pushS {ops : Array Oper} {rest : List Oper} {o : Oper} {a : Act} {Q : Exit → Act → World → Prop} (hgd : o.guard = none) (s x : Operand) (t : TypeId)
    (ho : o.op = .call { callee := .builtin .append, args := #[s, x], argTypes := #[t, t] }) (e : TypeId) (i : TypeInfo) (ht : P.underlying t = some (.slice e)) (hi : P.info? e = some i)
    (hz : i.zero = some (.slice none 0 0)) (hsize : i.size = 1) (hby : i.bytes = 24) {w0 w : World} {A : Option Addr} {c : Nat} {l : List UInt8} {m : Nat} (hm : m = l.length) (hb : By w A c l)
    (hs : a.eval s = v) (hown : Held e w w0.heap.size v ls) (hgr : Gr w0 w) (hap : Apart v.ownBlock A l)
    (hx : a.eval x = .slice (some ⟨w.heap.size, 0, none⟩) 1 1) (hl : ls.length ≤ 1000000000)
    (h : ∀ v' w', Held e w' w0.heap.size v' (ls ++ [l]) → Gr w0 w' → wpList P ops Q rest (a.put o.dst v') w') : wpList P ops Q (o :: rest) a (w.alloc (.cells #[.slice A m c] e)) := by
  subst hm
  obtain ⟨vals, h1, h2⟩ := hown
  have hlen : vals.length = ls.length := by rw [h1.1]; omega
  refine wpList_append_own_at _ hgd s x t ho w0.heap.size e i _ 1 24 ht hi hz hsize hby rfl (by decide) v ls.length vals hs (h1.alloc _) ⟨w.heap.size, 0, none⟩ 1 1 [.slice A l.length c] hx rfl (cell_one_new _ _ _)
    (by intro u hu; simp at hu; subst hu; rfl) (by unfold maxLen; omega) (by omega) (Nat.le_trans hgr.size (by simp)) ?_
  intro v' w' g1 g2 _ g4
  refine h v' w' ⟨vals ++ [.slice A l.length c], by rw [List.length_append]; exact g1, fun j hj => ?_⟩ ((hgr.alloc _).below.grown g2 (Nat.le_trans hgr.size (by simp)) fun k hk => (World.ownsRow.lt h1 k hk).1)
  have hnew : ∀ {A' : Option Addr} {c' : Nat} {l' : List UInt8}, By w A' c' l' → Apart v.ownBlock A' l' → By w' A' c' l' ∧ Apart v'.ownBlock A' l' := by
    intro A' c' l' hb' hap'
    refine ⟨(hb'.gr ((Gr.refl w).alloc _)).but_row g2 hap', ?_⟩
    rcases g4 with g4 | g4
    · rw [g4]; exact hap'
    · rw [g4]
      intro hl' ad hA e
      have := hb'.rd.lt hl' hA
      injection e with e
      simp at e
      omega
  by_cases hjl : j < ls.length
  · obtain ⟨A', c', h3, h4, h5⟩ := h2 j hjl
    have e1 : (ls ++ [l])[j] = ls[j] := List.getElem_append_left hjl
    rw [e1]
    obtain ⟨k1, k2⟩ := hnew h4 h5
    exact ⟨A', c', by rw [List.getElem?_append_left (by omega)]; exact h3, k1, k2⟩
  · have e0 : j = ls.length := by rw [List.length_append, List.length_singleton] at hj; omega
    subst e0
    have e1 : (ls ++ [l])[ls.length]'hj = l := by simp
    rw [e1]
    obtain ⟨k1, k2⟩ := hnew hb hap
    exact ⟨A, c, by rw [← hlen]; simp, k1, k2⟩
end

end Go.Proofs.Ytfcbhmfhhkifnaa
