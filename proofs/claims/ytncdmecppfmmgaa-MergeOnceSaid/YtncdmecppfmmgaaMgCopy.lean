/-
  A row of logs is copied, one log of the copy goes on. No function of the program.
-/
import Derived.Test.YtncdmecppfmmgaaMgLit
namespace Go.Proofs.Ytncdmecppfmmgaa
open Go Go.RowKit TxnMath KeyMath MsgMath EpMath MgMath
set_option maxRecDepth 100000

theorem RowX.low {X : Nat → Prop} {k : Nat} {w : World} {v : Value} {rs : List (List Value)} (h : RowX X k w v rs) (hp : ∀ r ∈ rs, 0 < r.length) : RowX (fun j => X j ∧ j < w.heap.size) k w v rs := by
  obtain ⟨h1, h2⟩ := h
  refine ⟨h1, fun ad n c e hn => ⟨h2 ad n c e hn, ?_⟩⟩
  obtain ⟨A, d, e1, _, hrd⟩ := h1
  rw [e] at e1
  injection e1 with e2 e3 _
  obtain ⟨r, l, rfl⟩ : ∃ r l, rs = r :: l := by
    cases rs with
    | nil => simp at e3; omega
    | cons r l => exact ⟨r, l, rfl⟩
  have hr := hp r (by simp)
  obtain ⟨ad', e4, e5⟩ := hrd 0 0 r (r[0]'hr) (by simp) (List.getElem?_eq_getElem hr)
  rw [← e2] at e4
  injection e4 with e4
  subst e4
  have := World.block_lt_of_cell? w _ e5
  rwa [add_block] at this
theorem RowsX.low {X : Nat → Prop} {w : World} {t : TxT} {p : Value × Value} (h : RowsX X w t p) : RowsX (fun j => X j ∧ j < w.heap.size) w t p := ⟨h.rd.low (rdC_pos _), h.wr.low (wrC_pos _)⟩
theorem EntsX.low {X : Nat → Prop} {w : World} {v : Value} {es : List EntT} (h : EntsX X w v es) : EntsX (fun j => X j ∧ j < w.heap.size) w v es := by
  obtain ⟨f, h1, h2⟩ := h
  exact ⟨f, h1.low (entC_pos _ _), fun j e hj => (h2 j e hj).low⟩

/-- logs whose row lies in these cells -/
theorem LogsX.of_cells {w : World} {g c : Nat} {ls : List (List EntT)} {n : Nat} (hn : n = ls.length) (hc : ls.length ≤ c) (hm : c ≤ maxLen) (h : ∀ j (hj : j < ls.length), ∃ u, w.cell? ⟨g, j, none⟩ = some u ∧ EntsX Any w u ls[j]) : LogsX w (.slice (some ⟨g, 0, none⟩) n c) ls := by
  subst hn
  refine ⟨(List.range ls.length).map fun j => (w.cell? ⟨g, j, none⟩).getD undef, by simp, ⟨some ⟨g, 0, none⟩, c, by simp, ⟨fun j hj => ⟨_, rfl, ?_⟩, by simpa using hc, hm, fun h => by cases h⟩⟩, fun j hj h2 => ?_⟩
  · obtain ⟨u, h3, _⟩ := h j (by simpa using hj)
    rw [addr_at, h3]
    simp [h3]
  · obtain ⟨u, h3, h4⟩ := h j h2
    simpa [h3] using h4

theorem info_logs : ∃ i, Try.prog.info? 33 = some i ∧ i.zero = some (.slice none 0 0) ∧ i.size = 1 ∧ i.bytes = 24 := info_parts (by kernel_rfl)
/-- a copied row of logs: its row is the call's own, the logs are older -/
structure CpL (w0 wr : World) (g c : Nat) (cs : Array Value) (ls : List (List EntT)) : Prop where
  gr : Gr w0 wr
  hi : w0.heap.size ≤ g
  bl : Bl wr g 33 cs
  le : ls.length ≤ c
  max : c ≤ maxLen
  each : ∀ j (hj : j < ls.length), ∃ u, cs[j]? = some u ∧ EntsX (fun k => k < w0.heap.size) wr u ls[j]
theorem CpL.more {w0 wr w' : World} {g c : Nat} {cs : Array Value} {ls : List (List EntT)} (h : CpL w0 wr g c cs ls) (hg : Gr wr w') : CpL w0 w' g c cs ls :=
  ⟨h.gr.trans hg, h.hi, h.bl.gr hg, h.le, h.max, fun j hj => by obtain ⟨u, h1, h2⟩ := h.each j hj; exact ⟨u, h1, h2.gr hg⟩⟩
theorem CpL.cell {w0 wr : World} {g c : Nat} {cs : Array Value} {ls : List (List EntT)} (h : CpL w0 wr g c cs ls) {j : Nat} (hj : j < ls.length) : ∃ u, wr.cell? ⟨g, j, none⟩ = some u := by
  obtain ⟨u, h1, _⟩ := h.each j hj
  exact ⟨u, by rw [h.bl.cell]; exact h1⟩
/-- one log is put in another's place -/
theorem CpL.put {w0 wr : World} {g c k : Nat} {cs : Array Value} {ls : List (List EntT)} {L : List EntT} {u : Value} (h : CpL w0 wr g c cs ls) (hu : EntsX (fun j => j ≠ g) wr u L) : LogsX (wr.setCell ⟨g, k, none⟩ u) (.slice (some ⟨g, 0, none⟩) ls.length c) (ls.set k L) ∧ Gr w0 (wr.setCell ⟨g, k, none⟩ u) := by
  have hb : But wr (wr.setCell ⟨g, k, none⟩ u) g := (But.refl _ _).set k u
  refine ⟨LogsX.of_cells (by simp) (by simpa using h.le) h.max fun j hj => ?_, h.gr.fresh hb h.hi⟩
  have hj' : j < ls.length := by simpa using hj
  have hbl := h.bl.put k u
  obtain ⟨x, h1, h2⟩ := h.each j hj'
  have hjc : j < cs.size := (Array.getElem?_eq_some_iff.1 h1).1
  by_cases hk : k = j
  · subst hk
    refine ⟨u, by rw [hbl.cell]; simp [hjc], ?_⟩
    rw [List.getElem_set_self]
    exact hu.move fun i hi hx => ⟨hb.block i hi (fun e => by injection e with e; exact hx e), trivial⟩
  · refine ⟨x, by rw [hbl.cell]; simpa [Array.getElem?_setIfInBounds, hk] using h1, ?_⟩
    rw [List.getElem_set_ne hk]
    exact h2.move fun i hi hx => ⟨hb.block i hi (fun e => by injection e with e; have := h.hi; omega), trivial⟩
/-- 'append([][]api.Entry{}, logs...)' -/
theorem wpList_copyLogs {ops : Array Oper} {rest : List Oper} {o : Oper} {a : Act} {Q : Exit → Act → World → Prop} (hgd : o.guard = none) (s x : Operand)
    (ho : o.op = .call { callee := .builtin .append, args := #[s, x], argTypes := #[24, 24] }) {w : World} {v : Value} {ls : List (List EntT)}
    (hs : a.eval s = .slice (some ⟨w.heap.size, 0, none⟩) 0 0) (hv : LogsX w v ls) (hx : a.eval x = v) (hl : ls.length ≤ 1000) (hl0 : 0 < ls.length)
    (h : ∀ g c cs w', CpL w w' g c cs ls → wpList Try.prog ops Q rest (a.put o.dst (.slice (some ⟨g, 0, none⟩) ls.length c)) w') : wpList Try.prog ops Q (o :: rest) a (w.alloc (.cells #[] 33)) := by
  obtain ⟨i0, hi, hz0, hz1, hz2⟩ := info_logs
  have hv' := hv.gr ((Gr.refl w).alloc (.cells #[] 33))
  obtain ⟨xs, hlen, ⟨A, c, rfl, h2⟩, hes⟩ := hv'
  obtain ⟨xs0, hlen0, ⟨A0, c0, e0, h20⟩, hes0⟩ := hv
  injection e0 with e01 e02 e03
  subst e01 e03
  have hxx : xs0 = xs := by
    refine List.ext_getElem (by omega) fun j h3 h4 => ?_
    obtain ⟨ad, e1, e2⟩ := h20.rd j h3
    obtain ⟨ad', e3, e4⟩ := h2.rd j h4
    rw [e1] at e3
    injection e3 with e3
    subst e3
    have := gr_cell ((Gr.refl w).alloc (.cells #[] 33)) _ _ e2
    rw [this] at e4
    injection e4
  subst hxx
  obtain ⟨ad, rfl, _⟩ := h2.rd 0 (by omega)
  refine wpList_append_own_at _ hgd s x 24 ho w.heap.size 33 i0 _ 1 24 Try.underlying24 hi hz0 hz1 hz2 rfl (by decide) _ 0 [] hs (World.ownsRow_lit (size := 1) w #[] 0 (Nat.le_refl _) (by unfold maxLen; omega) rfl) ad xs0.length c xs0 hx (by omega) (fun j u hj => ?_)
    (by
      intro y hy
      obtain ⟨j, hj, rfl⟩ := List.getElem_of_mem hy
      obtain ⟨A', c', e⟩ := (hes0 j hj (by omega)).is
      rw [e]; rfl) (by unfold maxLen; omega) (by omega) (by simp) ?_
  · obtain ⟨hj', rfl⟩ := List.getElem?_eq_some_iff.1 hj
    obtain ⟨ad', e1, e2⟩ := h2.rd j hj'
    injection e1 with e1
    subst e1
    exact e2
  · intro v' w' h3 h4 _ _
    have hgr : Gr w w' := ((Gr.refl w).alloc _).below.grown h4 (by simp) fun k hk => by
      simp [Value.ownBlock] at hk
      omega
    have h3' : OwnV 33 w' w.heap.size v' xs0 := by unfold OwnV; simpa using h3
    have h30 := h3'
    rcases h3'.2 with ⟨_, hn⟩ | ⟨g, cap, cur, rfl, hB, hg, hnc, hcm, hbl, hcur⟩
    · omega
    rw [hlen0]
    refine h g cap cur w' ⟨hgr, hB, hg, by omega, hcm, fun j hj => ?_⟩
    have hcj := World.ownsRow.cellAt h30 j (by omega)
    rw [Bl.cell hg, List.getElem?_eq_getElem (by omega)] at hcj
    refine ⟨_, hcj, ?_⟩
    exact ((hes0 j (by omega) hj).low.wide fun k hk => hk.2).gr hgr

end Go.Proofs.Ytncdmecppfmmgaa
