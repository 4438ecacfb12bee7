/-
  Rows of rows of numbers, all of the call's own. No function of the program.
-/
import Derived.Test.YtncdmecppfmmgaaIntMem
import Derived.RangeFuncBox
namespace Go.Proofs.Ytncdmecppfmmgaa
open Go Go.RowKit
set_option maxRecDepth 100000

theorem rs_gr {w w' : World} {o : Option Nat} (h : Mine.RS w none w' o) : Gr w w' := ⟨h.gb.os, h.gb.tape, h.gb.output, h.gb.size, fun k hk => h.gb.block k hk (by simp)⟩

/-- rows of two types lie apart -/
theorem sep_ty {e e' : TypeId} {w : World} {B B' k k' : Nat} {v u : Value} {xs ys : List Value} (h : w.ownsRow B e k v xs.length xs) (h' : w.ownsRow B' e' k' u ys.length ys) (hne : e ≠ e') : Sep v u := fun j hv hu => by
  rcases h.2 with ⟨rfl, _⟩ | ⟨g, _, _, rfl, _, hg, _⟩
  · cases hv
  · rcases h'.2 with ⟨rfl, _⟩ | ⟨g', _, _, rfl, _, hg', _⟩
    · cases hu
    · simp only [Value.ownBlock, Option.some.injEq] at hv hu
      subst hv
      subst hu
      rw [hg] at hg'
      simp at hg'
      exact hne hg'.2
theorem info_is : ∃ i, Try.prog.info? 49 = some i ∧ i.zero = some (.slice none 0 0) ∧ i.size = 1 ∧ i.bytes = 24 := info_parts (by kernel_rfl)
theorem int_ne : (49 : TypeId) ≠ 3 := by decide

theorem OwnV.base_ {e : TypeId} {w : World} {B B' : Nat} {v : Value} {xs : List Value} (h : OwnV e w B v xs) (hB : B' ≤ B) : OwnV e w B' v xs := by
  refine ⟨h.1, ?_⟩
  rcases h.2 with h1 | ⟨g, cap, cur, h1, h2, h3⟩
  · exact .inl h1
  · exact .inr ⟨g, cap, cur, h1, Nat.le_trans hB h2, h3⟩
/-- rows of numbers, each of the call's own, in a row of the call's own -/
def RowsI (w : World) (B : Nat) (v : Value) (ls : List (List Int)) : Prop :=
  ∃ xs : List Value, xs.length = ls.length ∧ OwnV 49 w B v xs ∧ (∀ j (h : j < xs.length) (h2 : j < ls.length), OwnI w B xs[j] ls[j]) ∧ ∀ i j (hi : i < xs.length) (hj : j < xs.length), i < j → Sep xs[i] xs[j]
theorem RowsI.none_ (w : World) (B : Nat) : RowsI w B (.slice none 0 0) [] := ⟨[], rfl, OwnV.none_ w B, fun j h => absurd h (by simp), fun i j h => absurd h (by simp)⟩
theorem RowsI.gr {w w' : World} {B : Nat} {v : Value} {ls : List (List Int)} (h : RowsI w B v ls) (hg : Gr w w') : RowsI w' B v ls := by
  obtain ⟨xs, h1, h2, h3, h4⟩ := h
  exact ⟨xs, h1, h2.gr hg, fun j hj hj2 => (h3 j hj hj2).gr hg, h4⟩
/-- '[][]int{nil}' -/
theorem RowsI.lit1 (w : World) : RowsI (w.alloc (.cells #[.slice none 0 0] 49)) w.heap.size (.slice (some ⟨w.heap.size, 0, none⟩) 1 1) [[]] := by
  refine ⟨[.slice none 0 0], rfl, World.ownsRow_lit (size := 1) w #[.slice none 0 0] 1 (Nat.le_refl _) (by unfold maxLen; omega) rfl, fun j hj hj2 => ?_, fun i j hi hj hij => ?_⟩
  · have : j = 0 := by simp at hj; omega
    subst this
    exact OwnI.none_ _ _
  · simp at hi hj; omega
/-- a block that is none of cells is turned -/
theorem RowsI.turn {w : World} {B : Nat} {v : Value} {ls : List (List Int)} (h : RowsI w B v ls) {l : Nat} {o : Obj} (o' : Obj) (hl : w.heap[l]? = some o) (ho : o.isCells = false) : RowsI (w.putObj l o') B v ls := by
  obtain ⟨xs, h1, h2, h3, h4⟩ := h
  exact ⟨xs, h1, ownsRow_putObj h2 o' hl ho, fun j hj hj2 => ownsRow_putObj (h3 j hj hj2) o' hl ho, h4⟩
/-- a cell of another block is stored -/
theorem RowsI.but {w w' : World} {B g : Nat} {v : Value} {ls : List (List Int)} (h : RowsI w B v ls) (hb : But w w' g) (hg : g < B) : RowsI w' B v ls := by
  obtain ⟨xs, h1, h2, h3, h4⟩ := h
  have hn : ∀ u ys e, w.ownsRow B e 1 u ys.length ys → u.ownBlock = none ∨ u.ownBlock ≠ some g := fun u ys e ho => by
    cases hu : u.ownBlock with
    | none => exact .inl rfl
    | some k => exact .inr fun e2 => by injection e2 with e2; have := (World.ownsRow.lt ho k hu).1; omega
  exact ⟨xs, h1, World.ownsRow.kept h2 hb (hn _ _ _ h2), fun j hj hj2 => World.ownsRow.kept (h3 j hj hj2) hb (hn _ _ _ (h3 j hj hj2)), h4⟩
theorem RowsI.is {w : World} {B : Nat} {v : Value} {ls : List (List Int)} (h : RowsI w B v ls) : ∃ A c, v = .slice A ls.length c := by
  obtain ⟨xs, h1, h2, _, _⟩ := h
  obtain ⟨A, c, h5, _⟩ := h2.is
  exact ⟨A, c, by rw [← h1]; exact h5⟩
theorem RowsI.lt {w : World} {B : Nat} {v : Value} {ls : List (List Int)} (h : RowsI w B v ls) : ∀ k, v.ownBlock = some k → k < w.heap.size := by
  obtain ⟨xs, h1, h2, _, _⟩ := h
  exact h2.lt

/-- what is there to be read -/
def RowsN (w : World) (v : Value) (ls : List (List Int)) : Prop := ∃ xs : List Value, xs.length = ls.length ∧ ValX w v xs ∧ ∀ j (h : j < xs.length) (h2 : j < ls.length), IntsX w xs[j] ls[j]
theorem RowsN.gr {w w' : World} {v : Value} {ls : List (List Int)} (h : RowsN w v ls) (hg : Gr w w') : RowsN w' v ls := by
  obtain ⟨xs, h1, h2, h3⟩ := h
  exact ⟨xs, h1, h2.gr hg, fun j hj hj2 => (h3 j hj hj2).gr hg⟩
theorem RowsI.rows {w : World} {B : Nat} {v : Value} {ls : List (List Int)} (h : RowsI w B v ls) : RowsN w v ls := by
  obtain ⟨xs, h1, h2, h3, _⟩ := h
  obtain ⟨A, c, rfl, _⟩ := OwnV.is h2
  exact ⟨xs, h1, ⟨A, c, rfl, Mine.vs_own h2⟩, fun j hj hj2 => (h3 j hj hj2).ints⟩
theorem RowsN.is {w : World} {v : Value} {ls : List (List Int)} (h : RowsN w v ls) : ∃ A c, v = .slice A ls.length c ∧ ∀ j (hj : j < ls.length), ∃ ad x, A = some ad ∧ w.cell? (ad.add j) = some x ∧ IntsX w x ls[j] := by
  obtain ⟨xs, h1, ⟨A, c, rfl, h2⟩, h3⟩ := h
  refine ⟨A, c, by rw [h1], fun j hj => ?_⟩
  obtain ⟨ad, h4, h5⟩ := h2.rd j (by omega)
  exact ⟨ad, _, h4, h5, h3 j (by omega) hj⟩

/-- one row more is laid behind: 'append(rows, row)', the row's value in a cell of a block of its own -/
theorem wpList_pushRow {ops : Array Oper} {rest : List Oper} {o : Oper} {a : Act} {Q : Exit → Act → World → Prop} (hgd : o.guard = none) (s x : Operand)
    (ho : o.op = .call { callee := .builtin .append, args := #[s, x], argTypes := #[46, 46] }) {w0 wo w : World} {B : Nat} {v u : Value} {ls : List (List Int)} {l : List Int} {g : Nat}
    (hs : a.eval s = v) (hrows : RowsI wo B v ls) (how : Gr wo w) (hrow : OwnI w B u l) (hgr : Gr w0 w) (hB : w0.heap.size ≤ B) (hBw : B ≤ w.heap.size) (hx : a.eval x = .slice (some ⟨g, 0, none⟩) 1 1) (hc : w.cell? ⟨g, 0, none⟩ = some u)
    (hnew : ∀ k, u.ownBlock = some k → wo.heap.size ≤ k) (hl : ls.length ≤ 100000)
    (h : ∀ v' w', RowsI w' B v' (ls ++ [l]) → Gr w0 w' → Put1 w w' v v' → wpList Try.prog ops Q rest (a.put o.dst v') w') : wpList Try.prog ops Q (o :: rest) a w := by
  obtain ⟨i0, hi, hz0, hz1, hz2⟩ := info_is
  obtain ⟨xs, h1, h2o, h3o, h4⟩ := hrows
  have h2 := h2o.gr how
  have h3 := fun j hj hj2 => (h3o j hj hj2).gr how
  have hu1 : u.oneCell' = true := by
    obtain ⟨A, c, rfl, _⟩ := hrow.is
    rfl
  refine wpList_append_own_at _ hgd s x 46 ho B 49 i0 _ 1 24 Try.underlying46 hi hz0 hz1 hz2 rfl (by decide) v xs.length xs hs h2 ⟨g, 0, none⟩ 1 1 [u] hx rfl (fun j y hj => ?_)
    (by intro y hy; simp at hy; subst hy; exact hu1) (by unfold maxLen; omega) (by omega) hBw ?_
  · rcases j with _ | j
    · simp at hj; subst hj
      rw [addr_at]; exact hc
    · simp at hj
  intro v' w' g1 g2 _ g4
  have hput : Put1 w w' v v' := ⟨g2, g4.elim .inl fun g4 => .inr ⟨_, g4, Nat.le_refl _⟩⟩
  have hgr' : Gr w0 w' := hgr.below.grown g2 hgr.size fun k hk => Nat.le_trans hB (World.ownsRow.lt h2 k hk).1
  refine h v' w' ⟨xs ++ [u], by simp [h1], by unfold OwnV; rw [List.length_append]; exact g1, fun j hj hj2 => ?_, fun i j hi hj hij => ?_⟩ hgr' hput
  · by_cases hjx : j < xs.length
    · rw [List.getElem_append_left hjx, List.getElem_append_left (by omega)]
      exact (h3 j hjx (by omega)).beside hput (sep_ty h2 (h3 j hjx (by omega)) int_ne)
    · have : j = xs.length := by simp at hj; omega
      subst this
      rw [List.getElem_append_right (Nat.le_refl _), List.getElem_append_right (by omega)]
      simp only [Nat.sub_self, List.getElem_cons_zero, h1]
      exact hrow.beside hput (sep_ty h2 hrow int_ne)
  · by_cases hjx : j < xs.length
    · rw [List.getElem_append_left hjx, List.getElem_append_left (by omega)]
      exact h4 i j (by omega) hjx hij
    · have : j = xs.length := by simp at hj; omega
      subst this
      rw [List.getElem_append_right (Nat.le_refl _), List.getElem_append_left hij]
      simp only [Nat.sub_self, List.getElem_cons_zero]
      intro k hk1 hk2
      have h5 := hnew k hk2
      have h6 := (World.ownsRow.lt (h3o i hij (by omega)) k hk1).2
      omega

/-- the last row: it is built on, and laid back -/
theorem RowsI.last {w : World} {B : Nat} {v : Value} {ls : List (List Int)} {l : List Int} (h : RowsI w B v (ls ++ [l])) : ∃ g c u, v = .slice (some ⟨g, 0, none⟩) (ls.length + 1) c ∧ B ≤ g ∧ g < w.heap.size ∧ w.cell? ⟨g, ls.length, none⟩ = some u ∧ OwnI w B u l ∧
    ∀ w1 u' l', Put1 w w1 u u' → OwnI w1 B u' l' → w1.cell? ⟨g, ls.length, none⟩ = some u ∧ w1.frozen? ⟨g, ls.length, none⟩ = false ∧ RowsI (w1.setCell ⟨g, ls.length, none⟩ u') B v (ls ++ [l']) ∧ But w1 (w1.setCell ⟨g, ls.length, none⟩ u') g := by
  obtain ⟨xs, h1, h2, h3, h4⟩ := h
  have hxl : xs.length = ls.length + 1 := by simpa using h1
  have h2' := h2
  rcases h2.2 with ⟨_, hn⟩ | ⟨g, c, cur, rfl, hB, hg, hrest⟩
  · omega
  rw [hxl] at h2' ⊢
  have hlx : ls.length < xs.length := by omega
  have h2c := h2'
  unfold OwnV at h2'
  rw [hxl] at h2'
  have hu := h3 ls.length hlx (by simp)
  rw [List.getElem_append_right (Nat.le_refl _)] at hu
  simp only [Nat.sub_self, List.getElem_cons_zero] at hu
  refine ⟨g, c, xs[ls.length], rfl, hB, (Array.getElem?_eq_some_iff.1 hg).1, ?_, hu, fun w1 u' l' hput ho => ?_⟩
  · rw [h2'.cellAt ls.length (by omega)]
    exact List.getElem?_eq_getElem hlx
  have hsp : Sep xs[ls.length] (.slice (some ⟨g, 0, none⟩) (ls.length + 1) c) := (sep_ty h2c hu int_ne).symm
  have r1 : w1.ownsRow B 49 1 (.slice (some ⟨g, 0, none⟩) (ls.length + 1) c) (ls.length + 1) xs := h2'.kept hput.1 (ne_of_sep hsp)
  have ho' : OwnI w1 B u' l' := ho
  obtain ⟨r2, g2⟩ := r1.stored ls.length u'
  have hg' : ∀ k, u'.ownBlock = some k → k ≠ g := fun k hk e => by
    subst e
    have h5 : OwnV 49 w1 B (.slice (some ⟨k, 0, none⟩) (ls.length + 1) c) xs := by unfold OwnV; rw [hxl]; exact r1
    exact sep_ty h5 ho' int_ne k rfl hk
  refine ⟨?_, r1.frozenAt _, ⟨xs.set ls.length u', by simp [h1], ?_, fun j hj hj2 => ?_, fun i j hi hj hij => ?_⟩, g2⟩
  · rw [r1.cellAt ls.length (by omega)]
    exact List.getElem?_eq_getElem hlx
  · unfold OwnV
    rw [List.length_set, hxl]
    exact r2
  · have hnb : ∀ (y : Value) (ys : List Int), OwnI w1 B y ys → (∀ k, y.ownBlock = some k → k ≠ g) → OwnI (w1.setCell ⟨g, ls.length, none⟩ u') B y ys := fun y ys hy hk => World.ownsRow.kept hy g2 (by
      cases hb : y.ownBlock with
      | none => exact .inl rfl
      | some k => exact .inr fun e => hk k hb (by injection e))
    by_cases hje : j = ls.length
    · subst hje
      rw [List.getElem_set_self, List.getElem_append_right (Nat.le_refl _)]
      simp only [Nat.sub_self, List.getElem_cons_zero]
      exact hnb _ _ ho' hg'
    · have hjl : j < ls.length := by simp at hj2; omega
      have h5 := h3 j (by omega) (by simp; omega)
      rw [List.getElem_append_left hjl] at h5
      rw [List.getElem_set_ne (by omega), List.getElem_append_left hjl]
      refine hnb _ _ (h5.beside hput (h4 j ls.length (by omega) hlx hjl).symm) fun k hk e => ?_
      subst e
      exact sep_ty h2c h5 int_ne k rfl hk
  · rw [List.length_set] at hj
    by_cases hje : j = ls.length
    · subst hje
      rw [List.getElem_set_self, List.getElem_set_ne (by omega)]
      exact (hput.sep (h4 i ls.length (by omega) hlx hij).symm fun k hk => (World.ownsRow.lt (h3 i (by omega) (by simp; omega)) k hk).2).symm
    · rw [List.getElem_set_ne (by omega), List.getElem_set_ne (by omega)]
      exact h4 i j (by omega) (by omega) hij

/-- 'append(m, x)', and what stays -/
theorem wpList_pushI1 {ops : Array Oper} {rest : List Oper} {o : Oper} {a : Act} {Q : Exit → Act → World → Prop} (hgd : o.guard = none) (s x : Operand)
    (ho : o.op = .call { callee := .builtin .append, args := #[s, x], argTypes := #[49, 49] }) {w0 w : World} {v : Value} {l : List Int} (n : Int)
    (hs : a.eval s = v) (hown : OwnI w w0.heap.size v l) (hgr : Gr w0 w) (hx : a.eval x = .slice (some ⟨w.heap.size, 0, none⟩) 1 1) (hl : l.length ≤ 1000)
    (h : ∀ v' w', OwnI w' w0.heap.size v' (l ++ [n]) → Gr w0 w' → Put1 w w' v v' → wpList Try.prog ops Q rest (a.put o.dst v') w') : wpList Try.prog ops Q (o :: rest) a (w.alloc (.cells #[.int .i64 n] 3)) := by
  obtain ⟨i0, hi, hz0, hz1, hz2⟩ := info_i
  refine wpList_pushV hgd s x 49 ho 3 i0 _ 8 Try.underlying49 hi hz0 hz1 hz2 rfl (u := .int .i64 n) rfl hs hown hgr hx (by rw [ivs_len]; unfold maxLen; omega) (by rw [ivs_len]; omega) ?_
  intro v' w' h1 h2 h3
  exact h v' w' (by unfold OwnI; rw [ivs_app]; exact h1) h2 h3

/-- where the rows and their numbers lie -/
theorem RowsI.at_ {w : World} {B : Nat} {v : Value} {ls : List (List Int)} (h : RowsI w B v ls) (hl : 0 < ls.length) : ∃ g c, v = .slice (some ⟨g, 0, none⟩) ls.length c ∧ ∀ j (hj : j < ls.length), ∃ A c', w.cell? ⟨g, j, none⟩ = some (.slice A ls[j].length c') ∧ IntsX w (.slice A ls[j].length c') ls[j] ∧
    ∀ i (hi : i < ls[j].length), ∃ a, A = some ⟨a, 0, none⟩ ∧ w.cell? ⟨a, i, none⟩ = some (.int .i64 ls[j][i]) := by
  obtain ⟨xs, h1, h2, h3, h4⟩ := h
  have h2' := h2
  rcases h2.2 with ⟨_, hn⟩ | ⟨g, c, cur, rfl, hB, hg, hrest⟩
  · omega
  refine ⟨g, c, by rw [h1], fun j hj => ?_⟩
  have hjx : j < xs.length := by omega
  have ho := h3 j hjx hj
  obtain ⟨A, c', hv, _⟩ := ho.is
  refine ⟨A, c', ?_, hv ▸ ho.ints, fun i hi => ?_⟩
  · have := World.ownsRow.cellAt h2' j (by omega)
    rw [this, ← hv]
    exact List.getElem?_eq_getElem hjx
  · obtain ⟨a, c2, hv2, _, _, _, _, hr⟩ := ho.block_ (by omega)
    rw [hv] at hv2
    injection hv2 with e1 _ _
    refine ⟨a, e1, ?_⟩
    rw [hr.cellAt i (by omega), ivs_at hi]
    rfl
theorem RowsI.nil_ {w : World} {B : Nat} {v : Value} {ls : List (List Int)} (h : RowsI w B v ls) : ∃ A c, v = .slice A ls.length c := h.is

end Go.Proofs.Ytncdmecppfmmgaa
