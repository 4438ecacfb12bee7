/-
  Many logs as one order. No program.
-/
import Derived.Test.YtncdmecppfmmgaaEpMath
import Derived.Test.YtncdmecppfmmgaaEntMem
namespace Go.Proofs.Ytncdmecppfmmgaa.MgMath
open Go TxnMath KeyMath MsgMath EpMath

/-! More on batches. -/
theorem risL_pre {b e e' : Nat} (h : b ≤ e) (h2 : e ≤ e') : risL b e' = risL b e ++ risL e e' := by
  obtain ⟨d, rfl⟩ : ∃ d, e' = e + d := ⟨e' - e, by omega⟩
  clear h2
  induction d with
  | zero => rw [Nat.add_zero, risL_nil (Nat.le_refl e), List.append_nil]
  | succ d ih => rw [← Nat.add_assoc, risL_more (by omega), ih, risL_more (by omega), List.append_assoc]
theorem risL_rng {b e : Nat} : ∀ x ∈ risL b e, (b : Int) ≤ x ∧ x < (e : Int) := fun x hx => by
  unfold risL at hx
  obtain ⟨i, hi, rfl⟩ := List.mem_map.1 hx
  have := List.mem_range.1 hi
  omega
theorem clo_rng (l : List Bool) : ∀ k, ∀ r ∈ (cloL l k).1, ∀ x ∈ r, 1 ≤ x ∧ x ≤ (k : Int)
  | 0, r, h => by simp [cloL] at h
  | k + 1, r, h => by
    intro x hx
    have hb := clo_begin l k
    cases e : l.getD k false
    · rw [clo_no e] at h
      have := clo_rng l k r h x hx
      omega
    · rw [clo_yes e] at h
      rcases List.mem_append.1 h with h | h
      · have := clo_rng l k r h x hx
        omega
      · rw [List.mem_singleton] at h
        subst h
        have := risL_rng x hx
        omega
theorem cut_rng (l : List Bool) : ∀ r ∈ cutL l, ∀ x ∈ r, 1 ≤ x ∧ x ≤ (l.length : Int) := fun r h x hx => by
  have hb := clo_begin l l.length
  rcases List.mem_append.1 h with h | h
  · exact clo_rng l _ r h x hx
  · rw [List.mem_singleton] at h
    subst h
    have := risL_rng x hx
    omega
/-- a Seal behind: one empty batch more -/
theorem cut_sealed (l : List Bool) : cutL (l ++ [true]) = cutL l ++ [[]] := by
  have h := cut_joins l []
  have e : cutL [] = [[]] := by decide
  rw [e] at h
  simpa using h

/-- the transactions' indices among the first k entries -/
def txI (l : List Bool) : Nat → List Int
  | 0 => []
  | k + 1 => if l.getD k false = true then txI l k else txI l k ++ [((k : Int) + 1)]
theorem clo_flat (l : List Bool) : ∀ k, (cloL l k).1.flatten ++ risL (cloL l k).2 (k + 1) = txI l k
  | 0 => by simp [cloL, txI, risL]
  | k + 1 => by
    have ih := clo_flat l k
    have hb := clo_begin l k
    cases e : l.getD k false
    · rw [clo_no e, txI, if_neg (by rw [e]; decide), ← ih, risL_more (by omega), List.append_assoc]
      rfl
    · rw [clo_yes e, txI, if_pos e, ← ih]
      simp only [List.flatten_append, List.flatten_cons, List.flatten_nil, List.append_nil]
      rw [risL_nil (b := k + 2) (by omega), List.append_nil]
theorem cut_flat (l : List Bool) : (cutL l).flatten = txI l l.length := by
  unfold cutL
  rw [List.flatten_append, List.flatten_cons, List.flatten_nil, List.append_nil, clo_flat]
/-- the one ahead of the j-th, 0 if there is none -/
def prevI (l : List Int) (j : Nat) : Int := if j = 0 then 0 else l.getD (j - 1) 0
theorem prevI_app {l r : List Int} {j : Nat} (h : j ≤ l.length) : prevI (l ++ r) j = prevI l j := by
  unfold prevI
  by_cases h0 : j = 0
  · rw [if_pos h0, if_pos h0]
  · rw [if_neg h0, if_neg h0]
    simp only [List.getD_eq_getElem?_getD]
    rw [List.getElem?_append_left (by omega)]
/-- what the row of them is: each is no Seal, and between two there are Seals alone -/
theorem tx_row (l : List Bool) : ∀ k, (∀ (j : Nat) (h : j < (txI l k).length), prevI (txI l k) j < (txI l k)[j] ∧ (txI l k)[j] ≤ (k : Int) ∧ 1 ≤ (txI l k)[j] ∧ l.getD ((txI l k)[j].toNat - 1) false = false ∧ ∀ i : Nat, prevI (txI l k) j < (i : Int) → (i : Int) < (txI l k)[j] → l.getD (i - 1) false = true) ∧
    (0 ≤ prevI (txI l k) (txI l k).length ∧ prevI (txI l k) (txI l k).length ≤ (k : Int)) ∧ ∀ i : Nat, prevI (txI l k) (txI l k).length < (i : Int) → i ≤ k → l.getD (i - 1) false = true
  | 0 => by
    refine ⟨fun j h => by simp [txI] at h, by simp [txI, prevI], fun i h1 h2 => ?_⟩
    have : prevI (txI l 0) (txI l 0).length = 0 := rfl
    omega
  | k + 1 => by
    obtain ⟨h1, h2, h3⟩ := tx_row l k
    cases e : l.getD k false
    · have et : txI l (k + 1) = txI l k ++ [((k : Int) + 1)] := by rw [txI, if_neg (by rw [e]; decide)]
      rw [et]
      have hp : prevI (txI l k ++ [((k : Int) + 1)]) (txI l k ++ [((k : Int) + 1)]).length = (k : Int) + 1 := by
        unfold prevI
        rw [if_neg (by simp)]
        simp
      refine ⟨fun j hj => ?_, by rw [hp]; omega, fun i hi hk => by rw [hp] at hi; omega⟩
      by_cases hjl : j < (txI l k).length
      · rw [List.getElem_append_left hjl, prevI_app (by omega)]
        obtain ⟨a1, a2, a3, a4, a5⟩ := h1 j hjl
        exact ⟨a1, by omega, a3, a4, a5⟩
      · have : j = (txI l k).length := by simp at hj; omega
        subst this
        rw [prevI_app (Nat.le_refl _), List.getElem_append_right (Nat.le_refl _)]
        simp only [Nat.sub_self, List.getElem_cons_zero]
        refine ⟨by omega, by omega, by omega, ?_, fun i hi hk => h3 i hi (by omega)⟩
        rw [show ((k : Int) + 1).toNat - 1 = k by omega]
        exact e
    · have et : txI l (k + 1) = txI l k := by rw [txI, if_pos e]
      rw [et]
      refine ⟨fun j hj => ?_, by omega, fun i hi hk => ?_⟩
      · obtain ⟨a1, a2, a3, a4, a5⟩ := h1 j hj
        exact ⟨a1, by omega, a3, a4, a5⟩
      · by_cases hik : i ≤ k
        · exact h3 i hi hik
        · rw [show i - 1 = k by omega]
          exact e

/-! The order. -/
structure PlaceT where
  part : Nat
  index : Int
  t : TxT
deriving DecidableEq
def noEnt : EntT := ⟨0, true, noTxn⟩
def lg (ls : List (List EntT)) (p : Nat) : List EntT := ls.getD p []
def ct (ls : List (List EntT)) (p : Nat) : List (List Int) := cutL ((lg ls p).map (·.shut))
def nb (ls : List (List EntT)) (p : Nat) : Nat := (ct ls p).length
def plc (ls : List (List EntT)) (p : Nat) (i : Int) : PlaceT := ⟨p, i, ((lg ls p).getD (i.toNat - 1) noEnt).t⟩
/-- the e-th batch of log p -/
def bat (ls : List (List EntT)) (p e : Nat) : List PlaceT := ((ct ls p).getD e []).map (plc ls p)
/-- the e-th batches of the first p logs -/
def rowB (ls : List (List EntT)) (e : Nat) : Nat → List PlaceT
  | 0 => []
  | p + 1 => rowB ls e p ++ bat ls p e
/-- all that is ahead of the e-th batches -/
def uptoB (ls : List (List EntT)) : Nat → List PlaceT
  | 0 => []
  | e + 1 => uptoB ls e ++ rowB ls e ls.length
theorem nb_pos (ls : List (List EntT)) (p : Nat) : 1 ≤ nb ls p := by unfold nb ct; rw [cut_len]; omega

/-- where it stops: behind the e-th batch of log p -/
structure Stop (ls : List (List EntT)) (e p : Nat) : Prop where
  lt : p < ls.length
  is : e + 1 = nb ls p
  ahead : ∀ q, q < p → e + 1 < nb ls q
  all : ∀ q, q < ls.length → e + 1 ≤ nb ls q
/-- of the first k + 1 logs the first with the fewest batches -/
def bestP (ls : List (List EntT)) : Nat → Nat
  | 0 => 0
  | k + 1 => if nb ls (k + 1) < nb ls (bestP ls k) then k + 1 else bestP ls k
theorem best_is (ls : List (List EntT)) : ∀ k, bestP ls k ≤ k ∧ (∀ q, q ≤ k → nb ls (bestP ls k) ≤ nb ls q) ∧ ∀ q, q < bestP ls k → nb ls (bestP ls k) < nb ls q
  | 0 => ⟨Nat.le_refl _, fun q hq => by rw [show q = 0 by omega]; exact Nat.le_refl _, fun q hq => by simp [bestP] at hq⟩
  | k + 1 => by
    obtain ⟨h1, h2, h3⟩ := best_is ls k
    by_cases h : nb ls (k + 1) < nb ls (bestP ls k)
    · rw [bestP, if_pos h]
      refine ⟨Nat.le_refl _, fun q hq => ?_, fun q hq => ?_⟩
      · by_cases hqk : q ≤ k
        · have := h2 q hqk; omega
        · rw [show q = k + 1 by omega]; exact Nat.le_refl _
      · have := h2 q (by omega); omega
    · rw [bestP, if_neg h]
      refine ⟨by omega, fun q hq => ?_, h3⟩
      by_cases hqk : q ≤ k
      · exact h2 q hqk
      · rw [show q = k + 1 by omega]; omega
/-- the order, and which log it waits for -/
def orderL (ls : List (List EntT)) : List PlaceT × Int :=
  if ls.length = 0 then ([], -1) else (uptoB ls (nb ls (bestP ls (ls.length - 1)) - 1) ++ rowB ls (nb ls (bestP ls (ls.length - 1)) - 1) (bestP ls (ls.length - 1) + 1), (bestP ls (ls.length - 1) : Int))
theorem stop_best {ls : List (List EntT)} (h : 0 < ls.length) : Stop ls (nb ls (bestP ls (ls.length - 1)) - 1) (bestP ls (ls.length - 1)) := by
  obtain ⟨h1, h2, h3⟩ := best_is ls (ls.length - 1)
  have hn := nb_pos ls (bestP ls (ls.length - 1))
  exact ⟨by omega, by omega, fun q hq => by have := h3 q hq; omega, fun q hq => by have := h2 q (by omega); omega⟩
theorem Stop.one {ls : List (List EntT)} {e p e' p' : Nat} (h : Stop ls e p) (h' : Stop ls e' p') : e = e' ∧ p = p' := by
  have h1 := h.all p' h'.lt
  have h2 := h'.all p h.lt
  have h3 := h.is
  have h4 := h'.is
  have he : e = e' := by omega
  subst he
  refine ⟨rfl, ?_⟩
  rcases Nat.lt_trichotomy p p' with hl | hl | hl
  · have := h'.ahead p hl; omega
  · exact hl
  · have := h.ahead p' hl; omega
theorem order_stop {ls : List (List EntT)} {e p : Nat} (h : Stop ls e p) : orderL ls = (uptoB ls e ++ rowB ls e (p + 1), (p : Int)) := by
  have hn : 0 < ls.length := by have := h.lt; omega
  obtain ⟨h1, h2⟩ := (stop_best hn).one h
  unfold orderL
  rw [if_neg (by omega), h1, h2]
theorem order_none {ls : List (List EntT)} (h : ls.length = 0) : orderL ls = ([], -1) := by unfold orderL; rw [if_pos h]
theorem rowB_more (ls : List (List EntT)) (e : Nat) {p p' : Nat} (h : p ≤ p') : ∃ r, rowB ls e p' = rowB ls e p ++ r := by
  obtain ⟨d, rfl⟩ : ∃ d, p' = p + d := ⟨p' - p, by omega⟩
  clear h
  induction d with
  | zero => exact ⟨[], by simp⟩
  | succ d ih =>
    obtain ⟨r, hr⟩ := ih
    exact ⟨r ++ bat ls (p + d) e, by rw [← Nat.add_assoc, rowB, hr, List.append_assoc]⟩
theorem uptoB_more (ls : List (List EntT)) {e e' : Nat} (h : e ≤ e') : ∃ r, uptoB ls e' = uptoB ls e ++ r := by
  obtain ⟨d, rfl⟩ : ∃ d, e' = e + d := ⟨e' - e, by omega⟩
  clear h
  induction d with
  | zero => exact ⟨[], by simp⟩
  | succ d ih =>
    obtain ⟨r, hr⟩ := ih
    exact ⟨r ++ rowB ls (e + d) ls.length, by rw [← Nat.add_assoc, uptoB, hr, List.append_assoc]⟩

/-! Logs go on. -/
theorem bat_front {ls ls' : List (List EntT)} {p m : Nat} (hm : m ≤ (lg ls' p).length) (h : lg ls p = (lg ls' p).take m) : nb ls p ≤ nb ls' p ∧ (∀ e, e + 1 < nb ls p → bat ls p e = bat ls' p e) ∧ ∀ e, e + 1 = nb ls p → ∃ r, bat ls' p e = bat ls p e ++ r := by
  have hx : (lg ls p).map (·.shut) = ((lg ls' p).map (·.shut)).take m := by rw [h, List.map_take]
  have hm' : m ≤ ((lg ls' p).map (·.shut)).length := by rw [List.length_map]; exact hm
  have hr := cut_rng ((lg ls p).map (·.shut))
  have hlen : ((lg ls p).map (·.shut)).length = m := by rw [List.length_map, h, List.length_take]; omega
  rw [hlen] at hr
  have hpl : ∀ r ∈ ct ls p, r.map (plc ls p) = r.map (plc ls' p) := fun r hmem => by
    refine List.map_congr_left fun i hi => ?_
    have h1 := hr r hmem i hi
    unfold plc
    congr 2
    rw [h]
    simp only [List.getD_eq_getElem?_getD]
    rw [List.getElem?_take_of_lt (by omega)]
  obtain ⟨e', r, e2, he⟩ := cut_grows ((lg ls' p).map (·.shut)) m hm'
  have e1 := cut_take ((lg ls' p).map (·.shut)) m hm'
  have hb := clo_begin ((lg ls' p).map (·.shut)) m
  rw [← hx] at e1
  have hc1 : ct ls p = (cloL ((lg ls' p).map (·.shut)) m).1 ++ [risL (cloL ((lg ls' p).map (·.shut)) m).2 (m + 1)] := e1
  have hc2 : ct ls' p = (cloL ((lg ls' p).map (·.shut)) m).1 ++ risL (cloL ((lg ls' p).map (·.shut)) m).2 e' :: r := e2
  generalize (cloL ((lg ls' p).map (·.shut)) m).1 = C at hc1 hc2
  generalize (cloL ((lg ls' p).map (·.shut)) m).2 = b at hc1 hc2 hb
  have hn1 : nb ls p = C.length + 1 := by unfold nb; rw [hc1]; simp
  have hn2 : C.length + 1 ≤ nb ls' p := by unfold nb; rw [hc2]; simp
  refine ⟨by omega, fun e h1 => ?_, fun e h1 => ?_⟩
  · have hlt : e < C.length := by omega
    have q1 : (ct ls p).getD e [] = C[e] := by rw [hc1]; simp only [List.getD_eq_getElem?_getD]; rw [List.getElem?_append_left hlt, List.getElem?_eq_getElem hlt]; rfl
    have q2 : (ct ls' p).getD e [] = C[e] := by rw [hc2]; simp only [List.getD_eq_getElem?_getD]; rw [List.getElem?_append_left hlt, List.getElem?_eq_getElem hlt]; rfl
    unfold bat
    rw [q1, q2]
    exact hpl _ (by rw [hc1]; exact List.mem_append_left _ (List.getElem_mem hlt))
  · have heq : e = C.length := by omega
    subst heq
    have q1 : (ct ls p).getD C.length [] = risL b (m + 1) := by rw [hc1]; simp
    have q2 : (ct ls' p).getD C.length [] = risL b e' := by rw [hc2]; simp
    unfold bat
    rw [q1, q2, risL_pre (by omega) he, List.map_append, hpl _ (by rw [hc1]; simp)]
    exact ⟨_, rfl⟩
theorem order_grows {ls ls' : List (List EntT)} (hl : ls.length = ls'.length) (h : ∀ p, p < ls.length → ∃ m, m ≤ (lg ls' p).length ∧ lg ls p = (lg ls' p).take m) : ∃ r, (orderL ls').1 = (orderL ls).1 ++ r := by
  rcases Nat.eq_zero_or_pos ls.length with h0 | h0
  · rw [order_none h0, order_none (by omega)]
    exact ⟨[], rfl⟩
  obtain ⟨e, p, hs⟩ : ∃ e p, Stop ls e p := ⟨_, _, stop_best h0⟩
  obtain ⟨e', p', hs'⟩ : ∃ e p, Stop ls' e p := ⟨_, _, stop_best (by omega)⟩
  rw [order_stop hs, order_stop hs']
  have hg := fun (q : Nat) (hq : q < ls.length) => (h q hq).elim fun m hm => bat_front (ls := ls) (ls' := ls') (p := q) hm.1 hm.2
  have hee : e ≤ e' := by
    have h1 := hs.all p' (by have := hs'.lt; omega)
    have h2 := (hg p' (by have := hs'.lt; omega)).1
    have h3 := hs'.is
    omega
  have hrow : ∀ x q, (∀ y, y < q → y < ls.length ∧ x + 1 < nb ls y) → rowB ls x q = rowB ls' x q := fun x q => by
    induction q with
    | zero => intro _; rfl
    | succ q ih =>
      intro hy
      rw [rowB, rowB, ih fun y hyq => hy y (by omega), (hg q (hy q (by omega)).1).2.1 x (hy q (by omega)).2]
  have hup : ∀ x, x ≤ e → uptoB ls x = uptoB ls' x := fun x => by
    induction x with
    | zero => intro _; rfl
    | succ x ih =>
      intro hx
      rw [uptoB, uptoB, ih (by omega), ← hl, hrow x ls.length fun y hy => ⟨hy, by have := hs.all y hy; omega⟩]
  obtain ⟨r0, hr0⟩ := (hg p hs.lt).2.2 e hs.is
  have h1 : uptoB ls e ++ rowB ls e (p + 1) = uptoB ls' e ++ (rowB ls' e p ++ bat ls p e) := by
    rw [hup e (Nat.le_refl _), rowB, hrow e p fun y hy => ⟨by have := hs.lt; omega, hs.ahead y hy⟩]
  have h2 : uptoB ls' e ++ rowB ls' e (p + 1) = (uptoB ls e ++ rowB ls e (p + 1)) ++ r0 := by
    rw [h1, rowB, hr0]
    simp only [List.append_assoc]
  rcases Nat.lt_or_ge e e' with hlt | hge
  · obtain ⟨r1, hr1⟩ := uptoB_more ls' (show e + 1 ≤ e' from hlt)
    obtain ⟨r2, hr2⟩ := rowB_more ls' e (show p + 1 ≤ ls'.length from by have := hs.lt; omega)
    refine ⟨r0 ++ r2 ++ r1 ++ rowB ls' e' (p' + 1), ?_⟩
    simp only [hr1, uptoB, hr2, ← List.append_assoc]
    rw [h2]
  · have : e' = e := by omega
    subst this
    have hpp : p ≤ p' := by
      rcases Nat.lt_or_ge p' p with hlt | hge
      · have q1 := hs.ahead p' hlt
        have q2 := (hg p' (by have := hs'.lt; omega)).1
        have q3 := hs'.is
        omega
      · exact hge
    obtain ⟨r2, hr2⟩ := rowB_more ls' e' (show p + 1 ≤ p' + 1 by omega)
    refine ⟨r0 ++ r2, ?_⟩
    simp only [hr2, ← List.append_assoc]
    rw [h2]

/-! A Seal in a log that is not waited for. -/
theorem bat_sealed {ls ls' : List (List EntT)} {p : Nat} {s : EntT} (hs : s.shut = true) (h : lg ls' p = lg ls p ++ [s]) : nb ls' p = nb ls p + 1 ∧ ∀ e, e < nb ls p → bat ls' p e = bat ls p e := by
  have hc : ct ls' p = ct ls p ++ [[]] := by
    unfold ct
    rw [h, List.map_append, List.map_cons, List.map_nil, hs, cut_sealed]
  have hr := cut_rng ((lg ls p).map (·.shut))
  rw [List.length_map] at hr
  refine ⟨by unfold nb; rw [hc]; simp, fun e he => ?_⟩
  have hlt : e < (ct ls p).length := he
  unfold bat
  rw [hc]
  have q1 : (ct ls p ++ [[]]).getD e [] = (ct ls p)[e] := by simp only [List.getD_eq_getElem?_getD]; rw [List.getElem?_append_left hlt, List.getElem?_eq_getElem hlt]; rfl
  have q2 : (ct ls p).getD e [] = (ct ls p)[e] := by simp only [List.getD_eq_getElem?_getD]; rw [List.getElem?_eq_getElem hlt]; rfl
  rw [q1, q2]
  refine List.map_congr_left fun i hi => ?_
  have h1 := hr _ (List.getElem_mem hlt) i hi
  unfold plc
  congr 2
  rw [h]
  simp only [List.getD_eq_getElem?_getD]
  rw [List.getElem?_append_left (by omega)]
theorem order_sealed {ls ls' : List (List EntT)} {k : Nat} {s : EntT} (hs : s.shut = true) (hl : ls'.length = ls.length) (hk : k < ls.length) (h : lg ls' k = lg ls k ++ [s]) (ho : ∀ q, q ≠ k → lg ls' q = lg ls q) (hh : (orderL ls).2 ≠ (k : Int)) : orderL ls' = orderL ls := by
  obtain ⟨e, p, hst⟩ : ∃ e p, Stop ls e p := ⟨_, _, stop_best (by omega)⟩
  have hp : p ≠ k := by
    rw [order_stop hst] at hh
    intro e2
    exact hh (by rw [e2])
  obtain ⟨b1, b2⟩ := bat_sealed hs h
  have hnb : ∀ q, nb ls q ≤ nb ls' q := fun q => by
    by_cases hq : q = k
    · subst hq; omega
    · unfold nb ct; rw [ho q hq]; exact Nat.le_refl _
  have hbt : ∀ q x, x < nb ls q → bat ls' q x = bat ls q x := fun q x hx => by
    by_cases hq : q = k
    · subst hq; exact b2 x hx
    · unfold bat plc ct; rw [ho q hq]
  have hst' : Stop ls' e p := ⟨by rw [hl]; exact hst.lt, by unfold nb ct; rw [ho p hp]; exact hst.is, fun q hq => Nat.lt_of_lt_of_le (hst.ahead q hq) (hnb q), fun q hq => Nat.le_trans (hst.all q (by rw [← hl]; exact hq)) (hnb q)⟩
  rw [order_stop hst, order_stop hst']
  have hrow : ∀ x q, q ≤ ls.length → x ≤ e → rowB ls' x q = rowB ls x q := fun x q => by
    induction q with
    | zero => intro _ _; rfl
    | succ q ih =>
      intro hq hx
      rw [rowB, rowB, ih (by omega) hx, hbt q x (by have := hst.all q (by omega); omega)]
  have hup : ∀ x, x ≤ e → uptoB ls' x = uptoB ls x := fun x => by
    induction x with
    | zero => intro _; rfl
    | succ x ih =>
      intro hx
      rw [uptoB, uptoB, ih (by omega), hl, hrow x ls.length (Nat.le_refl _) (by omega)]
  rw [hup e (Nat.le_refl _), hrow e (p + 1) (by have := hst.lt; omega) (Nat.le_refl _)]

/-! Each log's places are its transactions, in their order. -/
/-- the indices of log q in a row of places -/
def idxs (q : Nat) (l : List PlaceT) : List Int := (l.filter fun x => x.part = q).map (·.index)
theorem idxs_app (q : Nat) (l r : List PlaceT) : idxs q (l ++ r) = idxs q l ++ idxs q r := by simp [idxs]
theorem idxs_bat (ls : List (List EntT)) (q p e : Nat) : idxs q (bat ls p e) = if p = q then (ct ls p).getD e [] else [] := by
  unfold idxs bat
  generalize (ct ls p).getD e [] = r
  by_cases h : p = q
  · rw [if_pos h]
    induction r with
    | nil => rfl
    | cons i r ih =>
      rw [List.map_cons, List.filter_cons_of_pos (by simp [plc, h]), List.map_cons, ih]
      rfl
  · rw [if_neg h]
    induction r with
    | nil => rfl
    | cons i r ih =>
      rw [List.map_cons, List.filter_cons_of_neg (by simp [plc, h])]
      exact ih
theorem idxs_row (ls : List (List EntT)) (q e : Nat) : ∀ p, idxs q (rowB ls e p) = if q < p then (ct ls q).getD e [] else []
  | 0 => by simp [rowB, idxs]
  | p + 1 => by
    rw [rowB, idxs_app, idxs_row ls q e p, idxs_bat]
    rcases Nat.lt_trichotomy q p with h | h | h
    · rw [if_pos h, if_neg (by omega), if_pos (by omega), List.append_nil]
    · subst h
      rw [if_neg (by omega), if_pos rfl, if_pos (by omega), List.nil_append]
    · rw [if_neg (by omega), if_neg (by omega), if_neg (by omega), List.nil_append]
theorem flat_take {α : Type} (l : List (List α)) (k : Nat) : (l.take (k + 1)).flatten = (l.take k).flatten ++ l.getD k [] := by
  by_cases h : k < l.length
  · rw [List.take_succ_eq_append_getElem h, List.flatten_append]
    simp [h]
  · rw [List.take_of_length_le (by omega), List.take_of_length_le (by omega)]
    simp only [List.getD_eq_getElem?_getD]
    rw [List.getElem?_eq_none (by omega)]
    simp
theorem idxs_upto (ls : List (List EntT)) (q : Nat) (hq : q < ls.length) : ∀ e, idxs q (uptoB ls e) = ((ct ls q).take e).flatten
  | 0 => by simp [uptoB, idxs]
  | e + 1 => by rw [uptoB, idxs_app, idxs_upto ls q hq e, idxs_row, if_pos hq, flat_take]
/-- of each log its first ones stand in the order -/
theorem idxs_order (ls : List (List EntT)) (q : Nat) (hq : q < ls.length) : ∃ r, idxs q (orderL ls).1 ++ r = txI ((lg ls q).map (·.shut)) (lg ls q).length := by
  obtain ⟨e, p, hst⟩ : ∃ e p, Stop ls e p := ⟨_, _, stop_best (by omega)⟩
  have hf : (ct ls q).flatten = txI ((lg ls q).map (·.shut)) (lg ls q).length := by
    unfold ct
    rw [cut_flat, List.length_map]
  rw [order_stop hst]
  simp only
  rw [idxs_app, idxs_upto ls q hq, idxs_row, ← hf]
  have hsplit : ∀ m, ((ct ls q).take m).flatten ++ ((ct ls q).drop m).flatten = (ct ls q).flatten := fun m => by rw [← List.flatten_append, List.take_append_drop]
  by_cases h : q < p + 1
  · rw [if_pos h, ← flat_take]
    exact ⟨_, hsplit (e + 1)⟩
  · rw [if_neg h, List.append_nil]
    exact ⟨_, hsplit e⟩

end Go.Proofs.Ytncdmecppfmmgaa.MgMath
