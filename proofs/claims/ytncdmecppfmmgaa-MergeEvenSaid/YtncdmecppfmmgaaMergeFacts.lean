/-
  How large the statements' orders are. The end that they have in common.
-/
import Derived.Test.YtncdmecppfmmgaaMergeBegun
import Derived.Test.YtncdmecppfmmgaaMergeLogs
import Derived.Test.YtncdmecppfmmgaaMgRef
import Derived.Test.YtncdmecppfmmgaaUlSeal
namespace Go.Proofs.Ytncdmecppfmmgaa
open Go Go.RowKit TxnMath KeyMath MsgMath EpMath MgMath
set_option maxRecDepth 100000

theorem bat_P {ls : List (List EntT)} {P : TxT → Prop} (h : ∀ p, ∀ e ∈ lg ls p, P e.t) (h0 : P noEnt.t) (p e : Nat) : ∀ x ∈ bat ls p e, P x.t := fun x hx => by
  obtain ⟨i, _, rfl⟩ := List.mem_map.1 hx
  show P ((lg ls p).getD (i.toNat - 1) noEnt).t
  by_cases hi : i.toNat - 1 < (lg ls p).length
  · rw [List.getD_eq_getElem?_getD, List.getElem?_eq_getElem hi]
    exact h p _ (List.getElem_mem hi)
  · rw [List.getD_eq_getElem?_getD, List.getElem?_eq_none (by omega)]
    exact h0
theorem row_P {ls : List (List EntT)} {P : TxT → Prop} (h : ∀ p, ∀ e ∈ lg ls p, P e.t) (h0 : P noEnt.t) (e : Nat) : ∀ p, ∀ x ∈ rowB ls e p, P x.t
  | 0, x, hx => by simp [rowB] at hx
  | p + 1, x, hx => by
    rw [rowB] at hx
    rcases List.mem_append.1 hx with hx | hx
    · exact row_P h h0 e p x hx
    · exact bat_P h h0 p e x hx
theorem upto_P {ls : List (List EntT)} {P : TxT → Prop} (h : ∀ p, ∀ e ∈ lg ls p, P e.t) (h0 : P noEnt.t) : ∀ e, ∀ x ∈ uptoB ls e, P x.t
  | 0, x, hx => by simp [uptoB] at hx
  | e + 1, x, hx => by
    rw [uptoB] at hx
    rcases List.mem_append.1 hx with hx | hx
    · exact upto_P h h0 e x hx
    · exact row_P h h0 e _ x hx
theorem order_P {ls : List (List EntT)} {P : TxT → Prop} (h : ∀ p, ∀ e ∈ lg ls p, P e.t) (h0 : P noEnt.t) : ∀ x ∈ (orderL ls).1, P x.t := fun x hx => by
  rcases Nat.eq_zero_or_pos ls.length with hz | hz
  · rw [order_none hz] at hx; simp at hx
  · obtain ⟨e, p, hs⟩ : ∃ e p, Stop ls e p := ⟨_, _, stop_best hz⟩
    rw [order_stop hs] at hx
    rcases List.mem_append.1 hx with hx | hx
    · exact upto_P h h0 e x hx
    · exact row_P h h0 e _ x hx
theorem order_bnd {ls : List (List EntT)} (h : ∀ p, ∀ e ∈ lg ls p, EntBnd e) : ∀ x ∈ (orderL ls).1, PlBnd x := order_P (P := fun t => t.reads.length ≤ 1000000000 ∧ t.writes.length ≤ 1000000000) h (by decide)
theorem order_len {ls : List (List EntT)} (hl : ls.length ≤ 10) (hn : ∀ p, (lg ls p).length ≤ 100) : (orderL ls).1.length ≤ 1000000 := by
  rcases Nat.eq_zero_or_pos ls.length with hz | hz
  · rw [order_none hz]; simp
  · obtain ⟨e, p, hs⟩ : ∃ e p, Stop ls e p := ⟨_, _, stop_best hz⟩
    rw [order_stop hs]
    have h1 := upto_bnd ls 100 hn e
    have h2 := row_bnd ls 100 hn e (p + 1)
    have h3 : e ≤ 101 := by
      have h4 := hs.is
      have h5 := cut_bnd ((lg ls p).map (·.shut))
      rw [List.length_map] at h5
      have := hn p
      unfold nb ct at h4
      omega
    have h4 := hs.lt
    have h5 : e * (ls.length * (100 + 1)) ≤ 101 * (10 * (100 + 1)) := Nat.mul_le_mul h3 (Nat.mul_le_mul_right _ hl)
    simp only [List.length_append]
    omega
theorem logsL_bnd (l : List UInt8) : ∀ p, ∀ e ∈ lg (logsL l) p, EntBnd e := fun p e he => by
  rcases lg_mem (ls := logsL l) (p := p) with h | h
  · rw [h] at he; simp at he
  · obtain ⟨i, j, _, h2⟩ := logsL_mem h
    rw [h2] at he
    exact logP_bnd _ _ _ e he
/-- what a statement asks of its logs -/
structure Logs10 (ls : List (List EntT)) : Prop where
  len : ls.length ≤ 10
  each : ∀ p, (lg ls p).length ≤ 100
  bnd : ∀ p, ∀ e ∈ lg ls p, EntBnd e
theorem logsL_10 (l : List UInt8) : Logs10 (logsL l) := ⟨by have := logsL_len l; omega, fun p => by have := logsL_each l p; omega, logsL_bnd l⟩
/-- one log in another's place -/
theorem lg_set_self {ls : List (List EntT)} {k : Nat} (L : List EntT) (h : k < ls.length) : lg (ls.set k L) k = L := by unfold lg; simp [h]
theorem lg_set_ne {ls : List (List EntT)} {k q : Nat} (L : List EntT) (h : q ≠ k) : lg (ls.set k L) q = lg ls q := by
  unfold lg
  simp only [List.getD_eq_getElem?_getD]
  rw [List.getElem?_set_ne (by omega)]
theorem Logs10.set {ls : List (List EntT)} (h : Logs10 ls) {k : Nat} {L : List EntT} (hk : k < ls.length) (hL : L.length ≤ 100) (hb : ∀ e ∈ L, EntBnd e) : Logs10 (ls.set k L) := by
  refine ⟨by rw [List.length_set]; exact h.len, fun p => ?_, fun p => ?_⟩
  · by_cases hp : p = k
    · subst hp; rw [lg_set_self L hk]; exact hL
    · rw [lg_set_ne L hp]; exact h.each p
  · by_cases hp : p = k
    · subst hp; rw [lg_set_self L hk]; exact hb
    · rw [lg_set_ne L hp]; exact h.bnd p
theorem order_head {ls : List (List EntT)} (h : 0 < ls.length) : ∃ p, p < ls.length ∧ (orderL ls).2 = ((p : Nat) : Int) := by
  obtain ⟨e, p, hs⟩ : ∃ e p, Stop ls e p := ⟨_, _, stop_best h⟩
  exact ⟨p, hs.lt, by rw [order_stop hs]⟩
/-- an entry more in one log: the order goes on -/
theorem order_set {ls : List (List EntT)} {k : Nat} (hk : k < ls.length) (s : EntT) : ∃ r, (orderL (ls.set k (ls[k] ++ [s]))).1 = (orderL ls).1 ++ r := by
  refine order_grows (by simp) fun p hp => ?_
  by_cases hpk : p = k
  · subst hpk
    rw [lg_set_self _ hk, lg_at hk]
    exact ⟨ls[p].length, by simp, by simp⟩
  · rw [lg_set_ne _ hpk]
    exact ⟨(lg ls p).length, Nat.le_refl _, by simp⟩

end Go.Proofs.Ytncdmecppfmmgaa
