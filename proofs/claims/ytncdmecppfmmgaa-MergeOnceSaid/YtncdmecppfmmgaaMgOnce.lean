/-
  Each transaction has one place, in its log's order. No program.
-/
import Derived.Test.YtncdmecppfmmgaaMgSame
namespace Go.Proofs.Ytncdmecppfmmgaa
open Go TxnMath KeyMath MsgMath EpMath MgMath

theorem bat_plc {ls : List (List EntT)} {p e : Nat} : ∀ x ∈ bat ls p e, x.part = p ∧ x = plc ls p x.index := fun x hx => by
  obtain ⟨i, _, rfl⟩ := List.mem_map.1 hx
  exact ⟨rfl, rfl⟩
theorem row_plc {ls : List (List EntT)} {e : Nat} : ∀ p, p ≤ ls.length → ∀ x ∈ rowB ls e p, x.part < ls.length ∧ x = plc ls x.part x.index
  | 0, _, x, hx => by simp [rowB] at hx
  | p + 1, hp, x, hx => by
    rw [rowB] at hx
    rcases List.mem_append.1 hx with hx | hx
    · exact row_plc p (by omega) x hx
    · obtain ⟨h1, h2⟩ := bat_plc x hx
      rw [h1]
      exact ⟨by omega, h2⟩
theorem upto_plc {ls : List (List EntT)} : ∀ e, ∀ x ∈ uptoB ls e, x.part < ls.length ∧ x = plc ls x.part x.index
  | 0, x, hx => by simp [uptoB] at hx
  | e + 1, x, hx => by
    rw [uptoB] at hx
    rcases List.mem_append.1 hx with hx | hx
    · exact upto_plc e x hx
    · exact row_plc _ (Nat.le_refl _) x hx
theorem order_plc {ls : List (List EntT)} : ∀ x ∈ (orderL ls).1, x.part < ls.length ∧ x = plc ls x.part x.index := fun x hx => by
  rcases Nat.eq_zero_or_pos ls.length with hz | hz
  · rw [order_none hz] at hx; simp at hx
  · obtain ⟨e, p, hs⟩ : ∃ e p, Stop ls e p := ⟨_, _, stop_best hz⟩
    rw [order_stop hs] at hx
    rcases List.mem_append.1 hx with hx | hx
    · exact upto_plc e x hx
    · exact row_plc _ hs.lt x hx

/-- log q's last index among the first i places -/
def lastQ (ps : List PlaceT) (q i : Nat) : Int := prevI (idxs q (ps.take i)) (idxs q (ps.take i)).length
theorem lastQ_zero (ps : List PlaceT) (q : Nat) : lastQ ps q 0 = 0 := by simp [lastQ, idxs, prevI]
theorem idxs_one (q : Nat) (x : PlaceT) : idxs q [x] = if x.part = q then [x.index] else [] := by
  unfold idxs
  by_cases h : x.part = q
  · simp [h]
  · simp [h]
theorem lastQ_more {ps : List PlaceT} {q i : Nat} (hi : i < ps.length) : lastQ ps q (i + 1) = if ps[i].part = q then ps[i].index else lastQ ps q i := by
  unfold lastQ
  rw [List.take_succ_eq_append_getElem hi, idxs_app, idxs_one]
  by_cases h : ps[i].part = q
  · rw [if_pos h, if_pos h]
    unfold prevI
    rw [if_neg (by simp)]
    simp
  · rw [if_neg h, if_neg h, List.append_nil]
theorem once_step {ls : List (List EntT)} {ps : List PlaceT} (hps : (orderL ls).1 = ps) {i : Nat} (hi : i < ps.length) :
    ps[i].part < ls.length ∧ 0 ≤ lastQ ps ps[i].part i ∧ lastQ ps ps[i].part i < ps[i].index ∧ ps[i].index ≤ ((lg ls ps[i].part).length : Int) ∧
      ((lg ls ps[i].part).map (·.shut)).getD (ps[i].index.toNat - 1) false = false ∧ ps[i].t = ((lg ls ps[i].part).getD (ps[i].index.toNat - 1) noEnt).t ∧
      ∀ k : Nat, lastQ ps ps[i].part i < (k : Int) → (k : Int) < ps[i].index → ((lg ls ps[i].part).map (·.shut)).getD (k - 1) false = true := by
  obtain ⟨h1, h2⟩ := order_plc ps[i] (by rw [hps]; exact List.getElem_mem hi)
  obtain ⟨r, hr⟩ := idxs_order ls ps[i].part h1
  rw [hps] at hr
  have hsp : ps = ps.take i ++ ([ps[i]] ++ ps.drop (i + 1)) := by
    rw [List.singleton_append, ← List.drop_eq_getElem_cons hi, List.take_append_drop]
  obtain ⟨q, hq⟩ : ∃ q, ps[i].part = q := ⟨_, rfl⟩
  obtain ⟨ix, hix⟩ : ∃ ix, ps[i].index = ix := ⟨_, rfl⟩
  obtain ⟨x, hx⟩ : ∃ x, ps[i] = x := ⟨_, rfl⟩
  rw [hx] at hq hix hsp h1 h2 hr ⊢
  rw [hq, hix] at h2
  rw [hq] at h1 hr ⊢
  rw [hix]
  have hid : idxs q ps = idxs q (ps.take i) ++ ([ix] ++ idxs q (ps.drop (i + 1))) := by
    conv => lhs; rw [hsp]
    rw [idxs_app, idxs_app, idxs_one, if_pos hq, hix]
  rw [hid, List.append_assoc, List.append_assoc] at hr
  have htx := (tx_row ((lg ls q).map (·.shut)) (lg ls q).length).1 (idxs q (ps.take i)).length (by rw [← hr]; simp)
  have hge : ∀ j, prevI (txI ((lg ls q).map (·.shut)) (lg ls q).length) j ≥ 0 := fun j => by
    unfold prevI
    split
    · exact Int.le_refl _
    · by_cases hj : j - 1 < (txI ((lg ls q).map (·.shut)) (lg ls q).length).length
      · have := ((tx_row ((lg ls q).map (·.shut)) (lg ls q).length).1 (j - 1) hj).2.2.1
        simp only [List.getD_eq_getElem?_getD, List.getElem?_eq_getElem hj, Option.getD_some]
        omega
      · simp only [List.getD_eq_getElem?_getD]
        rw [List.getElem?_eq_none (by omega)]
        simp
  have hlast : lastQ ps q i = prevI (txI ((lg ls q).map (·.shut)) (lg ls q).length) (idxs q (ps.take i)).length := by
    unfold lastQ
    rw [← hr, prevI_app (Nat.le_refl _)]
  have hat : ∀ (h : (idxs q (ps.take i)).length < (txI ((lg ls q).map (·.shut)) (lg ls q).length).length), (txI ((lg ls q).map (·.shut)) (lg ls q).length)[(idxs q (ps.take i)).length] = ix := fun h => by
    have : (txI ((lg ls q).map (·.shut)) (lg ls q).length)[(idxs q (ps.take i)).length]? = some ix := by
      rw [← hr, List.getElem?_append_right (Nat.le_refl _)]
      simp
    rw [List.getElem?_eq_getElem h] at this
    injection this
  obtain ⟨a1, a2, a3, a4, a5⟩ := htx
  rw [hat] at a1 a2 a3 a4 a5
  rw [hlast]
  exact ⟨h1, hge _, a1, a2, a4, by rw [h2]; rfl, a5⟩

theorem first_low (ses seq : Int) : ∀ (r : List PlaceT) (k : Nat), firstL ses seq r k = 0 ∨ k < firstL ses seq r k
  | [], _ => .inl rfl
  | x :: r, k => by
    rw [firstL]
    split
    · right; omega
    · rcases first_low ses seq r (k + 1) with h | h
      · exact .inl h
      · right; omega
theorem first_skip {ses seq : Int} : ∀ (a r : List PlaceT) (k : Nat), (∀ x ∈ a, ¬ (x.t.ses = ses ∧ x.t.seq = seq)) → firstL ses seq (a ++ r) k = firstL ses seq r (k + a.length)
  | [], r, k, _ => by simp
  | x :: a, r, k, h => by
    rw [List.cons_append, firstL, if_neg (h x (by simp)), first_skip a r (k + 1) fun y hy => h y (by simp [hy])]
    congr 1
    simp
    omega
theorem first_behind {ses seq : Int} {a r : List PlaceT} (h : ∀ x ∈ a, ¬ (x.t.ses = ses ∧ x.t.seq = seq)) : firstL ses seq (a ++ r) 0 = 0 ∨ a.length < firstL ses seq (a ++ r) 0 := by
  rw [first_skip a r 0 h]
  have := first_low ses seq r (0 + a.length)
  omega

end Go.Proofs.Ytncdmecppfmmgaa
