/-
  Joins of logs, as lists: what follows. Made logs: their limits. Logs that are written down in the program.
-/
import Derived.Test.YthgpeegnedocfaaUlJoin
import Derived.Test.YthgpeegnedocfaaUlRefJoin
import Derived.Test.YthgpeegnedocfaaUlRef
import Derived.Test.YthgpeegnedocfaaPlayLog
import Derived.Test.YthgpeegnedocfaaPlayMade
import Derived.Test.YthgpeegnedocfaaPlayMay
namespace Go.Proofs.Ythgpeegnedocfaa
open Go Go.RowKit TxnMath KeyMath MsgMath
set_option maxRecDepth 100000

/-- what was joined is there, at its places, of its terms -/
theorem join_at {l m : List EntT} {k : Nat} (hk : k ≤ l.length) : ∀ j (hj : j < m.length), ∃ h : k + j < (joinL l k m).length, (joinL l k m)[k + j].term = m[j].term := by
  intro j hj
  have hfr := front_le sameTm (l.drop k) m
  rw [List.length_drop] at hfr
  have hall := front_all sameTm (l.drop k) m
  have he : joinL l k m = if frontL sameTm (l.drop k) m = m.length then l else l.take (k + frontL sameTm (l.drop k) m) ++ m.drop (frontL sameTm (l.drop k) m) := by unfold joinL; rw [if_neg (by omega), Int.toNat_natCast]
  generalize frontL sameTm (l.drop k) m = f at hfr hall he
  by_cases hjf : j < f
  · obtain ⟨h1, h2, h3⟩ := hall j hjf
    rw [List.length_drop] at h1
    have h4 : l[k + j].term = m[j].term := by
      unfold sameTm at h3
      rw [List.getElem_drop] at h3
      simpa using h3
    have h5 : (joinL l k m)[k + j]? = some l[k + j] := by
      rw [he]
      split
      · exact List.getElem?_eq_getElem (by omega)
      · rw [List.getElem?_append_left (by rw [List.length_take]; omega), List.getElem?_take, if_pos (by omega)]
        exact List.getElem?_eq_getElem (by omega)
    obtain ⟨h6, h7⟩ := List.getElem?_eq_some_iff.1 h5
    exact ⟨h6, by rw [h7]; exact h4⟩
  · have h5 : (joinL l k m)[k + j]? = some m[j] := by
      rw [he, if_neg (by omega), List.getElem?_append_right (by rw [List.length_take]; omega), List.length_take, Nat.min_eq_left (by omega), List.getElem?_drop, show f + (k + j - (k + f)) = j by omega]
      exact List.getElem?_eq_getElem hj
    obtain ⟨h6, h7⟩ := List.getElem?_eq_some_iff.1 h5
    exact ⟨h6, by rw [h7]⟩
/-- what is there is joined already -/
theorem join_fix {x m : List EntT} {k : Nat} (hk : k ≤ x.length) (h : ∀ j (hj : j < m.length), ∃ h : k + j < x.length, x[k + j].term = m[j].term) : joinL x k m = x := by
  have hf : frontL sameTm (x.drop k) m = m.length := by
    refine front_is sameTm _ _ _ (fun j h1 h2 _ => ?_) ?_ (Nat.le_refl _) (.inr (.inl rfl))
    · obtain ⟨_, h3⟩ := h j h2
      unfold sameTm
      rw [List.getElem_drop]
      exact decide_eq_true h3
    · rw [List.length_drop]
      by_cases hm : m.length = 0
      · omega
      · obtain ⟨h1, _⟩ := h (m.length - 1) (by omega)
        omega
  unfold joinL
  rw [if_neg (by omega), Int.toNat_natCast, hf, if_pos rfl]
/-- what is ahead stays -/
theorem join_ahead {l m : List EntT} {k : Nat} (hk : k ≤ l.length) : (joinL l k m).take k = l.take k ∧ k + m.length ≤ (joinL l k m).length ∨ m.length = 0 ∧ joinL l k m = l := by
  by_cases hm : m.length = 0
  · exact .inr ⟨hm, join_fix hk fun j hj => absurd hj (by omega)⟩
  refine .inl ⟨?_, ?_⟩
  · have he : joinL l k m = if frontL sameTm (l.drop k) m = m.length then l else l.take (k + frontL sameTm (l.drop k) m) ++ m.drop (frontL sameTm (l.drop k) m) := by unfold joinL; rw [if_neg (by omega), Int.toNat_natCast]
    have hfr := front_le sameTm (l.drop k) m
    rw [List.length_drop] at hfr
    rw [he]
    split
    · rfl
    · rw [List.take_append_of_le_length (by rw [List.length_take]; omega), List.take_take, Nat.min_eq_left (by omega)]
  · obtain ⟨h1, _⟩ := join_at (m := m) hk (m.length - 1) (by omega)
    omega
theorem join_mem {l m : List EntT} {i : Int} : ∀ e ∈ joinL l i m, e ∈ l ∨ e ∈ m := by
  intro e he
  unfold joinL at he
  split at he
  · exact .inl he
  · split at he
    · exact .inl he
    · rcases List.mem_append.1 he with he | he
      · exact .inl (List.mem_of_mem_take he)
      · exact .inr (List.mem_of_mem_drop he)
theorem join_len {l m : List EntT} {i : Int} : (joinL l i m).length ≤ l.length + m.length := by
  unfold joinL
  split
  · omega
  · split
    · omega
    · rw [List.length_append, List.length_take, List.length_drop]; omega

theorem mayT_bnd {t : TxT} (h : mayT t = true) : t.reads.length ≤ 6 ∧ t.writes.length ≤ 4 := by
  unfold mayT at h
  simp only [Bool.and_eq_true, decide_eq_true_eq] at h
  omega
theorem entP_bnd (l : List UInt8) (i term n : Nat) : EntBnd (entP l i term n).1 := by
  unfold entP
  split
  · exact ⟨by simp [noTxn], by simp [noTxn]⟩
  · have := mayT_bnd (txP_may l (pickN l (pickN l n)) (i + 1))
    exact ⟨by simp only; omega, by simp only; omega⟩
theorem logP_bnd (l : List UInt8) (n : Nat) : ∀ k, ∀ e ∈ (logP l n k).1, EntBnd e
  | 0, e, he => by simp [logP] at he
  | k + 1, e, he => by
    rw [logP] at he
    rcases List.mem_append.1 he with he | he
    · exact logP_bnd l n k e he
    · rw [List.mem_singleton] at he
      subst he
      exact entP_bnd _ _ _ _

/-- a Seal of a term -/
def sealE (t : Int) : EntT := ⟨t, true, noTxn⟩
theorem sealE_bnd (t : Int) : EntBnd (sealE t) := ⟨by simp [sealE, noTxn], by simp [sealE, noTxn]⟩
/-- Seals that are written down -/
theorem seals_lit {w W : World} {ts : List Int} {cs : Array Value} (hcs : cs = (ts.map fun t => entC (sealE t) (.slice none 0 0, .slice none 0 0)).flatten.toArray) (hn : ts.length ≤ 1000) (hW : w.alloc (.cells cs 39) = W) :
    EntsX Any W (.slice (some ⟨w.heap.size, 0, none⟩) ts.length ts.length) (ts.map sealE) := by
  have hm : (ts.map sealE).mapIdx (fun _ e => entC e ((.slice none 0 0 : Value), (.slice none 0 0 : Value))) = ts.map fun t => entC (sealE t) (.slice none 0 0, .slice none 0 0) := by
    refine List.ext_getElem? fun j => ?_
    rw [List.getElem?_mapIdx, List.getElem?_map, List.getElem?_map, Option.map_map]
    rfl
  have hlen := rows_len (k := 6) (l := ts.map fun t => entC (sealE t) ((.slice none 0 0 : Value), (.slice none 0 0 : Value))) (fun r hr => by obtain ⟨t, _, rfl⟩ := List.mem_map.1 hr; rfl)
  rw [List.length_map] at hlen
  have h1 := World.ownsRow_lit (base := w.heap.size) (e := 39) (size := 6) w cs ts.length (Nat.le_refl _) (by unfold maxLen; omega) (by rw [hcs]; simpa using hlen)
  rw [hW] at h1
  have hcl : cs.toList = (ts.map fun t => entC (sealE t) ((.slice none 0 0 : Value), (.slice none 0 0 : Value))).flatten := by rw [hcs]
  rw [hcl] at h1
  have h2 : OwnR 39 6 W w.heap.size (.slice (some ⟨w.heap.size, 0, none⟩) ts.length ts.length) (ts.map fun t => entC (sealE t) (.slice none 0 0, .slice none 0 0)) := ⟨fun r hr => by obtain ⟨t, _, rfl⟩ := List.mem_map.1 hr; rfl, by rw [List.length_map]; exact h1⟩
  refine ⟨fun _ => (.slice none 0 0, .slice none 0 0), ⟨?_, fun _ _ _ _ _ => trivial⟩, fun j e hj => ?_⟩
  · rw [hm]; exact h2.rowAt
  · rw [List.getElem?_map] at hj
    cases ht : ts[j]? with
    | none => rw [ht] at hj; cases hj
    | some t => rw [ht] at hj; cases hj; exact RowsX.none_ _ _

end Go.Proofs.Ythgpeegnedocfaa
