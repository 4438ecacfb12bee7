/-
  Made logs: their limits. Logs that are written down in the program.
-/
import Derived.Test.YtncdmecppfmmgaaUlMath
import Derived.Test.YtncdmecppfmmgaaPlayLog
import Derived.Test.YtncdmecppfmmgaaPlayMay
namespace Go.Proofs.Ytncdmecppfmmgaa
open Go Go.RowKit TxnMath KeyMath MsgMath
set_option maxRecDepth 100000

theorem mayT_bnd {t : TxT} (h : mayT t = true) : t.reads.length ≤ 6 ∧ t.writes.length ≤ 4 := by
  unfold mayT at h
  simp only [Bool.and_eq_true, decide_eq_true_eq] at h
  omega
theorem entP_bnd (l : List UInt8) (i term n : Nat) : EntBnd (entP l i term n).1 := by
  unfold entP
  split
  · exact ⟨by simp [noTxn], by simp [noTxn]⟩
  · have := mayT_bnd (txP_may l (pickN l (pickN l n)) (i + 1))
    exact ⟨by simp only; omega, by simp only; omega⟩
theorem logP_bnd (l : List UInt8) (n : Nat) : ∀ k, ∀ e ∈ (logP l n k).1, EntBnd e
  | 0, e, he => by simp [logP] at he
  | k + 1, e, he => by
    rw [logP] at he
    rcases List.mem_append.1 he with he | he
    · exact logP_bnd l n k e he
    · rw [List.mem_singleton] at he
      subst he
      exact entP_bnd _ _ _ _

/-- a Seal of a term -/
def sealE (t : Int) : EntT := ⟨t, true, noTxn⟩
theorem sealE_bnd (t : Int) : EntBnd (sealE t) := ⟨by simp [sealE, noTxn], by simp [sealE, noTxn]⟩
/-- Seals that are written down -/
theorem seals_lit {w W : World} {ts : List Int} {cs : Array Value} (hcs : cs = (ts.map fun t => entC (sealE t) (.slice none 0 0, .slice none 0 0)).flatten.toArray) (hn : ts.length ≤ 1000) (hW : w.alloc (.cells cs 43) = W) :
    EntsX Any W (.slice (some ⟨w.heap.size, 0, none⟩) ts.length ts.length) (ts.map sealE) := by
  have hm : (ts.map sealE).mapIdx (fun _ e => entC e ((.slice none 0 0 : Value), (.slice none 0 0 : Value))) = ts.map fun t => entC (sealE t) (.slice none 0 0, .slice none 0 0) := by
    refine List.ext_getElem? fun j => ?_
    rw [List.getElem?_mapIdx, List.getElem?_map, List.getElem?_map, Option.map_map]
    rfl
  have hlen := rows_len (k := 6) (l := ts.map fun t => entC (sealE t) ((.slice none 0 0 : Value), (.slice none 0 0 : Value))) (fun r hr => by obtain ⟨t, _, rfl⟩ := List.mem_map.1 hr; rfl)
  rw [List.length_map] at hlen
  have h1 := World.ownsRow_lit (base := w.heap.size) (e := 43) (size := 6) w cs ts.length (Nat.le_refl _) (by unfold maxLen; omega) (by rw [hcs]; simpa using hlen)
  rw [hW] at h1
  have hcl : cs.toList = (ts.map fun t => entC (sealE t) ((.slice none 0 0 : Value), (.slice none 0 0 : Value))).flatten := by rw [hcs]
  rw [hcl] at h1
  have h2 : OwnR 43 6 W w.heap.size (.slice (some ⟨w.heap.size, 0, none⟩) ts.length ts.length) (ts.map fun t => entC (sealE t) (.slice none 0 0, .slice none 0 0)) := ⟨fun r hr => by obtain ⟨t, _, rfl⟩ := List.mem_map.1 hr; rfl, by rw [List.length_map]; exact h1⟩
  refine ⟨fun _ => (.slice none 0 0, .slice none 0 0), ⟨?_, fun _ _ _ _ _ => trivial⟩, fun j e hj => ?_⟩
  · rw [hm]; exact h2.rowAt
  · rw [List.getElem?_map] at hj
    cases ht : ts[j]? with
    | none => rw [ht] at hj; cases hj
    | some t => rw [ht] at hj; cases hj; exact RowsX.none_ _ _

end Go.Proofs.Ytncdmecppfmmgaa
