/-
  Entries that are written down in the program.
-/
import Derived.Test.YtiinidkofonidaaEntMem
import Derived.Test.YtiinidkofonidaaRowCut
namespace Go.Proofs.Ytiinidkofonidaa
open Go Go.RowKit TxnMath KeyMath MsgMath
set_option maxRecDepth 100000

/-- an entry of a term, a Seal or none, without a transaction -/
def plE (t : Int × Bool) : EntT := ⟨t.1, t.2, noTxn⟩
theorem ents_lit_at {w W : World} {ts : List (Int × Bool)} {cs : Array Value} (hcs : cs = (ts.map fun t => entC (plE t) (.slice none 0 0, .slice none 0 0)).flatten.toArray) (hn : ts.length ≤ 1000) (hW : w.alloc (.cells cs 39) = W) :
    EntsX (fun k => k = w.heap.size) W (.slice (some ⟨w.heap.size, 0, none⟩) ts.length ts.length) (ts.map plE) := by
  have hm : (ts.map plE).mapIdx (fun _ e => entC e ((.slice none 0 0 : Value), (.slice none 0 0 : Value))) = ts.map fun t => entC (plE t) (.slice none 0 0, .slice none 0 0) := by
    refine List.ext_getElem? fun j => ?_
    rw [List.getElem?_mapIdx, List.getElem?_map, List.getElem?_map, Option.map_map]
    rfl
  have hlen := rows_len (k := 6) (l := ts.map fun t => entC (plE t) ((.slice none 0 0 : Value), (.slice none 0 0 : Value))) (fun r hr => by obtain ⟨t, _, rfl⟩ := List.mem_map.1 hr; rfl)
  rw [List.length_map] at hlen
  have h1 := World.ownsRow_lit (base := w.heap.size) (e := 39) (size := 6) w cs ts.length (Nat.le_refl _) (by unfold maxLen; omega) (by rw [hcs]; simpa using hlen)
  rw [hW] at h1
  have hcl : cs.toList = (ts.map fun t => entC (plE t) ((.slice none 0 0 : Value), (.slice none 0 0 : Value))).flatten := by rw [hcs]
  rw [hcl] at h1
  have h2 : OwnR 39 6 W w.heap.size (.slice (some ⟨w.heap.size, 0, none⟩) ts.length ts.length) (ts.map fun t => entC (plE t) (.slice none 0 0, .slice none 0 0)) := ⟨fun r hr => by obtain ⟨t, _, rfl⟩ := List.mem_map.1 hr; rfl, by rw [List.length_map]; exact h1⟩
  refine ⟨fun _ => (.slice none 0 0, .slice none 0 0), ⟨?_, fun ad n c e _ => by injection e with e1 _ _; injection e1 with e1; subst e1; rfl⟩, fun j e hj => ?_⟩
  · rw [hm]; exact h2.rowAt
  · rw [List.getElem?_map] at hj
    cases ht : ts[j]? with
    | none => rw [ht] at hj; cases hj
    | some t => rw [ht] at hj; cases hj; exact RowsX.none_ _ _

theorem ents_lit {w W : World} {ts : List (Int × Bool)} {cs : Array Value} (hcs : cs = (ts.map fun t => entC (plE t) (.slice none 0 0, .slice none 0 0)).flatten.toArray) (hn : ts.length ≤ 1000) (hW : w.alloc (.cells cs 39) = W) :
    EntsX Any W (.slice (some ⟨w.heap.size, 0, none⟩) ts.length ts.length) (ts.map plE) := (ents_lit_at hcs hn hW).wide fun _ _ => trivial

end Go.Proofs.Ytiinidkofonidaa
