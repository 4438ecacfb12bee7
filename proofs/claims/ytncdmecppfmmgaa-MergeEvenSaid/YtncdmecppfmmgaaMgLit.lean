/-
  Logs that are written down in the program.
-/
import Derived.Test.YtncdmecppfmmgaaMgMem
namespace Go.Proofs.Ytncdmecppfmmgaa
open Go Go.RowKit TxnMath KeyMath MsgMath EpMath MgMath
set_option maxRecDepth 100000

/-- an entry without reads and writes -/
def barE (t : Int) (s : Bool) (ses seq : Int) : EntT := ⟨t, s, ⟨ses, seq, [], []⟩⟩
def Bare (e : EntT) : Prop := e.t.reads = [] ∧ e.t.writes = []
instance (e : EntT) : Decidable (Bare e) := inferInstanceAs (Decidable (_ ∧ _))
theorem Bare.bnd {e : EntT} (h : Bare e) : EntBnd e := ⟨by rw [h.1]; simp, by rw [h.2]; simp⟩
theorem bare_rows (X : Nat → Prop) (w : World) {e : EntT} (h : Bare e) : RowsX X w e.t (.slice none 0 0, .slice none 0 0) := by
  refine ⟨?_, ?_⟩
  · rw [h.1]; exact RowX.nil _ _ _
  · rw [h.2]; exact RowX.nil _ _ _
theorem own_lit {X : Nat → Prop} {w W : World} {B : Nat} {es : List EntT} {cs : Array Value} (hB : B ≤ w.heap.size) (hcs : cs = (es.map fun e => entC e (.slice none 0 0, .slice none 0 0)).flatten.toArray) (hz : ∀ e ∈ es, Bare e) (hn : es.length ≤ 1000) (hW : w.alloc (.cells cs 43) = W) :
    OwnEnt X W B (.slice (some ⟨w.heap.size, 0, none⟩) es.length es.length) es := by
  have hm : es.mapIdx (fun _ e => entC e ((.slice none 0 0 : Value), (.slice none 0 0 : Value))) = es.map fun e => entC e (.slice none 0 0, .slice none 0 0) := by
    refine List.ext_getElem? fun j => ?_
    rw [List.getElem?_mapIdx, List.getElem?_map]
  have hlen := rows_len (k := 6) (l := es.map fun e => entC e ((.slice none 0 0 : Value), (.slice none 0 0 : Value))) (fun r hr => by obtain ⟨t, _, rfl⟩ := List.mem_map.1 hr; rfl)
  rw [List.length_map] at hlen
  have h1 := World.ownsRow_lit (base := w.heap.size) (e := 43) (size := 6) w cs es.length (Nat.le_refl _) (by unfold maxLen; omega) (by rw [hcs]; simpa using hlen)
  rw [hW] at h1
  have hcl : cs.toList = (es.map fun e => entC e ((.slice none 0 0 : Value), (.slice none 0 0 : Value))).flatten := by rw [hcs]
  rw [hcl] at h1
  refine OwnEnt.base (B := w.heap.size) ⟨fun _ => (.slice none 0 0, .slice none 0 0), ⟨fun r hr => ?_, ?_⟩, fun j e hj => ?_⟩ hB
  · rw [hm] at hr; obtain ⟨t, _, rfl⟩ := List.mem_map.1 hr; rfl
  · rw [hm, List.length_map]; exact h1
  · exact bare_rows _ _ (hz e (List.mem_of_getElem? hj))

/-- it lies in new memory -/
def Fresh (N : Nat) (v : Value) : Prop := ∀ ad n c, v = .slice (some ad) n c → 0 < n → N ≤ ad.block
/-- an own row that lies elsewhere -/
theorem OwnEnt.off {X : Nat → Prop} {w : World} {B g : Nat} {v : Value} {es : List EntT} (h : OwnEnt X w B v es) (hv : v.ownBlock ≠ some g) (hX : ∀ j, X j → j ≠ g) : EntsX (fun j => j ≠ g) w v es := by
  obtain ⟨f, h1, h2⟩ := h
  refine ⟨f, ⟨h1.rowAt, fun ad n c e hn he => ?_⟩, fun j e hj => (h2 j e hj).wide fun k hk => hX k hk.1⟩
  subst he
  refine hv ?_
  rcases h1.2.2 with ⟨e1, _⟩ | ⟨g, c', cur, e1, _⟩
  · rw [e] at e1; cases e1
  · rw [e] at e1 ⊢
    injection e1 with e1 _ _
    injection e1 with e1
    subst e1
    rfl
/-- logs whose row lies in a block -/
theorem LogsX.of_bl {w : World} {g : Nat} {t : TypeId} {cs : Array Value} {ls : List (List EntT)} {n : Nat} (hb : Bl w g t cs) (hn : n = ls.length) (hl : cs.toList.length = ls.length) (hm : ls.length ≤ 1000) (he : ∀ j (h : j < cs.toList.length) (h2 : j < ls.length), EntsX Any w cs.toList[j] ls[j]) : LogsX w (.slice (some ⟨g, 0, none⟩) n n) ls := by
  subst hn
  refine ⟨cs.toList, hl, ⟨some ⟨g, 0, none⟩, ls.length, by rw [hl], ⟨fun j hj => ⟨_, rfl, ?_⟩, by omega, by unfold maxLen; omega, fun h => by cases h⟩⟩, he⟩
  rw [addr_at, hb.cell]
  simp

end Go.Proofs.Ytncdmecppfmmgaa
