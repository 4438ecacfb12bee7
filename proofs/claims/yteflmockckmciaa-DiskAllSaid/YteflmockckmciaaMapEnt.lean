/-
  The entry of a map with strings for keys, ahead of a store into it ('m[k], .. = ..'). No program.
-/
import Derived.Test.YteflmockckmciaaMapS
import Derived.WideKeyEntry
namespace Go.Proofs.Yteflmockckmciaa.MapS
open Go Go.RowKit Go.Maps Go.ChangeMaps Go.WideElems Go.WideMaps

section
variable {P : Program} {k : TypeId} {w : World} {b : Nat} {es : KV Value}

theorem setBlock_same {o : Obj} (h : w.heap[b]? = some o) : setBlock w b o = w := by
  unfold setBlock
  have e : w.heap.setIfInBounds b o = w.heap := by
    apply Array.ext_getElem?
    intro i
    by_cases hi : b = i
    · subst hi
      rw [Array.getElem?_setIfInBounds_self_of_lt (Array.getElem?_eq_some_iff.1 h).1, h]
    · rw [Array.getElem?_setIfInBounds_ne hi]
  rw [e]
theorem setBlock_twice (x y : Obj) : setBlock (setBlock w b x) b y = setBlock w b y := by
  simp [setBlock]
theorem setBlock_at {o : Obj} (x : Obj) (h : w.heap[b]? = some o) : (setBlock w b x).heap[b]? = some x := by
  unfold setBlock
  rw [Array.getElem?_setIfInBounds_self_of_lt (Array.getElem?_eq_some_iff.1 h).1]
theorem setBlock_only (x : Obj) : Only (onB b) w (setBlock w b x) := ⟨rfl, rfl, rfl, by simp [setBlock], fun i _ hn => by
  unfold setBlock
  exact Array.getElem?_setIfInBounds_ne (fun e => hn e.symm)⟩

/-- of a key that is there: nothing changes -/
theorem MapAt.entry_there {t e : TypeId} (h : MapAt P k w b es) (hk : P.underlying k = some .string) (ht : P.underlying t = some (.map k e)) {s : ByteArray} (hs : s.size ≤ maxLen) (hin : (getE es s.data.toList).isSome = true) :
    ∃ v, (Instr.mapEntry t (.map (some b)) (.string s)).run P w = .ok v w := by
  obtain ⟨⟨raw, clock, hb, F, _, hD⟩, hr⟩ := h
  have K := string_law hk
  have hkey := keyOf_string_mk hk hs
  obtain ⟨x, hx⟩ := Option.isSome_iff_exists.1 hin
  have hm := (mem_getE hr).1 hx
  unfold dat at hD
  injection hD with hD
  have hmem : ((Lit.string s.data.toList, DataW.held x) : Lit × DataW Value) ∈ (raw.toList.map (rg P k rawE)).foldr DataW.insert [] := by
    rw [← hD]
    exact List.mem_map.2 ⟨_, hm, rfl⟩
  obtain ⟨y, hy, hyk⟩ := List.mem_map.1 (mem_sorted.1 hmem)
  have hyl : keyOf P k y.key = some (.string s.data.toList) := by
    obtain ⟨z, hz⟩ := F.reads y hy
    have := rd_key hz
    rw [rg_of hz] at hyk
    rw [this, hyk]
  have hye : y.key = .string s := K.inj hyl hkey
  rcases K.find w hkey raw.toList F.keys with ⟨_, h2⟩ | ⟨j, e0, h1, h2, h3⟩
  · exact absurd hye (h2 y hy)
  · have hj : raw[j]? = some e0 := by simpa using h2
    have hsame : raw.modify j (fun e => { e with key := .string s }) = raw := by
      apply Array.ext'
      rw [Array.toList_modify, modify_eq_set _ _ _ _ h2]
      have : ({ e0 with key := .string s } : MapEntry) = e0 := by rw [← h3]
      rw [this]
      exact set_self _ _ _ h2
    have hrun : (Instr.mapEntry t (.map (some b)) (.string s)).run P w = .ok (.tuple #[e0.val, goInt e0.born]) (setBlock w b (.map raw clock)) := by
      simp [Instr.mapEntry, run_underlying ht, MapKept.run_getObj_map hb, K.check w false hkey, h1, hj, h3, K.stays w hkey, hsame, MapKept.run_setObj_map _ hb, Result.andThen, setBlock]
    rw [setBlock_same hb] at hrun
    exact ⟨_, hrun⟩
/-- the entry, and the store behind it -/
theorem MapAt.entry {t e : TypeId} (h : MapAt P k w b es) (hk : P.underlying k = some .string) (ht : P.underlying t = some (.map k e)) {z : Value} (hz : ∀ u : World, (zeroValue e).run P u = .ok z u) {s : ByteArray} (hs : s.size ≤ maxLen) (hn : es.length < maxLen) :
    ∃ v0 st w1, (Instr.mapEntry t (.map (some b)) (.string s)).run P w = .ok (.tuple #[v0, st]) w1 ∧ Only (onB b) w w1 ∧ w1.heap.size = w.heap.size ∧ ((getE es s.data.toList).isSome = true → w1 = w) ∧
      ∀ val, ∃ w', (Instr.entryStore t (.map (some b)) st val).run P w1 = .ok () w' ∧ MapAt P k w' b (putE s.data.toList val es) ∧ w.mapTurned w' b := by
  have h0 := h
  obtain ⟨⟨raw, clock, hb, F, _, _⟩, _⟩ := h
  obtain ⟨v0, st, es1, clock1, hrun, _, hst⟩ := entry_then_store (P := P) (t := t) (string_law hk) ht hz hb F (keyOf_string_mk hk hs)
  refine ⟨v0, goInt st, setBlock w b (.map es1 clock1), hrun, setBlock_only _, by simp [setBlock], fun hin => ?_, fun val => ?_⟩
  · obtain ⟨v, hv⟩ := h0.entry_there hk ht hs hin
    rw [hrun] at hv
    injection hv
  · obtain ⟨es', clock', h1, h2⟩ := hst (setBlock w b (.map es1 clock1)) val (setBlock_at _ hb)
    rw [setBlock_twice] at h1
    obtain ⟨w', h3, h4, h5⟩ := h0.store (e := e) hk ht hs hn val
    rw [h2] at h3
    injection h3 with _ h3
    subst h3
    exact ⟨_, h1, h4, h5⟩
end

end Go.Proofs.Yteflmockckmciaa.MapS
