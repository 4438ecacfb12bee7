/-
  What a law keeps beside a disk: a map of all texts, a map of how much is sure.
-/
import Derived.Test.YteflmockckmciaaDiskBegun
import Derived.Test.YteflmockckmciaaDiskRising
namespace Go.Proofs.Yteflmockckmciaa
open Go Go.RowKit MapS DiskMem DiskFile DiskHit DiskFind DiskBegin DiskOps DiskApp DiskList DiskCrash DiskCopy DiskRising KeyMath
set_option maxRecDepth 100000

def valsB (F : Fs) : KV ByteArray := F.map fun p => (p.1, bs p.2.b)
def valsA (F : Fs) : KV Value := F.map fun p => (p.1, .string (bs p.2.b))
def valsG (G : KV Int) : KV Value := G.map fun p => (p.1, .int .i64 p.2)
theorem valsA_B (F : Fs) : (valsB F).map (fun p => (p.1, Value.string p.2)) = valsA F := by simp [valsA, valsB]
theorem valsA_len (F : Fs) : (valsA F).length = F.length := by simp [valsA]
theorem valsB_len (F : Fs) : (valsB F).length = F.length := by simp [valsB]
theorem valsG_len (G : KV Int) : (valsG G).length = G.length := by simp [valsG]
theorem keyV_B (F : Fs) : keyV (valsB F) = nameV F := by simp [keyV, nameV, valsB]
theorem nameV_len (F : Fs) : (nameV F).length = F.length := by simp [nameV]
theorem nameV_get (F : Fs) {i : Nat} (h : i < (nameV F).length) : (nameV F)[i] = .string (bs (F[i]'(by simpa [nameV] using h)).1) := by simp [nameV]
theorem valsA_get (F : Fs) (s : List UInt8) : getE (valsA F) s = (getE F s).map fun f => .string (bs f.b) := getE_map (fun f : FileT => Value.string (bs f.b)) s F
theorem valsA_put (F : Fs) (s : List UInt8) (f : FileT) : putE s (.string (bs f.b)) (valsA F) = valsA (putE s f F) := (putE_map (fun f : FileT => Value.string (bs f.b)) s f F).symm
theorem valsA_del (F : Fs) (s : List UInt8) : delE s (valsA F) = valsA (delE s F) := (delE_map (fun f : FileT => Value.string (bs f.b)) s F).symm
theorem valsG_get (G : KV Int) (s : List UInt8) : getE (valsG G) s = (getE G s).map fun z => .int .i64 z := getE_map (fun z : Int => Value.int .i64 z) s G
theorem valsG_put (G : KV Int) (s : List UInt8) (z : Int) : putE s (.int .i64 z) (valsG G) = valsG (putE s z G) := (putE_map (fun z : Int => Value.int .i64 z) s z G).symm
theorem valsG_del (G : KV Int) (s : List UInt8) : delE s (valsG G) = valsG (delE s G) := (delE_map (fun z : Int => Value.int .i64 z) s G).symm
theorem valsG_ris {G : KV Int} (h : Ris (valsG G)) : Ris G := Ris.of_map (fun z : Int => Value.int .i64 z) h

/-- so much is sure -/
def SureOk (F : Fs) (G : KV Int) : Prop := ∀ s, (getE G s).getD 0 = (getE F s).elim 0 fun f => (f.sure : Int)
theorem sure_start : SureOk [] [] := fun _ => rfl
/-- a file's text is as it was: all stays -/
theorem valsA_same {F : Fs} (hr : Ris F) {s : List UInt8} {f : FileT} (hf : getE F s = some f) (n : Nat) : valsA (putE s ⟨f.b, n⟩ F) = valsA F := by
  rw [← valsA_put]
  refine put_same (F := valsA F) (hr.map fun f : FileT => Value.string (bs f.b)) ?_
  rw [valsA_get, hf]
  rfl
theorem sure_put {F : Fs} {G : KV Int} (h : SureOk F G) (hF : Ris F) (hG : Ris G) (s : List UInt8) (f : FileT) : SureOk (putE s f F) (putE s (f.sure : Int) G) := by
  intro k
  rw [getE_put hF, getE_put hG]
  by_cases e : k = s
  · simp [e]
  · simp only [if_neg e]
    exact h k
/-- what is sure stays -/
theorem sure_text {F : Fs} {G : KV Int} (h : SureOk F G) (hF : Ris F) (s : List UInt8) (l : List UInt8) : SureOk (putE s ⟨l, ((getE F s).getD f0).sure⟩ F) G := by
  intro k
  rw [getE_put hF]
  by_cases e : k = s
  · subst e
    have := h k
    rw [this]
    cases getE F k <;> simp [f0]
  · simp only [if_neg e]
    exact h k
theorem sure_del {F : Fs} {G : KV Int} (h : SureOk F G) (hF : Ris F) (hG : Ris G) (s : List UInt8) : SureOk (delE s F) (delE s G) := by
  intro k
  rw [getE_del hF, getE_del hG]
  by_cases e : k = s
  · simp [e]
  · simp only [if_neg e]
    exact h k
theorem sure_at {F : Fs} {G : KV Int} (h : SureOk F G) {s : List UInt8} {f : FileT} (hf : getE F s = some f) : (getE G s).getD 0 = (f.sure : Int) := by
  rw [h s, hf]
  rfl
theorem del_none {F : Fs} {s : List UInt8} (h : getE F s = none) : delE s F = F := by
  unfold delE
  rw [List.filter_eq_self]
  intro p hp
  have := getE_none.1 h p hp
  simpa using this
theorem was_eq (F : Fs) (s : List UInt8) : (getE (valsA F) s).getD (.string ⟨#[]⟩) = .string (bs ((getE F s).getD f0).b) := by
  rw [valsA_get]
  cases getE F s <;> rfl
theorem there_eq (F : Fs) (s : List UInt8) : (getE (valsA F) s).isSome = (getE F s).isSome := by
  rw [valsA_get, Option.isSome_map]
theorem crash_names : ∀ (zs : List Int) (F : Fs), (crashF zs F).map (·.1) = F.map (·.1)
  | _, [] => rfl
  | zs, p :: r => by simp [crashF, crash_names zs.tail r]
/-- the crash goes on with the next file -/
theorem crash_step {zs : List Int} {F : Fs} (hr : Ris F) {j : Nat} (hj : j < F.length) :
    getE (mixF zs F j) F[j].1 = some F[j].2 ∧ mixF zs F (j + 1) = putE F[j].1 (hitF F[j].2 ((zs.drop j).headD 0)) (mixF zs F j) := by
  have h1 := mix_at (zs := zs) hj
  have h2 := mix_next (zs := zs) hj
  have hm : Ris (mixF zs F j) := by
    have h3 : (mixF zs F j).map (·.1) = F.map (·.1) := by
      unfold mixF
      rw [List.map_append, crash_names, ← List.map_append, List.take_append_drop]
    have h4 : (F.map (·.1)).Pairwise fun a b => bytesBefore a b = true := List.pairwise_map.2 hr
    rw [← h3] at h4
    exact List.pairwise_map.1 h4
  rw [h1] at hm
  rw [h1, h2]
  exact ⟨(mem_getE hm).2 (by simp), (put_split hm).symm⟩

theorem sync_no {F : Fs} {s : List UInt8} (h : getE F s = none) : syncF F s = (6, F) := by unfold syncF; rw [h]
theorem cut_no {F : Fs} {s : List UInt8} (h : getE F s = none) (n : Int) : cutF F s n = (6, F) := by unfold cutF; rw [h]
theorem cut_bad {F : Fs} {s : List UInt8} {f : FileT} (h : getE F s = some f) {n : Int} (hn : n < 0 ∨ (f.b.length : Int) < n) : cutF F s n = (1, F) := by unfold cutF; rw [h]; exact if_pos hn
theorem cut_good {F : Fs} {s : List UInt8} {f : FileT} (h : getE F s = some f) {n : Int} (hn : ¬ (n < 0 ∨ (f.b.length : Int) < n)) : cutF F s n = (0, putE s ⟨f.b.take n.toNat, n.toNat⟩ F) := by unfold cutF; rw [h]; exact if_neg hn
theorem rem_no {F : Fs} {s : List UInt8} (h : getE F s = none) : removeF F s = (6, F) := by unfold removeF; rw [h]
theorem rem_some {F : Fs} {s : List UInt8} {f : FileT} (h : getE F s = some f) : removeF F s = (0, delE s F) := by unfold removeF; rw [h]
theorem app_bad {room : Nat} {F : Fs} {s : ByteArray} {l : List UInt8} (h : mayK s = false) : appendF room F s l = (1, F) := by unfold appendF; rw [h]; rfl
theorem app_full {room : Nat} {F : Fs} {s : ByteArray} {l : List UInt8} (h : mayK s = true) (hr : room < usedF F + l.length) : appendF room F s l = (3, F) := by unfold appendF; rw [if_pos h, if_pos hr]
theorem app_good {room : Nat} {F : Fs} {s : ByteArray} {l : List UInt8} (h : mayK s = true) (hr : ¬ room < usedF F + l.length) : appendF room F s l = (0, putE s.data.toList ⟨((getE F s.data.toList).getD f0).b ++ l, ((getE F s.data.toList).getD f0).sure⟩ F) := by unfold appendF; rw [if_pos h, if_neg hr]
theorem isSome_no {α : Type} {o : Option α} (h : o.isSome = false) : o = none := by cases o <;> simp_all
theorem isSome_some {α : Type} {o : Option α} (h : o.isSome = true) : ∃ x, o = some x := by cases o <;> simp_all

theorem len_le_put {α : Type} (s : List UInt8) (v : α) (es : KV α) {n : Nat} (h : es.length ≤ n) : (putE s v es).length ≤ n + 1 := Nat.le_trans (len_put_le s v es) (by omega)
theorem used_le_put {F : Fs} (hr : Ris F) (s : List UInt8) (f : FileT) : usedF (putE s f F) + ((getE F s).getD f0).b.length = usedF F + f.b.length := by
  cases h : getE F s with
  | none =>
    rw [used_put_new hr h]
    simp [f0]
  | some g =>
    have hm : (s, g) ∈ F := (mem_getE hr).1 h
    obtain ⟨l, r, rfl⟩ := List.append_of_mem hm
    rw [put_split hr, usedF_app, usedF_app, usedF_cons, usedF_cons]
    simp
    omega
theorem used_le_del {F : Fs} (s : List UInt8) : usedF (delE s F) ≤ usedF F := done_le (fun x => x == s) F

/-! A world in which a law keeps two maps beside a disk. -/
structure AllAt (w wr : World) (da ba bm : Nat) (Sd : Nat → Prop) (room : Nat) (F : Fs) (A G : KV Value) : Prop where
  gr : Gr w wr
  d : Use w.heap.size Sd wr da room F
  a : MapAt Try.prog 9 wr ba A
  s : MapAt Try.prog 9 wr bm G
  ne : ba ≠ bm
  na : ¬ Sd ba
  nm : ¬ Sd bm
  la : w.heap.size ≤ ba
  lm : w.heap.size ≤ bm

section
variable {w wr w' : World} {da ba bm room : Nat} {Sd : Nat → Prop} {F F' : Fs} {A G A' G' : KV Value} {e : Ending} {r : Int}
theorem AllAt.to_gr (h : AllAt w wr da ba bm Sd room F A G) (hg : Gr wr w') : AllAt w w' da ba bm Sd room F A G := ⟨h.gr.trans hg, h.d.gr hg, h.a.gr hg, h.s.gr hg, h.ne, h.na, h.nm, h.la, h.lm⟩
/-- something else has changed -/
theorem AllAt.beside {T : Nat → Prop} (h : AllAt w wr da ba bm Sd room F A G) (ho : Only T wr w') (h0 : ∀ i, T i → w.heap.size ≤ i) (h1 : ∀ i, Sd i → ¬ T i) (h2 : ¬ T ba) (h3 : ¬ T bm) : AllAt w w' da ba bm Sd room F A G :=
  ⟨gr_only h.gr ho h0, h.d.only ho h1, h.a.only ho h2, h.s.only ho h3, h.ne, h.na, h.nm, h.la, h.lm⟩
/-- the disk has done something -/
theorem AllAt.did (h : AllAt w wr da ba bm Sd room F A G) (hu : Use w.heap.size (ext Sd wr w') w' da room F') (ho : Only Sd wr w') : AllAt w w' da ba bm (ext Sd wr w') room F' A G := by
  refine ⟨gr_only h.gr ho h.d.lo, hu, h.a.only ho h.na, h.s.only ho h.nm, h.ne, fun hj => ?_, fun hj => ?_, h.la, h.lm⟩
  · have := h.a.lt
    rcases hj with hj | hj
    · exact h.na hj
    · omega
  · have := h.s.lt
    rcases hj with hj | hj
    · exact h.nm hj
    · omega
theorem AllAt.setA (h : AllAt w wr da ba bm Sd room F A G) (hm : MapAt Try.prog 9 w' ba A') (ht : wr.mapTurned w' ba) : AllAt w w' da ba bm Sd room F A' G := by
  have ho := turned_only ht
  exact ⟨gr_only h.gr ho (fun i hi => by rw [show i = ba from hi]; exact h.la), h.d.only ho (fun i hi e => h.na (by rw [← show i = ba from e]; exact hi)), hm, h.s.only ho (fun e => h.ne (show bm = ba from e).symm), h.ne, h.na, h.nm, h.la, h.lm⟩
theorem AllAt.setS (h : AllAt w wr da ba bm Sd room F A G) (hm : MapAt Try.prog 9 w' bm G') (ht : wr.mapTurned w' bm) : AllAt w w' da ba bm Sd room F A G' := by
  have ho := turned_only ht
  exact ⟨gr_only h.gr ho (fun i hi => by rw [show i = bm from hi]; exact h.lm), h.d.only ho (fun i hi e => h.nm (by rw [← show i = bm from e]; exact hi)), h.a.only ho (fun e => h.ne (show ba = bm from e)), hm, h.ne, h.na, h.nm, h.la, h.lm⟩
end

/-- .. and one deed in a block of its own, and the names -/
structure RdAt (w wr : World) (da ba bm : Nat) (Sd : Nat → Prop) (room : Nat) (F : Fs) (A G : KV Value) (g : Nat) (cs : Array Value) (N : Option Addr) (c : Nat) (ns : List Value) : Prop where
  all : AllAt w wr da ba bm Sd room F A G
  bl : Bl wr g 31 cs
  ng : ¬ Sd g
  lg : w.heap.size ≤ g
  nm : Mine.Vs wr N c ns
  nn : 0 < ns.length → ∀ ad, N = some ad → ¬ Sd ad.block ∧ ad.block ≠ ba ∧ ad.block ≠ bm
section
variable {w wr w' : World} {da ba bm room : Nat} {Sd : Nat → Prop} {F F' : Fs} {A G A' G' : KV Value} {e : Ending} {r : Int} {g c : Nat} {cs : Array Value} {N : Option Addr} {ns : List Value}
theorem vs_only {T : Nat → Prop} {xs : List Value} (h : Mine.Vs wr N c xs) (ho : Only T wr w') (hn : 0 < xs.length → ∀ ad, N = some ad → ¬ T ad.block) : Mine.Vs w' N c xs := ⟨fun j hj => by
  obtain ⟨ad, h1, h2⟩ := h.rd j hj
  exact ⟨ad, h1, ho.cell h2 (by rw [add_block]; exact hn (by omega) ad h1)⟩, h.le, h.max, h.nil⟩
theorem RdAt.to_gr (h : RdAt w wr da ba bm Sd room F A G g cs N c ns) (hg : Gr wr w') : RdAt w w' da ba bm Sd room F A G g cs N c ns := ⟨h.all.to_gr hg, h.bl.gr hg, h.ng, h.lg, h.nm.gr hg, h.nn⟩
theorem RdAt.did (h : RdAt w wr da ba bm Sd room F A G g cs N c ns) (hu : Use w.heap.size (ext Sd wr w') w' da room F') (ho : Only Sd wr w') : RdAt w w' da ba bm (ext Sd wr w') room F' A G g cs N c ns := by
  refine ⟨h.all.did hu ho, ho.bl h.bl h.ng, fun hj => ?_, h.lg, vs_only h.nm ho (fun hl ad hA => (h.nn hl ad hA).1), fun hl ad hA => ⟨fun hj => ?_, (h.nn hl ad hA).2⟩⟩
  · have := h.bl.lt
    rcases hj with hj | hj
    · exact h.ng hj
    · omega
  · have := h.nm.lt hl hA
    rcases hj with hj | hj
    · exact (h.nn hl ad hA).1 hj
    · omega
theorem RdAt.setA (h : RdAt w wr da ba bm Sd room F A G g cs N c ns) (hm : MapAt Try.prog 9 w' ba A') (ht : wr.mapTurned w' ba) : RdAt w w' da ba bm Sd room F A' G g cs N c ns := by
  have ho := turned_only ht
  exact ⟨h.all.setA hm ht, ho.bl h.bl (fun e => h.all.a.ne h.bl (show g = ba from e).symm), h.ng, h.lg, vs_only h.nm ho (fun hl ad hA => (h.nn hl ad hA).2.1), h.nn⟩
theorem RdAt.setS (h : RdAt w wr da ba bm Sd room F A G g cs N c ns) (hm : MapAt Try.prog 9 w' bm G') (ht : wr.mapTurned w' bm) : RdAt w w' da ba bm Sd room F A G' g cs N c ns := by
  have ho := turned_only ht
  exact ⟨h.all.setS hm ht, ho.bl h.bl (fun e => h.all.s.ne h.bl (show g = bm from e).symm), h.ng, h.lg, vs_only h.nm ho (fun hl ad hA => (h.nn hl ad hA).2.2), h.nn⟩
end

theorem used_take {F : Fs} {k : Nat} (hk : k < F.length) : usedF (F.take (k + 1)) = usedF (F.take k) + F[k].2.b.length := by
  rw [List.take_succ_eq_append_getElem hk, usedF_app, usedF_cons]
  simp [usedF]
theorem used_take_le (F : Fs) (k : Nat) : usedF (F.take k) ≤ usedF F := by
  have := usedF_app (F.take k) (F.drop k)
  rw [List.take_append_drop] at this
  omega
/-- 'all[names[k]]' -/
theorem AllAt.look_at {w wr : World} {da ba bm room : Nat} {Sd : Nat → Prop} {F F' : Fs} {G : KV Value} (h : AllAt w wr da ba bm Sd room F' (valsA F) G) (s : ByteArray) (hs : s.size ≤ maxLen) :
    (Instr.lookup 26 (.map (some ba)) (.string s) false).run Try.prog wr = .ok (.string (bs ((getE F s.data.toList).getD f0).b)) wr := by
  have := h.a.look (z := .string ⟨#[]⟩) Try.underlying9 Try.underlying26 (by kernel_rfl) hs
  rw [was_eq] at this
  exact this
theorem AllAt.look_ok {w wr : World} {da ba bm room : Nat} {Sd : Nat → Prop} {F F' : Fs} {G : KV Value} (h : AllAt w wr da ba bm Sd room F' (valsA F) G) (s : ByteArray) (hs : s.size ≤ maxLen) :
    (Instr.lookup 26 (.map (some ba)) (.string s) true).run Try.prog wr = .ok (.tuple #[.string (bs ((getE F s.data.toList).getD f0).b), .bool (getE F s.data.toList).isSome]) wr := by
  have := h.a.look_ok (z := .string ⟨#[]⟩) Try.underlying9 Try.underlying26 (by kernel_rfl) hs
  rw [was_eq, there_eq] at this
  exact this
theorem AllAt.sure_look {w wr : World} {da ba bm room : Nat} {Sd : Nat → Prop} {F : Fs} {A : KV Value} {G : KV Int} (h : AllAt w wr da ba bm Sd room F A (valsG G)) (s : ByteArray) (hs : s.size ≤ maxLen) :
    (Instr.lookup 27 (.map (some bm)) (.string s) false).run Try.prog wr = .ok (.int .i64 ((getE G s.data.toList).getD 0)) wr := by
  have := h.s.look (z := .int .i64 0) Try.underlying9 Try.underlying27 (by kernel_rfl) hs
  rw [valsG_get] at this
  rw [this]
  cases getE G s.data.toList <;> rfl
theorem name_small {w wr : World} {da ba bm room : Nat} {Sd : Nat → Prop} {F : Fs} {A G : KV Value} (h : AllAt w wr da ba bm Sd room F A G) {k : Nat} (hk : k < F.length) : (bs F[k].1).size ≤ maxLen := by
  have := (h.d.is.names _ (List.getElem_mem hk)).2.1
  rw [bs_size]
  unfold maxLen
  omega
theorem name_get {F : Fs} (hr : Ris F) {k : Nat} (hk : k < F.length) : (getE F F[k].1).getD f0 = F[k].2 := by
  have h : getE F F[k].1 = some F[k].2 := (mem_getE hr).2 (List.getElem_mem hk)
  rw [h]
  rfl

/-- the world of a law's round -/
def Keeps (w : World) (da ba bm room i : Nat) (wr : World) : Prop := ∃ Sd F G, AllAt w wr da ba bm Sd room F (valsA F) (valsG G) ∧ SureOk F G ∧ F.length ≤ i ∧ G.length ≤ 41 * i ∧ usedF F ≤ 60 * i
theorem used_crash : ∀ (zs : List Int) (F : Fs), usedF (crashF zs F) ≤ usedF F
  | _, [] => Nat.le_refl _
  | zs, p :: r => by
    have h1 := used_crash zs.tail r
    have h2 := hit_len p.2 (zs.headD 0)
    unfold usedF at h1
    simp only [crashF, usedF, List.map_cons, List.sum_cons]
    omega
theorem mix_len (zs : List Int) (F : Fs) (k : Nat) : (mixF zs F k).length = F.length := by
  unfold mixF
  rw [List.length_append, crash_len, ← List.length_append, List.take_append_drop]
theorem keep_head {zs : List Int} {k : Nat} (h : k < zs.length) : (zs.drop k).headD 0 = zs[k] := by
  rw [List.drop_eq_getElem_cons h]
  rfl
theorem keep_none {zs : List Int} {k : Nat} (h : ¬ k < zs.length) : (zs.drop k).headD 0 = 0 := by
  rw [List.drop_eq_nil_of_le (by omega)]
  rfl
theorem ints_lt {w : World} {A : Option Addr} {c : Nat} {zs : List Int} (h : Ints .i64 w A c zs) {ad : Addr} (hl : 0 < zs.length) (hA : A = some ad) : ad.block < w.heap.size := by
  obtain ⟨ad', h1, h2⟩ := h.rd 0 hl
  rw [hA] at h1
  injection h1 with h1
  subst h1
  have := World.block_lt_of_cell? w _ h2
  simpa [add_block] using this
theorem sures_all {S : Nat → Prop} {w : World} {d room : Nat} {F : Fs} (h : DiskIs S w d room F) {k : Nat} (hk : k < F.length) : F[k].2.sure ≤ F[k].2.b.length := by
  obtain ⟨es, m, rfl, h⟩ := h
  obtain ⟨e, he, h2⟩ := List.mem_map.1 (List.getElem_mem hk)
  rw [← h2]
  exact (h.ent e he).file.le
theorem agg_str (w : World) : (isAgg 9).run Try.prog w = .ok false w := by kernel_rfl
theorem size_str (w : World) : (sizeOf (Try.prog.elem 32)).run Try.prog w = .ok 1 w := by kernel_rfl
theorem zero_str (w : World) : (zeroValue 9).run Try.prog w = .ok (.string ⟨#[]⟩) w := by kernel_rfl
theorem zero_int (w : World) : (zeroValue 3).run Try.prog w = .ok (.int .i64 0) w := by kernel_rfl
/-- what the world is when so many writers have come up -/
def at3 (a b c : World) (m : Nat) : World := match m with | 0 => a | 1 => b | _ => c
def at4 (a b c d : World) (m : Nat) : World := match m with | 0 => a | 1 => b | 2 => c | _ => d
theorem at3_all {p : World → Prop} {a b c : World} (h1 : p a) (h2 : p b) (h3 : p c) : ∀ m, p (at3 a b c m)
  | 0 => h1
  | 1 => h2
  | _ + 2 => h3
theorem keeps_mk {w wr : World} {da ba bm room i : Nat} {Sd : Nat → Prop} {F : Fs} {G : KV Int} (h : AllAt w wr da ba bm Sd room F (valsA F) (valsG G)) (hs : SureOk F G) (h1 : F.length ≤ i) (h2 : G.length ≤ 41 * i) (h3 : usedF F ≤ 60 * i) : Keeps w da ba bm room i wr := ⟨Sd, F, G, h, hs, h1, h2, h3⟩

end Go.Proofs.Yteflmockckmciaa
