/-
  A disk in a caller's hands.
-/
import Derived.Test.YtkcfieoflkhdpaaDoorDiskApp
import Derived.Test.YtkcfieoflkhdpaaDoorDiskList
import Derived.Test.YtkcfieoflkhdpaaDoorDiskCrash
import Derived.Lib.SlBytesConst
import Derived.Test.YtkcfieoflkhdpaaDoorLent
namespace Go.Proofs.YtkcfieoflkhdpaaDoor
open Go Go.RowKit MapS DiskMem DiskFile DiskHit DiskFind DiskBegin DiskOps DiskApp DiskList DiskCrash KeyMath
set_option maxRecDepth 100000

/-- a disk of a caller's: its blocks lie from lo on, and are there -/
structure Use (lo : Nat) (S : Nat → Prop) (w : World) (d room : Nat) (F : Fs) : Prop where
  is : DiskIs S w d room F
  lo : ∀ i, S i → lo ≤ i
  hi : ∀ i, S i → i < w.heap.size
theorem Use.gr {lo : Nat} {S : Nat → Prop} {w w' : World} {d room : Nat} {F : Fs} (h : Use lo S w d room F) (hg : Gr w w') : Use lo S w' d room F := ⟨h.is.gr hg, h.lo, fun i hi => Nat.lt_of_lt_of_le (h.hi i hi) hg.size⟩
/-- another one's blocks have changed -/
theorem Use.only {lo : Nat} {S T : Nat → Prop} {w w' : World} {d room : Nat} {F : Fs} (h : Use lo S w d room F) (ho : Only T w w') (hd : ∀ i, S i → ¬ T i) : Use lo S w' d room F := ⟨h.is.only ho (fun i _ hi => hd i hi), h.lo, fun i hi => Nat.lt_of_lt_of_le (h.hi i hi) ho.size⟩
theorem Use.new {lo : Nat} {S : Nat → Prop} {w w' : World} {d room : Nat} {F : Fs} (h : Use lo S w d room F) (ho : Only S w w') {F' : Fs} (hd : DiskIs (ext S w w') w' d room F') (hlo : lo ≤ w.heap.size) : Use lo (ext S w w') w' d room F' :=
  ⟨hd, fun i hi => by
    rcases hi with hi | hi
    · exact h.lo i hi
    · omega, fun i hi => by
    rcases hi with hi | hi
    · exact Nat.lt_of_lt_of_le (h.hi i hi) ho.size
    · exact hi.2⟩
theorem Use.does {lo : Nat} {S : Nat → Prop} {w w' : World} {d room : Nat} {F F' : Fs} {r : Int} {e : Ending} (h : Use lo S w d room F) (hd : Does S w d room r F' e w') (hlo : lo ≤ w.heap.size) : e = .returned (.int .i64 r) ∧ Use lo (ext S w w') w' d room F' ∧ Only S w w' :=
  ⟨hd.1, h.new hd.2.1 hd.2.2 hlo, hd.2.1⟩
/-- what was there ahead of a disk is as it was -/
theorem gr_only {S : Nat → Prop} {a w w' : World} (h : Gr a w) (ho : Only S w w') (hS : ∀ i, S i → a.heap.size ≤ i) : Gr a w' :=
  ((Only.of_gr h).trans ho fun i hi e => absurd (hS i e) (by omega)).to_gr fun _ _ e => e
theorem use_new {w w' : World} {room : Nat} (hroom : (room : Int) ≤ 9223372036854775807) (hb : Bl w' w.heap.size 47 #[.int .i64 room, .int .i64 0, .map none]) (hs : w'.heap.size = w.heap.size + 1) : Use w.heap.size (onB w.heap.size) w' w.heap.size room [] := by
  refine ⟨⟨[], none, rfl, hb, rfl, fun _ => rfl, fun b hb => (by cases hb), fun e he => absurd he (by simp), List.Pairwise.nil, ris_nil, hroom, Nat.zero_le _⟩, fun i hi => ?_, fun i hi => ?_⟩
  · rw [show i = w.heap.size from hi]; exact Nat.le_refl _
  · rw [show i = w.heap.size from hi, hs]; omega

/-- what a caller's disk has answered -/
def Done (lo : Nat) (S : Nat → Prop) (w : World) (d room : Nat) (r : Int) (F : Fs) (e : Ending) (w' : World) : Prop := e = .returned (.int .i64 r) ∧ Use lo (ext S w w') w' d room F ∧ Only S w w'
theorem does_done {lo : Nat} {S : Nat → Prop} {w w1 w' : World} {d room : Nat} {F F' : Fs} {r : Int} {e : Ending} (hu : Use lo S w d room F) (hg : Gr w w1) (h : Does S w1 d room r F' e w') (hlo : lo ≤ w.heap.size) : Done lo S w d room r F' e w' := by
  obtain ⟨h1, h2, h3⟩ := h
  have ho : Only S w w' := (Only.gr hg S).trans h2 fun _ _ hi => hi
  refine ⟨h1, hu.new ho (h3.mono fun i hi => ?_) hlo, ho⟩
  rcases hi with hi | hi
  · exact .inl hi
  · exact .inr ⟨Nat.le_trans hg.size hi.1, hi.2⟩
/-- Append of bytes that lie elsewhere -/
theorem use_append {lo : Nat} {S : Nat → Prop} {w w1 : World} {d room : Nat} {F : Fs} (h : Use lo S w d room F) (hlo : lo ≤ w.heap.size) (hg : Gr w w1) (s : ByteArray) (hs : (s.size : Int) ≤ 281474976710656) (A : Option Addr) (n c : Nat) (l : List UInt8) (hn : n = l.length) (hb : By w1 A c l)
    (ha : ∀ ad, 0 < l.length → A = some ad → ad.block < lo ∨ w.heap.size ≤ ad.block) (hcnt : F.length ≤ 1000000000) (hsz : usedF F + l.length ≤ 1000000000) {r : Int} {F' : Fs} (hF : appendF room F s l = (r, F')) :
    Calls Tryd.prog 25 #[.pointer (some ⟨d, 0, none⟩), .string s, .slice A n c] w1 (Done lo S w d room r F') := by
  have h1 := Append_ok (h.gr hg).is hs A n c l hn hb (fun hl ad hA e => by
    have h2 := h.lo _ e
    have h3 := h.hi _ e
    rcases ha ad hl hA with h4 | h4 <;> omega) hcnt hsz
  rw [hF] at h1
  exact h1.mono fun e w' hd => does_done h hg hd hlo
theorem use_lit {lo : Nat} {S : Nat → Prop} {w : World} {d room : Nat} {F : Fs} (h : Use lo S w d room F) (hlo : lo ≤ w.heap.size) (s : ByteArray) (hs : (s.size : Int) ≤ 281474976710656) (n c : Nat) (l : List UInt8) (m : Nat × Nat) (hn : n = l.length) (hc : c = l.length)
    (hcnt : F.length ≤ 1000000000) (hsz : usedF F + l.length ≤ 1000000000) {r : Int} {F' : Fs} (hF : appendF room F s l = (r, F')) :
    Calls Tryd.prog 25 #[.pointer (some ⟨d, 0, none⟩), .string s, .slice (some ⟨w.heap.size, 0, none⟩) n c] (w.alloc (.cells (bvs l).toArray 5 m)) (Done lo S w d room r F') := by
  subst hn
  subst hc
  exact use_append h hlo ((Gr.refl w).alloc _) s hs _ _ _ l rfl (by_lit w 5 l m (by unfold maxLen; omega)) (fun ad _ hA => .inr (by injection hA with hA; rw [← hA]; exact Nat.le_refl _)) hcnt hsz hF
theorem use_sync {lo : Nat} {S : Nat → Prop} {w : World} {d room : Nat} {F : Fs} (h : Use lo S w d room F) (hlo : lo ≤ w.heap.size) (s : ByteArray) (hs : s.size ≤ maxLen) {r : Int} {F' : Fs} (hF : syncF F s.data.toList = (r, F')) :
    Calls Tryd.prog 18 #[.pointer (some ⟨d, 0, none⟩), .string s] w (Done lo S w d room r F') := by
  have h1 := Sync_ok h.is hs
  rw [hF] at h1
  exact h1.mono fun e w' hd => does_done h (Gr.refl w) hd hlo
theorem use_cut {lo : Nat} {S : Nat → Prop} {w : World} {d room : Nat} {F : Fs} (h : Use lo S w d room F) (hlo : lo ≤ w.heap.size) (s : ByteArray) (hs : s.size ≤ maxLen) (n : Int) (hn : -9223372036854775808 ≤ n ∧ n ≤ 9223372036854775807) {r : Int} {F' : Fs} (hF : cutF F s.data.toList n = (r, F')) :
    Calls Tryd.prog 31 #[.pointer (some ⟨d, 0, none⟩), .string s, .int .i64 n] w (Done lo S w d room r F') := by
  have h1 := Cut_ok h.is hs n hn
  rw [hF] at h1
  exact h1.mono fun e w' hd => does_done h (Gr.refl w) hd hlo
theorem use_remove {lo : Nat} {S : Nat → Prop} {w : World} {d room : Nat} {F : Fs} (h : Use lo S w d room F) (hlo : lo ≤ w.heap.size) (s : ByteArray) (hs : s.size ≤ maxLen) {r : Int} {F' : Fs} (hF : removeF F s.data.toList = (r, F')) :
    Calls Tryd.prog 17 #[.pointer (some ⟨d, 0, none⟩), .string s] w (Done lo S w d room r F') := by
  have h1 := Remove_ok h.is hs
  rw [hF] at h1
  exact h1.mono fun e w' hd => does_done h (Gr.refl w) hd hlo
/-- what a caller's disk is behind a crash -/
def Hit_ (lo : Nat) (S : Nat → Prop) (w : World) (d room : Nat) (F : Fs) (e : Ending) (w' : World) : Prop := e = .returned (.tuple #[]) ∧ Use lo (ext S w w') w' d room F ∧ Only S w w'
theorem use_crash {lo : Nat} {S : Nat → Prop} {w w1 : World} {d room : Nat} {F : Fs} (h : Use lo S w d room F) (hlo : lo ≤ w.heap.size) (hg : Gr w w1) (A : Option Addr) (n c : Nat) (zs : List Int) (hn : n = zs.length) (hi : Ints .i64 w1 A c zs)
    (ha : ∀ ad, 0 < zs.length → A = some ad → ad.block < lo ∨ w.heap.size ≤ ad.block) (hF : F.length ≤ 1000000000) {F' : Fs} (he : crashF zs F = F') :
    Calls Tryd.prog 9 #[.pointer (some ⟨d, 0, none⟩), .slice A n c] w1 (Hit_ lo S w d room F') := by
  subst he
  refine (Crash_ok (h.gr hg).is A n c zs hn hi (fun hl ad hA e => by
    have h2 := h.lo _ e
    have h3 := h.hi _ e
    rcases ha ad hl hA with h4 | h4 <;> omega) hF).mono ?_
  rintro e w' ⟨h1, h2, h3⟩
  have ho : Only S w w' := (Only.gr hg S).trans h2 fun _ _ hi => hi
  refine ⟨h1, h.new ho (h3.mono fun i hi => ?_) hlo, ho⟩
  rcases hi with hi | hi
  · exact .inl hi
  · exact .inr ⟨Nat.le_trans hg.size hi.1, hi.2⟩
theorem ints_lit (w : World) (e : TypeId) (zs : List Int) (m : Nat × Nat) (h : zs.length ≤ maxLen) (hw : ∀ z ∈ zs, (Lit.int .i64 z).wf = true) : Ints .i64 (w.alloc (.cells (zs.map (Value.int .i64)).toArray e m)) (some ⟨w.heap.size, 0, none⟩) zs.length zs := by
  refine ⟨fun j hj => ⟨_, rfl, ?_⟩, Nat.le_refl _, h, hw⟩
  have : (⟨w.heap.size, 0, none⟩ : Addr).add j = ⟨w.heap.size, j, none⟩ := by unfold Addr.add; split <;> simp_all
  rw [this, cell_of_row _ w.heap.size j _ e m (heap_alloc_new w _)]
  simp [hj]
theorem use_crash_lit {lo : Nat} {S : Nat → Prop} {w : World} {d room : Nat} {F : Fs} (h : Use lo S w d room F) (hlo : lo ≤ w.heap.size) (n c : Nat) (zs : List Int) (m : Nat × Nat) (e : TypeId) (hn : n = zs.length) (hc : c = zs.length) (hl : zs.length ≤ 1000) (hw : ∀ z ∈ zs, (Lit.int .i64 z).wf = true) (hF : F.length ≤ 1000000000) {F' : Fs} (he : crashF zs F = F') :
    Calls Tryd.prog 9 #[.pointer (some ⟨d, 0, none⟩), .slice (some ⟨w.heap.size, 0, none⟩) n c] (w.alloc (.cells (zs.map (Value.int .i64)).toArray e m)) (Hit_ lo S w d room F') := by
  subst hn
  subst hc
  exact use_crash h hlo ((Gr.refl w).alloc _) _ _ _ zs rfl (ints_lit w e zs m (by unfold maxLen; omega) hw) (fun ad _ hA => .inr (by injection hA with hA; rw [← hA]; exact Nat.le_refl _)) hF he

end Go.Proofs.YtkcfieoflkhdpaaDoor
