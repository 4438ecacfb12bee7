/-
  A disk in a caller's hands; 'begun' of the statements on disk: true.
-/
import Derived.Test.YteflmockckmciaaDiskCopy
import Derived.Lib.SlBytesConst
import Derived.Test.YteflmockckmciaaLent
namespace Go.Proofs.Yteflmockckmciaa
open Go Go.RowKit MapS DiskMem DiskFile DiskHit DiskFind DiskBegin DiskOps DiskApp DiskList DiskCrash DiskCopy KeyMath
set_option maxRecDepth 100000

/-- a disk of a caller's: its blocks lie from lo on, and are there -/
structure Use (lo : Nat) (S : Nat → Prop) (w : World) (d room : Nat) (F : Fs) : Prop where
  is : DiskIs S w d room F
  lo : ∀ i, S i → lo ≤ i
  hi : ∀ i, S i → i < w.heap.size
theorem Use.gr {lo : Nat} {S : Nat → Prop} {w w' : World} {d room : Nat} {F : Fs} (h : Use lo S w d room F) (hg : Gr w w') : Use lo S w' d room F := ⟨h.is.gr hg, h.lo, fun i hi => Nat.lt_of_lt_of_le (h.hi i hi) hg.size⟩
/-- another one's blocks have changed -/
theorem Use.only {lo : Nat} {S T : Nat → Prop} {w w' : World} {d room : Nat} {F : Fs} (h : Use lo S w d room F) (ho : Only T w w') (hd : ∀ i, S i → ¬ T i) : Use lo S w' d room F := ⟨h.is.only ho (fun i _ hi => hd i hi), h.lo, fun i hi => Nat.lt_of_lt_of_le (h.hi i hi) ho.size⟩
theorem Use.new {lo : Nat} {S : Nat → Prop} {w w' : World} {d room : Nat} {F : Fs} (h : Use lo S w d room F) (ho : Only S w w') {F' : Fs} (hd : DiskIs (ext S w w') w' d room F') (hlo : lo ≤ w.heap.size) : Use lo (ext S w w') w' d room F' :=
  ⟨hd, fun i hi => by
    rcases hi with hi | hi
    · exact h.lo i hi
    · omega, fun i hi => by
    rcases hi with hi | hi
    · exact Nat.lt_of_lt_of_le (h.hi i hi) ho.size
    · exact hi.2⟩
theorem Use.does {lo : Nat} {S : Nat → Prop} {w w' : World} {d room : Nat} {F F' : Fs} {r : Int} {e : Ending} (h : Use lo S w d room F) (hd : Does S w d room r F' e w') (hlo : lo ≤ w.heap.size) : e = .returned (.int .i64 r) ∧ Use lo (ext S w w') w' d room F' ∧ Only S w w' :=
  ⟨hd.1, h.new hd.2.1 hd.2.2 hlo, hd.2.1⟩
/-- what was there ahead of a disk is as it was -/
theorem gr_only {S : Nat → Prop} {a w w' : World} (h : Gr a w) (ho : Only S w w') (hS : ∀ i, S i → a.heap.size ≤ i) : Gr a w' :=
  ((Only.of_gr h).trans ho fun i hi e => absurd (hS i e) (by omega)).to_gr fun _ _ e => e
theorem use_new {w w' : World} {room : Nat} (hroom : (room : Int) ≤ 9223372036854775807) (hb : Bl w' w.heap.size 56 #[.int .i64 room, .int .i64 0, .map none]) (hs : w'.heap.size = w.heap.size + 1) : Use w.heap.size (onB w.heap.size) w' w.heap.size room [] := by
  refine ⟨⟨[], none, rfl, hb, rfl, fun _ => rfl, fun b hb => (by cases hb), fun e he => absurd he (by simp), List.Pairwise.nil, ris_nil, hroom, Nat.zero_le _⟩, fun i hi => ?_, fun i hi => ?_⟩
  · rw [show i = w.heap.size from hi]; exact Nat.le_refl _
  · rw [show i = w.heap.size from hi, hs]; omega

/-- what a caller's disk has answered -/
def Done (lo : Nat) (S : Nat → Prop) (w : World) (d room : Nat) (r : Int) (F : Fs) (e : Ending) (w' : World) : Prop := e = .returned (.int .i64 r) ∧ Use lo (ext S w w') w' d room F ∧ Only S w w'
theorem does_done {lo : Nat} {S : Nat → Prop} {w w1 w' : World} {d room : Nat} {F F' : Fs} {r : Int} {e : Ending} (hu : Use lo S w d room F) (hg : Gr w w1) (h : Does S w1 d room r F' e w') (hlo : lo ≤ w.heap.size) : Done lo S w d room r F' e w' := by
  obtain ⟨h1, h2, h3⟩ := h
  have ho : Only S w w' := (Only.gr hg S).trans h2 fun _ _ hi => hi
  refine ⟨h1, hu.new ho (h3.mono fun i hi => ?_) hlo, ho⟩
  rcases hi with hi | hi
  · exact .inl hi
  · exact .inr ⟨Nat.le_trans hg.size hi.1, hi.2⟩
/-- Append of bytes that lie elsewhere -/
theorem use_append {lo : Nat} {S : Nat → Prop} {w w1 : World} {d room : Nat} {F : Fs} (h : Use lo S w d room F) (hlo : lo ≤ w.heap.size) (hg : Gr w w1) (s : ByteArray) (hs : (s.size : Int) ≤ 281474976710656) (A : Option Addr) (n c : Nat) (l : List UInt8) (hn : n = l.length) (hb : By w1 A c l)
    (ha : ∀ ad, 0 < l.length → A = some ad → ad.block < lo ∨ w.heap.size ≤ ad.block) (hcnt : F.length ≤ 1000000000) (hsz : usedF F + l.length ≤ 1000000000) {r : Int} {F' : Fs} (hF : appendF room F s l = (r, F')) :
    Calls Try.prog 15 #[.pointer (some ⟨d, 0, none⟩), .string s, .slice A n c] w1 (Done lo S w d room r F') := by
  have h1 := Append_ok (h.gr hg).is hs A n c l hn hb (fun hl ad hA e => by
    have h2 := h.lo _ e
    have h3 := h.hi _ e
    rcases ha ad hl hA with h4 | h4 <;> omega) hcnt hsz
  rw [hF] at h1
  exact h1.mono fun e w' hd => does_done h hg hd hlo
theorem use_lit {lo : Nat} {S : Nat → Prop} {w : World} {d room : Nat} {F : Fs} (h : Use lo S w d room F) (hlo : lo ≤ w.heap.size) (s : ByteArray) (hs : (s.size : Int) ≤ 281474976710656) (n c : Nat) (l : List UInt8) (m : Nat × Nat) (hn : n = l.length) (hc : c = l.length)
    (hcnt : F.length ≤ 1000000000) (hsz : usedF F + l.length ≤ 1000000000) {r : Int} {F' : Fs} (hF : appendF room F s l = (r, F')) :
    Calls Try.prog 15 #[.pointer (some ⟨d, 0, none⟩), .string s, .slice (some ⟨w.heap.size, 0, none⟩) n c] (w.alloc (.cells (bvs l).toArray 5 m)) (Done lo S w d room r F') := by
  subst hn
  subst hc
  exact use_append h hlo ((Gr.refl w).alloc _) s hs _ _ _ l rfl (by_lit w 5 l m (by unfold maxLen; omega)) (fun ad _ hA => .inr (by injection hA with hA; rw [← hA]; exact Nat.le_refl _)) hcnt hsz hF
theorem use_sync {lo : Nat} {S : Nat → Prop} {w : World} {d room : Nat} {F : Fs} (h : Use lo S w d room F) (hlo : lo ≤ w.heap.size) (s : ByteArray) (hs : s.size ≤ maxLen) {r : Int} {F' : Fs} (hF : syncF F s.data.toList = (r, F')) :
    Calls Try.prog 10 #[.pointer (some ⟨d, 0, none⟩), .string s] w (Done lo S w d room r F') := by
  have h1 := Sync_ok h.is hs
  rw [hF] at h1
  exact h1.mono fun e w' hd => does_done h (Gr.refl w) hd hlo
theorem use_cut {lo : Nat} {S : Nat → Prop} {w : World} {d room : Nat} {F : Fs} (h : Use lo S w d room F) (hlo : lo ≤ w.heap.size) (s : ByteArray) (hs : s.size ≤ maxLen) (n : Int) (hn : -9223372036854775808 ≤ n ∧ n ≤ 9223372036854775807) {r : Int} {F' : Fs} (hF : cutF F s.data.toList n = (r, F')) :
    Calls Try.prog 11 #[.pointer (some ⟨d, 0, none⟩), .string s, .int .i64 n] w (Done lo S w d room r F') := by
  have h1 := Cut_ok h.is hs n hn
  rw [hF] at h1
  exact h1.mono fun e w' hd => does_done h (Gr.refl w) hd hlo
theorem use_remove {lo : Nat} {S : Nat → Prop} {w : World} {d room : Nat} {F : Fs} (h : Use lo S w d room F) (hlo : lo ≤ w.heap.size) (s : ByteArray) (hs : s.size ≤ maxLen) {r : Int} {F' : Fs} (hF : removeF F s.data.toList = (r, F')) :
    Calls Try.prog 12 #[.pointer (some ⟨d, 0, none⟩), .string s] w (Done lo S w d room r F') := by
  have h1 := Remove_ok h.is hs
  rw [hF] at h1
  exact h1.mono fun e w' hd => does_done h (Gr.refl w) hd hlo
/-- what a caller's disk is behind a crash -/
def Hit_ (lo : Nat) (S : Nat → Prop) (w : World) (d room : Nat) (F : Fs) (e : Ending) (w' : World) : Prop := e = .returned (.tuple #[]) ∧ Use lo (ext S w w') w' d room F ∧ Only S w w'
theorem use_crash {lo : Nat} {S : Nat → Prop} {w w1 : World} {d room : Nat} {F : Fs} (h : Use lo S w d room F) (hlo : lo ≤ w.heap.size) (hg : Gr w w1) (A : Option Addr) (n c : Nat) (zs : List Int) (hn : n = zs.length) (hi : Ints .i64 w1 A c zs)
    (ha : ∀ ad, 0 < zs.length → A = some ad → ad.block < lo ∨ w.heap.size ≤ ad.block) (hF : F.length ≤ 1000000000) {F' : Fs} (he : crashF zs F = F') :
    Calls Try.prog 13 #[.pointer (some ⟨d, 0, none⟩), .slice A n c] w1 (Hit_ lo S w d room F') := by
  subst he
  refine (Crash_ok (h.gr hg).is A n c zs hn hi (fun hl ad hA e => by
    have h2 := h.lo _ e
    have h3 := h.hi _ e
    rcases ha ad hl hA with h4 | h4 <;> omega) hF).mono ?_
  rintro e w' ⟨h1, h2, h3⟩
  have ho : Only S w w' := (Only.gr hg S).trans h2 fun _ _ hi => hi
  refine ⟨h1, h.new ho (h3.mono fun i hi => ?_) hlo, ho⟩
  rcases hi with hi | hi
  · exact .inl hi
  · exact .inr ⟨Nat.le_trans hg.size hi.1, hi.2⟩
theorem ints_lit (w : World) (e : TypeId) (zs : List Int) (m : Nat × Nat) (h : zs.length ≤ maxLen) (hw : ∀ z ∈ zs, (Lit.int .i64 z).wf = true) : Ints .i64 (w.alloc (.cells (zs.map (Value.int .i64)).toArray e m)) (some ⟨w.heap.size, 0, none⟩) zs.length zs := by
  refine ⟨fun j hj => ⟨_, rfl, ?_⟩, Nat.le_refl _, h, hw⟩
  have : (⟨w.heap.size, 0, none⟩ : Addr).add j = ⟨w.heap.size, j, none⟩ := by unfold Addr.add; split <;> simp_all
  rw [this, cell_of_row _ w.heap.size j _ e m (heap_alloc_new w _)]
  simp [hj]
theorem use_crash_lit {lo : Nat} {S : Nat → Prop} {w : World} {d room : Nat} {F : Fs} (h : Use lo S w d room F) (hlo : lo ≤ w.heap.size) (n c : Nat) (zs : List Int) (m : Nat × Nat) (e : TypeId) (hn : n = zs.length) (hc : c = zs.length) (hl : zs.length ≤ 1000) (hw : ∀ z ∈ zs, (Lit.int .i64 z).wf = true) (hF : F.length ≤ 1000000000) {F' : Fs} (he : crashF zs F = F') :
    Calls Try.prog 13 #[.pointer (some ⟨d, 0, none⟩), .slice (some ⟨w.heap.size, 0, none⟩) n c] (w.alloc (.cells (zs.map (Value.int .i64)).toArray e m)) (Hit_ lo S w d room F') := by
  subst hn
  subst hc
  exact use_crash h hlo ((Gr.refl w).alloc _) _ _ _ zs rfl (ints_lit w e zs m (by unfold maxLen; omega) hw) (fun ad _ hA => .inr (by injection hA with hA; rw [← hA]; exact Nat.le_refl _)) hF he

/-! what 'begun' does -/
deriving instance DecidableEq for FileT
theorem b1 : appendF 10 [] ⟨#[102]⟩ [97, 98] = (0, [([102], ⟨[97, 98], 0⟩)]) := by decide
theorem b2 : syncF [([102], ⟨[97, 98], 0⟩)] [102] = (0, [([102], ⟨[97, 98], 2⟩)]) := by decide
theorem b3 : appendF 10 [([102], ⟨[97, 98], 2⟩)] ⟨#[102]⟩ [99, 100] = (0, [([102], ⟨[97, 98, 99, 100], 2⟩)]) := by decide
theorem b4 : appendF 10 [([102], ⟨[97, 98, 99, 100], 2⟩)] ⟨#[102]⟩ (List.replicate 9 0) = (3, [([102], ⟨[97, 98, 99, 100], 2⟩)]) := by decide
theorem b5 : crashF [1] [([102], ⟨[97, 98, 99, 100], 2⟩)] = [([102], ⟨[97, 98, 99], 3⟩)] := by decide
theorem b6 : cutF [([102], ⟨[97, 98, 99], 3⟩)] [102] 1 = (0, [([102], ⟨[97], 1⟩)]) := by decide
theorem b7 : removeF [([102], ⟨[97], 1⟩)] [102] = (0, []) := by decide
theorem b8 : removeF [] [102] = (6, []) := by decide

theorem make9 (w : World) : (Instr.makeSlice 28 (.int .i64 9) (.int .i64 9)).run Try.prog w = .ok (.slice (some ⟨w.heap.size, 0, none⟩) 9 9) (w.alloc (.cells (bvs (List.replicate 9 0)).toArray 5)) := by
  rw [← made_zeros]
  exact make_bytes w 9 (by omega)

set_option maxHeartbeats 1000000 in
theorem begun_ok (w : World) : Calls Try.prog 7 #[] w fun e w' => e = .returned (.bool true) ∧ Gr w w' := by
  have kc := fun (w : World) (C : Array Value) (n c : Nat) => Lib.run_convert_bytes_const (P := Try.prog) w 28 5 C n c Try.underlying28 Try.underlying5
  go_enter Try.func7, Try.ntmps7
  go_wp2_with fail
  refine (new_ok 10 w).mono ?_
  rintro e w1 ⟨rfl, hg1, hb1, hs1⟩
  have u1 := use_new (room := 10) (by omega) hb1 hs1
  have l1 := hg1.size
  have L := hide (Nat.le_refl w.heap.size)
  unfold ptr
  obtain ⟨d, hd⟩ : ∃ d, d = w.heap.size := ⟨_, rfl⟩
  rw [← hd] at u1 l1 ⊢
  have U1 := hide u1
  have HD := hide hd
  have G1 := hide hg1
  have L1 := hide l1
  clear hg1 hb1 hs1 hd u1 l1
  go_wp2_with fail
  refine (use_lit U1.out L1.out _ (by decide) 2 2 [97, 98] _ rfl rfl (by decide) (by decide) b1).mono ?_
  rintro e w2 ⟨rfl, u2, o2⟩
  have U2 := hide u2
  have L2 := hide (Nat.le_trans L1.out o2.size)
  have G2 := hide (gr_only G1.out o2 (fun i hi => HD.out ▸ U1.out.lo i hi))
  clear u2 o2
  go_wp2_with fail
  refine (use_sync U2.out L2.out _ (by decide) b2).mono ?_
  rintro e w3 ⟨rfl, u3, o3⟩
  have U3 := hide u3
  have L3 := hide (Nat.le_trans L2.out o3.size)
  have G3 := hide (gr_only G2.out o3 (fun i hi => HD.out ▸ U2.out.lo i hi))
  clear u3 o3
  go_wp2_with fail
  refine (use_lit U3.out L3.out _ (by decide) 2 2 [99, 100] _ rfl rfl (by decide) (by decide) b3).mono ?_
  rintro e w4 ⟨rfl, u4, o4⟩
  have U4 := hide u4
  have L4 := hide (Nat.le_trans L3.out o4.size)
  have G4 := hide (gr_only G3.out o4 (fun i hi => HD.out ▸ U3.out.lo i hi))
  clear u4 o4
  have hm := make9
  go_wp2_with fail
  refine (use_lit (m := (0, 0)) U4.out L4.out _ (by decide) 9 9 (List.replicate 9 0) rfl rfl (by decide) (by decide) b4).mono ?_
  rintro e w5 ⟨rfl, u5, o5⟩
  have U5 := hide u5
  have L5 := hide (Nat.le_trans L4.out o5.size)
  have G5 := hide (gr_only G4.out o5 (fun i hi => HD.out ▸ U4.out.lo i hi))
  clear u5 o5 hm
  go_wp2_with fail
  refine (Read_ok (s := ⟨#[102]⟩) U5.out.is (by decide)).mono ?_
  rintro e w6 ⟨hg6, hr6⟩
  obtain ⟨x, rfl, hx⟩ := hr6
  have U6 := hide (U5.out.gr hg6)
  have L6 := hide (Nat.le_trans L5.out hg6.size)
  have G6 := hide (G5.out.trans hg6)
  obtain ⟨A6, c6, rfl, _⟩ := hx.by_
  have X6 := hide hx
  clear hx hg6
  go_wp2_with fail
  refine (use_crash_lit (m := (0, 0)) (e := 3) U6.out L6.out 1 1 [1] rfl rfl (by decide) (by decide) (by decide) b5).mono ?_
  rintro e w7 ⟨rfl, u7, o7⟩
  have U7 := hide u7
  have L7 := hide (Nat.le_trans L6.out o7.size)
  have G7 := hide (gr_only G6.out o7 (fun i hi => HD.out ▸ U6.out.lo i hi))
  have X7 := hide (OwnE.only X6.out o7 (fun k hk hi => by
    have h1 := (World.ownsRow.lt X6.out k hk).1
    have h2 := U5.out.hi k hi
    omega))
  clear u7 o7
  go_wp2_with fail
  refine (Read_ok (s := ⟨#[102]⟩) U7.out.is (by decide)).mono ?_
  rintro e w8 ⟨hg8, hr8⟩
  obtain ⟨y, rfl, hy⟩ := hr8
  have U8 := hide (U7.out.gr hg8)
  have L8 := hide (Nat.le_trans L7.out hg8.size)
  have G8 := hide (G7.out.trans hg8)
  have X8 := hide (X7.out.gr hg8)
  obtain ⟨A8, c8, rfl, _⟩ := hy.by_
  have Y8 := hide hy
  clear hy hg8
  go_wp2_with fail
  refine (List_ok U8.out.is (by decide)).mono ?_
  rintro e w9 ⟨n9, rfl, hg9, ho9⟩
  obtain ⟨A9, c9, h9, _⟩ := ho9.is
  change n9 = .slice A9 1 c9 at h9
  subst h9
  have U9 := hide (U8.out.gr hg9)
  have L9 := hide (Nat.le_trans L8.out hg9.size)
  have G9 := hide (G8.out.trans hg9)
  obtain ⟨A6', c6', e6, x9⟩ := (X8.out.gr hg9).by_
  injection e6 with e6 _ e6'
  subst e6
  subst e6'
  obtain ⟨A8', c8', e8, y9⟩ := (Y8.out.gr hg9).by_
  injection e8 with e8 _ e8'
  subst e8
  subst e8'
  have cx : (convert 28 9 (.slice A6 4 c6)).run Try.prog w9 = .ok (.string ⟨#[97, 98, 99, 100]⟩) w9 := run_conv w9 28 9 5 Try.underlying28 Try.underlying5 Try.underlying9 (l := [97, 98, 99, 100]) _ _ rfl x9.rd
  have cy : (convert 28 9 (.slice A8 3 c8)).run Try.prog w9 = .ok (.string ⟨#[97, 98, 99]⟩) w9 := run_conv w9 28 9 5 Try.underlying28 Try.underlying5 Try.underlying9 (l := [97, 98, 99]) _ _ rfl y9.rd
  clear ho9 hg9 x9 y9
  go_wp2_with fail
  refine (Used_ok U9.out.is).mono ?_
  rintro e w10 ⟨rfl, rfl⟩
  rw [show usedF [([102], ⟨[97, 98, 99], 3⟩)] = 3 from rfl]
  clear cx cy
  go_wp2_with fail
  refine (use_cut U9.out L9.out _ (by decide) 1 (by decide) b6).mono ?_
  rintro e w11 ⟨rfl, u11, o11⟩
  have U11 := hide u11
  have L11 := hide (Nat.le_trans L9.out o11.size)
  have G11 := hide (gr_only G9.out o11 (fun i hi => HD.out ▸ U9.out.lo i hi))
  clear u11 o11
  go_wp2_with fail
  refine (use_remove U11.out L11.out _ (by decide) b7).mono ?_
  rintro e w12 ⟨rfl, u12, o12⟩
  have U12 := hide u12
  have L12 := hide (Nat.le_trans L11.out o12.size)
  have G12 := hide (gr_only G11.out o12 (fun i hi => HD.out ▸ U11.out.lo i hi))
  clear u12 o12
  go_wp2_with fail
  refine (use_remove U12.out L12.out _ (by decide) b8).mono ?_
  rintro e w13 ⟨rfl, u13, o13⟩
  have U13 := hide u13
  have G13 := hide (gr_only G12.out o13 (fun i hi => HD.out ▸ U12.out.lo i hi))
  clear u13 o13
  go_wp2_with fail
  refine (Copy_ok U13.out.is (by decide) (by decide)).mono ?_
  rintro e w14 ⟨c, rfl, _, hg14, _⟩
  have G14 := hide (G13.out.trans hg14)
  clear hg14
  unfold ptr
  go_wp2_with fail
  go_ret
  exact ⟨rfl, G14.out⟩

end Go.Proofs.Yteflmockckmciaa
