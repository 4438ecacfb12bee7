/-
  Copy: a disk of its own that is as this one is.
-/
import Derived.Test.YteflmockckmciaaDiskCrash
namespace Go.Proofs.Yteflmockckmciaa.DiskCopy
open Go Go.RowKit MapS DiskMem DiskFile DiskHit DiskFind DiskBegin DiskOps DiskApp DiskList DiskCrash KeyMath
set_option maxRecDepth 100000

theorem Copy_nil (w : World) : Calls Try.prog 14 #[.pointer none] w fun e w' => e = .returned (.pointer none) ∧ w = w' := by
  go_enter Try.func14, Try.ntmps14
  go_wp2_with fail
  go_ret
  exact ⟨rfl, rfl⟩

/-- the files of which the turn has come -/
def doneF (F : Fs) (left : List UInt8 → Bool) : Fs := F.filter fun p => !left p.1
theorem done_ris {F : Fs} (h : Ris F) (left : List UInt8 → Bool) : Ris (doneF F left) := h.filter _
theorem done_no {F : Fs} (left : List UInt8 → Bool) {s : List UInt8} (hs : left s = true) : getE (doneF F left) s = none := by
  rw [getE_none]
  intro p hp e
  unfold doneF at hp
  rw [List.mem_filter] at hp
  rw [e, hs] at hp
  exact absurd hp.2 (by simp)
theorem done_next {F : Fs} (h : Ris F) (left : List UInt8 → Bool) {s : List UInt8} {f : FileT} (hm : (s, f) ∈ F) : putE s f (doneF F left) = doneF F (fun x => left x && !(x == s)) := by
  refine ris_ext ((done_ris h _).put _ _) (done_ris h _) fun p => ?_
  rw [mem_putE]
  unfold doneF
  rw [List.mem_filter, List.mem_filter]
  constructor
  · rintro (rfl | ⟨⟨h1, h2⟩, h3⟩)
    · exact ⟨hm, by simp⟩
    · exact ⟨h1, by simp at h2; simp [h2]⟩
  · rintro ⟨h1, h2⟩
    by_cases e : p.1 = s
    · refine .inl ?_
      have h3 := (mem_getE h).2 hm
      have h4 := (mem_getE h).2 (show (s, p.2) ∈ F by rw [← e]; exact h1)
      rw [h3] at h4
      injection h4 with h4
      rw [h4, ← e]
    · refine .inr ⟨⟨h1, ?_⟩, e⟩
      simpa [e] using h2
theorem done_all {F : Fs} {left : List UInt8 → Bool} (h : ∀ s, left s = false) : doneF F left = F := by
  unfold doneF
  rw [List.filter_eq_self]
  intro p _
  simp [h]
theorem done_start (F : Fs) (left : List UInt8 → Bool) (h : ∀ p ∈ F, left p.1 = true) : doneF F left = [] := by
  unfold doneF
  rw [List.filter_eq_nil_iff]
  intro p hp
  simp [h p hp]
theorem done_le (left : List UInt8 → Bool) : ∀ F : Fs, usedF (doneF F left) ≤ usedF F
  | [] => Nat.le_refl _
  | p :: r => by
    have ih := done_le left r
    rw [usedF_cons]
    unfold doneF at *
    rw [List.filter_cons]
    split
    · rw [usedF_cons]; omega
    · omega
theorem done_used {left : List UInt8 → Bool} : ∀ {F : Fs} {s : List UInt8} {f : FileT}, (s, f) ∈ F → left s = true → usedF (doneF F left) + f.b.length ≤ usedF F
  | p :: r, s, f, hm, hs => by
    rcases List.mem_cons.1 hm with rfl | hm
    · have h1 : doneF ((s, f) :: r) left = doneF r left := by simp [doneF, hs]
      have h2 := done_le left r
      rw [h1, usedF_cons]
      simp only
      omega
    · have ih := done_used hm hs
      rw [usedF_cons]
      unfold doneF at *
      rw [List.filter_cons]
      split
      · rw [usedF_cons]; omega
      · omega
theorem done_len (F : Fs) (left : List UInt8 → Bool) : (doneF F left).length ≤ F.length := List.length_filter_le _ _

theorem done_lt {left : List UInt8 → Bool} : ∀ {F : Fs} {s : List UInt8} {f : FileT}, (s, f) ∈ F → left s = true → (doneF F left).length + 1 ≤ F.length
  | p :: r, s, f, hm, hs => by
    rcases List.mem_cons.1 hm with rfl | hm
    · have h1 : doneF ((s, f) :: r) left = doneF r left := by simp [doneF, hs]
      have h2 := done_len r left
      rw [h1, List.length_cons]
      omega
    · have ih := done_lt hm hs
      unfold doneF at *
      rw [List.filter_cons, List.length_cons]
      split
      · rw [List.length_cons]; omega
      · omega

theorem okK {s : ByteArray} (h : okName s.data.toList) : mayK s = true := by
  obtain ⟨h1, h2, h3⟩ := h
  have hl := list_size s
  unfold mayK
  simp only [Bool.and_eq_true, decide_eq_true_eq, List.all_eq_true]
  refine ⟨⟨by omega, by omega⟩, fun c hc => ?_⟩
  have := h3 c hc
  unfold okB
  simpa using this

/-- a copy under way -/
structure CpAt (S : Nat → Prop) (w1 wr : World) (d c b r room : Nat) (es : List DEnt) (left : List UInt8 → Bool) (cnt : Nat) : Prop where
  only : Only (fun i => i = r ∨ i = c) w1 wr
  rng : Rng Try.prog 9 wr b r (refs es) left cnt
  old : DiskAt S wr d room es (some b)
  cp : DiskIs (ext (onB c) w1 wr) wr c room (doneF (es.map abs1) left)

theorem app_new {room : Nat} {F : Fs} {s : ByteArray} {l : List UInt8} (hk : mayK s = true) (hn : getE F s.data.toList = none) (hr : usedF F + l.length ≤ room) : appendF room F s l = (0, putE s.data.toList ⟨l, 0⟩ F) := by
  unfold appendF
  rw [if_pos hk, if_neg (by omega), hn]
  rfl
theorem app_old {room : Nat} {F : Fs} {s : ByteArray} {l : List UInt8} {f : FileT} (hk : mayK s = true) (hn : getE F s.data.toList = some f) (hr : usedF F + l.length ≤ room) : appendF room F s l = (0, putE s.data.toList ⟨f.b ++ l, f.sure⟩ F) := by
  unfold appendF
  rw [if_pos hk, if_neg (by omega), hn]
  rfl
theorem sync_some {F : Fs} {s : List UInt8} {f : FileT} (h : getE F s = some f) : syncF F s = (0, putE s ⟨f.b, f.b.length⟩ F) := by
  unfold syncF
  rw [h]
theorem used_put_new {F : Fs} (hr : Ris F) {s : List UInt8} (hs : getE F s = none) (f : FileT) : usedF (putE s f F) = usedF F + f.b.length := by
  obtain ⟨l, r, rfl, e⟩ := put_new (y := f) hs
  rw [e, usedF_app, usedF_cons, usedF_app]
  simp only
  omega

/-- what is known when a file's turn has come -/
structure CpNext (S : Nat → Prop) (w2 w : World) (d c b r room : Nat) (es : List DEnt) (left : List UInt8 → Bool) (s : ByteArray) (g : Nat) (v : Value) (f : FileT) (cnt3 : Nat) : Prop where
  only : Only (fun i => i = r ∨ i = c) w2 w
  rng : Rng Try.prog 9 w b r (refs es) (fun x => left x && !(x == s.data.toList)) cnt3
  old : DiskAt S w d room es (some b)
  file : FileAt w g v f
  mem : (s.data.toList, f) ∈ es.map abs1
  name : okName s.data.toList
  g : S g
  v : ∀ k, v.ownBlock = some k → S k
theorem CpNext.keep {S : Nat → Prop} {w2 w3 w4 : World} {d c b r room : Nat} {es : List DEnt} {left : List UInt8 → Bool} {s : ByteArray} {g : Nat} {v : Value} {f : FileT} {cnt3 : Nat} (h : CpNext S w2 w3 d c b r room es left s g v f cnt3)
    (ho : Only (ext (onB c) w2 w3) w3 w4) (hS : ∀ i, S i → i < c) (hcr : c < r) (hr2 : r < w2.heap.size) : CpNext S w2 w4 d c b r room es left s g v f cnt3 := by
  have hno : ∀ i, S i → ¬ ext (onB c) w2 w3 i := fun i hi e => by
    have := hS i hi
    rcases e with e | e
    · have e2 : i = c := e
      omega
    · omega
  have hsb := (h.old.mp b rfl).1
  refine ⟨h.only.trans ho fun i hi e => ?_, h.rng.only ho (hno b hsb) (fun e => ?_), h.old.only ho (fun i _ hi => hno i hi), h.file.only ho (hno g h.g) (fun k hk => hno k (h.v k hk)), h.mem, h.name, h.g, h.v⟩
  · rcases e with e | e
    · exact .inr e
    · omega
  · rcases e with e | e
    · have e2 : r = c := e
      omega
    · omega
theorem CpAt.next {S : Nat → Prop} {w2 wr w3 : World} {d c b r room : Nat} {es : List DEnt} {left : List UInt8 → Bool} {cnt cnt3 : Nat} (h : CpAt S w2 wr d c b r room es left cnt) {s : ByteArray} {g : Nat} (hget : getE (refs es) s.data.toList = some (.pointer (some ⟨g, 0, none⟩)))
    (hr3 : Rng Try.prog 9 w3 b r (refs es) (fun x => left x && !(x == s.data.toList)) cnt3) (hg : wr.grownBy w3 (some r)) (hsz : w3.heap.size = wr.heap.size) (hS : ∀ i, S i → i < c) (hcr : c < r) (hr2 : r < w2.heap.size) :
    DiskIs (ext (onB c) w2 w3) w3 c room (doneF (es.map abs1) left) ∧ ∃ v f, CpNext S w2 w3 d c b r room es left s g v f cnt3 := by
  have ho : Only (onB r) wr w3 := Only.of_row hg fun k hk => by injection hk with hk; exact hk.symm
  refine ⟨(h.cp.only ho fun i _ hi e => ?_).mono fun i hi => ?_, ?_⟩
  · have e2 : i = r := e
    rcases hi with hi | hi
    · have e3 : i = c := hi
      omega
    · omega
  · rcases hi with hi | hi
    · exact .inl hi
    · exact .inr ⟨hi.1, by omega⟩
  · rw [refs_eq] at hget
    obtain ⟨en, h1, h2⟩ := Option.map_eq_some_iff.1 hget
    have hmem := List.mem_of_find?_eq_some h1
    have hnm : en.name = s.data.toList := by
      have := List.find?_some h1
      simpa using this
    have hgg : en.g = g := by
      unfold ptr at h2
      injection h2 with h2
      injection h2 with h2
      injection h2 with h2
    have hold := h.old.only ho (fun i _ hi e => by
      have := hS i hi
      have e2 : i = r := e
      omega)
    have he := hold.ent en hmem
    subst hgg
    exact ⟨en.v, en.f, h.only.trans ho (fun i _ e => .inl e), hr3, hold, he.file, List.mem_map.2 ⟨en, hmem, by unfold abs1; rw [hnm]⟩, by rw [← hnm]; exact he.name, he.g, he.v⟩

set_option maxHeartbeats 1000000 in
theorem Copy_ok {S : Nat → Prop} {w : World} {d room : Nat} {F : Fs} (h : DiskIs S w d room F) (hF : F.length ≤ 1000000000) (hU : usedF F ≤ 1000000000) :
    Calls Try.prog 14 #[ptr d] w fun e w' => ∃ c, e = .returned (ptr c) ∧ w.heap.size ≤ c ∧ Gr w w' ∧ DiskIs (fun i => w.heap.size ≤ i ∧ i < w'.heap.size) w' c room F := by
  obtain ⟨es, m, rfl, hd0⟩ := h.tight
  obtain ⟨m0, hbl, hroom, hused, _⟩ := h.facts
  clear h
  have c0 := hd0.bl.cell 0
  have c2 := hd0.bl.cell 2
  simp only [List.getElem?_toArray, List.getElem?_cons_zero, List.getElem?_cons_succ] at c0 c2
  have HD := hide hd0
  clear hd0 hbl
  unfold ptr
  cases m with
  | none =>
    have he := HD.out.nil rfl
    subst he
    have hrn := fun (w : World) => run_range_nilMap (P := Try.prog) w 54 _ _ Try.underlying54
    have hnn := fun (w : World) (ty : TypeId) => run_next_nilMap (P := Try.prog) w ty 0 0 #[]
    go_enter Try.func14, Try.ntmps14
    go_wp2_with fail
    refine (new_ok room w).mono ?_
    rintro e w1 ⟨rfl, hg, hb, hsz⟩
    have c2' := gr_cell hg _ _ c2
    have HG := hide hg
    have HB := hide hb
    have HSZ := hide hsz
    clear hg hb hsz c0 c2
    unfold ptr
    go_wp2_with fail
    refine wp_loop_rounds 1 ?_
    rw [rounds_succ]
    go_wp2_with fail
    go_ret
    have h1 := HB.out
    rw [show max (room : Int) 0 = room from by omega] at h1
    have h2 := h1.lt
    refine ⟨w.heap.size, rfl, Nat.le_refl _, HG.out.alloc _, [], none, rfl, h1.gr ((Gr.refl w1).alloc _), ⟨Nat.le_refl _, by simp; omega⟩, fun _ => rfl, fun b hb => (by cases hb), fun e he => absurd he (by simp), List.Pairwise.nil, ris_nil, hroom, Nat.zero_le _⟩
  | some b =>
    go_enter Try.func14, Try.ntmps14
    go_wp2_with fail
    refine (new_ok room w).mono ?_
    rintro e w1 ⟨rfl, hg, hb, hsz⟩
    have c2' := gr_cell hg _ _ c2
    have HG := hide hg
    have HB := hide hb
    have HSZ := hide hsz
    clear hg hb hsz c0 c2
    unfold ptr
    go_wp2_with (at_range; refine wpList_range_map rfl (.tmp 16) 54 rfl 9 60 Try.underlying9 Try.underlying54 rfl ((HD.out.mp b rfl).2.gr HG.out) ?_)
    intro w2 hrng hg2 hsz2
    have hsz1 := HSZ.out
    have hg02 : Gr w w2 := Gr.trans HG.out hg2
    have hold : DiskAt (fun i => S i ∧ i < w.heap.size) w2 d room es (some b) := HD.out.only (Only.of_gr hg02) fun _ _ _ e => e
    have hcp : DiskIs (onB w.heap.size) w2 w.heap.size room [] := by
      have h1 := HB.out.gr hg2
      rw [show max (room : Int) 0 = room from by omega] at h1
      exact ⟨[], none, rfl, h1, rfl, fun _ => rfl, fun b hb => (by cases hb), fun e he => absurd he (by simp), List.Pairwise.nil, ris_nil, hroom, Nat.zero_le _⟩
    have hstart : CpAt (fun i => S i ∧ i < w.heap.size) w2 w2 d w.heap.size b w1.heap.size room es (fun s => (getE (refs es) s).isSome) (refs es).length := by
      refine ⟨Only.refl _ _, hrng, hold, ?_⟩
      rw [done_start (es.map abs1)]
      · exact hcp.mono fun i hi => .inl hi
      · intro p hp
        obtain ⟨e, he, rfl⟩ := List.mem_map.1 hp
        have : getE (refs es) e.name = some (ptr e.g) := (mem_getE (HD.out.mp b rfl).2.2).2 (List.mem_map.2 ⟨e, he, rfl⟩)
        simp [abs1, this]
    have HS := hide hstart
    have HG2 := hide hg02
    have HSZ2 := hide hsz2
    clear hstart hcp hold hg02 hg2 hrng hsz2 c2' hsz1
    go_wp2_with fail
    go_loopw [4] (fun _ wr => ∃ left cnt, Hid (CpAt (fun i => S i ∧ i < w.heap.size) w2 wr d w.heap.size b w1.heap.size room es left cnt)) (fun _ wr => wr.rangeLeft b w1.heap.size)
    case atStart => exact ⟨_, _, HS⟩
    case round =>
      obtain ⟨left, cnt, hcp⟩ := hrel
      have hinv : ∀ p ∈ refs es, ∃ g, p.2 = Value.pointer (some ⟨g, 0, none⟩) := fun p hp => by
        obtain ⟨e, _, rfl⟩ := List.mem_map.1 hp
        exact ⟨e.g, rfl⟩
      have HI := hide hinv
      clear hinv
      go_wp2_with (at_next; refine wpList_next_map rfl (.tmp 17) rfl 9 Try.underlying9 w1.heap.size (fun g => Value.pointer (some ⟨g, 0, none⟩)) HI.out rfl hcp.out.rng ?_ ?_)
      · intro hl0
        have HL := hide hl0
        clear hl0
        go_wp2_with fail
        go_ret
        have h1 := hcp.out.cp
        rw [done_all HL.out] at h1
        have h2 := hcp.out.only
        have h3 := HG2.out
        have h4 := HSZ.out
        refine ⟨w.heap.size, rfl, Nat.le_refl _, ((Only.of_gr h3).trans h2 fun i hi e => ?_).to_gr fun _ _ e => e, h1.mono fun i hi => ?_⟩
        · rcases e with e | e <;> omega
        · have h5 := h3.size
          have h6 := h2.size
          rcases hi with hi | hi
          · have e2 : i = w.heap.size := hi
            have h7 := h1.lt
            omega
          · omega
      · intro s g w3 cnt3 hs hls hget hrng3 hlt hg3 hsz3 hen
        have HLS := hide hls
        have HGET := hide hget
        have HR3 := hide hrng3
        have HLT := hide hlt
        have HG3 := hide hg3
        clear hls hget hrng3 hlt hg3
        obtain ⟨hcp3, v, f, hnx⟩ := hcp.out.next HGET.out HR3.out HG3.out hsz3 (fun i hi => hi.2) (by have := HSZ.out; omega) (by have := HSZ2.out; omega)
        have HCP3 := hide hcp3
        have HNX := hide hnx
        obtain ⟨A, k, rfl, hby⟩ := hnx.file.own.by_
        have e0 := hnx.file.bl.cell 0
        have e1 := hnx.file.bl.cell 1
        simp only [List.getElem?_toArray, List.getElem?_cons_zero, List.getElem?_cons_succ] at e0 e1
        have hle := hnx.file.le
        have hbk := hby.le
        have hkm := hby.max
        unfold maxLen at hkm
        have hsk : f.sure ≤ k := by omega
        have HBY := hide hby
        clear hcp3 hnx hby
        go_wp2_with fail
        go_still_tail 11, (by kernel_rfl)
        change wpList _ _ _ _ _ w3.drew
        have hk : mayK s = true := okK HNX.out.name
        have hlk : getE (doneF (es.map abs1) left) s.data.toList = none := done_no left HLS.out
        have hru := done_used HNX.out.mem HLS.out
        have hris := HCP3.out.ris
        have hlen : (doneF (es.map abs1) left).length ≤ 1000000000 := Nat.le_trans (done_len _ _) hF
        have htl : (f.b.take f.sure).length = f.sure := by rw [List.length_take]; omega
        have hdl : f.sure + (f.b.drop f.sure).length = f.b.length := by rw [List.length_drop]; omega
        have haw : Away (ext (onB w.heap.size) w2 w3) A f.b.length := by
          intro hl ad hA e
          subst hA
          have h1 := (HNX.out.v ad.block rfl).2
          have h2 := HSZ.out
          have h3 := HSZ2.out
          rcases e with e | e
          · have e2 : ad.block = w.heap.size := e
            omega
          · omega
        have hapA := Append_ok (HCP3.out.gr ((Gr.refl w3).drew)) (s := s) (by have := (mayK_ok hk).2; omega) A f.sure k (f.b.take f.sure) htl.symm (HBY.out.take _ |>.gr ((Gr.refl w3).drew)) (by rw [htl]; exact fun h1 ad hA => haw (by omega) ad hA) hlen (by rw [htl]; omega)
        rw [app_new hk hlk (by rw [htl]; omega)] at hapA
        have HAPA := hide hapA
        have HK := hide hk
        have HAW := hide haw
        have HLK := hide hlk
        have HRU := hide hru
        have HTL := hide htl
        have HDL := hide hdl
        have HLEN := hide hlen
        clear hapA hk haw hlk hru htl hdl hlen hris e0 e1
        go_wp2_with fail
        refine HAPA.out.mono ?_
        rintro e w4 ⟨rfl, ho4, hd4⟩
        have hsz3 : w2.heap.size ≤ w3.heap.size := HNX.out.only.size
        have ho34 : Only (ext (onB w.heap.size) w2 w3) w3 w4 := ⟨ho4.os, ho4.tape, ho4.output, ho4.size, ho4.block⟩
        have hd4' : DiskIs (ext (onB w.heap.size) w2 w4) w4 w.heap.size room (putE s.data.toList ⟨f.b.take f.sure, 0⟩ (doneF (es.map abs1) left)) := hd4.mono fun i hi => ext_ext2 (b := w3.drew) hsz3 ho4.size hi
        have hsy := Sync_ok hd4' hs
        rw [sync_some (f := ⟨f.b.take f.sure, 0⟩) (by rw [getE_put HCP3.out.ris, if_pos rfl]), put_put HCP3.out.ris] at hsy
        simp only [HTL.out] at hsy
        have HSY := hide hsy
        have HNX4 := hide (HNX.out.keep ho34 (fun i hi => hi.2) (by have := HSZ.out; omega) (by have := HSZ2.out; omega))
        have HSZ34 := hide ho34.size
        have HSZ23 := hide hsz3
        clear ho4 hd4 hd4' hsy ho34 hsz3
        go_wp2_with fail
        refine HSY.out.mono ?_
        rintro e w5 ⟨rfl, ho5, hd5⟩
        have hsz4 : w2.heap.size ≤ w4.heap.size := Nat.le_trans HSZ23.out HSZ34.out
        have hd5' := hd5.mono fun i hi => ext_ext2 (b := w4) hsz4 ho5.size hi
        have HD5 := hide hd5'
        have hnx5 := HNX4.out.keep ho5 (fun i hi => hi.2) (by have := HSZ.out; omega) (by have := HSZ2.out; omega)
        have HNX5 := hide hnx5
        have HSZ25 := hide (Nat.le_trans hsz4 ho5.size)
        have e0 := hnx5.file.bl.cell 0
        have e1 := hnx5.file.bl.cell 1
        simp only [List.getElem?_toArray, List.getElem?_cons_zero, List.getElem?_cons_succ] at e0 e1
        obtain ⟨A5, k5, hA5, hby5⟩ := hnx5.file.own.by_
        injection hA5 with hA5 _ hk5
        subst hA5
        subst hk5
        have HBY5 := hide hby5
        clear ho5 hd5 hd5' hnx5 hsz4 hby5
        have hcut := HBY5.out.cut f.sure f.b.length hle (Nat.le_refl _)
        rw [List.take_of_length_le (by rw [List.length_drop]; omega)] at hcut
        have HCUT := hide hcut
        have hcs : ∀ B m, B = (if k = f.sure then A else A.map (·.add f.sure)) → m = f.b.length - f.sure → Calls Try.prog 15 #[ptr w.heap.size, .string s, .slice B m (k - f.sure)] w5.drew (Does (ext (onB w.heap.size) w2 w5) w5.drew w.heap.size room 0 (putE s.data.toList f (doneF (es.map abs1) left))) := by
          rintro B m rfl rfl
          have hl : (f.b.drop f.sure).length = f.b.length - f.sure := List.length_drop
          have hawB : Away (ext (onB w.heap.size) w2 w5) (if k = f.sure then A else A.map (·.add f.sure)) (f.b.drop f.sure).length := by
            intro hpos ad hA e
            have hlt : ∀ a0, A = some a0 → a0.block < w.heap.size := fun a0 h0 => (HNX5.out.v a0.block (by rw [h0]; rfl)).2
            have h1 : ad.block < w.heap.size := by
              split at hA
              · exact hlt ad hA
              · obtain ⟨a0, h0, h2⟩ := Option.map_eq_some_iff.1 hA
                subst h2
                rw [add_block]
                exact hlt a0 h0
            have h2 := HSZ.out
            have h3 := HSZ2.out
            rcases e with e | e
            · have e2 : ad.block = w.heap.size := e
              omega
            · omega
          have hris := HCP3.out.ris
          have hd5 := HD5.out.gr ((Gr.refl w5).drew)
          have hl2 : (putE s.data.toList (⟨f.b.take f.sure, f.sure⟩ : FileT) (doneF (es.map abs1) left)).length ≤ 1000000000 := by
            have h1 := len_put_le s.data.toList (⟨f.b.take f.sure, f.sure⟩ : FileT) (doneF (es.map abs1) left)
            have h2 := done_lt HNX5.out.mem HLS.out
            omega
          have hus : usedF (putE s.data.toList (⟨f.b.take f.sure, f.sure⟩ : FileT) (doneF (es.map abs1) left)) + (f.b.drop f.sure).length ≤ usedF (es.map abs1) := by
            rw [used_put_new hris HLK.out]
            simp only
            rw [HTL.out, hl]
            have := HRU.out
            omega
          have hap := Append_ok hd5 (s := s) (by have := (mayK_ok HK.out).2; omega) _ (f.b.length - f.sure) (k - f.sure) (f.b.drop f.sure) hl.symm (HCUT.out.gr ((Gr.refl w5).drew)) hawB hl2 (by omega)
          rw [app_old HK.out (by rw [getE_put hris, if_pos rfl]) (by omega), put_put hris] at hap
          simp only [List.take_append_drop] at hap
          exact hap
        have HCS := hide hcs
        clear hcut hcs
        have fin : ∀ w6, Only (ext (onB w.heap.size) w2 w5) w5 w6 → DiskIs (ext (ext (onB w.heap.size) w2 w5) w5.drew w6) w6 w.heap.size room (putE s.data.toList f (doneF (es.map abs1) left)) → w6.rangeLeft b w1.heap.size < wr.rangeLeft b w1.heap.size ∧ ∃ left cnt, Hid (CpAt (fun i => S i ∧ i < w.heap.size) w2 w6 d w.heap.size b w1.heap.size room es left cnt) := by
          intro w6 ho hd
          have hn := HNX5.out.keep ho (fun i hi => hi.2) (by have := HSZ.out; omega) (by have := HSZ2.out; omega)
          rw [hn.rng.left_eq, hcp.out.rng.left_eq]
          refine ⟨HLT.out, _, _, hide ⟨hn.only, hn.rng, hn.old, ?_⟩⟩
          rw [← done_next HD.out.ris left hn.mem]
          exact hd.mono fun i hi => ext_ext2 (b := w5.drew) HSZ25.out ho.size hi
        have FIN := hide fin
        clear fin
        unfold ptr at HCS
        by_cases hks : k = f.sure
        · have hlk : f.b.length = f.sure := by omega
          have H9 := hide (HCS.out A 0 (by rw [if_pos hks]) (by omega))
          rw [hks, Nat.sub_self] at H9
          go_wp2_with fail
          go_still_tail 11, (by kernel_rfl)
          change wpList _ _ _ _ _ w5.drew
          go_wp2_with fail
          refine H9.out.mono ?_
          rintro e w6 ⟨rfl, ho6, hd6⟩
          have HF := hide (FIN.out w6 ⟨ho6.os, ho6.tape, ho6.output, ho6.size, ho6.block⟩ hd6)
          clear ho6 hd6 e0 e1
          go_wp2_with fail
          go_roundw
          case rel => exact HF.out.2
          case measure => exact HF.out.1
        · have H9 := hide (HCS.out (A.map (·.add f.sure)) (f.b.length - f.sure) (by rw [if_neg hks]) rfl)
          clear HCS
          go_wp2_with fail
          go_still_tail 11, (by kernel_rfl)
          change wpList _ _ _ _ _ w5.drew
          go_wp2_with fail
          refine H9.out.mono ?_
          rintro e w6 ⟨rfl, ho6, hd6⟩
          have HF := hide (FIN.out w6 ⟨ho6.os, ho6.tape, ho6.output, ho6.size, ho6.block⟩ hd6)
          clear ho6 hd6 e0 e1
          go_wp2_with fail
          go_roundw
          case rel => exact HF.out.2
          case measure => exact HF.out.1

end Go.Proofs.Yteflmockckmciaa.DiskCopy
