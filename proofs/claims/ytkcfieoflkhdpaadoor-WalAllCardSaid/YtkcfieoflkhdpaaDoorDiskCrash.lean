/-
  Crash: file by file.
-/
import Derived.Test.YtkcfieoflkhdpaaDoorDiskList
namespace Go.Proofs.YtkcfieoflkhdpaaDoor.DiskCrash
open Go Go.RowKit MapS DiskMem DiskFile DiskHit DiskFind DiskBegin DiskOps DiskList KeyMath
set_option maxRecDepth 100000

/-- what a crash leaves -/
def crashF : List Int → Fs → Fs
  | _, [] => []
  | zs, p :: r => (p.1, hitF p.2 (zs.headD 0)) :: crashF zs.tail r
theorem crash_app : ∀ (zs : List Int) (a b : Fs), crashF zs (a ++ b) = crashF zs a ++ crashF (zs.drop a.length) b
  | _, [], _ => rfl
  | zs, p :: r, b => by
    have e : zs.drop (r.length + 1) = zs.tail.drop r.length := by cases zs <;> simp
    simp only [List.cons_append, crashF, List.length_cons, e]
    rw [crash_app zs.tail r b]
/-- .. of the first k files -/
def mixF (zs : List Int) (F : Fs) (k : Nat) : Fs := crashF zs (F.take k) ++ F.drop k
theorem crash_len : ∀ (zs : List Int) (F : Fs), (crashF zs F).length = F.length
  | _, [] => rfl
  | zs, _ :: r => by simp [crashF, crash_len zs.tail r]
theorem mix_zero (zs : List Int) (F : Fs) : mixF zs F 0 = F := by simp [mixF, crashF]
theorem mix_all (zs : List Int) (F : Fs) : mixF zs F F.length = crashF zs F := by simp [mixF]
theorem mix_at {zs : List Int} {F : Fs} {k : Nat} (hk : k < F.length) : mixF zs F k = crashF zs (F.take k) ++ (F[k].1, F[k].2) :: F.drop (k + 1) := by
  unfold mixF
  rw [List.drop_eq_getElem_cons hk]
theorem mix_next {zs : List Int} {F : Fs} {k : Nat} (hk : k < F.length) : mixF zs F (k + 1) = crashF zs (F.take k) ++ (F[k].1, hitF F[k].2 ((zs.drop k).headD 0)) :: F.drop (k + 1) := by
  unfold mixF
  rw [List.take_succ_eq_append_getElem hk, crash_app, List.length_take, Nat.min_eq_left (by omega)]
  simp [crashF]
theorem hit_len (f : FileT) (z : Int) : (hitF f z).b.length ≤ f.b.length := by
  unfold hitF
  simp only
  rw [List.length_take]
  exact Nat.min_le_right _ _

theorem KeepAt.set {T : Nat → Prop} {w : World} {k d : Nat} {zs : List Int} (h : KeepAt T w k zs) (hd : T d) (hne : k ≠ d) (i : Nat) (u : Value) : KeepAt T (w.setCell ⟨d, i, none⟩ u).drew k zs := by
  obtain ⟨A, c, h1, h2, h3⟩ := h
  have o : Only (onB d) w (w.setCell ⟨d, i, none⟩ u).drew := ((Only.refl _ _).set1 i u).drew
  exact ⟨A, c, o.bl h1 (fun e => hne e), DiskHit.Ints.only h2 o (fun hl ad hA e => h3 hl ad hA (by rw [show ad.block = d from e]; exact hd)), h3⟩

/-- a crash under way: j files are done -/
structure CrAt (St T : Nat → Prop) (w1 wr : World) (d room k : Nat) (zs : List Int) (F : Fs) (j : Nat) : Prop where
  only : Only (fun i => St i ∨ i = k) w1 wr
  disk : DiskIs (ext St w1 wr) wr d room (mixF zs F j)
  keep : KeepAt T wr k (zs.drop j)

theorem cr_step {St T : Nat → Prop} {w1 wr : World} {d room k : Nat} {zs : List Int} {F : Fs} {j : Nat} (h : CrAt St T w1 wr d room k zs F j) (hj : j < F.length) (hk : ¬ St k) (hk1 : k < w1.heap.size) (hT : ∀ i, St i ∨ i = k ∨ w1.heap.size ≤ i → T i) (hd : d ≠ k)
    (hz : ∀ z ∈ zs, -9223372036854775808 ≤ z ∧ z ≤ 9223372036854775807) :
    Calls Tryd.prog 20 #[.pointer (some ⟨d, 0, none⟩), .string (bs F[j].1), .func (.func 21) #[.pointer (some ⟨k, 0, none⟩)] #[]] wr fun e w' => e = .returned (.int .i64 0) ∧ CrAt St T w1 w' d room k zs F (j + 1) := by
  have hr := h.disk.ris
  have hx : getE (mixF zs F j) (bs F[j].1).data.toList = some F[j].2 := by
    rw [bs_list]
    refine (mem_getE hr).2 ?_
    rw [mix_at hj]
    simp
  have hnm : okName F[j].1 := by
    have := h.disk.names (F[j].1, F[j].2) (by rw [mix_at hj]; simp)
    exact this
  have hs : (bs F[j].1).size ≤ maxLen := by rw [bs_size]; unfold maxLen; have := hnm.2.1; omega
  have hke : ¬ ext St w1 wr k := fun e => by
    rcases e with e | e
    · exact hk e
    · omega
  have hroom : (hitF F[j].2 ((zs.drop j).headD 0)).b.length + usedF (mixF zs F j) ≤ room + F[j].2.b.length := by
    have := hit_len F[j].2 ((zs.drop j).headD 0)
    obtain ⟨m, _, _, hu, _⟩ := h.disk.facts
    omega
  obtain ⟨m, _, _, _, hSd⟩ := h.disk.facts
  have hTd : T d := hT d (by
    rcases hSd with e | e
    · exact .inl e
    · exact .inr (.inr e.1))
  refine (change_is (X := onB k) h.disk hs hx 21 #[.pointer (some ⟨k, 0, none⟩)] Tryd.func21 (by kernel_rfl) (by kernel_rfl) 0 (hitF F[j].2 ((zs.drop j).headD 0)) (fun w' => KeepAt T w' k (zs.drop j).tail)
    (fun i hi e => hke (by rw [← show i = k from hi]; exact e)) hroom (fun w2 u h2 => KeepAt.set h2 hTd (fun e => hd e.symm) 1 u) (fun g v hfa hS => hit_ok T k (hT k (.inr (.inl rfl))) (zs.drop j) g v F[j].2 wr hfa h.keep (fun z hzm => hz z (List.mem_of_mem_drop hzm)) (hT g (by
      rcases hS with e | e
      · exact .inl e
      · exact .inr (.inr e.1))))).mono ?_
  rintro e w2 ⟨h1, h2, h3, h4⟩
  refine ⟨h1, ⟨h.only.trans h2 fun i hi he => ?_, ?_, ?_⟩⟩
  · rcases he with (he | he) | he
    · exact .inl he
    · omega
    · exact .inr he
  · rw [bs_list] at h4
    have e2 : putE F[j].1 (hitF F[j].2 ((zs.drop j).headD 0)) (mixF zs F j) = mixF zs F (j + 1) := by
      rw [mix_next hj]
      rw [mix_at hj] at hr ⊢
      exact put_split hr
    rw [e2] at h4
    exact h4.mono fun i hi => ext_ext2 h.only.size h2.size hi
  · rw [show (zs.drop j).tail = zs.drop (j + 1) from by rw [List.tail_drop]] at h3
    exact h3

theorem Crash_nil (A : Option Addr) (n c : Nat) (w : World) : Calls Tryd.prog 9 #[.pointer none, .slice A n c] w fun e w' => e = .returned (.tuple #[]) ∧ Gr w w' := by
  have hg := (Gr.refl w).alloc (.cells #[.slice A n c] 58)
  have HG := hide hg
  clear hg
  go_enter Tryd.func9, Tryd.ntmps9
  go_wp2_with fail
  refine (List_nil _).mono ?_
  rintro e w1 ⟨rfl, rfl⟩
  go_wp2_with fail
  refine wp_loop_rounds 1 ?_
  rw [rounds_succ]
  go_wp2_with fail
  go_end0
  exact ⟨rfl, HG.out⟩

set_option maxHeartbeats 1000000 in
theorem Crash_ok {S : Nat → Prop} {w : World} {d room : Nat} {F : Fs} (h : DiskIs S w d room F) (A : Option Addr) (n c : Nat) (zs : List Int) (hn : n = zs.length) (hi : Ints .i64 w A c zs) (ha : Away S A zs.length) (hF : F.length ≤ 1000000000) :
    Calls Tryd.prog 9 #[ptr d, .slice A n c] w fun e w' => e = .returned (.tuple #[]) ∧ Only S w w' ∧ DiskIs (ext S w w') w' d room (crashF zs F) := by
  subst hn
  have H := hide h
  have HI := hide hi
  have HA := hide ha
  clear h hi ha
  unfold ptr
  go_enter Tryd.func9, Tryd.ntmps9
  go_wp2_with fail
  refine (List_ok (H.out.gr ((Gr.refl w).alloc _)) hF).mono ?_
  rintro e w1 ⟨v, rfl, hg, ho⟩
  obtain ⟨B, c1, hv, hc1, hcells⟩ := ho.is
  have e0 : (nameV F).length = F.length := by simp [nameV]
  have hz : ∀ z ∈ zs, -9223372036854775808 ≤ z ∧ z ≤ 9223372036854775807 := fun z hz => by
    have := HI.out.wf z hz
    simpa [Lit.wf, IntKind.min, IntKind.max, IntKind.signed, IntKind.bits] using this
  have hsz : w.heap.size < w1.heap.size := by have := hg.size; simp at this; omega
  have hrow : ∀ i, (Value.slice B (nameV F).length c1).ownBlock = some i → w.heap.size < i ∧ i < w1.heap.size := fun i hi => by
    have := World.ownsRow.lt ho i (by rw [hv]; exact hi)
    simp at this
    omega
  have hgr1 : Gr w w1 := Gr.trans ((Gr.refl w).alloc _) hg
  have hdk : d ≠ w.heap.size := by have := H.out.lt; omega
  have hstart : CrAt (fun i => S i ∧ i < w.heap.size) (fun i => (S i ∧ i < w.heap.size) ∨ i = w.heap.size ∨ w1.heap.size ≤ i) w1 w1 d room w.heap.size zs F 0 := by
    refine ⟨Only.refl _ _, ?_, ?_⟩
    · rw [mix_zero]
      exact (H.out.tight.gr hgr1).mono fun i hi => .inl hi
    · refine ⟨A, c, (Bl.new w _ _).gr hg, HI.out.gr hgr1, fun hl ad hA e => ?_⟩
      obtain ⟨ad', h1, h2⟩ := HI.out.rd 0 hl
      rw [hA] at h1
      injection h1 with h1
      subst h1
      have hlt := World.block_lt_of_cell? w _ h2
      rw [add_block] at hlt
      rcases e with e | e | e
      · exact HA.out hl _ hA e.1
      · omega
      · omega
  have HS := hide hstart
  rw [e0] at hrow
  have HR := hide hrow
  have HC : Hid (∀ (j : Nat) (hj : j < F.length), ∃ ad, B = some ad ∧ w1.cell? (ad.add j) = some (.string (bs F[j].1))) := hide fun j hj => by
    obtain ⟨ad, h1, h2⟩ := hcells j (by rw [e0]; exact hj)
    refine ⟨ad, h1, ?_⟩
    rw [h2]
    simp [nameV]
  rw [e0] at hv hc1
  subst hv
  have HG := hide hgr1
  have HDK := hide hdk
  have HZ := hide hz
  have HSZ := hide hsz
  have HO := hide ho
  clear hcells hstart hrow hgr1 hdk hz hsz e0 ho hg
  go_wp2_with fail
  have hFi : (F.length : Int) ≤ 1000000000 := by omega
  go_loopw [12] (fun i wr => ∃ j : Nat, i = .int .i64 j ∧ j ≤ F.length ∧ Hid (CrAt (fun i => S i ∧ i < w.heap.size) (fun i => (S i ∧ i < w.heap.size) ∨ i = w.heap.size ∨ w1.heap.size ≤ i) w1 wr d room w.heap.size zs F j)) (fun i _ => F.length - (intOf i).toNat)
  case atStart => exact ⟨0, rfl, by omega, HS⟩
  case round =>
    obtain ⟨j, rfl, hj, hcr⟩ := hrel
    by_cases hlt : j < F.length
    · obtain ⟨ad, rfl, hcell⟩ := HC.out j hlt
      have hcell' : wr.cell? (ad.add j) = some (.string (bs F[j].1)) := hcr.out.only.cell hcell (by
        have hb := HR.out ad.block rfl
        rw [add_block]
        rintro (e | e)
        · omega
        · omega)
      have HST := hide (cr_step hcr.out hlt (fun e => by omega) HSZ.out (fun i hi => hi) HDK.out HZ.out)
      clear hcell
      obtain ⟨nm, hnm⟩ : ∃ nm, bs F[j].1 = nm := ⟨_, rfl⟩
      rw [hnm] at hcell' HST
      have HNM := hide hnm
      clear hnm
      go_wp2_with fail
      refine HST.out.mono ?_
      rintro e w2 ⟨rfl, h2⟩
      have H2 := hide h2
      clear h2 hcell'
      go_wp2_with fail
      go_roundw
      case rel => exact ⟨j + 1, by go_num, by omega, H2⟩
      case measure => simp [intOf]; omega
    · obtain rfl : j = F.length := by omega
      go_wp2_with fail
      go_end0
      have h1 := hcr.out.disk
      rw [mix_all] at h1
      refine ⟨rfl, (Only.gr HG.out S).trans hcr.out.only fun i hi he => ?_, h1.mono fun i hi => ?_⟩
      · rcases he with he | he
        · exact he.1
        · omega
      · have := HG.out.size
        rcases hi with hi | hi
        · exact .inl hi.1
        · exact .inr ⟨by omega, hi.2⟩

end Go.Proofs.YtkcfieoflkhdpaaDoor.DiskCrash
