/-
  Append, Remove.
-/
import Derived.Test.YtkcfieoflkhdpaaDoorDiskOps
namespace Go.Proofs.YtkcfieoflkhdpaaDoor.DiskApp
open Go Go.RowKit MapS DiskMem DiskFile DiskHit DiskFind DiskBegin DiskOps KeyMath
set_option maxRecDepth 100000

theorem used_get {F : Fs} {s : List UInt8} {f : FileT} (h : (s, f) ∈ F) : f.b.length ≤ usedF F := by
  unfold usedF
  induction F with
  | nil => simp at h
  | cons p r ih =>
    rcases List.mem_cons.1 h with rfl | h
    · simp
    · have := ih h
      simp
      omega
theorem used_new {F : Fs} (hr : Ris F) {s : List UInt8} (hs : getE F s = none) : usedF (putE s f0 F) = usedF F := by
  obtain ⟨l, r, rfl, e⟩ := put_new (y := f0) hs
  rw [e, usedF_app, usedF_cons, usedF_app]
  simp [f0]

/-- there is such a file, maybe of no bytes -/
def withF (F : Fs) (s : List UInt8) : Fs := match getE F s with | none => putE s f0 F | some _ => F

theorem begin_ok {S : Nat → Prop} {w : World} {d room : Nat} {F : Fs} (h : DiskIs S w d room F) {s : ByteArray} (hk : mayK s = true) (hn : F.length ≤ 1000000000) :
    Calls Tryd.prog 40 #[ptr d, .string s] w fun e w' => e = .returned (.tuple #[]) ∧ Only S w w' ∧ DiskIs (ext S w w') w' d room (withF F s.data.toList) := by
  obtain ⟨es, m, rfl, hd⟩ := h
  obtain ⟨_, hs8⟩ := mayK_ok hk
  unfold withF
  cases hf : getE (es.map abs1) s.data.toList with
  | none =>
    refine (begin_new hd hk (found_no hf) (by simpa using hn)).mono ?_
    rintro e w' ⟨h1, h2, m', es', h3, h4⟩
    exact ⟨h1, h2, es', m', h3, h4⟩
  | some f =>
    obtain ⟨en, h1, _⟩ := found_some hf
    refine (begin_has hd (by unfold maxLen; omega) h1).mono ?_
    rintro e w' ⟨h1, rfl⟩
    exact ⟨h1, Only.refl _ _, es, m, rfl, hd.mono fun _ hi => .inl hi⟩

theorem with_get {F : Fs} (hr : Ris F) (s : List UInt8) : getE (withF F s) s = some ((getE F s).getD f0) := by
  unfold withF
  cases h : getE F s with
  | none => rw [getE_put hr, if_pos rfl]; rfl
  | some f => exact h
theorem with_used {F : Fs} (hr : Ris F) (s : List UInt8) : usedF (withF F s) = usedF F := by
  unfold withF
  cases h : getE F s with
  | none => exact used_new hr h
  | some f => rfl
theorem with_put {F : Fs} (hr : Ris F) (s : List UInt8) (y : FileT) : putE s y (withF F s) = putE s y F := by
  unfold withF
  cases h : getE F s with
  | none => exact put_put hr _ _ _
  | some f => rfl

set_option maxHeartbeats 1000000 in
theorem Append_ok {S : Nat → Prop} {w : World} {d room : Nat} {F : Fs} (h : DiskIs S w d room F) {s : ByteArray} (hs : (s.size : Int) ≤ 281474976710656) (A : Option Addr) (n c : Nat) (l : List UInt8) (hn : n = l.length) (hl : By w A c l) (ha : Away S A l.length)
    (hcnt : F.length ≤ 1000000000) (hsz : usedF F + l.length ≤ 1000000000) :
    Calls Tryd.prog 25 #[ptr d, .string s, .slice A n c] w (Does S w d room (appendF room F s l).1 (appendF room F s l).2) := by
  subst hn
  obtain ⟨m, hbl, hroom, hused, _⟩ := h.facts
  have HN := hide (MayName_ok s hs)
  have H := hide h
  have HL := hide hl
  have HA := hide ha
  have c0 := hbl.cell 0
  have c1 := hbl.cell 1
  simp only [List.getElem?_toArray, List.getElem?_cons_zero, List.getElem?_cons_succ] at c0 c1
  clear h hl ha hbl
  unfold appendF
  cases hk : mayK s with
  | false =>
    rw [hk] at HN
    rw [if_neg (by decide)]
    unfold ptr
    go_enter Tryd.func25, Tryd.ntmps25
    go_wp2_with fail
    refine (HN.out w).mono ?_
    rintro e w1 ⟨rfl, hg⟩
    have HG := hide hg
    clear hg c0 c1
    go_wp2_with fail
    go_ret
    exact ⟨rfl, Only.gr HG.out _, (H.out.gr HG.out).mono fun _ hi => .inl hi⟩
  | true =>
    rw [hk] at HN
    rw [if_pos rfl]
    have hw1 : IntKind.i64.wrap ((room : Int) - (usedF F : Int)) = (room : Int) - (usedF F : Int) := IntWalk.i64_in _ (by omega)
    obtain ⟨u0, hu0⟩ : ∃ u0, u0 = usedF F := ⟨_, rfl⟩
    rw [← hu0] at c1 hw1 hused hsz
    by_cases hfull : room < usedF F + l.length
    · rw [if_pos hfull]
      have d1 : decide ((room : Int) - (u0 : Int) < (l.length : Int)) = true := decide_eq_true (by omega)
      have HU := hide hu0
      clear hu0 hfull
      unfold ptr
      go_enter Tryd.func25, Tryd.ntmps25
      go_wp2_with fail
      refine (HN.out w).mono ?_
      rintro e w1 ⟨rfl, hg⟩
      have HG := hide hg
      have c0' := gr_cell hg _ _ c0
      have c1' := gr_cell hg _ _ c1
      clear hg c0 c1
      go_wp2_with fail
      go_quiet (fail)
      go_wp2_with fail
      go_ret
      exact ⟨rfl, (Only.gr HG.out _).drewN _, ((H.out.gr HG.out).gr ((Gr.refl _).drewN _)).mono fun _ hi => .inl hi⟩
    · rw [if_neg hfull]
      have d1 : decide ((room : Int) - (u0 : Int) < (l.length : Int)) = false := decide_eq_false (by omega)
      have HU := hide hu0
      have HK := hide hk
      have hfl : usedF F + l.length ≤ room := by omega
      have HFL := hide hfl
      clear hu0 hfull hfl hk
      unfold ptr
      go_enter Tryd.func25, Tryd.ntmps25
      go_wp2_with fail
      refine (HN.out w).mono ?_
      rintro e w1 ⟨rfl, hg⟩
      have HG := hide hg
      have c0' := gr_cell hg _ _ c0
      have c1' := gr_cell hg _ _ c1
      clear hg c0 c1
      go_wp2_with fail
      go_quiet (fail)
      go_wp2_with fail
      refine (begin_ok ((H.out.gr HG.out).gr ((Gr.refl _).drewN _)) HK.out hcnt).mono ?_
      rintro e w2 ⟨rfl, ho2, hd2⟩
      have hr := H.out.ris
      have hby : By w2 A c l := By.only ((HL.out.gr HG.out).drewN _) ho2 HA.out
      have hlen0 : ((getE F s.data.toList).getD f0).b.length ≤ usedF F := by
        cases hg : getE F s.data.toList with
        | none => simp [f0]
        | some f => exact used_get ((mem_getE hr).1 hg)
      have HC := hide (change_is (X := noB) hd2 (s := s) (by unfold maxLen; omega) (with_get hr _) 41 #[.slice A l.length c] Tryd.func41 (by kernel_rfl) (by kernel_rfl) 0 ⟨((getE F s.data.toList).getD f0).b ++ l, ((getE F s.data.toList).getD f0).sure⟩ triv (fun _ hi => hi.elim)
        (by simp only; rw [with_used hr, List.length_append]; have := HFL.out; omega) (fun _ _ _ => trivial) (fun g v hfa _ => add_ok g v _ A l.length c l rfl w2 hfa hby (by have := HU.out; omega)))
      rw [with_put hr] at HC
      have HO2 := hide ho2
      clear ho2 hd2 hby c0' c1' hlen0 hr
      unfold ptr at HC
      go_wp2_with fail
      refine HC.out.mono ?_
      intro e w3 h3
      obtain ⟨rfl, h4, h5⟩ := turned_triv h3
      have H4 := hide h4
      have H5 := hide h5
      clear h3 h4 h5
      go_wp2_with fail
      go_ret
      have k1 : Only S w w2 := ((Only.gr HG.out S).drewN _).trans HO2.out fun _ _ hi => hi
      have k2 : Only S w w3 := k1.trans H4.out fun i hi he => by
        rcases he with he | he
        · exact he
        · have h1 : w1.heap.size ≤ i := he.1
          have := HG.out.size
          omega
      refine ⟨rfl, k2, H5.out.mono fun i hi => ?_⟩
      have h1 : w.heap.size ≤ w1.heap.size := HG.out.size
      rcases hi with (hi | hi) | hi
      · exact .inl hi
      · exact .inr ⟨Nat.le_trans h1 hi.1, Nat.lt_of_lt_of_le hi.2 H4.out.size⟩
      · exact .inr ⟨Nat.le_trans k1.size hi.1, hi.2⟩

/-! Remove -/
/-- a file is gone -/
theorem del_end {S : Nat → Prop} {w w2 : World} {d room b : Nat} {l r : List DEnt} {en : DEnt} (h : DiskAt S w d room (l ++ en :: r) (some b)) (h0 : en.f.b = []) (hm : MapAt Tryd.prog 9 w2 b (delE en.name (refs (l ++ en :: r)))) (ht : w.mapTurned w2 b) :
    Only S w w2 ∧ DiskAt S w2 d room (l ++ r) (some b) ∧ (l ++ r).map abs1 = delE en.name ((l ++ en :: r).map abs1) := by
  obtain ⟨hSb, hmb⟩ := h.mp b rfl
  have o2 : Only (onB b) w w2 := turned_only ht
  have ow : Only S w w2 := o2.mono fun i _ hi => by rw [show i = b from hi]; exact hSb
  have hr := h.ris
  have habs : (l ++ r).map abs1 = delE en.name ((l ++ en :: r).map abs1) := by
    rw [List.map_append, List.map_cons] at hr
    rw [List.map_append, List.map_append, List.map_cons]
    exact (del_split (show Ris (l.map abs1 ++ (en.name, en.f) :: r.map abs1) from hr)).symm
  have hrefs : refs (l ++ r) = delE en.name (refs (l ++ en :: r)) := by
    have h1 : Ris (refs (l ++ en :: r)) := hmb.2
    unfold refs at h1 ⊢
    rw [List.map_append, List.map_cons] at h1
    rw [List.map_append, List.map_append, List.map_cons]
    exact (del_split h1).symm
  have hu : usedF ((l ++ r).map abs1) = usedF ((l ++ en :: r).map abs1) := by rw [used_swap, h0]; simp
  have hmem : ∀ e ∈ l ++ r, e ∈ l ++ en :: r := fun e he => by
    rcases List.mem_append.1 he with he | he <;> simp [he]
  refine ⟨ow, ⟨?_, h.dd, fun hh => (by cases hh), fun b2 hb2 => ?_, fun e he => ?_, ?_, ?_, h.hroom, by rw [hu]; exact h.hused⟩, habs⟩
  · rw [hu]
    exact o2.bl h.bl (fun hi => hmb.ne h.bl (show d = b from hi).symm)
  · injection hb2 with hb2
    subst hb2
    rw [hrefs]
    exact ⟨hSb, hm⟩
  · have k1 := h.ent e (hmem e he)
    exact k1.only o2 (fun hi => hmb.ne k1.file.bl (show e.g = b from hi).symm) (fun k hk hi => map_ne_own hmb k1.file.own hk (show k = b from hi).symm)
  · have hap := h.apart
    rw [List.pairwise_append, List.pairwise_cons] at hap
    rw [List.pairwise_append]
    exact ⟨hap.1, hap.2.1.2, fun x hx y hy => hap.2.2 x hx y (by simp [hy])⟩
  · rw [habs]
    exact hr.del _

def removeF (F : Fs) (s : List UInt8) : Int × Fs := match getE F s with | none => (6, F) | some _ => (0, delE s F)

set_option maxHeartbeats 1000000 in
theorem Remove_ok {S : Nat → Prop} {w : World} {d room : Nat} {F : Fs} (h : DiskIs S w d room F) {s : ByteArray} (hs : s.size ≤ maxLen) :
    Calls Tryd.prog 17 #[ptr d, .string s] w (Does S w d room (removeF F s.data.toList).1 (removeF F s.data.toList).2) := by
  unfold removeF
  cases hf : getE F s.data.toList with
  | none =>
    have HC := hide (change_none h hs hf (.func (.func 32) #[.int .i64 0] #[]))
    clear h hf
    unfold ptr at *
    go_enter Tryd.func17, Tryd.ntmps17
    go_wp2_with fail
    refine HC.out.mono ?_
    rintro e w1 ⟨rfl, h2, h3⟩
    have H2 := hide h2
    have H3 := hide h3
    clear h2 h3
    go_wp2_with fail
    go_ret
    exact ⟨rfl, H2.out, H3.out⟩
  | some f =>
    obtain ⟨es, m, rfl, hd⟩ := h
    obtain ⟨l, r, en, rfl, hn, rfl⟩ := get_split hd.ris hf
    have hu := hd.hused
    rw [used_swap] at hu
    have hfile := (hd.ent en (by simp)).file
    have HC := hide (change_ok (X := noB) hd hs hn 32 #[.int .i64 0] Tryd.func32 (by kernel_rfl) (by kernel_rfl) 0 ⟨en.f.b.take (0 : Int).toNat, (0 : Int).toNat⟩ triv (fun _ hi => hi.elim) (by show (List.take (0 : Int).toNat en.f.b).length + _ ≤ _; rw [show (List.take (0 : Int).toNat en.f.b).length = 0 from by simp]; omega) (fun _ _ _ => trivial)
      (by have h1 := cut_ok en.g en.v en.f 0 (by omega) w hfile; rw [if_neg (show ¬ ((0 : Int) < 0 ∨ (en.f.b.length : Int) < 0) by omega)] at h1; exact h1))
    have HN := hide hn
    have HD := hide hd
    clear hd hf hu hfile hn
    unfold ptr at *
    go_enter Tryd.func17, Tryd.ntmps17
    go_wp2_with fail
    refine HC.out.mono ?_
    rintro e w1 ⟨v', rfl, h2, _, h4⟩
    cases m with
    | none => exact absurd (h4.nil rfl) (by simp)
    | some b =>
      have H2 := hide h2
      have H4 := hide h4
      have c2 := h4.bl.cell 2
      simp only [List.getElem?_toArray, List.getElem?_cons_zero, List.getElem?_cons_succ] at c2
      clear h2 h4
      go_wp2_with (at_delete; refine wpList_del_map rfl (.tmp 15) (.tmp 16) 45 9 rfl 68 Tryd.underlying9 Tryd.underlying45 rfl (H4.out.mp b rfl).2 s rfl hs ?_)
      intro w2 hm2 ht2
      rw [← HN.out] at hm2
      have hend := del_end H4.out (by simp) hm2 ht2
      have HE := hide hend
      clear hm2 ht2 hend c2
      go_wp2_with fail
      go_ret
      obtain ⟨k1, k2, k3⟩ := HE.out
      have k4 := H2.out.mono (T := S) fun i _ hi => hi.elim id (fun hh => hh.elim)
      refine ⟨rfl, k4.then_ext k1, l ++ r, some b, ?_, k2.mono fun i hi => ?_⟩
      · rw [k3, ← HN.out]
        simp only [List.map_append, List.map_cons]
        have hr := HD.out.ris
        have hr2 := H4.out.ris
        rw [List.map_append, List.map_cons] at hr hr2
        exact (del_split (show Ris (l.map abs1 ++ (en.name, _) :: r.map abs1) from hr2)).trans (del_split (show Ris (l.map abs1 ++ (en.name, en.f) :: r.map abs1) from hr)).symm
      · rcases hi with hi | hi
        · exact .inl hi
        · exact .inr ⟨hi.1, Nat.lt_of_lt_of_le hi.2 k1.size⟩

end Go.Proofs.YtkcfieoflkhdpaaDoor.DiskApp
