/-
  The walk of 'WalFull'.
-/
import Derived.Test.YtfabcpdljclkpaaDoorWalDeeds
import Derived.Test.YtfabcpdljclkpaaDoorWalMath3
namespace Go.Proofs.YtfabcpdljclkpaaDoor
open Go Go.RowKit MapS DiskMem DiskHit DiskBegin DiskOps DiskApp DiskCrash KeyMath WalName WalObj WalDo WalWalk WalRead WalOpen WalMath WalBegun FrameMath
set_option maxRecDepth 100000

def strV (ls : List (List UInt8)) : List Value := ls.map fun l => Value.string (bs l)
/-- where the law is: 'als' is its own row, 'recs' what lies on the disk -/
structure FlAt (w wr : World) (d g size room : Nat) (v : Value) (als recs : List (List UInt8)) (U k : Nat) : Prop where
  gr : Gr w wr
  own : OwnV 9 wr w.heap.size v (strV als)
  ex : ∃ S F fs, WSt w.heap.size S wr d room F g 97 size fs.length ∧ Pcs F 97 fs ∧ Ris F ∧ usedF F = U ∧ U ≤ k * 106 ∧ F.length ≤ k ∧ fs.length ≤ k ∧ AllIn fs recs ∧ ∀ j, v.ownBlock = some j → ¬ S j ∧ j ≠ g
theorem OwnV.only8 {e : TypeId} {w w' : World} {B : Nat} {v : Value} {xs : List Value} {S : Nat → Prop} (h : OwnV e w B v xs) (ho : Only S w w') (hv : ∀ k, v.ownBlock = some k → ¬ S k) : OwnV e w' B v xs := ownsRow_only h ho hv
/-- Append where there is room -/
theorem FlAt.yes {w wr : World} {d g size room : Nat} {v : Value} {als recs : List (List UInt8)} {U k : Nat} (h : FlAt w wr d g size room v als recs U k) (hr : room ≤ 1048576) (hk : k < 30) {A : Option Addr} {c : Nat} {l : List UInt8} (hb : By wr A c l) (hl : l.length ≤ 100) (hroom : U + (l.length + 6) ≤ room) :
    Calls Tryd.prog 15 #[.pointer (some ⟨g, 0, none⟩), .slice A l.length c] wr fun e w2 => e = .returned (.int .i64 0) ∧ Gr w w2 ∧ FlAt w w2 d g size room v als (recs ++ [l]) (U + (l.length + 6)) (k + 1) := by
  obtain ⟨S, F, fs, h1, h2, h3, h4, h5, h6, h7, h8, h9⟩ := h.ex
  subst h4
  obtain ⟨F', e1, a1⟩ := append_yes (room := room) (size := size) (l := l) (b := 97) (by decide) h3 h2 (by omega) (by omega) (by omega)
  have ha := append_ok (b := 97) (by decide) (by omega) h1 A l.length c l rfl hb (by omega) (by omega) (by omega)
  rw [e1] at ha
  refine ha.mono fun e w2 hd => ?_
  have hg := gr_done h1 (Nat.le_refl _) h.gr hd
  refine ⟨hd.1, hg, hg, h.own.only8 hd.2.2 (fun j hj => ?_), _, F', addP size fs l, hd.2.1, a1.pcs, a1.ris, a1.used, by omega, by have := a1.len; omega, by have := (addP_len size fs l).1; omega, h8.add size (by omega), fun j hj => ⟨fun e => ?_, (h9 j hj).2⟩⟩
  · rintro (e | e)
    · exact (h9 j hj).1 e
    · exact (h9 j hj).2 e
  · rcases e with e | e
    · exact (h9 j hj).1 e
    · have := h.own.lt j hj; omega
/-- Append where there is none -/
theorem FlAt.no {w wr : World} {d g size room : Nat} {v : Value} {als recs : List (List UInt8)} {U k : Nat} (h : FlAt w wr d g size room v als recs U k) (hk : k < 30) {A : Option Addr} {c : Nat} {l : List UInt8} (hb : By wr A c l) (hl : l.length ≤ 100) (hroom : room < U + (l.length + 6)) :
    Calls Tryd.prog 15 #[.pointer (some ⟨g, 0, none⟩), .slice A l.length c] wr fun e w2 => e = .returned (.int .i64 3) ∧ Gr w w2 ∧ FlAt w w2 d g size room v als recs U (k + 1) := by
  obtain ⟨S, F, fs, h1, h2, h3, h4, h5, h6, h7, h8, h9⟩ := h.ex
  subst h4
  have ha := append_ok (b := 97) (by decide) (by omega) h1 A l.length c l rfl hb (by omega) (by omega) (by omega)
  rw [append_full (b := 97) (by decide) (by omega) hroom] at ha
  refine ha.mono fun e w2 hd => ?_
  have hg := gr_done h1 (Nat.le_refl _) h.gr hd
  refine ⟨hd.1, hg, hg, h.own.only8 hd.2.2 (fun j hj => ?_), _, F, fs, hd.2.1, h2, h3, rfl, by omega, by omega, by omega, h8, fun j hj => ⟨fun e => ?_, (h9 j hj).2⟩⟩
  · rintro (e | e)
    · exact (h9 j hj).1 e
    · exact (h9 j hj).2 e
  · rcases e with e | e
    · exact (h9 j hj).1 e
    · have := h.own.lt j hj; omega
/-- the law's row has grown -/
theorem FlAt.row {w wr w' : World} {d g size room : Nat} {v v' : Value} {als recs als' : List (List UInt8)} {U k : Nat} (h : FlAt w wr d g size room v als recs U k) {wa : World} (hwa : Gr wr wa) (ho : OwnV 9 w' w.heap.size v' (strV als')) (hg : Gr w w') (hp : Put1 wa w' v v') : FlAt w w' d g size room v' als' recs U k := by
  obtain ⟨S, F, fs, h1, h2, h3, h4, h5, h6, h7, h8, h9⟩ := h.ex
  have h1' := h1.gr hwa
  have o : Only (fun i => v.ownBlock = some i) wa w' := ⟨hp.1.os, hp.1.tape, hp.1.output, hp.1.size, fun i hi hn => hp.1.block i hi (fun e => hn e.symm)⟩
  have hlt : ∀ j, v.ownBlock = some j → w.heap.size ≤ j ∧ j < wr.heap.size := fun j hj => World.ownsRow.lt h.own j hj
  refine ⟨hg, ho, S, F, fs, ⟨h1'.use.only o (fun i hi e => (h9 i e).1 hi), h1'.wal.only o (fun e => (h9 g e).2 rfl), h1.gS, h1'.tab.only o (fun e => ?_), h1.tl, h1.lo⟩, h2, h3, h4, h5, h6, h7, h8, fun j hj => ?_⟩
  · have := (hlt _ e).1; have := h1.tl; omega
  · rcases hp.2 with e | ⟨m, e, hm⟩
    · exact h9 j (e ▸ hj)
    · rw [e] at hj
      injection hj with hj
      subst hj
      have := hwa.size
      refine ⟨fun e => ?_, fun e => ?_⟩
      · have := h1'.use.hi _ e; omega
      · have := Bl.lt h1'.wal; omega

theorem u8_in8 {a : Int} (h : (Lit.int .u8 a).wf = true) : ∃ b : Nat, (b : Int) = a ∧ b < 256 := by
  have : 0 ≤ a ∧ a ≤ 255 := by simpa [Lit.wf, IntKind.min, IntKind.max, IntKind.bits, IntKind.signed] using h
  exact ⟨a.toNat, by omega, by omega⟩
theorem u16_of {a : Int} (h : (Lit.int .u16 a).wf = true) : ∃ b : Nat, (b : Int) = a ∧ b < 65536 := by
  have : 0 ≤ a ∧ a ≤ 65535 := by simpa [Lit.wf, IntKind.min, IntKind.max, IntKind.bits, IntKind.signed] using h
  exact ⟨a.toNat, by omega, by omega⟩
theorem light_in {ds : List DeedW} (h : lightB ds = true) : ds.length ≤ 30 ∧ ∀ x ∈ ds, x.b.length ≤ 100 ∧ x.keep.length ≤ 20 := by
  unfold lightB at h
  simp only [Bool.and_eq_true, decide_eq_true_eq, List.all_eq_true] at h
  refine ⟨h.2, fun x hx => ?_⟩
  have := h.1 x hx
  unfold smallD at this
  simpa using this

theorem info_str8 : (Tryd.prog.info? 9).map (fun i => (i.zero, i.size, i.bytes)) = some (some (.string ⟨#[]⟩), 1, 16) := by kernel_rfl
theorem conv8 (w : World) {A : Option Addr} {c : Nat} {l : List UInt8} (h : By w A c l) : (convert 33 9 (.slice A l.length c)).run Tryd.prog w = .ok (.string (bs l)) w := run_conv w 33 9 5 Tryd.underlying33 Tryd.underlying5 Tryd.underlying9 _ _ rfl h.rd

set_option maxHeartbeats 4000000 in
theorem walk_WalFull (w : World) (ht : TabW w) (ro : Int) (hro : (Lit.int .u16 ro).wf = true) (a : Int) (ha : (Lit.int .u8 a).wf = true) (v : Value) (ds : List DeedW) (hv : RowAt 3 w v (ds.map deedW)) (hok : ∀ x ∈ ds, DeedOk8 w x) (hlen : ds.length ≤ 281474976710656) :
    Calls Tryd.prog 4 #[.int .u16 ro, .int .u8 a, v] w fun e w' => e = .returned (.bool true) ∧ Gr w w' := by
  obtain ⟨i0, hi, hz0, hz1, hz2⟩ := info_parts info_str8
  obtain ⟨sz, rfl, hsz⟩ := u8_in8 ha
  obtain ⟨rm, rfl, hrm⟩ := u16_of hro
  have HT := hide ht
  have HL := hide ht.lt
  have HB := hide (begun_ok w ht)
  have HV := hide hv
  have HO := hide hok
  have HN := hide (show (ds.length : Int) ≤ 281474976710656 by omega)
  obtain ⟨A, c, rfl, hac⟩ := hv.slice8
  clear ht ha hro hv hok hlen
  cases hli : lightB ds with
  | false =>
    have HLI := hide hli
    clear hli
    go_enter Tryd.func4, Tryd.ntmps4
    go_wp2_with fail
    refine HB.out.mono ?_
    rintro e w0 ⟨rfl, hg0⟩
    have G0 := hide hg0
    clear hg0
    go_wp2_with fail
    refine (light_ok _ ds w0 (HV.out.gr G0.out) HN.out).mono ?_
    rintro e w1 ⟨rfl, rfl⟩
    rw [HLI.out]
    go_wp2_with fail
    go_ret
    exact ⟨rfl, G0.out⟩
  | true =>
    have HLI := hide hli
    have HSM := hide (light_in hli)
    have h30 := (light_in hli).1
    clear hli
    go_enter Tryd.func4, Tryd.ntmps4
    go_wp2_with fail
    refine HB.out.mono ?_
    rintro e w0 ⟨rfl, hg0⟩
    have G0 := hide hg0
    clear hg0
    go_wp2_with fail
    refine (light_ok _ ds w0 (HV.out.gr G0.out) HN.out).mono ?_
    rintro e w1 ⟨rfl, rfl⟩
    rw [HLI.out]
    go_wp2_with fail
    obtain ⟨R, hR⟩ : ∃ R : Nat, rm % 900 = R := ⟨_, rfl⟩
    have hR9 : R < 900 := by omega
    have em : (rm : Int) % 900 = (R : Int) := by omega
    have hnew := new_ok ((rm : Int) % 900) w1
    rw [show max ((rm : Int) % 900) 0 = ((R : Nat) : Int) by omega] at hnew
    refine hnew.mono ?_
    rintro e w2 ⟨rfl, hg1, hb1, hs1⟩
    have U1 := hide (use_new (room := R) (by omega) hb1 hs1)
    have O1 := hide (open_ok (by have := HL.out; have := G0.out.size; omega) (by omega) U1.out (HT.out.gr (G0.out.trans hg1)) (fun p hp => by cases hp) 97 (by decide) (1 + sz) (by omega) (by omega))
    have e1 : ((1 + sz : Nat) : Int) = 1 + (sz : Int) := by omega
    rw [openM_nil, e1] at O1
    have G1 := hide hg1
    clear hg1 hb1 hs1 hnew
    unfold ptr
    go_wp2_with fail
    refine O1.out.mono ?_
    rintro e w3 ⟨g, A1, c1, S, rfl, hst, hS, hlo, hon, hrw⟩
    have P2 : Hid (FlAt w1 w3 w1.heap.size g (1 + sz) R (.slice none 0 0) [] [] 0 0) := hide (by
      have hg3 : Gr w1 w3 := gr_only G1.out hon (fun i hi => by rw [show i = w1.heap.size from hi]; exact Nat.le_refl _)
      exact ⟨hg3, World.ownsRow_nil _ _ _ _, S, [], [], hst, pcs_nil _, List.Pairwise.nil, rfl, Nat.le_refl _, Nat.le_refl _, Nat.le_refl _, AllIn.nil, fun j hj => by cases hj⟩)
    clear hst hS hlo hon hrw O1
    unfold ptr
    simp only [List.length_nil]
    obtain ⟨d, hd⟩ : ∃ d, w1.heap.size = d := ⟨_, rfl⟩
    rw [hd] at P2 ⊢
    clear hd
    go_wp2_with fail
    go_loopw [12, 13, 14] (fun v u i wr => ∃ (als : List (List UInt8)) (U k : Nat), u = .int .i64 U ∧ i = .int .i64 k ∧ k ≤ ds.length ∧ als.length ≤ k ∧ U ≤ 106 * k ∧ Hid (FlAt w1 wr d g (1 + sz) R v als als U k)) (fun v u i _ => ds.length - (intOf i).toNat)
    case atStart => exact ⟨[], 0, 0, rfl, rfl, Nat.zero_le _, Nat.le_refl _, Nat.le_refl _, P2⟩
    case round =>
      obtain ⟨als, U, k, rfl, rfl, hk, hal, hU, hat⟩ := hrel
      by_cases hlt : k < ds.length
      · have hlt' : (k : Int) < (ds.length : Int) := by omega
        have dlt : decide ((k : Int) < (ds.length : Int)) = true := by simpa using hlt
        have hkc : (k : Int) < (c : Int) := by omega
        obtain ⟨ad, c', ee, _, k1, _⟩ := ((HV.out.gr G0.out).gr hat.out.gr).deed8 hlt
        injection ee with ee _ ee2
        subst ee
        subst ee2
        have hsm := (HSM.out.2 _ (List.getElem_mem hlt)).1
        have HBY := hide ((((HO.out _ (List.getElem_mem hlt)).b).gr G0.out).gr hat.out.gr)
        obtain ⟨x, hx⟩ : ∃ x, ds[k] = x := ⟨_, rfl⟩
        rw [hx] at k1 hsm HBY
        have hk1 : ∀ W, Gr w1 W → W.cell? ⟨(ad.add (k * 3)).block, (ad.add (k * 3)).off + 1, none⟩ = some (.slice x.B x.b.length x.bc) := fun W hW => by
          obtain ⟨ad', c', ee, _, k1', _⟩ := ((HV.out.gr G0.out).gr hW).deed8 hlt
          injection ee with ee _ ee2
          injection ee with ee
          subst ee
          rw [hx] at k1'
          exact k1'
        have hbx : ∀ W, Gr w1 W → By W x.B x.bc x.b := fun W hW => by
          have := (((HO.out _ (List.getElem_mem hlt)).b).gr G0.out).gr hW
          rw [hx] at this
          exact this
        have HK1 := hide hk1
        have HBX := hide hbx
        clear hx hk1 hbx
        by_cases hroom : U + (x.b.length + 6) ≤ R
        · have dro : decide (6 + (x.b.length : Int) ≤ (R : Int) - (U : Int)) = true := by rw [decide_eq_true_eq]; omega
          have HA := hide (hat.out.yes (by omega) (by omega) HBY.out hsm hroom)
          have eU : ((U + (x.b.length + 6) : Nat) : Int) = (U : Int) + (6 + (x.b.length : Int)) := by omega
          go_wp2_with fail
          refine HA.out.mono ?_
          rintro e w4 ⟨rfl, hg4, h4⟩
          have H4 := hide h4
          have k4 := HK1.out w4 hg4
          have cv4 := conv8 w4 (HBX.out w4 hg4)
          clear h4 HA k1
          go_wp2_with (first
            | (at_builtin; refine wpList_pushV rfl (.tmp 88) (.tmp 95) _ rfl 9 i0 _ 16 Tryd.underlying32 hi hz0 hz1 hz2 rfl rfl rfl H4.out.own H4.out.gr rfl (by unfold strV; rw [List.length_map]; unfold maxLen; omega) (by unfold strV; rw [List.length_map]; omega) ?_; intro v5 w5 ho5 hg5 hp5; have H5 : Hid (FlAt w1 w5 d g (1 + sz) R v5 (als ++ [x.b]) (als ++ [x.b]) (U + (x.b.length + 6)) (k + 1)) := hide (H4.out.row (Gr.refl _) (by have := ho5; unfold strV at this ⊢; rw [List.map_append]; exact this) hg5 hp5); clear ho5 hg5 hp5)
            | (go_at_call 19; obtain ⟨S6, F6, fs6, q1, _, _, q4, _⟩ := H5.out.ex; have hus := Used_ok q1.use.is; rw [q4, eU] at hus; refine hus.mono ?_; rintro e w6 ⟨rfl, rfl⟩; clear q1 q4 hus))
          refine ⟨⟨als ++ [x.b], U + (x.b.length + 6), k + 1, congrArg (Value.int .i64) eU.symm, by push_cast; rfl, by omega, by rw [List.length_append, List.length_singleton]; omega, by omega, H5⟩, by simp only [intOf]; omega⟩
        · have dro : decide (6 + (x.b.length : Int) ≤ (R : Int) - (U : Int)) = false := by rw [decide_eq_false_iff_not]; omega
          have HA := hide (hat.out.no (by omega) HBY.out hsm (by omega))
          go_wp2_with fail
          refine HA.out.mono ?_
          rintro e w4 ⟨rfl, hg4, h4⟩
          have H4 := hide h4
          have k4 := HK1.out w4 hg4
          clear h4 HA k1
          go_wp2_with (go_at_call 19; obtain ⟨S6, F6, fs6, q1, _, _, q4, _⟩ := H4.out.ex; have hus := Used_ok q1.use.is; rw [q4] at hus; refine hus.mono ?_; rintro e w6 ⟨rfl, rfl⟩; clear q1 q4 hus)
          refine ⟨⟨als, U, k + 1, rfl, by push_cast; rfl, by omega, by omega, by omega, H4⟩, by simp only [intOf]; omega⟩
      · have dlt : decide ((k : Int) < (ds.length : Int)) = false := by simp; omega
        have hown := hat.out.own
        obtain ⟨Av, cv, rfl, hvc, _⟩ := hown.is
        obtain ⟨S3, F3, fs3, q1, q2, q3, q4, q5, q6, q7, q8, q9⟩ := hat.out.ex
        have OP := hide (open_ok q1.tl q1.loS q1.use q1.tab (small_of q1.use (by omega)) 97 (by decide) (1 + sz) (by omega) (by omega))
        have e1 : ((1 + sz : Nat) : Int) = 1 + (sz : Int) := by omega
        rw [q8.open q2, e1] at OP
        have Q1 := hide q1
        have Q9 := hide q9
        have HW := hide hown
        have hle : (strV als).length = als.length := by unfold strV; rw [List.length_map]
        rw [hle] at HW hvc Q9 ⊢
        clear q1 q2 q3 q4 q5 q6 q7 q8 q9 hown hle
        go_wp2_with fail
        refine OP.out.mono ?_
        rintro e w5 ⟨g5, A5, c5, S5, rfl, hst5, hS5, hlo5, hon5, hrw5⟩
        have G5 : Hid (Gr w w5) := hide (G0.out.trans (gr_only hat.out.gr hon5 (fun i hi => Q1.out.use.lo i hi)))
        have R5 := hide hrw5
        have W5 := hide (HW.out.only8 hon5 (fun j hj => (Q9.out j hj).1))
        have h5c := hrw5.le
        clear hst5 hS5 hlo5 hon5 hrw5 OP
        unfold ptr
        simp only at h5c ⊢
        go_wp2_with fail
        go_loopw [19] (fun i wq => ∃ k : Nat, i = .int .i64 k ∧ k ≤ als.length ∧ Hid (Gr w5 wq)) (fun i _ => als.length - (intOf i).toNat)
        case atStart => exact ⟨0, rfl, by omega, Gr.refl _⟩
        case round =>
          obtain ⟨j, rfl, hj, hq⟩ := hrel
          by_cases hjl : j < als.length
          · have djl : decide ((j : Int) < (als.length : Int)) = true := by simpa using hjl
            have hj1 : (j : Int) < (als.length : Int) := by omega
            obtain ⟨a5, rfl, B5, d5, k5, hb5⟩ := R5.out.rd j hjl
            have CX : Hid (∀ q, (convert 33 9 (.slice B5 als[j].length d5)).run Tryd.prog (wr.drewN q) = .ok (.string (bs als[j])) (wr.drewN q)) := hide (fun q => conv8 _ (hb5.gr (hq.out.trans (Gr.drewN (Gr.refl _) q))))
            replace k5 := gr_cell hq.out _ _ k5
            obtain ⟨A6, c6, ee, _, hcl⟩ := W5.out.is
            obtain ⟨a6, rfl, k6⟩ := hcl j (by unfold strV; rw [List.length_map]; exact hjl)
            injection ee with ee e9 ee2
            clear e9
            subst ee
            subst ee2
            have e6 : (strV als)[j]'(by unfold strV; rw [List.length_map]; exact hjl) = .string (bs als[j]) := by unfold strV; rw [List.getElem_map]
            rw [e6] at k6
            replace k6 := gr_cell hq.out _ _ k6
            obtain ⟨y, hy⟩ : ∃ y, als[j] = y := ⟨_, rfl⟩
            simp only [hy] at k5 CX k6
            clear hcl hb5 e6 hy
            have h1j : (j : Int) < (c5 : Int) := by omega
            have h2j : (j : Int) < (cv : Int) := by omega
            go_wp2_with fail
            refine wp_region_quiet_lit (by kernel_rfl) (by kernel_rfl) ?_
            repeat (go_big_quiet_step (fail))
            refine quiet_conv_if (by rfl) 33 9 (.tmp 126) rfl rfl (fun w' ⟨n, hw'⟩ => by rw [hw']; exact CX.out _) ?_
            simp only [Act.put, List.setIfInBounds_toArray, List.set_cons_zero, List.set_cons_succ]
            repeat (go_big_quiet_step (fail))
            refine wpQuiet_nil ?_
            rintro _ ⟨nq, rfl⟩
            go_wp2_with fail
            refine ⟨⟨j + 1, by push_cast; rfl, by omega, hq.out.drewN nq⟩, by simp only [intOf]; omega⟩
          · have djl : decide ((j : Int) < (als.length : Int)) = false := by simp; omega
            go_wp2_with fail
            go_ret
            exact ⟨rfl, G5.out.trans hq.out⟩

end Go.Proofs.YtfabcpdljclkpaaDoor
