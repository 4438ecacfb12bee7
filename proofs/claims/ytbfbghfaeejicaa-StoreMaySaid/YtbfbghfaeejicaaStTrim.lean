/-
  store's Trim by its contract.
-/
import Derived.Test.YtbfbghfaeejicaaStWrite
namespace Go.Proofs.Ytbfbghfaeejicaa
open Go Go.RowKit ChMath KeyMath StMath TxnMath
set_option maxRecDepth 100000

/-- the first j are trimmed -/
def trimTo (m : Int) (cs : List ChT) (j : Nat) : List ChT := (cs.take j).map (trimC m) ++ cs.drop j
theorem trimTo_len (m : Int) (cs : List ChT) (j : Nat) : (trimTo m cs j).length = cs.length := by unfold trimTo; rw [List.length_append, List.length_map, ← List.length_append, List.take_append_drop]
theorem trimTo_at {m : Int} {cs : List ChT} {j : Nat} (h : j < cs.length) : (trimTo m cs j)[j]'(by rw [trimTo_len]; exact h) = cs[j] := by
  unfold trimTo
  have hl : ((cs.take j).map (trimC m)).length = j := by rw [List.length_map, List.length_take]; omega
  rw [List.getElem_append_right (by omega)]
  simp [Nat.min_eq_left (Nat.le_of_lt h)]
theorem trimTo_next {m : Int} {cs : List ChT} {j : Nat} (h : j < cs.length) : (trimTo m cs j).modify j (trimC m) = trimTo m cs (j + 1) := by
  have hl : ((cs.take j).map (trimC m)).length = j := by rw [List.length_map, List.length_take]; omega
  rw [modify_set (by rw [trimTo_len]; exact h), trimTo_at h]
  unfold trimTo
  rw [List.set_append_right _ _ (by omega), hl, Nat.sub_self, List.drop_eq_getElem_cons h, List.set_cons_zero, List.take_succ_eq_append_getElem h, List.map_append, List.append_assoc]
  rfl
theorem trimTo_all (m : Int) (cs : List ChT) : trimTo m cs cs.length = cs.map (trimC m) := by unfold trimTo; rw [List.take_length, List.drop_length, List.append_nil]

set_option maxHeartbeats 4000000 in
theorem StTrim_ok (s : StT) (u : Value) (m : Int) (w : World) (hv : ChnsX w u s.chains) (hl : CsLen s.chains) :
    Calls Try.prog 21 #[.agg #[u, .int .i64 s.mark], .int .i64 m] w (StPost (trimS s m).chains (trimS s m).mark w) := by
  obtain ⟨cs, sm⟩ := s
  simp only at hv hl ⊢
  have HV := hide hv
  have HOW := hide (fun W (h : ChnsX W u cs) => StOwn_ok u sm cs W h hl)
  have hcl := hl.1
  have HL := hide hl.2
  obtain ⟨A, c, rfl⟩ := hv.is
  clear hv hl
  obtain ⟨r, hr⟩ : ∃ r, trimS ⟨cs, sm⟩ m = r := ⟨_, rfl⟩
  rw [hr]
  have HR0 := hide hr
  clear hr
  go_enter Try.func21, Try.ntmps21
  go_upto_region 1 with (fail)
  obtain ⟨W1, hW1⟩ : ∃ W1, (w.alloc (.cells #[.slice A cs.length c, .int .i64 sm] 26)).alloc (.cells #[.slice none 0 0, .int .i64 0] 26) = W1 := ⟨_, rfl⟩
  have hg1 : Gr w W1 := by rw [← hW1]; exact ((Gr.refl _).alloc _).alloc _
  have hb1 : Bl W1 w.heap.size 26 #[.slice A cs.length c, .int .i64 sm] := by rw [← hW1]; exact (Bl.new _ _ _).gr ((Gr.refl _).alloc _)
  have hb2 : Bl W1 (w.heap.size + 1) 26 #[.slice none 0 0, .int .i64 0] := by rw [← hW1]; have := Bl.new (w.alloc (.cells #[.slice A cs.length c, .int .i64 sm] 26)) 26 #[.slice none 0 0, .int .i64 0]; simpa using this
  rw [hW1]
  have hs1 : w.heap.size + 1 < W1.heap.size := hb2.lt
  have k0 : W1.cell? ⟨w.heap.size, 0, none⟩ = some (.slice A cs.length c) := hb1.cell 0
  have k1 : W1.cell? ⟨w.heap.size, 1, none⟩ = some (.int .i64 sm) := hb1.cell 1
  have HG1 := hide hg1
  have HB1 := hide hb1
  have HB2 := hide hb2
  clear hW1 hg1 hb1 hb2
  go_wp2_with fail
  refine (HOW.out _ (HV.out.gr HG1.out)).mono ?_
  rintro e w2 ⟨u2, rfl, ho, hg⟩
  have HO := hide ho
  have hsz1 := hg.size
  have HG2 := hide (HG1.out.trans hg)
  have hb1 := HB1.out.gr hg
  have hb2 := HB2.out.gr hg
  have f0 := hb1.frozen 0
  have f1 := hb1.frozen 1
  have k0 : w2.cell? ⟨w.heap.size, 0, none⟩ = some (.slice A cs.length c) := hb1.cell 0
  have k1 : w2.cell? ⟨w.heap.size, 1, none⟩ = some (.int .i64 sm) := hb1.cell 1
  have HB3 := hide hb1
  have HB4 := hide hb2
  obtain ⟨A2, c2, rfl⟩ := ho.is
  clear ho hg hb1 hb2 HB1 HB2 HOW
  go_upto_region 2 with (fail)
  obtain ⟨W3, hW3⟩ : ∃ W3, (w2.setCell ⟨w.heap.size, 0, none⟩ (.slice A2 cs.length c2)).setCell ⟨w.heap.size, 1, none⟩ (.int .i64 sm) = W3 := ⟨_, rfl⟩
  have hb3 : Bl W3 w.heap.size 26 #[.slice A2 cs.length c2, .int .i64 sm] := by rw [← hW3]; exact (HB3.out.put 0 _).put 1 _
  have hu3 : But w2 W3 w.heap.size := by rw [← hW3]; exact ((But.refl _ _).set 0 _).set 1 _
  have hb4 := HB4.out.but_ hu3 (by omega)
  rw [hW3]
  have HB5 := hide hb3
  have HB6 := hide hb4
  have HO3 := hide (HO.out.but hu3 (by omega) HB3.out (by simp))
  have HG3 := hide (HG2.out.fresh_ hu3 (Nat.le_refl _))
  have hsW : W1.heap.size ≤ W3.heap.size := Nat.le_trans hsz1 hu3.size
  have m0 : W3.cell? ⟨w.heap.size, 0, none⟩ = some (.slice A2 cs.length c2) := hb3.cell 0
  have m1 : W3.cell? ⟨w.heap.size, 1, none⟩ = some (.int .i64 sm) := hb3.cell 1
  clear hW3 hb3 hu3 hb4 k0 k1 f0 f1 HB3 HB4 HG2 HO HG1
  by_cases hm : m ≤ sm
  · have HE := hide (show r = ⟨cs, sm⟩ from HR0.out.symm.trans (show trimS ⟨cs, sm⟩ m = ⟨cs, sm⟩ by unfold trimS; rw [if_pos (by exact hm)]))
    have n0 : W3.cell? ⟨w.heap.size + 1, 0, none⟩ = some (.slice none 0 0) := HB6.out.cell 0
    have n1 : W3.cell? ⟨w.heap.size + 1, 1, none⟩ = some (.int .i64 0) := HB6.out.cell 1
    have g0 := HB6.out.frozen 0
    have g1 := HB6.out.frozen 1
    go_wp2_with fail
    obtain ⟨W4, hW4⟩ : ∃ W4, (W3.setCell ⟨w.heap.size + 1, 0, none⟩ (.slice A2 cs.length c2)).setCell ⟨w.heap.size + 1, 1, none⟩ (.int .i64 sm) = W4 := ⟨_, rfl⟩
    have hb6 : Bl W4 (w.heap.size + 1) 26 #[.slice A2 cs.length c2, .int .i64 sm] := by rw [← hW4]; exact (HB6.out.put 0 _).put 1 _
    have hu6 : But W3 W4 (w.heap.size + 1) := by rw [← hW4]; exact ((But.refl _ _).set 0 _).set 1 _
    rw [hW4]
    refine bodyPost_ret (results_cell_row rfl _ W4 (w.heap.size + 1) 26 _ (0, 0) _ rfl hb6 Try.underlying26 rfl (by kernel_rfl)) rfl ?_
    rw [HE.out]
    exact ⟨_, rfl, (HO3.out.but hu6 hs1 HB6.out (by simp)).x, HG3.out.fresh_ hu6 (Nat.le_succ _)⟩
  · have HE := hide (show r = ⟨cs.map (trimC m), m⟩ from HR0.out.symm.trans (show trimS ⟨cs, sm⟩ m = ⟨cs.map (trimC m), m⟩ by unfold trimS; rw [if_neg (by exact hm)]))
    have H0 := hide (show ChnsO W3 W1.heap.size (.slice A2 cs.length c2) (trimTo m cs 0) by
      have e : trimTo m cs 0 = cs := by unfold trimTo; simp
      rw [e]; exact HO3.out)
    go_wp2_with fail
    go_loopw [17] (fun i wr => ∃ (j : Nat), i = .int .i64 j ∧ j ≤ cs.length ∧ Hid (Bl wr w.heap.size 26 #[.slice A2 cs.length c2, .int .i64 sm]) ∧ Hid (Bl wr (w.heap.size + 1) 26 #[.slice none 0 0, .int .i64 0]) ∧ Hid (ChnsO wr W1.heap.size (.slice A2 cs.length c2) (trimTo m cs j)) ∧ Hid (Gr w wr) ∧ W1.heap.size ≤ wr.heap.size) (fun i _ => cs.length - (intOf i).toNat)
    case atStart => exact ⟨0, rfl, by omega, HB5, HB6, H0, HG3, hsW⟩
    case round =>
      clear m0 m1 HB5 HB6 HO3 HG3 hsW H0
      obtain ⟨j, rfl, hj, HB, HR, HO, HG, hsz⟩ := hrel
      by_cases hlt : j < cs.length
      · have hlt' : (j : Int) < (cs.length : Int) := by omega
        have hltT : j < (trimTo m cs j).length := by rw [trimTo_len]; exact hlt
        have hle := HL.out _ (List.getElem_mem hlt)
        obtain ⟨is, his, hio⟩ := HO.out
        have hli : is.length = cs.length := by rw [← List.length_map (f := Prod.fst), his, trimTo_len]
        have hil : j < is.length := by omega
        have hic : is[j].1 = cs[j] := by
          have e := trimTo_at (m := m) hlt
          simp only [← his, List.getElem_map] at e
          exact e
        obtain ⟨g, c', e1, hgB, hgl, hnc, q0, q1, qf⟩ := hio.cells (k := j) hil
        have hx1 := (hio.2 is[j] (List.getElem_mem hil)).1
        rw [hli] at e1
        simp only [Value.slice.injEq, true_and] at e1
        obtain ⟨rfl, rfl⟩ := e1
        have HI := hide hio
        have HRES := hide (fun (w3 : World) (u : Value) (h : ChnsO w3 W1.heap.size (.slice (some ⟨g, 0, none⟩) cs.length c2) ((is.set j (trimC m is[j].1, u)).map Prod.fst)) => show ChnsO w3 W1.heap.size (.slice (some ⟨g, 0, none⟩) cs.length c2) (trimTo m cs (j + 1)) by
          have e := its_modify (f := trimC m) (u := u) hil
          rw [his, trimTo_next hlt] at e
          rw [← e]
          exact h)
        rw [← hic] at hle
        have HADD := hide (fun W (h : VersX W is[j].2 is[j].1.l) => Trim_ok is[j].2 is[j].1.l m W h (by omega))
        have HV1 := hide hx1
        obtain ⟨it, hit⟩ : ∃ it, is[j] = it := ⟨_, rfl⟩
        rw [hit] at HADD HV1 hle q0 q1 hx1
        obtain ⟨ic, ip⟩ := it
        simp only at HADD HV1 hle q0 q1 hx1
        obtain ⟨pA, pc, hpp, _⟩ := hx1.is
        obtain ⟨pn, hpn⟩ : ∃ pn, ic.l.length = pn := ⟨_, rfl⟩
        rw [hpn] at hpp
        subst hpp
        clear hx1 hle hic
        go_upto_region 7 with (fail)
        obtain ⟨W4, hW4⟩ : ∃ W4, wr.alloc (.cells #[.string ic.key, .slice pA pn pc] 54) = W4 := ⟨_, rfl⟩
        have hg4 : Gr wr W4 := by rw [← hW4]; exact (Gr.refl _).alloc _
        have hb4 : Bl W4 wr.heap.size 54 #[.string ic.key, .slice pA pn pc] := by rw [← hW4]; exact Bl.new _ _ _
        rw [hW4]
        have HB4 := hide hb4
        have HBX := hide (HB.out.gr hg4)
        have HRX := hide (HR.out.gr hg4)
        have HI4 := hide (HI.out.gr hg4)
        have HG4 := hide (HG.out.trans hg4)
        have HV4 := hide (HV1.out.gr hg4)
        have hsz4 : W1.heap.size ≤ W4.heap.size := Nat.le_trans hsz hg4.size
        have hgl4 : g < W4.heap.size := Nat.lt_of_lt_of_le hgl hg4.size
        clear hW4 hg4 hb4 HB HR HI HG HV1 HO hio q0 q1 qf hgl
        go_wp2_with fail
        refine Mine.wp_region_mine_tail 9 35 [22, 23, 24, 25, 26, 27, 28, 29, 30] rfl (by kernel_rfl) (by kernel_rfl) (by kernel_rfl) (by kernel_rfl) (ob0 := none)
          (Mine.Ahead.more (Mine.Ahead.more (Mine.Ahead.more (Mine.Ahead.more (Mine.Ahead.none_ _ _ _) 2 (Mine.Bx.stays w.heap.size 26 #[.slice (some ⟨g, 0, none⟩) cs.length c2, .int .i64 sm]) (by exact ⟨rfl, HBX.out.drewN 1, by simp⟩)) 5 (Mine.Is.stays (.int .i64 (j : Int))) (by rfl)) 6 (Mine.Pv.stays (.pointer (some ⟨wr.heap.size, 0, none⟩)) ⟨wr.heap.size, 1, none⟩ (.slice pA pn pc) ic.l) (by exact ⟨rfl, HB4.out.cell 1, by simp, HV4.out.gr ((Gr.refl _).drewN 1), NotIn.none_ _⟩)) 1 (Mine.Is.stays (.int .i64 m)) (by rfl))
          35 (C0 := Mine.top) Mine.top_keeps (fun k hk => nomatch hk) trivial ?_
        refine Mine.field (j := 0) rfl rfl (by decide) rfl (fun W => rfl) rfl ?_
        refine Mine.load rfl rfl (by decide) (fun W => by kernel_rfl) rfl ?_
        refine Mine.move (.tmp 5) (.inl rfl) rfl (by decide) rfl (Mine.Is.stays _) ?_
        refine Mine.pv1 (x := .tmp 6) (z' := .pointer (some ⟨wr.heap.size, 1, none⟩)) rfl (by decide) (by simp [Op.operands]) rfl (fun a W hx => exec_fld rfl hx W) ?_
        refine Mine.pvload rfl rfl (by decide) (fun W => by kernel_rfl) rfl ?_
        refine Mine.move (.tmp 1) (.inl rfl) rfl (by decide) rfl (Mine.Is.stays _) ?_
        refine Mine.callV (g := g) (by exact hgl4) rfl rfl (by decide) Try.func48 (by kernel_rfl) (by kernel_rfl) rfl rfl (fun W h => HADD.out W h) ?_
        refine Mine.is2 (x := .tmp 23) (y := .tmp 24) (.pointer (some ⟨g, j * 2, none⟩)) rfl (by decide) (by simp [Op.operands]) (by simp [Op.operands]) rfl rfl (fun a W hx hy => exec_idx rfl hx hy hlt W) ?_
        refine Mine.run1 (x := .tmp 29) (v := .pointer (some ⟨g, j * 2 + 1, none⟩)) rfl (by decide) (by simp [Op.operands]) rfl (fun a W hx => exec_fld rfl hx W) ?_
        intro a1 w3 ob hr hwf hsz' hdf hun hk2 hat
        have h28 : Mine.Vn g (trimL m ic.l) (a1.tmps.getD 28 undef) w3 ob := hk2 28
        have h30 : a1.tmps.getD 30 undef = .pointer (some ⟨g, j * 2 + 1, none⟩) := hk2 30
        obtain ⟨X, hX, hlay⟩ := Grow.lay_kept_by _ a1 35 _ hsz' hdf hun
        rw [hX] at h28 h30
        clear hX hun hdf hsz' hk2 hwf hat
        obtain ⟨hu1, _, hu3⟩ := h28
        obtain ⟨uA, uc, h28, _⟩ := hu1.is
        obtain ⟨un, hun⟩ : ∃ un, (trimL m ic.l).length = un := ⟨_, rfl⟩
        rw [hun] at h28
        rw [h28] at hu1 hu3
        subst hlay
        simp only [List.range, List.range.loop, List.map_cons, List.map_nil, List.contains_cons, List.contains_nil, Nat.reduceBEq, Bool.or_false, Bool.or_true, cond_false, cond_true, Array.getD_eq_getD_getElem?, List.getElem?_toArray, List.getElem?_cons_zero, List.getElem?_cons_succ, Option.getD_some, h28, h30, List.drop_succ_cons, List.drop_zero]
        have hg3 : Gr W4 w3 := (Gr.drew (Gr.refl W4)).trans (rs_grew hr)
        have hio3 := HI4.out.gr hg3
        obtain ⟨hcell, hfr⟩ : w3.cell? ⟨g, j * 2 + 1, none⟩ = some is[j].2 ∧ w3.frozen? ⟨g, j * 2 + 1, none⟩ = false := by
          obtain ⟨g', c', e1, _, _, _, _, q1', qf'⟩ := hio3.cells (k := j) hil
          simp only [Value.slice.injEq, Option.some.injEq, Addr.mk.injEq, and_true] at e1
          rw [e1.1]
          exact ⟨q1', qf' _⟩
        refine wpList_store_at (g := g) (i := j * 2 + 1) (u := .slice uA un uc) rfl 52 (.tmp 30) (.tmp 28) rfl rfl (fun W => by kernel_rfl) rfl rfl ⟨_, _, _, rfl⟩ hcell hfr ?_
        obtain ⟨hs1', hs2⟩ := hio3.stored (by rw [hli]) (k := j) hil (l := trimL m ic.l) hu1 hu3
        have HE5 := hide (HRES.out _ (.slice uA un uc) ⟨_, rfl, by rw [hit] at hs1' ⊢; exact hs1'⟩)
        have HB5 := hide ((HBX.out.gr hg3).but_ hs2 (by omega))
        have HR5 := hide ((HRX.out.gr hg3).but_ hs2 (by omega))
        have hge := grown_gr (HG4.out.trans hg3) hs2
        have HG5 := hide (show Gr w (w3.setCell ⟨g, j * 2 + 1, none⟩ (.slice uA un uc)) from ⟨hge.os, hge.tape, hge.output, hge.size, fun k hk => hge.block k hk (fun e => by injection e with e; omega)⟩)
        have hsz5 : W1.heap.size ≤ (w3.setCell ⟨g, j * 2 + 1, none⟩ (.slice uA un uc)).heap.size := Nat.le_trans hsz4 (Nat.le_trans hg3.size hs2.size)
        generalize w3.setCell ⟨g, j * 2 + 1, none⟩ (.slice uA un uc) = w4 at HE5 HB5 HR5 HG5 hsz5 ⊢
        clear hs1' hs2 hio3 hfr hcell hu1 hu3 hr hg3 h28 h30 HRES HI4 HADD HBX HRX HV4 HG4 HB4 hge hgl4 hsz4
        go_wp2_with fail
        go_roundw
        case rel => exact ⟨j + 1, by go_num, by omega, HB5, HR5, HE5, HG5, hsz5⟩
        case measure => simp [intOf]; omega
      · obtain rfl : j = cs.length := by omega
        rw [trimTo_all] at HO
        have f1 := HB.out.frozen 1
        have n1 : wr.cell? ⟨w.heap.size, 1, none⟩ = some (.int .i64 sm) := HB.out.cell 1
        go_upto_region 10 with (fail)
        obtain ⟨W5, hW5⟩ : ∃ W5, wr.setCell ⟨w.heap.size, 1, none⟩ (.int .i64 m) = W5 := ⟨_, rfl⟩
        have hb5 : Bl W5 w.heap.size 26 #[.slice A2 cs.length c2, .int .i64 m] := by rw [← hW5]; exact HB.out.put 1 _
        have hu5 : But wr W5 w.heap.size := by rw [← hW5]; exact (But.refl _ _).set 1 _
        have hbr := HR.out.but_ hu5 (by omega)
        rw [hW5]
        have p0 : W5.cell? ⟨w.heap.size, 0, none⟩ = some (.slice A2 cs.length c2) := hb5.cell 0
        have p1 : W5.cell? ⟨w.heap.size, 1, none⟩ = some (.int .i64 m) := hb5.cell 1
        have n0' : W5.cell? ⟨w.heap.size + 1, 0, none⟩ = some (.slice none 0 0) := hbr.cell 0
        have n1' : W5.cell? ⟨w.heap.size + 1, 1, none⟩ = some (.int .i64 0) := hbr.cell 1
        have g0 := hbr.frozen 0
        have g1 := hbr.frozen 1
        have HR5 := hide hbr
        have HO5 := hide (HO.out.but hu5 (by omega) HB.out (by simp))
        have HG5 := hide (HG.out.fresh_ hu5 (Nat.le_refl _))
        clear hW5 hb5 hu5 hbr f1 n1
        go_wp2_with fail
        obtain ⟨W4, hW4⟩ : ∃ W4, (W5.setCell ⟨w.heap.size + 1, 0, none⟩ (.slice A2 cs.length c2)).setCell ⟨w.heap.size + 1, 1, none⟩ (.int .i64 m) = W4 := ⟨_, rfl⟩
        have hb6 : Bl W4 (w.heap.size + 1) 26 #[.slice A2 cs.length c2, .int .i64 m] := by rw [← hW4]; exact (HR5.out.put 0 _).put 1 _
        have hu6 : But W5 W4 (w.heap.size + 1) := by rw [← hW4]; exact ((But.refl _ _).set 0 _).set 1 _
        rw [hW4]
        refine bodyPost_ret (results_cell_row rfl _ W4 (w.heap.size + 1) 26 _ (0, 0) _ rfl hb6 Try.underlying26 rfl (by kernel_rfl)) rfl ?_
        rw [HE.out]
        exact ⟨_, rfl, (HO5.out.but hu6 hs1 HR5.out (by simp)).x, HG5.out.fresh_ hu6 (Nat.le_succ _)⟩
end Go.Proofs.Ytbfbghfaeejicaa
