/-
  The walk of 'RaftForms'. Written by tools/raft/genForms.py.
-/
import Derived.Test.YthpaoeiackbdoaaRfTakeLaw
import Derived.Test.YthpaoeiackbdoaaBaseE
namespace Go.Proofs.Ythpaoeiackbdoaa
open Go Go.RowKit TxnMath KeyMath MsgMath BalMath RfMath
set_option maxRecDepth 100000

theorem good_fa0 : RfGood fa0 := good_of (by decide) (by simp [fa0]) (by decide) (by decide) (by decide) (by decide) (by simp [fa0]) (by simp [fa0])
theorem good_fa1 : RfGood fa1 := good_of (by decide) (by simp [fa1, fa0]) (by decide) (by decide) (by decide) (by decide) (by simp [fa1, fa0]) (by simp [fa1, fa0])
theorem good_fa2 : RfGood fa2 := good_of (by decide) (by simp [fa2, fa0]) (by decide) (by decide) (by decide) (by decide) (by simp [fa2, fa0]) (by simp [fa2, fa0])
theorem good_fa3 : RfGood fa3 := good_of (by decide) (by simp [fa3]) (by decide) (by decide) (by decide) (by decide) (by simp [fa3]) (by simp [fa3])
theorem good_fa4 : RfGood fa4 := good_of (by decide) (by simp [fa4, seal_bnd]) (by decide) (by decide) (by decide) (by decide) (by simp [fa4]) (by simp [fa4])
theorem good_fa5 : RfGood fa5 := good_of (by decide) (by simp [fa5, seal_bnd]) (by decide) (by decide) (by decide) (by decide) (by simp [fa5]) (by simp [fa5])
theorem good_fb0 : RfGood fb0 := good_of (by decide) (by simp [fb0]) (by decide) (by decide) (by decide) (by decide) (by simp [fb0]) (by simp [fb0])
theorem good_fb1 : RfGood fb1 := good_of (by decide) (by simp [fb1]) (by decide) (by decide) (by decide) (by decide) (by simp [fb1]) (by simp [fb1])
theorem good_fb2 : RfGood fb2 := good_of (by decide) (by simp [fb2, seal_bnd]) (by decide) (by decide) (by decide) (by decide) (by simp [fb2]) (by simp [fb2])
theorem in_askT2 : LetterIn (askT 2) := ⟨by decide, by decide, by decide, by simp [askT, noMsg]⟩
theorem in_votT : LetterIn (votT) := ⟨by decide, by decide, by decide, by simp [votT, noMsg]⟩
theorem in_appT2 : LetterIn (appT 2) := ⟨by decide, by decide, by decide, by simp [appT, noMsg, seal_bnd]⟩
theorem in_gotT : LetterIn (gotT) := ⟨by decide, by decide, by decide, by simp [gotT, noMsg]⟩
theorem in_ap2T : LetterIn (ap2T) := ⟨by decide, by decide, by decide, by simp [ap2T, noMsg]⟩
/-- what a's ticks come to -/
def tickA : Nat → RaftT
  | 0 => fa0
  | 1 => fa1
  | 2 => fa2
  | _ => fa3
def tickO : Nat → List MsgT
  | 3 => [askT 2, askT 3]
  | _ => []
theorem tickA_next {k : Nat} (h : k < 3) : tickT (tickA k) = ⟨tickA (k + 1), tickO (k + 1)⟩ := by
  obtain rfl | rfl | rfl : k = 0 ∨ k = 1 ∨ k = 2 := by omega
  · exact fa_tick1
  · exact fa_tick2
  · exact fa_tick3
theorem tickO_none {k : Nat} (h : k < 3) : tickO k = [] := by
  obtain rfl | rfl | rfl : k = 0 ∨ k = 1 ∨ k = 2 := by omega
  all_goals rfl
theorem tickA_good (k : Nat) (h : k < 3) : RfGood (tickA k) := by
  obtain rfl | rfl | rfl : k = 0 ∨ k = 1 ∨ k = 2 := by omega
  · exact good_fa0
  · exact good_fa1
  · exact good_fa2
theorem OutX.none_ (w : World) : OutX Any w (.slice none 0 0) [] := ⟨fun _ => ⟨undef, (undef, undef), undef, undef⟩, OwnR.none_ _ _, fun j m hj => by simp at hj⟩

set_option maxHeartbeats 8000000 in
theorem walk_RaftForms (w : World) : Calls Try.prog 8 #[] w fun e w' => e = .returned (.bool true) ∧ Gr w w' := by
  have HBE := hide begun_ok
  have hp1 : Try.prog.follows .mixedOrders = true := by kernel_rfl
  go_enter Try.func8, Try.ntmps8
  go_wp2_with fail
  refine (HBE.out _).mono ?_
  rintro e w0 ⟨rfl, hg0⟩
  go_wp2_with fail
  refine (New_ok _ 1 3 3).mono ?_
  rintro e w1 ⟨v1, rfl, hN⟩
  have hg1 := hN.gr
  rw [fa_new] at hN
  obtain ⟨R1, rfl, hin1⟩ := hN.ins
  clear hN HBE
  go_wp2_with fail
  refine (New_ok _ 2 3 5).mono ?_
  rintro e w2 ⟨v2, rfl, hN⟩
  have hg2 := hN.gr
  rw [fb_new] at hN
  obtain ⟨R2, rfl, hin2⟩ := hN.ins
  have hone1 := hin1.x.ones
  have hone2 := hin2.x.ones
  clear hN
  go_wp2_with (refine wpList_twoBoxes (r := fa0) (R := R1) (q := fb0) (S := R2) rfl rfl rfl rfl rfl rfl rfl rfl rfl rfl rfl rfl (fun _ _ => rfl) (fun _ _ => rfl) (fun _ _ => rfl) (fun _ _ => rfl) hone1 hone2 ?_)
  intro W1 hb1 hb2 hgr
  have HA : Hid (Box2 W1 w2.heap.size (w2.heap.size + 1) fa0 R1) := hide ⟨hb1, _, _, (hin1.gr hg2).gr hgr, .inr ⟨hg2.size, Nat.le_succ_of_le hg2.size⟩⟩
  have HB : Hid (Box2 W1 (w2.heap.size + 1) w2.heap.size fb0 R2) := hide ⟨hb2, _, _, hin2.gr hgr, .inr ⟨Nat.le_succ _, Nat.le_refl _⟩⟩
  have HG := hide (((hg0.trans hg1).trans hg2).trans hgr)
  have hwb : w.heap.size ≤ w2.heap.size := ((hg0.trans hg1).trans hg2).size
  generalize w2.heap.size = b at HA HB hwb ⊢
  clear hin1 hin2 hone1 hone2 hb1 hb2 hgr hg0 hg1 hg2
  go_wp2_with fail
  go_loopw [3, 4] (fun u i wr => ∃ (k : Nat) (R : RowsM) (lo hi : Nat), i = .int .i64 k ∧ k ≤ 3 ∧ Hid (Box2 wr b (b + 1) (tickA k) R) ∧ Hid (Box2 wr (b + 1) b fb0 R2) ∧ Hid (OutIn wr lo hi u (tickO k)) ∧ Hid (Gr w wr)) (fun _ i _ => 3 - (intOf i).toNat)
  case atStart => exact ⟨0, R1, 0, 0, rfl, by omega, HA, HB, ⟨Nat.zero_le _, fun w'' _ => OutX.none_ w''⟩, HG⟩
  case round =>
    obtain ⟨k, Ra, lo, hi, rfl, hk, HA, HB, HO, HG⟩ := hrel
    by_cases hlt : k < 3
    · have hlt' : (k : Int) < 3 := by omega
      have HT := hide (Tick_ok _ (tickA k) Ra HA.out.x (tickA_good k hlt))
      rw [tickA_next hlt] at HT
      rw [tickO_none hlt] at HO
      obtain ⟨A0, c0, hu⟩ := HO.out.x.is
      subst hu
      have hbl := HA.out.bl.lt
      have hbl2 := HB.out.bl.lt
      clear HO
      simp only [List.length_nil]
      go_wp2_with (refine wpList_ldBox (r := tickA k) (R := Ra) rfl rfl rfl HA.out.bl ?_)
      refine HT.out.mono ?_
      rintro e w3 ⟨v3, u3, rfl, hT⟩
      have hg3 := hT.gr
      obtain ⟨R3, rfl, hin3, hout3⟩ := hT.ins
      have hone3 := hin3.x.ones
      have hbo := HA.out.bl.gr hg3
      clear hT HT
      go_wp2_with (refine wpList_setBox (r := tickA (k + 1)) (R := R3) rfl rfl rfl rfl rfl hbo rfl hone3 ?_)
      intro W3 hb3 hu3
      have HA3 : Hid (Box2 W3 b (b + 1) (tickA (k + 1)) R3) := hide ⟨hb3, _, _, hin3.but hu3 (.inl hbl), .inl ⟨hbl, hbl2⟩⟩
      have HB3 := hide ((HB.out.gr hg3).but hu3 (by omega))
      have HO3 : Hid (OutIn W3 wr.heap.size w3.heap.size u3 (tickO (k + 1))) := hide (hout3.but hu3 (.inl hbl))
      have HG3 := hide ((HG.out.trans hg3).fresh_ hu3 hwb)
      generalize wr.heap.size = lo3 at HO3
      generalize w3.heap.size = hi3 at HO3
      clear hb3 hu3 hin3 hone3 hbo hout3 HA HB HG hg3
      go_wp2_with fail
      go_roundw
      case rel => exact ⟨k + 1, R3, lo3, hi3, by go_num, by omega, HA3, HB3, HO3, HG3⟩
      case measure => simp [intOf]; omega
    · obtain rfl : k = 3 := by omega
      rename_i _ _ _
      rw [show ((3 : Nat) : Int) = 3 from rfl]
      have HA := hide (show Box2 wr b (b + 1) fa3 Ra from HA.out)
      have HO := hide (show OutIn wr lo hi _ [askT 2, askT 3] from HO.out)
      obtain ⟨Rb, hRb⟩ : ∃ Rb, R2 = Rb := ⟨_, rfl⟩
      rw [hRb] at HB
      clear hRb
      obtain ⟨gl, cl, p0, hu, HL0, hm0⟩ := HO.out.x.at_ (k := 0) (by decide)
      subst hu
      have l0_0 : wr.cell? ⟨gl, 0, none⟩ = some (.int .i64 1) := HL0 0 _ rfl
      have l0_1 : wr.cell? ⟨gl, 1, none⟩ = some (.int .i64 1) := HL0 1 _ rfl
      have l0_2 : wr.cell? ⟨gl, 2, none⟩ = some (.int .i64 2) := HL0 2 _ rfl
      have l0_4 : wr.cell? ⟨gl, 4, none⟩ = some (.int .i64 1) := HL0 4 _ rfl
      obtain ⟨gl2, cl2, p1, hu2, HL1, hm1⟩ := HO.out.x.at_ (k := 1) (by decide)
      simp only [Value.slice.injEq, Option.some.injEq, Addr.mk.injEq, and_true, true_and] at hu2
      obtain ⟨rfl, rfl⟩ := hu2
      have l1_2 : wr.cell? ⟨gl, 26, none⟩ = some (.int .i64 3) := HL1 2 _ rfl
      have a7 : wr.cell? ⟨b, 7, none⟩ = some (.int .i64 1) := HA.out.bl.cell 7
      have a4 : wr.cell? ⟨b, 4, none⟩ = some (.int .i64 1) := HA.out.bl.cell 4
      simp only [List.length_cons, List.length_nil, Nat.zero_add, Nat.reduceAdd]
      go_wp2_with fail
      clear l0_0 l0_1 l0_2 l0_4 l1_2 a7 a4
      -- region 13: Take of b
      have HTK := hide (fun W (hg : Gr wr.drew W) => Take_ok W fb0 Rb (HB.out.gr (((Gr.refl _).drewN 1).trans hg)).x good_fb0 (.agg (cellsM (askT 2) p0).toArray) (askT 2) ⟨p0, rfl, hm0.move (Moves.of_gr (((Gr.refl _).drewN 1).trans hg))⟩ in_askT2)
      rw [fb_take1] at HTK
      have HLC := hide (fun W (hg : Gr wr.drew W) i v (h : (cellsM (askT 2) p0)[i]? = some v) => gr_cell hg _ _ (gr_cell ((Gr.refl _).drewN 1) _ _ (HL0 i v h)))
      have hbl := HB.out.bl.lt
      refine Edge.wp_region_laid 7 8 76 rfl hp1 (by kernel_rfl) (fun _ _ _ _ h => h) ?_
      refine Mine.any_mine_tail 8 334 [70, 71, 72, 73, 74, 69, 75, 76, 3] rfl (by kernel_rfl) (by kernel_rfl) (by kernel_rfl) (ob0 := none)
        (Mine.Ahead.more (Mine.Ahead.more (Mine.Ahead.none_ _ _ _) 2 (Mine.Bx.stays (b + 1) 28 (rfC fb0 Rb).toArray) (by exact ⟨rfl, HB.out.bl.drewN 1, by simp⟩)) 3 (Mine.Wk.stays (far_pay wr.drew) (.slice (some ⟨gl, 0, none⟩) 2 cl)) (by exact ⟨rfl, Gr.refl _, by simp⟩))
        334 (C0 := Mine.top) Mine.top_keeps (fun k hk => nomatch hk) trivial ?_
      refine Mine.load_box rfl rfl (by decide) rfl Try.underlying28 rfl (by show _ = some 13; kernel_rfl) ?_
      refine Mine.wk_move (far_pay _) (.inl rfl) rfl (by decide) rfl ?_
      refine Mine.wk1 (x := .tmp 71) (.pointer (some ⟨gl, 0 * 24, none⟩)) (far_pay _) rfl (by decide) (by simp [Op.operands]) rfl (fun a W' ob h _ => exec_idxMsg (k := 0) rfl h rfl (by decide) W') ?_
      refine Mine.wk1 (x := .tmp 72) (.agg (cellsM (askT 2) p0).toArray) (far_pay _) rfl (by decide) (by simp [Op.operands]) rfl (fun a W' ob h hf => exec_ldMsg rfl h (fun i v hi => HLC.out W' hf.1 i v hi)) ?_
      refine Mine.callT (s := ⟨fb1, [votT]⟩) rfl rfl (by decide) Try.func22 (by kernel_rfl) (by kernel_rfl) rfl rfl (fun W' hg => HTK.out W' hg) ?_
      refine Mine.move (.tmp 74) (.inl rfl) rfl (by decide) rfl (Mine.TkK.stays _ _) ?_
      refine Mine.look1 (x := .tmp 69) (Ψ := Mine.TkK wr.drew ⟨fb1, [votT]⟩) (Φ := Mine.RfK wr.drew fb1) rfl (by decide) (by simp [Op.operands]) rfl (Mine.RfK.stays _ _) (fun a W' ob h => by obtain ⟨x, u, h1, h2, h3⟩ := h; exact ⟨x, by unfold execOp; simp only []; rw [show a.eval (.tmp 69) = _ from h1]; rfl, h2⟩) ?_
      refine Mine.look1 (x := .tmp 69) (Ψ := Mine.TkK wr.drew ⟨fb1, [votT]⟩) (Φ := Mine.OuK wr.drew [votT]) rfl (by decide) (by simp [Op.operands]) rfl (Mine.OuK.stays _ _) (fun a W' ob h => by obtain ⟨x, u, h1, h2, h3⟩ := h; exact ⟨u, by unfold execOp; simp only []; rw [show a.eval (.tmp 69) = _ from h1]; rfl, h3⟩) ?_
      intro a1 w3 ob hr hwf hsz hdf hun hk2 hat
      have h5 : Mine.RfK wr.drew fb1 (a1.tmps.getD 75 undef) w3 ob := hk2 75
      have h6 : Mine.OuK wr.drew [votT] (a1.tmps.getD 76 undef) w3 ob := hk2 76
      obtain ⟨X, hX, hlay⟩ := Grow.lay_kept_by _ a1 334 _ hsz hdf hun
      rw [hX] at h5 h6
      clear hX hun hdf hsz hk2 hwf hat HTK HLC
      obtain ⟨R13, lo, hi, h5, hlo, hin, _⟩ := h5
      obtain ⟨lo2, hi2, hlo2, hout, _⟩ := h6
      obtain ⟨u5, hu5⟩ : ∃ u5, X 76 = u5 := ⟨_, rfl⟩
      rw [hu5] at hout
      subst hlay
      simp only [List.range, List.range.loop, List.map_cons, List.map_nil, List.contains_cons, List.contains_nil, Nat.reduceBEq, Bool.or_false, Bool.or_true, cond_false, cond_true, Array.getD_eq_getD_getElem?, List.getElem?_toArray, List.getElem?_cons_zero, List.getElem?_cons_succ, Option.getD_some, h5, hu5, Edge.laid, List.modify_succ_cons, List.modify_zero_cons, List.drop_succ_cons, List.drop_zero]
      have hg3 : Gr wr w3 := (Gr.drew (Gr.refl wr)).trans (rs_grew hr)
      have hloW : wr.heap.size ≤ lo := hlo
      have hloW2 : wr.heap.size ≤ lo2 := hlo2
      have hbo := HB.out.bl.gr hg3
      refine wpList_setBox (r := fb1) (R := R13) rfl rfl rfl rfl rfl hbo rfl hin.x.ones fun W5 hb5 hu => ?_
      have hAB := hide (And.intro HA.out.bl.lt HB.out.bl.lt)
      have HBn : Hid (Box2 W5 (b + 1) (b) fb1 R13) := hide ⟨hb5, lo, hi, hin.but hu (.inl (by have := hAB.out; omega)), .inl (by have := hAB.out; omega)⟩
      have HAn := hide ((HA.out.gr hg3).but hu (by omega))
      have HOn : Hid (OutIn W5 lo2 hi2 u5 [votT]) := hide (hout.but hu (.inl (by have := hAB.out; omega)))
      have HGn := hide ((HG.out.trans hg3).fresh_ hu (by omega))
      clear hb5 hu hin hout hg3 hbo hr HA HB HO HG h5 hu5 hlo hlo2 hloW hloW2 hbl hAB HL0 hm0 HL1 hm1
      have HA := HAn
      have HB := HBn
      have HO := HOn
      have HG := HGn
      clear HAn HBn HOn HGn
      generalize W5 = wr at HA HB HO HG ⊢
      obtain ⟨gl, cl, p0, hu, HL0, hm0⟩ := HO.out.x.at_ (k := 0) (by decide)
      subst hu
      have l0_0 : wr.cell? ⟨gl, 0, none⟩ = some (.int .i64 2) := HL0 0 _ rfl
      have l0_8 : wr.cell? ⟨gl, 8, none⟩ = some (.bool true) := HL0 8 _ rfl
      have b4 : wr.cell? ⟨b + 1, 4, none⟩ = some (.int .i64 1) := HB.out.bl.cell 4
      have b3 : wr.cell? ⟨b + 1, 3, none⟩ = some (.int .i64 1) := HB.out.bl.cell 3
      simp only [List.length_cons, List.length_nil, Nat.zero_add]
      go_wp2_with fail
      clear l0_0 l0_8 b4 b3
      -- region 16: Take of a
      have HTK := hide (fun W (hg : Gr wr.drew W) => Take_ok W fa3 Ra (HA.out.gr (((Gr.refl _).drewN 1).trans hg)).x good_fa3 (.agg (cellsM (votT) p0).toArray) (votT) ⟨p0, rfl, hm0.move (Moves.of_gr (((Gr.refl _).drewN 1).trans hg))⟩ in_votT)
      rw [fa_take1] at HTK
      have HLC := hide (fun W (hg : Gr wr.drew W) i v (h : (cellsM (votT) p0)[i]? = some v) => gr_cell hg _ _ (gr_cell ((Gr.refl _).drewN 1) _ _ (HL0 i v h)))
      have hbl := HA.out.bl.lt
      refine Edge.wp_region_laid 7 8 111 rfl hp1 (by kernel_rfl) (fun _ _ _ _ h => h) ?_
      refine Mine.any_mine_tail 8 334 [105, 106, 107, 108, 109, 104, 110, 111, 3] rfl (by kernel_rfl) (by kernel_rfl) (by kernel_rfl) (ob0 := none)
        (Mine.Ahead.more (Mine.Ahead.more (Mine.Ahead.none_ _ _ _) 1 (Mine.Bx.stays (b) 28 (rfC fa3 Ra).toArray) (by exact ⟨rfl, HA.out.bl.drewN 1, by simp⟩)) 3 (Mine.Wk.stays (far_pay wr.drew) (.slice (some ⟨gl, 0, none⟩) 1 cl)) (by exact ⟨rfl, Gr.refl _, by simp⟩))
        334 (C0 := Mine.top) Mine.top_keeps (fun k hk => nomatch hk) trivial ?_
      refine Mine.load_box rfl rfl (by decide) rfl Try.underlying28 rfl (by show _ = some 13; kernel_rfl) ?_
      refine Mine.wk_move (far_pay _) (.inl rfl) rfl (by decide) rfl ?_
      refine Mine.wk1 (x := .tmp 106) (.pointer (some ⟨gl, 0 * 24, none⟩)) (far_pay _) rfl (by decide) (by simp [Op.operands]) rfl (fun a W' ob h _ => exec_idxMsg (k := 0) rfl h rfl (by decide) W') ?_
      refine Mine.wk1 (x := .tmp 107) (.agg (cellsM (votT) p0).toArray) (far_pay _) rfl (by decide) (by simp [Op.operands]) rfl (fun a W' ob h hf => exec_ldMsg rfl h (fun i v hi => HLC.out W' hf.1 i v hi)) ?_
      refine Mine.callT (s := ⟨fa4, [appT 2, appT 3]⟩) rfl rfl (by decide) Try.func22 (by kernel_rfl) (by kernel_rfl) rfl rfl (fun W' hg => HTK.out W' hg) ?_
      refine Mine.move (.tmp 109) (.inl rfl) rfl (by decide) rfl (Mine.TkK.stays _ _) ?_
      refine Mine.look1 (x := .tmp 104) (Ψ := Mine.TkK wr.drew ⟨fa4, [appT 2, appT 3]⟩) (Φ := Mine.RfK wr.drew fa4) rfl (by decide) (by simp [Op.operands]) rfl (Mine.RfK.stays _ _) (fun a W' ob h => by obtain ⟨x, u, h1, h2, h3⟩ := h; exact ⟨x, by unfold execOp; simp only []; rw [show a.eval (.tmp 104) = _ from h1]; rfl, h2⟩) ?_
      refine Mine.look1 (x := .tmp 104) (Ψ := Mine.TkK wr.drew ⟨fa4, [appT 2, appT 3]⟩) (Φ := Mine.OuK wr.drew [appT 2, appT 3]) rfl (by decide) (by simp [Op.operands]) rfl (Mine.OuK.stays _ _) (fun a W' ob h => by obtain ⟨x, u, h1, h2, h3⟩ := h; exact ⟨u, by unfold execOp; simp only []; rw [show a.eval (.tmp 104) = _ from h1]; rfl, h3⟩) ?_
      intro a1 w3 ob hr hwf hsz hdf hun hk2 hat
      have h5 : Mine.RfK wr.drew fa4 (a1.tmps.getD 110 undef) w3 ob := hk2 110
      have h6 : Mine.OuK wr.drew [appT 2, appT 3] (a1.tmps.getD 111 undef) w3 ob := hk2 111
      obtain ⟨X, hX, hlay⟩ := Grow.lay_kept_by _ a1 334 _ hsz hdf hun
      rw [hX] at h5 h6
      clear hX hun hdf hsz hk2 hwf hat HTK HLC
      obtain ⟨R16, lo, hi, h5, hlo, hin, _⟩ := h5
      obtain ⟨lo2, hi2, hlo2, hout, _⟩ := h6
      obtain ⟨u5, hu5⟩ : ∃ u5, X 111 = u5 := ⟨_, rfl⟩
      rw [hu5] at hout
      subst hlay
      simp only [List.range, List.range.loop, List.map_cons, List.map_nil, List.contains_cons, List.contains_nil, Nat.reduceBEq, Bool.or_false, Bool.or_true, cond_false, cond_true, Array.getD_eq_getD_getElem?, List.getElem?_toArray, List.getElem?_cons_zero, List.getElem?_cons_succ, Option.getD_some, h5, hu5, Edge.laid, List.modify_succ_cons, List.modify_zero_cons, List.drop_succ_cons, List.drop_zero]
      have hg3 : Gr wr w3 := (Gr.drew (Gr.refl wr)).trans (rs_grew hr)
      have hloW : wr.heap.size ≤ lo := hlo
      have hloW2 : wr.heap.size ≤ lo2 := hlo2
      have hbo := HA.out.bl.gr hg3
      refine wpList_setBox (r := fa4) (R := R16) rfl rfl rfl rfl rfl hbo rfl hin.x.ones fun W5 hb5 hu => ?_
      have hAB := hide (And.intro HA.out.bl.lt HB.out.bl.lt)
      have HAn : Hid (Box2 W5 (b) (b + 1) fa4 R16) := hide ⟨hb5, lo, hi, hin.but hu (.inl (by have := hAB.out; omega)), .inl (by have := hAB.out; omega)⟩
      have HBn := hide ((HB.out.gr hg3).but hu (by omega))
      have HOn : Hid (OutIn W5 lo2 hi2 u5 [appT 2, appT 3]) := hide (hout.but hu (.inl (by have := hAB.out; omega)))
      have HGn := hide ((HG.out.trans hg3).fresh_ hu (by omega))
      clear hb5 hu hin hout hg3 hbo hr HA HB HO HG h5 hu5 hlo hlo2 hloW hloW2 hbl hAB HL0 hm0
      have HA := HAn
      have HB := HBn
      have HO := HOn
      have HG := HGn
      clear HAn HBn HOn HGn
      generalize W5 = wr at HA HB HO HG ⊢
      obtain ⟨gl, cl, p0, hu, HL0, hm0⟩ := HO.out.x.at_ (k := 0) (by decide)
      subst hu
      have l0_0 : wr.cell? ⟨gl, 0, none⟩ = some (.int .i64 3) := HL0 0 _ rfl
      have l0_5 : wr.cell? ⟨gl, 5, none⟩ = some (.int .i64 0) := HL0 5 _ rfl
      obtain ⟨ea, e0, q0, he0, _, z0, z1, _⟩ := hm0.e.ent (k := 0) (by decide)
      rw [Nat.zero_mul, add_zero_] at z0 z1
      replace z0 : wr.cell? ea = some (.int .i64 1) := z0
      replace z1 : wr.cell? ⟨ea.block, ea.off + 1, none⟩ = some (.bool true) := z1
      have l0_9 : wr.cell? ⟨gl, 9, none⟩ = some (.slice (some ea) 1 e0) := (HL0 9 _ rfl).trans (congrArg some he0)
      have a7 : wr.cell? ⟨b, 7, none⟩ = some (.int .i64 2) := HA.out.bl.cell 7
      have a8 : wr.cell? ⟨b, 8, none⟩ = some (.int .i64 1) := HA.out.bl.cell 8
      obtain ⟨La, da, hla⟩ := HA.out.x.l.is
      have a5 : wr.cell? ⟨b, 5, none⟩ = some (.slice La 1 da) := (HA.out.bl.cell 5).trans (congrArg some hla)
      have a6 : wr.cell? ⟨b, 6, none⟩ = some (.int .i64 0) := HA.out.bl.cell 6
      simp only [List.length_cons, List.length_nil, Nat.zero_add, Nat.reduceAdd]
      go_wp2_with fail
      clear l0_0 l0_5 l0_9 he0 z0 z1 a7 a8 a5 hla a6
      -- region 19: Take of b
      have HTK := hide (fun W (hg : Gr wr.drew W) => Take_ok W fb1 R13 (HB.out.gr (((Gr.refl _).drewN 1).trans hg)).x good_fb1 (.agg (cellsM (appT 2) p0).toArray) (appT 2) ⟨p0, rfl, hm0.move (Moves.of_gr (((Gr.refl _).drewN 1).trans hg))⟩ in_appT2)
      rw [fb_take2] at HTK
      have HLC := hide (fun W (hg : Gr wr.drew W) i v (h : (cellsM (appT 2) p0)[i]? = some v) => gr_cell hg _ _ (gr_cell ((Gr.refl _).drewN 1) _ _ (HL0 i v h)))
      have hbl := HB.out.bl.lt
      refine Edge.wp_region_laid 7 8 185 rfl hp1 (by kernel_rfl) (fun _ _ _ _ h => h) ?_
      refine Mine.any_mine_tail 8 334 [179, 180, 181, 182, 183, 178, 184, 185, 3] rfl (by kernel_rfl) (by kernel_rfl) (by kernel_rfl) (ob0 := none)
        (Mine.Ahead.more (Mine.Ahead.more (Mine.Ahead.none_ _ _ _) 2 (Mine.Bx.stays (b + 1) 28 (rfC fb1 R13).toArray) (by exact ⟨rfl, HB.out.bl.drewN 1, by simp⟩)) 3 (Mine.Wk.stays (far_pay wr.drew) (.slice (some ⟨gl, 0, none⟩) 2 cl)) (by exact ⟨rfl, Gr.refl _, by simp⟩))
        334 (C0 := Mine.top) Mine.top_keeps (fun k hk => nomatch hk) trivial ?_
      refine Mine.load_box rfl rfl (by decide) rfl Try.underlying28 rfl (by show _ = some 13; kernel_rfl) ?_
      refine Mine.wk_move (far_pay _) (.inl rfl) rfl (by decide) rfl ?_
      refine Mine.wk1 (x := .tmp 180) (.pointer (some ⟨gl, 0 * 24, none⟩)) (far_pay _) rfl (by decide) (by simp [Op.operands]) rfl (fun a W' ob h _ => exec_idxMsg (k := 0) rfl h rfl (by decide) W') ?_
      refine Mine.wk1 (x := .tmp 181) (.agg (cellsM (appT 2) p0).toArray) (far_pay _) rfl (by decide) (by simp [Op.operands]) rfl (fun a W' ob h hf => exec_ldMsg rfl h (fun i v hi => HLC.out W' hf.1 i v hi)) ?_
      refine Mine.callT (s := ⟨fb2, [gotT]⟩) rfl rfl (by decide) Try.func22 (by kernel_rfl) (by kernel_rfl) rfl rfl (fun W' hg => HTK.out W' hg) ?_
      refine Mine.move (.tmp 183) (.inl rfl) rfl (by decide) rfl (Mine.TkK.stays _ _) ?_
      refine Mine.look1 (x := .tmp 178) (Ψ := Mine.TkK wr.drew ⟨fb2, [gotT]⟩) (Φ := Mine.RfK wr.drew fb2) rfl (by decide) (by simp [Op.operands]) rfl (Mine.RfK.stays _ _) (fun a W' ob h => by obtain ⟨x, u, h1, h2, h3⟩ := h; exact ⟨x, by unfold execOp; simp only []; rw [show a.eval (.tmp 178) = _ from h1]; rfl, h2⟩) ?_
      refine Mine.look1 (x := .tmp 178) (Ψ := Mine.TkK wr.drew ⟨fb2, [gotT]⟩) (Φ := Mine.OuK wr.drew [gotT]) rfl (by decide) (by simp [Op.operands]) rfl (Mine.OuK.stays _ _) (fun a W' ob h => by obtain ⟨x, u, h1, h2, h3⟩ := h; exact ⟨u, by unfold execOp; simp only []; rw [show a.eval (.tmp 178) = _ from h1]; rfl, h3⟩) ?_
      intro a1 w3 ob hr hwf hsz hdf hun hk2 hat
      have h5 : Mine.RfK wr.drew fb2 (a1.tmps.getD 184 undef) w3 ob := hk2 184
      have h6 : Mine.OuK wr.drew [gotT] (a1.tmps.getD 185 undef) w3 ob := hk2 185
      obtain ⟨X, hX, hlay⟩ := Grow.lay_kept_by _ a1 334 _ hsz hdf hun
      rw [hX] at h5 h6
      clear hX hun hdf hsz hk2 hwf hat HTK HLC
      obtain ⟨R19, lo, hi, h5, hlo, hin, _⟩ := h5
      obtain ⟨lo2, hi2, hlo2, hout, _⟩ := h6
      obtain ⟨u5, hu5⟩ : ∃ u5, X 185 = u5 := ⟨_, rfl⟩
      rw [hu5] at hout
      subst hlay
      simp only [List.range, List.range.loop, List.map_cons, List.map_nil, List.contains_cons, List.contains_nil, Nat.reduceBEq, Bool.or_false, Bool.or_true, cond_false, cond_true, Array.getD_eq_getD_getElem?, List.getElem?_toArray, List.getElem?_cons_zero, List.getElem?_cons_succ, Option.getD_some, h5, hu5, Edge.laid, List.modify_succ_cons, List.modify_zero_cons, List.drop_succ_cons, List.drop_zero]
      have hg3 : Gr wr w3 := (Gr.drew (Gr.refl wr)).trans (rs_grew hr)
      have hloW : wr.heap.size ≤ lo := hlo
      have hloW2 : wr.heap.size ≤ lo2 := hlo2
      have hbo := HB.out.bl.gr hg3
      refine wpList_setBox (r := fb2) (R := R19) rfl rfl rfl rfl rfl hbo rfl hin.x.ones fun W5 hb5 hu => ?_
      have hAB := hide (And.intro HA.out.bl.lt HB.out.bl.lt)
      have HBn : Hid (Box2 W5 (b + 1) (b) fb2 R19) := hide ⟨hb5, lo, hi, hin.but hu (.inl (by have := hAB.out; omega)), .inl (by have := hAB.out; omega)⟩
      have HAn := hide ((HA.out.gr hg3).but hu (by omega))
      have HOn : Hid (OutIn W5 lo2 hi2 u5 [gotT]) := hide (hout.but hu (.inl (by have := hAB.out; omega)))
      have HGn := hide ((HG.out.trans hg3).fresh_ hu (by omega))
      clear hb5 hu hin hout hg3 hbo hr HA HB HO HG h5 hu5 hlo hlo2 hloW hloW2 hbl hAB HL0 hm0
      have HA := HAn
      have HB := HBn
      have HO := HOn
      have HG := HGn
      clear HAn HBn HOn HGn
      generalize W5 = wr at HA HB HO HG ⊢
      obtain ⟨gl, cl, p0, hu, HL0, hm0⟩ := HO.out.x.at_ (k := 0) (by decide)
      subst hu
      have l0_0 : wr.cell? ⟨gl, 0, none⟩ = some (.int .i64 4) := HL0 0 _ rfl
      have l0_8 : wr.cell? ⟨gl, 8, none⟩ = some (.bool true) := HL0 8 _ rfl
      have l0_5 : wr.cell? ⟨gl, 5, none⟩ = some (.int .i64 1) := HL0 5 _ rfl
      have b8 : wr.cell? ⟨b + 1, 8, none⟩ = some (.int .i64 1) := HB.out.bl.cell 8
      obtain ⟨Lb, db, hlb⟩ := HB.out.x.l.is
      have b5 : wr.cell? ⟨b + 1, 5, none⟩ = some (.slice Lb 1 db) := (HB.out.bl.cell 5).trans (congrArg some hlb)
      have b6 : wr.cell? ⟨b + 1, 6, none⟩ = some (.int .i64 0) := HB.out.bl.cell 6
      simp only [List.length_cons, List.length_nil, Nat.zero_add]
      go_wp2_with fail
      clear l0_0 l0_8 l0_5 b8 b5 hlb b6
      -- region 22: Take of a
      have HTK := hide (fun W (hg : Gr wr.drew W) => Take_ok W fa4 R16 (HA.out.gr (((Gr.refl _).drewN 1).trans hg)).x good_fa4 (.agg (cellsM (gotT) p0).toArray) (gotT) ⟨p0, rfl, hm0.move (Moves.of_gr (((Gr.refl _).drewN 1).trans hg))⟩ in_gotT)
      rw [fa_take2] at HTK
      have HLC := hide (fun W (hg : Gr wr.drew W) i v (h : (cellsM (gotT) p0)[i]? = some v) => gr_cell hg _ _ (gr_cell ((Gr.refl _).drewN 1) _ _ (HL0 i v h)))
      have hbl := HA.out.bl.lt
      refine Edge.wp_region_laid 7 8 233 rfl hp1 (by kernel_rfl) (fun _ _ _ _ h => h) ?_
      refine Mine.any_mine_tail 8 334 [227, 228, 229, 230, 231, 226, 232, 233, 3] rfl (by kernel_rfl) (by kernel_rfl) (by kernel_rfl) (ob0 := none)
        (Mine.Ahead.more (Mine.Ahead.more (Mine.Ahead.none_ _ _ _) 1 (Mine.Bx.stays (b) 28 (rfC fa4 R16).toArray) (by exact ⟨rfl, HA.out.bl.drewN 1, by simp⟩)) 3 (Mine.Wk.stays (far_pay wr.drew) (.slice (some ⟨gl, 0, none⟩) 1 cl)) (by exact ⟨rfl, Gr.refl _, by simp⟩))
        334 (C0 := Mine.top) Mine.top_keeps (fun k hk => nomatch hk) trivial ?_
      refine Mine.load_box rfl rfl (by decide) rfl Try.underlying28 rfl (by show _ = some 13; kernel_rfl) ?_
      refine Mine.wk_move (far_pay _) (.inl rfl) rfl (by decide) rfl ?_
      refine Mine.wk1 (x := .tmp 228) (.pointer (some ⟨gl, 0 * 24, none⟩)) (far_pay _) rfl (by decide) (by simp [Op.operands]) rfl (fun a W' ob h _ => exec_idxMsg (k := 0) rfl h rfl (by decide) W') ?_
      refine Mine.wk1 (x := .tmp 229) (.agg (cellsM (gotT) p0).toArray) (far_pay _) rfl (by decide) (by simp [Op.operands]) rfl (fun a W' ob h hf => exec_ldMsg rfl h (fun i v hi => HLC.out W' hf.1 i v hi)) ?_
      refine Mine.callT (s := ⟨fa5, []⟩) rfl rfl (by decide) Try.func22 (by kernel_rfl) (by kernel_rfl) rfl rfl (fun W' hg => HTK.out W' hg) ?_
      refine Mine.move (.tmp 231) (.inl rfl) rfl (by decide) rfl (Mine.TkK.stays _ _) ?_
      refine Mine.look1 (x := .tmp 226) (Ψ := Mine.TkK wr.drew ⟨fa5, []⟩) (Φ := Mine.RfK wr.drew fa5) rfl (by decide) (by simp [Op.operands]) rfl (Mine.RfK.stays _ _) (fun a W' ob h => by obtain ⟨x, u, h1, h2, h3⟩ := h; exact ⟨x, by unfold execOp; simp only []; rw [show a.eval (.tmp 226) = _ from h1]; rfl, h2⟩) ?_
      refine Mine.look1 (x := .tmp 226) (Ψ := Mine.TkK wr.drew ⟨fa5, []⟩) (Φ := Mine.OuK wr.drew []) rfl (by decide) (by simp [Op.operands]) rfl (Mine.OuK.stays _ _) (fun a W' ob h => by obtain ⟨x, u, h1, h2, h3⟩ := h; exact ⟨u, by unfold execOp; simp only []; rw [show a.eval (.tmp 226) = _ from h1]; rfl, h3⟩) ?_
      intro a1 w3 ob hr hwf hsz hdf hun hk2 hat
      have h5 : Mine.RfK wr.drew fa5 (a1.tmps.getD 232 undef) w3 ob := hk2 232
      have h6 : Mine.OuK wr.drew [] (a1.tmps.getD 233 undef) w3 ob := hk2 233
      obtain ⟨X, hX, hlay⟩ := Grow.lay_kept_by _ a1 334 _ hsz hdf hun
      rw [hX] at h5 h6
      clear hX hun hdf hsz hk2 hwf hat HTK HLC
      obtain ⟨R22, lo, hi, h5, hlo, hin, _⟩ := h5
      obtain ⟨lo2, hi2, hlo2, hout, _⟩ := h6
      obtain ⟨u5, hu5⟩ : ∃ u5, X 233 = u5 := ⟨_, rfl⟩
      rw [hu5] at hout
      subst hlay
      simp only [List.range, List.range.loop, List.map_cons, List.map_nil, List.contains_cons, List.contains_nil, Nat.reduceBEq, Bool.or_false, Bool.or_true, cond_false, cond_true, Array.getD_eq_getD_getElem?, List.getElem?_toArray, List.getElem?_cons_zero, List.getElem?_cons_succ, Option.getD_some, h5, hu5, Edge.laid, List.modify_succ_cons, List.modify_zero_cons, List.drop_succ_cons, List.drop_zero]
      have hg3 : Gr wr w3 := (Gr.drew (Gr.refl wr)).trans (rs_grew hr)
      have hloW : wr.heap.size ≤ lo := hlo
      have hloW2 : wr.heap.size ≤ lo2 := hlo2
      have hbo := HA.out.bl.gr hg3
      refine wpList_setBox (r := fa5) (R := R22) rfl rfl rfl rfl rfl hbo rfl hin.x.ones fun W5 hb5 hu => ?_
      have hAB := hide (And.intro HA.out.bl.lt HB.out.bl.lt)
      have HAn : Hid (Box2 W5 (b) (b + 1) fa5 R22) := hide ⟨hb5, lo, hi, hin.but hu (.inl (by have := hAB.out; omega)), .inl (by have := hAB.out; omega)⟩
      have HBn := hide ((HB.out.gr hg3).but hu (by omega))
      have HOn : Hid (OutIn W5 lo2 hi2 u5 []) := hide (hout.but hu (.inl (by have := hAB.out; omega)))
      have HGn := hide ((HG.out.trans hg3).fresh_ hu (by omega))
      clear hb5 hu hin hout hg3 hbo hr HA HB HO HG h5 hu5 hlo hlo2 hloW hloW2 hbl hAB HL0 hm0
      have HA := HAn
      have HB := HBn
      have HO := HOn
      have HG := HGn
      clear HAn HBn HOn HGn
      generalize W5 = wr at HA HB HO HG ⊢
      obtain ⟨A0, c0, hu⟩ := HO.out.x.is
      subst hu
      have a6 : wr.cell? ⟨b, 6, none⟩ = some (.int .i64 1) := HA.out.bl.cell 6
      obtain ⟨I11, j11, hi11, _, hc11⟩ := IntsX.is HA.out.x.m
      obtain ⟨x11, rfl, hx11⟩ := hc11 1 (by decide)
      have a11 : wr.cell? ⟨b, 11, none⟩ = some (.slice (some x11) 3 j11) := (HA.out.bl.cell 11).trans (congrArg some hi11)
      replace hx11 : wr.cell? ⟨x11.block, x11.off + 1, none⟩ = some (.int .i64 1) := hx11
      obtain ⟨I10, j10, hi10, _, hc10⟩ := IntsX.is HA.out.x.n
      obtain ⟨x10, rfl, hx10⟩ := hc10 1 (by decide)
      have a10 : wr.cell? ⟨b, 10, none⟩ = some (.slice (some x10) 3 j10) := (HA.out.bl.cell 10).trans (congrArg some hi10)
      replace hx10 : wr.cell? ⟨x10.block, x10.off + 1, none⟩ = some (.int .i64 2) := hx10
      simp only [List.length_nil]
      go_upto_region 25 with (fail)
      clear a6 a11 hi11 hc11 hx11 a10 hi10 hc10 hx10
      have HT := hide (Tick_ok _ fa5 R22 HA.out.x good_fa5)
      rw [fa_tick4] at HT
      have hbl := HA.out.bl.lt
      have hbl2 := HB.out.bl.lt
      clear HO
      refine wp_region_list ?_
      rw [List.toList_toArray]
      refine wpList_ldBox (r := fa5) (R := R22) rfl rfl rfl HA.out.bl ?_
      simp only [Act.put, List.setIfInBounds_toArray, List.set_cons_zero, List.set_cons_succ]
      go_wp2_with fail
      refine HT.out.mono ?_
      rintro e w3 ⟨v3, u3, rfl, hT⟩
      have hg3 := hT.gr
      obtain ⟨R3, rfl, hin3, hout3⟩ := hT.ins
      have hone3 := hin3.x.ones
      have hbo := HA.out.bl.gr hg3
      clear hT HT
      go_wp2_with (refine wpList_setBox (r := fa5) (R := R3) rfl rfl rfl rfl rfl hbo rfl hone3 ?_)
      intro W3 hb3 hu3
      have HA3 : Hid (Box2 W3 b (b + 1) fa5 R3) := hide ⟨hb3, _, _, hin3.but hu3 (.inl hbl), .inl ⟨hbl, hbl2⟩⟩
      have HB3 := hide ((HB.out.gr hg3).but hu3 (by omega))
      have HO3 : Hid (OutIn W3 wr.heap.size w3.heap.size u3 [ap2T, ap3T]) := hide (hout3.but hu3 (.inl hbl))
      have HG3 := hide ((HG.out.trans hg3).fresh_ hu3 hwb)
      clear hb3 hu3 hin3 hone3 hbo hout3 HA HB HG hg3
      have HA := HA3
      have HB := HB3
      have HO := HO3
      have HG := HG3
      clear HA3 HB3 HO3 HG3 hbl hbl2
      generalize wr.heap.size = lo3 at HO
      generalize w3.heap.size = hi3 at HO
      generalize W3 = wr at HA HB HO HG ⊢
      obtain ⟨gl, cl, p0, hu, HL0, hm0⟩ := HO.out.x.at_ (k := 0) (by decide)
      subst hu
      have l0_7 : wr.cell? ⟨gl, 7, none⟩ = some (.int .i64 1) := HL0 7 _ rfl
      have l0_5 : wr.cell? ⟨gl, 5, none⟩ = some (.int .i64 1) := HL0 5 _ rfl
      obtain ⟨E0, e0, he0⟩ := hm0.e.is
      have l0_9 : wr.cell? ⟨gl, 9, none⟩ = some (.slice E0 0 e0) := (HL0 9 _ rfl).trans (congrArg some he0)
      obtain ⟨gl2, cl2, p1, hu2, HL1, hm1⟩ := HO.out.x.at_ (k := 1) (by decide)
      simp only [Value.slice.injEq, Option.some.injEq, Addr.mk.injEq, and_true, true_and] at hu2
      obtain ⟨rfl, rfl⟩ := hu2
      obtain ⟨E1, e1, he1⟩ := hm1.e.is
      have l1_9 : wr.cell? ⟨gl, 33, none⟩ = some (.slice E1 1 e1) := (HL1 9 _ rfl).trans (congrArg some he1)
      simp only [List.length_cons, List.length_nil, Nat.zero_add, Nat.reduceAdd]
      go_wp2_with fail
      clear l0_7 l0_5 l0_9 he0 l1_9 he1
      -- region 28: Take of b
      have HTK := hide (fun W (hg : Gr wr.drew W) => Take_ok W fb2 R19 (HB.out.gr (((Gr.refl _).drewN 1).trans hg)).x good_fb2 (.agg (cellsM (ap2T) p0).toArray) (ap2T) ⟨p0, rfl, hm0.move (Moves.of_gr (((Gr.refl _).drewN 1).trans hg))⟩ in_ap2T)
      rw [fb_take3] at HTK
      have HLC := hide (fun W (hg : Gr wr.drew W) i v (h : (cellsM (ap2T) p0)[i]? = some v) => gr_cell hg _ _ (gr_cell ((Gr.refl _).drewN 1) _ _ (HL0 i v h)))
      have hbl := HB.out.bl.lt
      refine Edge.wp_region_laid 7 8 313 rfl hp1 (by kernel_rfl) (fun _ _ _ _ h => h) ?_
      refine Mine.any_mine_tail 8 334 [307, 308, 309, 310, 311, 306, 312, 313, 3] rfl (by kernel_rfl) (by kernel_rfl) (by kernel_rfl) (ob0 := none)
        (Mine.Ahead.more (Mine.Ahead.more (Mine.Ahead.none_ _ _ _) 2 (Mine.Bx.stays (b + 1) 28 (rfC fb2 R19).toArray) (by exact ⟨rfl, HB.out.bl.drewN 1, by simp⟩)) 3 (Mine.Wk.stays (far_pay wr.drew) (.slice (some ⟨gl, 0, none⟩) 2 cl)) (by exact ⟨rfl, Gr.refl _, by simp⟩))
        334 (C0 := Mine.top) Mine.top_keeps (fun k hk => nomatch hk) trivial ?_
      refine Mine.load_box rfl rfl (by decide) rfl Try.underlying28 rfl (by show _ = some 13; kernel_rfl) ?_
      refine Mine.wk_move (far_pay _) (.inl rfl) rfl (by decide) rfl ?_
      refine Mine.wk1 (x := .tmp 308) (.pointer (some ⟨gl, 0 * 24, none⟩)) (far_pay _) rfl (by decide) (by simp [Op.operands]) rfl (fun a W' ob h _ => exec_idxMsg (k := 0) rfl h rfl (by decide) W') ?_
      refine Mine.wk1 (x := .tmp 309) (.agg (cellsM (ap2T) p0).toArray) (far_pay _) rfl (by decide) (by simp [Op.operands]) rfl (fun a W' ob h hf => exec_ldMsg rfl h (fun i v hi => HLC.out W' hf.1 i v hi)) ?_
      refine Mine.callT (s := ⟨fb3, [gotT]⟩) rfl rfl (by decide) Try.func22 (by kernel_rfl) (by kernel_rfl) rfl rfl (fun W' hg => HTK.out W' hg) ?_
      refine Mine.move (.tmp 311) (.inl rfl) rfl (by decide) rfl (Mine.TkK.stays _ _) ?_
      refine Mine.look1 (x := .tmp 306) (Ψ := Mine.TkK wr.drew ⟨fb3, [gotT]⟩) (Φ := Mine.RfK wr.drew fb3) rfl (by decide) (by simp [Op.operands]) rfl (Mine.RfK.stays _ _) (fun a W' ob h => by obtain ⟨x, u, h1, h2, h3⟩ := h; exact ⟨x, by unfold execOp; simp only []; rw [show a.eval (.tmp 306) = _ from h1]; rfl, h2⟩) ?_
      refine Mine.look1 (x := .tmp 306) (Ψ := Mine.TkK wr.drew ⟨fb3, [gotT]⟩) (Φ := Mine.OuK wr.drew [gotT]) rfl (by decide) (by simp [Op.operands]) rfl (Mine.OuK.stays _ _) (fun a W' ob h => by obtain ⟨x, u, h1, h2, h3⟩ := h; exact ⟨u, by unfold execOp; simp only []; rw [show a.eval (.tmp 306) = _ from h1]; rfl, h3⟩) ?_
      intro a1 w3 ob hr hwf hsz hdf hun hk2 hat
      have h5 : Mine.RfK wr.drew fb3 (a1.tmps.getD 312 undef) w3 ob := hk2 312
      have h6 : Mine.OuK wr.drew [gotT] (a1.tmps.getD 313 undef) w3 ob := hk2 313
      obtain ⟨X, hX, hlay⟩ := Grow.lay_kept_by _ a1 334 _ hsz hdf hun
      rw [hX] at h5 h6
      clear hX hun hdf hsz hk2 hwf hat HTK HLC
      obtain ⟨R28, lo, hi, h5, hlo, hin, _⟩ := h5
      obtain ⟨lo2, hi2, hlo2, hout, _⟩ := h6
      obtain ⟨u5, hu5⟩ : ∃ u5, X 313 = u5 := ⟨_, rfl⟩
      rw [hu5] at hout
      subst hlay
      simp only [List.range, List.range.loop, List.map_cons, List.map_nil, List.contains_cons, List.contains_nil, Nat.reduceBEq, Bool.or_false, Bool.or_true, cond_false, cond_true, Array.getD_eq_getD_getElem?, List.getElem?_toArray, List.getElem?_cons_zero, List.getElem?_cons_succ, Option.getD_some, h5, hu5, Edge.laid, List.modify_succ_cons, List.modify_zero_cons, List.drop_succ_cons, List.drop_zero]
      have hg3 : Gr wr w3 := (Gr.drew (Gr.refl wr)).trans (rs_grew hr)
      have hloW : wr.heap.size ≤ lo := hlo
      have hloW2 : wr.heap.size ≤ lo2 := hlo2
      have hbo := HB.out.bl.gr hg3
      refine wpList_setBox (r := fb3) (R := R28) rfl rfl rfl rfl rfl hbo rfl hin.x.ones fun W5 hb5 hu => ?_
      have hAB := hide (And.intro HA.out.bl.lt HB.out.bl.lt)
      have HBn : Hid (Box2 W5 (b + 1) (b) fb3 R28) := hide ⟨hb5, lo, hi, hin.but hu (.inl (by have := hAB.out; omega)), .inl (by have := hAB.out; omega)⟩
      have HAn := hide ((HA.out.gr hg3).but hu (by omega))
      have HOn : Hid (OutIn W5 lo2 hi2 u5 [gotT]) := hide (hout.but hu (.inl (by have := hAB.out; omega)))
      have HGn := hide ((HG.out.trans hg3).fresh_ hu (by omega))
      clear hb5 hu hin hout hg3 hbo hr HA HB HO HG h5 hu5 hlo hlo2 hloW hloW2 hbl hAB HL0 hm0 HL1 hm1
      have HA := HAn
      have HB := HBn
      have HO := HOn
      have HG := HGn
      clear HAn HBn HOn HGn
      generalize W5 = wr at HA HB HO HG ⊢
      obtain ⟨gl, cl, p0, hu, HL0, hm0⟩ := HO.out.x.at_ (k := 0) (by decide)
      subst hu
      have l0_5 : wr.cell? ⟨gl, 5, none⟩ = some (.int .i64 1) := HL0 5 _ rfl
      have b6 : wr.cell? ⟨b + 1, 6, none⟩ = some (.int .i64 1) := HB.out.bl.cell 6
      have a12 : wr.cell? ⟨b, 12, none⟩ = some (.int .i64 0) := HA.out.bl.cell 12
      simp only [List.length_cons, List.length_nil, Nat.zero_add]
      go_wp2_with fail
      go_ret
      exact ⟨rfl, HG.out⟩
end Go.Proofs.Ythpaoeiackbdoaa
