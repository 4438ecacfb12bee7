/-
  The walk of 'MsgAll'. (Written by tools/genMsgAll.py.)
-/
import Derived.Test.YtpabppoohobjpaaGreatMsgMade
import Derived.Test.YtpabppoohobjpaaGreatMsgArgs
import Derived.Test.YtpabppoohobjpaaGreatMsgLit
import Derived.Test.YtpabppoohobjpaaGreatMsgBegun
import Derived.Test.YtpabppoohobjpaaGreatMgBareAll
import Derived.Test.YtpabppoohobjpaaGreatRows
import Derived.Test.YtpabppoohobjpaaGreatBaseW
import Derived.ProofKit
import Derived.OpenShut
import Derived.ShutString
import Derived.ChangeOld
import Derived.SizedLaws
namespace Go.Proofs.YtpabppoohobjpaaGreat
open Go Go.RowKit TxnMath KeyMath MsgMath NumPlain
set_option maxRecDepth 100000

/-- a box that holds a letter -/
theorem Ma.of_bl {w : World} {g : Nat} {cs : Array Value} {m : MsgT} {r : Rows5} (hb : Bl w g 31 cs) (hc : cs = (cellsM m r).toArray) (hr : MsgR Any w m r) : Ma m (.pointer (some ⟨g, 0, none⟩)) w := by
  subst hc
  refine ⟨g, 0, r, rfl, fun i u hi => ?_, hr⟩
  rw [Nat.zero_add, hb.cell i]
  simpa using hi
theorem put_gt {m : MsgT} (hv : MsgVers m) : decide (((putM m).length : Int) > 0) = mayM m := by
  cases hm : mayM m
  · have : putM m = [] := by unfold putM; rw [hm]; rfl
    rw [this]
    rfl
  · have := put_pos hm hv
    rw [decide_eq_true_eq]
    omega

set_option maxHeartbeats 8000000 in
theorem walk_MsgAll (w : World) (A : Option Addr) (n c : Nat) (l : List UInt8) (hn : n = l.length) (hby : By w A c l) (v : Value) (m : MsgT) (hv : MsgAt w v m) {M : Nat} (hin : MsgIn M m) (hM : M ≤ 281474976710656) :
    Calls Tryz.prog 3 #[.slice A n c, v] w fun e w' => e = .returned (.bool true) ∧ Gr w w' := by
  subst hn
  have HBY := hide hby
  have HM := hide hv
  have HIN := hide hin
  obtain ⟨cs0, r0, rfl, hc0⟩ := hv.cells
  have HC0 := hide hc0
  clear hby hin hv hc0
  go_enter Tryz.func3, Tryz.ntmps3
  go_upto_region 1 with (fail)
  obtain ⟨W, hW⟩ : ∃ W, w.alloc (.cells cs0 31) = W := ⟨_, rfl⟩
  have hgW : Gr w W := by rw [← hW]; exact (Gr.refl _).alloc _
  have hbW : Bl W w.heap.size 31 cs0 := by rw [← hW]; exact Bl.new _ _ _
  change (Code.region 1 _ false).wp _ _ _ (w.alloc (.cells cs0 31))
  rw [hW]
  clear hW
  obtain ⟨g, hg⟩ : ∃ g, w.heap.size = g := ⟨_, rfl⟩
  rw [hg] at hbW ⊢
  clear hg
  have HG := hide hgW
  have HB := hide hbW
  clear hgW hbW
  go_wp2_with fail
  refine (begun_ok _).mono ?_
  rintro e w1 ⟨rfl, hg1⟩
  have HG1 := hide (HG.out.trans hg1)
  have HB1 := hide (HB.out.gr hg1)
  clear hg1 HG HB
  by_cases h1 : (60 : Int) < (l.length : Int)
  · go_wp2_with fail
    go_ret
    exact ⟨rfl, HG1.out⟩
  have hll : (l.length : Int) ≤ 1000000000 := by omega
  go_upto_region 3 with (fail)
  have CL := hide (fun v W (h : MsgAt W v m) => Light_ok v m W h M hM HIN.out)
  refine Grow.wp_region_text 80 [12, 13, 14, 15, 16, 17, 18, 19] rfl (by kernel_rfl) (by kernel_rfl) (Grow.Ahead.more (Grow.Ahead.more (Grow.Ahead.none_ _ _) 0 (Grow.Sl.stays l) (by exact ⟨A, c, rfl, HBY.out.gr HG1.out⟩)) 3 (Ma.stays m) (by exact Ma.of_bl HB1.out HC0.out.is (HC0.out.rows.move (Moves.of_gr HG1.out)))) ?_
  refine Grow.grow_move (.tmp 0) (.inl rfl) (.inl ⟨rfl, rfl⟩) rfl (Grow.Sl.stays l) ?_
  refine Grow.grow_len_sl rfl Tryz.underlying22 (.inl ⟨rfl, rfl⟩) rfl ?_
  refine Grow.grow_int (k := .i64) (m := (l.length : Int)) (n := 60) (c := .bool false) rfl (.inl ⟨rfl, rfl⟩) rfl (fun _ => rfl) (by rw [show binOp .gtr _ _ _ = pure (.bool (decide ((l.length : Int) > 60))) from rfl, decide_eq_false (show ¬ (l.length : Int) > 60 by omega)]) ?_
  refine Grow.grow_mv (.inl rfl) (.inl ⟨rfl, rfl⟩) rfl ?_
  refine grow_load_letter (m := m) rfl (.inr ⟨3, false, 15, rfl, rfl, rfl, by decide⟩) rfl ?_
  refine Grow.grow_call1 (Φ := Grow.Is (.bool (lightB m))) (Ψ := MgK m) rfl (.inr ⟨3, false, 15, rfl, rfl, rfl, by decide⟩) Tryz.func8 (by kernel_rfl) (by kernel_rfl) rfl (Grow.Is.stays _) (fun v W _ hv => (CL.out v W hv).mono fun e w1 ⟨h1, h2⟩ => ⟨_, h1, h2, rfl⟩) ?_
  refine Grow.grow_not rfl (.inr ⟨3, false, 15, rfl, rfl, rfl, by decide⟩) rfl ?_
  refine Grow.grow_pick_no rfl (.inl ⟨rfl, rfl⟩) rfl rfl (Grow.Is.stays _) ?_
  intro a1 w2 hg2 hs1 hd1 hu1 hk1
  have e2 : a1.tmps.getD 19 undef = .bool (!lightB m) := hk1 19
  obtain ⟨X, hX, hlay⟩ := Grow.lay_kept_by _ a1 80 _ hs1 hd1 hu1
  rw [hX] at e2
  clear hX hu1 hd1 hs1 hk1 CL
  subst hlay
  simp only [List.range, List.range.loop, List.map_cons, List.map_nil, List.contains_cons, List.contains_nil, Nat.reduceBEq, Bool.or_false, Bool.or_true, cond_false, cond_true, Array.getD_eq_getD_getElem?, List.getElem?_toArray, List.getElem?_cons_zero, List.getElem?_cons_succ, Option.getD_some, e2]
  clear e2
  have HG2 := hide (HG1.out.trans hg2)
  have HB2 := hide (HB1.out.gr hg2)
  clear hg2 HG1 HB1
  cases hb : lightB m
  · simp only [hb, Bool.not_false] at *
    go_wp2_with fail
    go_ret
    exact ⟨rfl, HG2.out⟩
  have hlp := lightB_is hb
  simp only [hb, Bool.not_true] at *
  have HMB := hide (HIN.out.bnd hM hlp)
  have HMV := hide HIN.out.vers
  clear hlp hb HIN
  go_wp2_with fail
  refine (Md_ok A c l hll w2 (HBY.out.gr HG2.out)).mono ?_
  rintro e w4 ⟨u, x, rfl, hx, hg4, hox⟩
  obtain ⟨cs1, r1, rfl, hc1⟩ := hx.cells
  have HC1 := hide hc1
  have HOX := hide hox
  have HG4 := hide (HG2.out.trans hg4)
  have HB4 := hide (HB2.out.gr hg4)
  have hsz1 : (Tryz.prog.info? 31).map (·.size) = some cs1.size := by rw [hc1.size]; kernel_rfl
  have ho1 := hide (show 24 = cs1.size from hc1.size.symm)
  have hone1 := hc1.one
  clear hx hg4 hox hc1 HG2 HB2 HBY HM
  have HN1 := hide (fun old => Bl.new w4 31 old)
  go_upto_region 6 with (first
    | refine wpList_store_row rfl 31 (.tmp 5) (.tmp 21) (by with_reducible rfl) w4.heap.size cs1 rfl rfl 31 _ (HN1.out _) hsz1 ho1.out hone1 ?_
    | fail)
  obtain ⟨V, hV⟩ : ∃ V, (w4.alloc (.cells zeroCs 31)).setRow w4.heap.size cs1 = V := ⟨_, rfl⟩
  have hbX : Bl V w4.heap.size 31 cs1 := by rw [← hV]; exact (HN1.out zeroCs).row cs1
  have hgV : Gr w4 V := by rw [← hV]; exact ((Gr.refl _).alloc _).fresh (But.row _ _ _) (Nat.le_refl _)
  change (Code.region 6 _ false).wp _ _ _ ((w4.alloc (.cells zeroCs 31)).setRow w4.heap.size cs1)
  rw [hV]
  clear hV HN1
  obtain ⟨gX, hgX⟩ : ∃ g, w4.heap.size = g := ⟨_, rfl⟩
  rw [hgX] at hbX ⊢
  have HXR := hide (show MsgR Any V x r1 from HC1.out.rows.wide (fun _ _ => trivial) |>.move (Moves.of_gr hgV))
  have HG5 := hide (HG4.out.trans hgV)
  have HB5 := hide (HB4.out.gr hgV)
  have HBX := hide hbX
  clear hgX hgV HG4 HB4
  have HN2 := hide (fun old => Bl.new V 31 old)
  go_upto_region 7 with (first
    | refine wpList_load_row rfl 31 (.tmp 5) (by with_reducible rfl) gX rfl 31 _ (0, 0) _ hbX Tryz.underlying31 rfl hsz1 ?_
    | refine wpList_store_row rfl 31 (.tmp 6) (.tmp 22) (by with_reducible rfl) V.heap.size cs1 rfl rfl 31 _ (HN2.out _) hsz1 ho1.out hone1 ?_
    | fail)
  obtain ⟨U, hU⟩ : ∃ U, (V.alloc (.cells zeroCs 31)).setRow V.heap.size cs1 = U := ⟨_, rfl⟩
  have hbY : Bl U V.heap.size 31 cs1 := by rw [← hU]; exact (HN2.out zeroCs).row cs1
  have hgU : Gr V U := by rw [← hU]; exact ((Gr.refl _).alloc _).fresh (But.row _ _ _) (Nat.le_refl _)
  change (Code.region 7 _ true).wp _ _ _ ((V.alloc (.cells zeroCs 31)).setRow V.heap.size cs1)
  rw [hU]
  clear hU HN2
  have hlt1 := HB5.out.lt
  have hlt2 := hbX.lt
  obtain ⟨gY, hgY⟩ : ∃ g, V.heap.size = g := ⟨_, rfl⟩
  rw [hgY] at hbY hlt1 hlt2 ⊢
  have hb0 := HB5.out.gr hgU
  have hne : g ≠ gY := by omega
  clear hbX
  have hsz24 := ho1.out
  refine Det.wp_region_det [7, 9, 11] (BareC U.drew gY 31 cs1 [(3, .int .i64 m.part), (4, .int .i64 m.term), (5, .int .i64 m.index)]) (by kernel_rfl) (by kernel_rfl) (by kernel_rfl) ⟨But.refl _ _, hbY⟩ ?_
  refine Det.field_c (g := g) (j := 3) rfl rfl rfl rfl (fun w => by kernel_rfl) ?_
  simp only [Act.put, List.setIfInBounds_toArray, List.set_cons_zero, List.set_cons_succ]
  refine Det.load_c (g := g) (j := 3) (u := .int .i64 m.part) rfl rfl rfl (fun w => by kernel_rfl) rfl (by kernel_rfl) hb0 hne (by rw [HC0.out.is]; rfl) ?_
  simp only [Act.put, List.setIfInBounds_toArray, List.set_cons_zero, List.set_cons_succ]
  refine Det.field_c (g := g) (j := 4) rfl rfl rfl rfl (fun w => by kernel_rfl) ?_
  simp only [Act.put, List.setIfInBounds_toArray, List.set_cons_zero, List.set_cons_succ]
  refine Det.load_c (g := g) (j := 4) (u := .int .i64 m.term) rfl rfl rfl (fun w => by kernel_rfl) rfl (by kernel_rfl) hb0 hne (by rw [HC0.out.is]; rfl) ?_
  simp only [Act.put, List.setIfInBounds_toArray, List.set_cons_zero, List.set_cons_succ]
  refine Det.field_c (g := g) (j := 5) rfl rfl rfl rfl (fun w => by kernel_rfl) ?_
  simp only [Act.put, List.setIfInBounds_toArray, List.set_cons_zero, List.set_cons_succ]
  refine Det.load_c (g := g) (j := 5) (u := .int .i64 m.index) rfl rfl rfl (fun w => by kernel_rfl) rfl (by kernel_rfl) hb0 hne (by rw [HC0.out.is]; rfl) ?_
  simp only [Act.put, List.setIfInBounds_toArray, List.set_cons_zero, List.set_cons_succ]
  refine Det.field_c (g := gY) (j := 3) rfl rfl rfl rfl (fun w => by kernel_rfl) ?_
  simp only [Act.put, List.setIfInBounds_toArray, List.set_cons_zero, List.set_cons_succ]
  refine Det.store_c (j := 3) (v := .int .i64 m.part) rfl rfl rfl rfl rfl (fun w old c1 c2 => run_st_int w _ (fun w => by kernel_rfl) _ _ c1 c2) rfl (by omega) ?_
  simp only [Act.put]
  refine Det.field_c (g := gY) (j := 4) rfl rfl rfl rfl (fun w => by kernel_rfl) ?_
  simp only [Act.put, List.setIfInBounds_toArray, List.set_cons_zero, List.set_cons_succ]
  refine Det.store_c (j := 4) (v := .int .i64 m.term) rfl rfl rfl rfl rfl (fun w old c1 c2 => run_st_int w _ (fun w => by kernel_rfl) _ _ c1 c2) rfl (by omega) ?_
  simp only [Act.put]
  refine Det.field_c (g := gY) (j := 5) rfl rfl rfl rfl (fun w => by kernel_rfl) ?_
  simp only [Act.put, List.setIfInBounds_toArray, List.set_cons_zero, List.set_cons_succ]
  refine Det.store_c (j := 5) (v := .int .i64 m.index) rfl rfl rfl rfl rfl (fun w old c1 c2 => run_st_int w _ (fun w => by kernel_rfl) _ _ c1 c2) rfl (by omega) ?_
  simp only [Act.put]
  refine Det.nil ?_
  intro w3 hC
  obtain ⟨hbut0, hbx0⟩ := hC
  obtain ⟨y, hy⟩ : ∃ y : MsgT, { x with part := m.part, term := m.term, index := m.index } = y := ⟨_, rfl⟩
  obtain ⟨cs2, hcs2⟩ : ∃ cs2, afterS cs1 [(3, .int .i64 m.part), (4, .int .i64 m.term), (5, .int .i64 m.index)] 3 = cs2 := ⟨_, rfl⟩
  change Bl w3 gY 31 (afterS cs1 [(3, .int .i64 m.part), (4, .int .i64 m.term), (5, .int .i64 m.index)] 3) at hbx0
  rw [hcs2] at hbx0
  have hc2 : cs2 = (cellsM y r1).toArray := by rw [← hcs2, ← hy, HC1.out.is]; rfl
  have hgr3 : Gr V w3 := hgU.drew.fresh hbut0 (by omega)
  have HXW := hide (HXR.out.move (Moves.of_gr hgr3))
  have HYW := hide (show MsgR Any w3 y r1 from by rw [← hy]; exact ⟨HXW.out.e, HXW.out.p, HXW.out.k, HXW.out.g⟩)
  have HB6 := hide (HB5.out.gr hgr3)
  have HBX6 := hide (HBX.out.gr hgr3)
  have HBY6 := hide hbx0
  have HG6 := hide (HG5.out.trans hgr3)
  have HMR := hide (HC0.out.rows.move (Moves.of_gr HG6.out))
  have HC2 := hide hc2
  have HYB := hide (show MsgBnd y ∧ MsgVers y from by
    have hb := HOX.out.bnd
    have hv := HOX.out.vers
    rw [← hy]
    exact ⟨⟨hb.en, hb.ent, hb.t, hb.fk, hb.tk, hb.kn, hb.ks, hb.gn, hb.gk⟩, ⟨hv.t, hv.ent⟩⟩)
  clear hbut0 hbx0 hc2 hgr3 hb0 hbY hgU HB5 HBX HG5 HXR hcs2 hlt1 hlt2 hne hgY hsz24 hy
  go_upto_region 8 with (fail)
  refine Grow.wp_region_text 80 [32, 33, 34, 35, 7] rfl (by kernel_rfl) (by kernel_rfl) (Grow.Ahead.more (Grow.Ahead.more (Grow.Ahead.more (Grow.Ahead.none_ _ _) 3 (Ma.stays m) (by exact Ma.of_bl HB6.out HC0.out.is HMR.out)) 5 (Ma.stays x) (by exact Ma.of_bl HBX6.out HC1.out.is HXW.out)) 6 (Ma.stays y) (by exact Ma.of_bl HBY6.out HC2.out HYW.out)) ?_
  refine grow_load_letter (m := m) rfl (.inl ⟨rfl, rfl⟩) rfl ?_
  refine grow_load_letter (m := x) rfl (.inl ⟨rfl, rfl⟩) rfl ?_
  refine grow_load_letter (m := y) rfl (.inl ⟨rfl, rfl⟩) rfl ?_
  refine grow_letters [.tmp 32, .tmp 33, .tmp 34] (ls := [m, x, y]) rfl rfl rfl (by decide) (by decide) (.inl ⟨rfl, rfl⟩) ⟨rfl, rfl, rfl, trivial⟩ ?_
  refine Grow.grow_move (.tmp 35) (.inr rfl) (.inl ⟨rfl, rfl⟩) rfl (Mgs.stays _) ?_
  intro a2 w5 hg5 hs2 hd2 hu2 hk2
  have h2 : Mgs [m, x, y] (a2.tmps.getD 7 undef) w5 := hk2 7
  obtain ⟨X2, hX2, hlay2⟩ := Grow.lay_kept_by _ a2 80 _ hs2 hd2 hu2
  rw [hX2] at h2
  clear hX2 hu2 hd2 hs2 hk2
  obtain ⟨gg, e2, hgl⟩ := h2
  have HGL := hide (show Mgs [m, x, y] (.slice (some ⟨gg, 0, none⟩) 3 3) w5 from ⟨gg, rfl, hgl⟩)
  clear hgl
  replace e2 : X2 7 = .slice (some ⟨gg, 0, none⟩) 3 3 := e2
  subst hlay2
  simp only [List.range, List.range.loop, List.map_cons, List.map_nil, List.contains_cons, List.contains_nil, Nat.reduceBEq, Bool.or_false, Bool.or_true, cond_false, cond_true, Array.getD_eq_getD_getElem?, List.getElem?_toArray, List.getElem?_cons_zero, List.getElem?_cons_succ, Option.getD_some, e2]
  clear e2
  have HG7 := hide (HG6.out.trans hg5)
  have HBX7 := hide (HBX6.out.gr hg5)
  have HX7 := hide (HXW.out.move (Moves.of_gr hg5))
  clear hg5 HG6 HB6 HBX6 HBY6 HXW HYW HMR HC2
  have HZ := hide (show ∀ k, k < 3 → ∃ z, [m, x, y][k]? = some z ∧ MsgBnd z ∧ MsgVers z from fun k hk => by
    match k, hk with
    | 0, _ => exact ⟨m, rfl, HMB.out, HMV.out⟩
    | 1, _ => exact ⟨x, rfl, HOX.out.bnd, HOX.out.vers⟩
    | 2, _ => exact ⟨y, rfl, HYB.out.1, HYB.out.2⟩)
  clear HYB HMB HMV HC0
  have HXB := hide HOX.out.bnd
  have CE := hide (fun W (h : Gr w5 W) => HOX.out.may ▸ MgMay_ok (.agg cs1) x W ⟨r1, by rw [HC1.out.is], HX7.out.move (Moves.of_gr h)⟩ HOX.out.bnd HOX.out.vers)
  obtain ⟨ls, hls⟩ : ∃ ls, [m, x, y] = ls := ⟨_, rfl⟩
  have hl3 : ls.length = 3 := by rw [← hls]; rfl
  rw [hls] at HGL HZ
  have HL3 := hide hl3
  clear hls hl3 HOX
  go_wp2_with fail
  go_loopw [8, 9] (fun i _ wr => ∃ k : Nat, i = .int .i64 k ∧ k ≤ 3 ∧ Hid (Gr w5 wr)) (fun i _ _ => 3 - (intOf i).toNat)
  case atStart => exact ⟨0, rfl, by omega, Gr.refl _⟩
  case round =>
    obtain ⟨k, rfl, hk3, HR⟩ := hrel
    by_cases hlt : k < 3
    · have hlt' : (k : Int) < 3 := by omega
      obtain ⟨z, hzk, hzb, hzv⟩ := HZ.out k hlt
      have HGR := hide (Mgs.stays ls _ _ _ HGL.out HR.out)
      have HZK := hide hzk
      have CM := hide (fun v W (h : MsgAt W v z) => RefMayMsg_ok v z W h hzb)
      have CA := hide (fun v W (h : MsgAt W v z) => MgMay_ok v z W h hzb hzv)
      have CP := hide (fun v W (h : MsgAt W v z) => MgPut_ok v z W h hzb hzv)
      have CQ := hide (fun v u W (h : MsgAt W v z) (h2 : MsgAt W u x) => MgSame_ok v u z x W h h2 hzb HXB.out)
      have CS := hide (fun v u W (h : MsgAt W v z) (h2 : MsgAt W u x) => RefSameMsg_ok v u z x W h h2 hzb HXB.out)
      have HPG := hide (put_gt hzv)
      generalize putM z = B at CP HPG
      generalize mayM z = b at CM CA HPG
      clear hzk hzb hzv
      go_upto_region 12 with (fail)
      refine Grow.wp_region_text 80 [40, 41, 42, 43, 44, 9] rfl (by kernel_rfl) (by kernel_rfl) (Grow.Ahead.more (Grow.Ahead.more (Grow.Ahead.none_ _ _) 7 (Mgs.stays ls) (by exact HGR.out)) 8 (Grow.Is.stays (.int .i64 (k : Int))) (by exact rfl)) ?_
      refine Grow.grow_move (.tmp 7) (.inl rfl) (.inl ⟨rfl, rfl⟩) rfl (Mgs.stays ls) ?_
      refine Grow.grow_mv (.inl rfl) (.inl ⟨rfl, rfl⟩) rfl ?_
      refine grow_at_letter (ls := ls) (m := z) k rfl HZK.out rfl (.inl ⟨rfl, rfl⟩) rfl rfl ?_
      refine grow_load_letter (m := z) rfl (.inl ⟨rfl, rfl⟩) rfl ?_
      refine Grow.grow_call1 (Φ := Grow.Is (.bool b)) (Ψ := MgK z) rfl (.inl ⟨rfl, rfl⟩) Tryz.func10 (by kernel_rfl) (by kernel_rfl) rfl (Grow.Is.stays _) (fun v W _ hv => (CM.out v W hv).mono fun e w1 ⟨h1, h2⟩ => ⟨_, h1, h2, rfl⟩) ?_
      refine Grow.grow_mv (.inr rfl) (.inl ⟨rfl, rfl⟩) rfl ?_
      intro a3 w6 hg6 hs3 hd3 hu3 hk3'
      have e2 : a3.tmps.getD 9 undef = .bool b := hk3' 9
      obtain ⟨X3, hX3, hlay3⟩ := Grow.lay_kept_by _ a3 80 _ hs3 hd3 hu3
      rw [hX3] at e2
      clear hX3 hu3 hd3 hs3 hk3' CM
      subst hlay3
      simp only [List.range, List.range.loop, List.map_cons, List.map_nil, List.contains_cons, List.contains_nil, Nat.reduceBEq, Bool.or_false, Bool.or_true, cond_false, cond_true, Array.getD_eq_getD_getElem?, List.getElem?_toArray, List.getElem?_cons_zero, List.getElem?_cons_succ, Option.getD_some, e2]
      clear e2
      have HR6 := hide (HR.out.trans hg6)
      have HGR6 := hide (Mgs.stays ls _ _ _ HGR.out hg6)
      have HBX8 := hide (HBX7.out.gr HR6.out)
      have HX8 := hide (HX7.out.move (Moves.of_gr HR6.out))
      clear hg6 HGR HR
      go_upto_region 13 with (fail)
      refine Grow.wp_region_kept 80 [45, 46, 47, 48, 49, 50, 51, 52, 53, 54, 55, 56, 57, 58, 59, 60, 61, 62, 63, 64, 65, 66, 67, 68, 69, 70, 71, 72, 73, 74, 75, 76, 77] rfl (by kernel_rfl) (by kernel_rfl) (by kernel_rfl) (Grow.Ahead.more (Grow.Ahead.more (Grow.Ahead.more (Grow.Ahead.more (Grow.Ahead.none_ _ _) 7 (Mgs.stays ls) (by exact Mgs.stays ls _ _ _ HGR6.out (Gr.drew (Gr.refl _)))) 8 (Grow.Is.stays (.int .i64 (k : Int))) (by exact rfl)) 9 (Grow.Is.stays (.bool b)) (by exact rfl)) 5 (Ma.stays x) (by exact Ma.stays x _ _ _ (Ma.of_bl HBX8.out HC1.out.is HX8.out) (Gr.drew (Gr.refl _)))) ?_
      refine Grow.grow_move (.tmp 7) (.inl rfl) (.inl ⟨rfl, rfl⟩) rfl (Mgs.stays ls) ?_
      refine Grow.grow_mv (.inl rfl) (.inl ⟨rfl, rfl⟩) rfl ?_
      refine grow_at_letter (ls := ls) (m := z) k rfl HZK.out rfl (.inl ⟨rfl, rfl⟩) rfl rfl ?_
      refine grow_load_letter (m := z) rfl (.inl ⟨rfl, rfl⟩) rfl ?_
      refine Grow.grow_call1 (Φ := Grow.Is (.bool b)) (Ψ := MgK z) rfl (.inl ⟨rfl, rfl⟩) Tryz.func11 (by kernel_rfl) (by kernel_rfl) rfl (Grow.Is.stays _) (fun v W _ hv => (CA.out v W hv).mono fun e w1 ⟨h1, h2⟩ => ⟨_, h1, h2, rfl⟩) ?_
      refine Grow.grow_mv (.inl rfl) (.inl ⟨rfl, rfl⟩) rfl ?_
      refine Grow.grow_bool_alike rfl Tryz.underlying4 rfl (.inl ⟨rfl, rfl⟩) rfl rfl ?_
      refine Grow.grow_mv (.inl rfl) (.inl ⟨rfl, rfl⟩) rfl ?_
      refine Grow.grow_move (.tmp 7) (.inl rfl) (.inr ⟨7, false, 52, rfl, rfl, rfl, by decide⟩) rfl (Mgs.stays ls) ?_
      refine Grow.grow_mv (.inl rfl) (.inr ⟨7, false, 52, rfl, rfl, rfl, by decide⟩) rfl ?_
      refine grow_at_letter (ls := ls) (m := z) k rfl HZK.out rfl (.inr ⟨7, false, 52, rfl, rfl, rfl, by decide⟩) rfl rfl ?_
      refine grow_load_letter (m := z) rfl (.inr ⟨7, false, 52, rfl, rfl, rfl, by decide⟩) rfl ?_
      refine Grow.grow_call1 (Φ := Grow.Sl B) (Ψ := MgK z) rfl (.inr ⟨7, false, 52, rfl, rfl, rfl, by decide⟩) Tryz.func12 (by kernel_rfl) (by kernel_rfl) rfl (Grow.Sl.stays B) (fun v W _ hv => by
        refine (CP.out v W hv).mono ?_
        rintro e w' ⟨q, h1, h2, h3⟩
        obtain ⟨A2, c2, rfl, h4⟩ := h2.by_
        exact ⟨_, h1, h3, A2, c2, rfl, h4⟩) ?_
      refine Grow.grow_len_sl rfl Tryz.underlying22 (.inr ⟨7, false, 52, rfl, rfl, rfl, by decide⟩) rfl ?_
      refine Grow.grow_int (k := .i64) (m := (B.length : Int)) (n := 0) (c := .bool b) rfl (.inr ⟨7, false, 52, rfl, rfl, rfl, by decide⟩) rfl (fun _ => rfl) (by rw [show binOp .gtr _ _ _ = pure (.bool (decide ((B.length : Int) > 0))) from rfl, HPG.out]) ?_
      refine Grow.grow_mv (.inl rfl) (.inr ⟨7, false, 52, rfl, rfl, rfl, by decide⟩) rfl ?_
      refine Grow.grow_bool_alike rfl Tryz.underlying4 rfl (.inr ⟨7, false, 52, rfl, rfl, rfl, by decide⟩) rfl rfl ?_
      refine Grow.grow_pick_no rfl (.inl ⟨rfl, rfl⟩) rfl rfl (Grow.Is.stays _) ?_
      refine Grow.grow_mv (.inl rfl) (.inl ⟨rfl, rfl⟩) rfl ?_
      refine Grow.grow_move (.tmp 7) (.inl rfl) (.inr ⟨18, false, 63, rfl, rfl, rfl, by decide⟩) rfl (Mgs.stays ls) ?_
      refine Grow.grow_mv (.inl rfl) (.inr ⟨18, false, 63, rfl, rfl, rfl, by decide⟩) rfl ?_
      refine grow_at_letter (ls := ls) (m := z) k rfl HZK.out rfl (.inr ⟨18, false, 63, rfl, rfl, rfl, by decide⟩) rfl rfl ?_
      refine grow_load_letter (m := z) rfl (.inr ⟨18, false, 63, rfl, rfl, rfl, by decide⟩) rfl ?_
      refine grow_load_letter (m := x) rfl (.inr ⟨18, false, 63, rfl, rfl, rfl, by decide⟩) rfl ?_
      refine Grow.grow_call2 (Φ := Grow.Is (.bool (decide (z = x)))) (Ψ := MgK z) (Ψ' := MgK x) rfl (.inr ⟨18, false, 63, rfl, rfl, rfl, by decide⟩) Tryz.func13 (by kernel_rfl) (by kernel_rfl) rfl rfl (Grow.Is.stays _) (fun v u W _ hv hu => (CQ.out v u W hv hu).mono fun e w1 ⟨h1, h2⟩ => ⟨_, h1, h2, rfl⟩) ?_
      refine Grow.grow_move (.tmp 7) (.inl rfl) (.inr ⟨18, false, 63, rfl, rfl, rfl, by decide⟩) rfl (Mgs.stays ls) ?_
      refine Grow.grow_mv (.inl rfl) (.inr ⟨18, false, 63, rfl, rfl, rfl, by decide⟩) rfl ?_
      refine grow_at_letter (ls := ls) (m := z) k rfl HZK.out rfl (.inr ⟨18, false, 63, rfl, rfl, rfl, by decide⟩) rfl rfl ?_
      refine grow_load_letter (m := z) rfl (.inr ⟨18, false, 63, rfl, rfl, rfl, by decide⟩) rfl ?_
      refine grow_load_letter (m := x) rfl (.inr ⟨18, false, 63, rfl, rfl, rfl, by decide⟩) rfl ?_
      refine Grow.grow_call2 (Φ := Grow.Is (.bool (decide (z = x)))) (Ψ := MgK z) (Ψ' := MgK x) rfl (.inr ⟨18, false, 63, rfl, rfl, rfl, by decide⟩) Tryz.func14 (by kernel_rfl) (by kernel_rfl) rfl rfl (Grow.Is.stays _) (fun v u W _ hv hu => (CS.out v u W hv hu).mono fun e w1 ⟨h1, h2⟩ => ⟨_, h1, h2, rfl⟩) ?_
      refine Grow.grow_bool_alike rfl Tryz.underlying4 rfl (.inr ⟨18, false, 63, rfl, rfl, rfl, by decide⟩) rfl rfl ?_
      refine Grow.grow_pick_no rfl (.inl ⟨rfl, rfl⟩) rfl rfl (Grow.Is.stays _) ?_
      intro a4 w7 hg7 hs4 hd4 hu4 hk4
      have e2 : a4.tmps.getD 77 undef = .bool false := hk4 77
      obtain ⟨X4, hX4, hlay4⟩ := Grow.lay_kept_by _ a4 80 _ hs4 hd4 hu4
      rw [hX4] at e2
      clear hX4 hu4 hd4 hs4 hk4
      subst hlay4
      simp only [List.range, List.range.loop, List.map_cons, List.map_nil, List.contains_cons, List.contains_nil, Nat.reduceBEq, Bool.or_false, Bool.or_true, cond_false, cond_true, Array.getD_eq_getD_getElem?, List.getElem?_toArray, List.getElem?_cons_zero, List.getElem?_cons_succ, Option.getD_some, e2]
      clear e2
      have HR7 := hide (HR6.out.trans ((Gr.drew (Gr.refl _)).trans hg7))
      clear hg7 CA CP CQ CS HPG HR6 HGR6 HBX8 HX8 HZK
      go_wp2_with fail
      go_roundw
      case rel => exact ⟨k + 1, by go_num, by omega, HR7⟩
      case measure => simp [intOf]; omega
    · obtain rfl : k = 3 := by omega
      have hbx := HBX7.out.gr HR.out
      go_wp2_with (first
        | refine wpList_load_row rfl 31 (.tmp 5) (by with_reducible rfl) gX rfl 31 _ (0, 0) _ hbx Tryz.underlying31 rfl hsz1 ?_
        | fail)
      refine (CE.out _ HR.out).mono ?_
      rintro e w8 ⟨rfl, hg8⟩
      go_wp2_with fail
      go_ret
      exact ⟨rfl, HG7.out.trans (HR.out.trans hg8)⟩

end Go.Proofs.YtpabppoohobjpaaGreat

/-
  The statement 'MsgAll' of diwan/diwanlaw6, out of its walk: whatever the input, the law returns true, and its arguments read behind the call as before. No condition.
-/
namespace Go.Proofs.YtpabppoohobjpaaGreat.lawMsgAll
open Go.ChangeShapes Go.WideShapes Go.ChangeAt Go.RowKit Go.Proofs.YtpabppoohobjpaaGreat

theorem own : ownKnob Tryz.prog.godebug = none := by kernel_rfl
theorem laidOut : laidOutB Tryz.prog = true := by kernel_rfl

set_option maxRecDepth 100000 in
theorem lifted (os : Os) (started : os.Started) (H : Type) (enc : TypeId × Value → H) :
    ReturnsInHanded {} Tryz.checked os 3 .any (Rows.msgAllSpec.pre6 enc Tryz.prog Tryz.f3 Rows.msgAllRow.domain false) (Rows.msgAllSpec.post enc Tryz.prog Tryz.f3 false true false false) := by
  refine returnsInHanded_of_change_sized (C := Tryz.checked) own started (by kernel_rfl) Tryz.func3
    (ChangeSpec.witness6 (enc := enc) (C := Tryz.checked) false ⟨#[], #[.slice none 0 0, .agg #[.int .i64 0, .int .i64 0, .int .i64 0, .int .i64 0, .int .i64 0, .int .i64 0, .int .i64 0, .int .i64 0, .bool false, .slice none 0 0, .int .i64 0, .int .i64 0, .slice none 0 0, .slice none 0 0, .int .i64 0, .int .i64 0, .int .i64 0, .int .i64 0, .bool false, .string ⟨#[]⟩, .string ⟨#[]⟩, .slice none 0 0, .slice none 0 0, .int .i64 0]], []⟩ 8 (by kernel_rfl) (by kernel_rfl) (by kernel_rfl) (by kernel_rfl)) ?_
  intro W base args ds gs before hval0 hW _ hwt _
  have hval : ∀ (j : Nat) t v, Tryz.f3.params[j]? = some t → args[j]? = some v → Value.okWide Tryz.prog W .any base t v := hval0
  have hW' := hW
  obtain ⟨p, q, hA0, hV, rfl, hfz, hnd⟩ := hW
  have hA : DataW.TrodAll enc Tryz.prog W 0 (fun _ => true) true Tryz.f3.params.toList args.toList ds p := hA0
  rw [Tryz.params3] at hA hval
  obtain ⟨v0, vs0, d0, ds0, p0, q0, hargs, rfl, rfl, h0, r0⟩ := trodAll_cons hA
  obtain ⟨v1, vs1, d1, ds1, p1, q1, rfl, rfl, rfl, h1, r1⟩ := trodAll_cons r0
  obtain ⟨rfl, rfl, rfl⟩ := trodAll_nil r1
  obtain rfl : args = #[v0, v1] := by cases args; simp_all
  obtain ⟨rfl, rfl⟩ := trodVars_none hV
  have k0 := h0
  have lt0 : ∀ x ∈ p0, x.block < W.heap.size := by obtain ⟨m, hm⟩ := k0; exact DataW.trod_lt m _ _ _ hm
  obtain ⟨A0, n0, c0, l0, rfl, e0, w0⟩ := arg_bytes Tryz.underlying22 Tryz.underlying5 (by kernel_rfl) (hval 0 22 v0 rfl rfl) h0
  have k1 := h1
  have lt1 : ∀ x ∈ p1, x.block < W.heap.size := by obtain ⟨m, hm⟩ := k1; exact DataW.trod_lt m _ _ _ hm
  have we1 : Weighs Tryz.prog reachBytes 31 d1 := fun m hm => by simpa using List.all_eq_true.1 hwt m (DataW.weights_mem_each (j := 1) (t := 31) (d := d1) (by rfl) (by rfl) m hm)
  obtain ⟨t1, w1, m1⟩ := arg_msg (hval 1 31 v1 rfl rfl) h1 we1
  clear hA0 hval0
  refine (walk_MsgAll W A0 n0 c0 l0 e0 w0 v1 t1 w1 m1 (by decide)).mono fun e W' ⟨he, bel⟩ => ?_
  subst he
  exact ⟨_, rfl, _, _, _, [], _, [], hW', trodAll_mk1 (shut_bool Tryz.underlying4 _), (trodAll_cons_mk (Below.trod laidOut (by kernel_rfl) (of_decide_eq_true (by kernel_rfl)) k0 bel lt0) (trodAll_cons_mk (Below.trod laidOut (by kernel_rfl) (of_decide_eq_true (by kernel_rfl)) k1 bel lt1) trodAll_mk0)), rfl, bel.frame _, fun h => by cases h⟩

theorem proved : Rows.MsgAllSaid :=
  OpenClaim.holds_of_wide 3 Tryz.f3 rfl rfl rfl rfl rfl rfl rfl ⟨rfl, rfl, rfl, rfl, rfl⟩ rfl rfl rfl rfl rfl (by kernel_rfl) Tryz.func3 (by kernel_rfl)
    (of_decide_eq_true (by kernel_rfl)) (by unfold Func.isWrapper; first | (rw [if_pos (by decide +kernel)]; kernel_rfl) | (rw [if_neg (by decide +kernel)]; exact ⟨rfl, rfl⟩))
    (fun os started H enc _ => lifted os started H enc)

#print axioms proved
end Go.Proofs.YtpabppoohobjpaaGreat.lawMsgAll
