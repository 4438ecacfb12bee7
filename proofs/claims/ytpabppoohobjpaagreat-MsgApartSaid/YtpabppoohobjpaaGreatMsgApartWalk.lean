/-
  The walk of 'MsgApart'.
-/
import Derived.Test.YtpabppoohobjpaaGreatMsgMade
import Derived.Test.YtpabppoohobjpaaGreatMsgBegun
import Derived.Test.YtpabppoohobjpaaGreatMgRefSame
namespace Go.Proofs.YtpabppoohobjpaaGreat
open Go Go.RowKit TxnMath KeyMath MsgMath NumPlain
set_option maxRecDepth 100000

set_option maxHeartbeats 8000000 in
theorem walk_MsgApart (w : World) (A : Option Addr) (n c : Nat) (l : List UInt8) (hn : n = l.length) (hby : By w A c l) (B : Option Addr) (m d : Nat) (r : List UInt8) (hm : m = r.length) (hbr : By w B d r) :
    Calls Tryz.prog 6 #[.slice A n c, .slice B m d] w fun e w' => e = .returned (.bool true) ∧ Gr w w' := by
  subst hn hm
  have HBY := hide hby
  have HBR := hide hbr
  clear hby hbr
  by_cases h1 : (60 : Int) < (l.length : Int)
  · go_enter Tryz.func6, Tryz.ntmps6
    go_wp2_with fail
    refine (begun_ok _).mono ?_
    rintro e w1 ⟨rfl, hg1⟩
    go_wp2_with fail
    go_ret
    exact ⟨rfl, hg1⟩
  by_cases h2 : (60 : Int) < (r.length : Int)
  · go_enter Tryz.func6, Tryz.ntmps6
    go_wp2_with fail
    refine (begun_ok _).mono ?_
    rintro e w1 ⟨rfl, hg1⟩
    go_wp2_with fail
    go_ret
    exact ⟨rfl, hg1⟩
  have hll : (l.length : Int) ≤ 1000000000 := by omega
  have hlr : (r.length : Int) ≤ 1000000000 := by omega
  go_enter Tryz.func6, Tryz.ntmps6
  go_wp2_with fail
  refine (begun_ok _).mono ?_
  rintro e w1 ⟨rfl, hg1⟩
  have HG1 := hide hg1
  clear hg1
  go_wp2_with fail
  refine (Md_ok A c l hll w1 (HBY.out.gr HG1.out)).mono ?_
  rintro e w2 ⟨u, x, rfl, hx, hg2, hox⟩
  obtain ⟨cs1, r1, rfl, hc1⟩ := hx.cells
  have HG2 := hide (HG1.out.trans hg2)
  have HX0 := hide hx
  clear hx hg2 HG1
  go_wp2_with fail
  refine (Md_ok B d r hlr w2 (HBR.out.gr HG2.out)).mono ?_
  rintro e w4 ⟨u, y, rfl, hy, hg4, hoy⟩
  obtain ⟨cs2, r2, rfl, hc2⟩ := hy.cells
  have HG4 := hide (HG2.out.trans hg4)
  have HX4 := hide (HX0.out.gr hg4)
  have HY4 := hide hy
  clear hy hg4 HG2 HX0
  have hsz1 : (Tryz.prog.info? 31).map (·.size) = some cs1.size := by rw [hc1.size]; kernel_rfl
  have hsz2 : (Tryz.prog.info? 31).map (·.size) = some cs2.size := by rw [hc2.size]; kernel_rfl
  have ho1 := hide (show 24 = cs1.size from hc1.size.symm)
  have ho2 := hide (show 24 = cs2.size from hc2.size.symm)
  have hone1 := hc1.one
  have hone2 := hc2.one
  clear hc1 hc2
  have HN1 := hide (fun o1 o2 => (show Bl ((w4.alloc (.cells o1 31)).alloc (.cells o2 31)) w4.heap.size 31 o1 from (Bl.new w4 31 o1).gr ((Gr.refl _).alloc _)))
  have HN2 := hide (fun o1 o2 => (show Bl (((w4.alloc (.cells o1 31)).alloc (.cells o2 31)).setRow w4.heap.size cs1) (w4.heap.size + 1) 31 o2 from by
    have h := Bl.new (w4.alloc (.cells o1 31)) 31 o2
    have e : (w4.alloc (.cells o1 31)).heap.size = w4.heap.size + 1 := by simp
    rw [e] at h
    exact h.but_ (But.row _ _ _) (by omega)))
  go_upto_region 6 with (first
    | refine wpList_store_row rfl 31 (.tmp 5) (.tmp 20) (by with_reducible rfl) w4.heap.size cs1 rfl rfl 31 _ (HN1.out _ _) hsz1 ho1.out hone1 ?_
    | refine wpList_store_row rfl 31 (.tmp 6) (.tmp 22) (by with_reducible rfl) (w4.heap.size + 1) cs2 rfl rfl 31 _ (HN2.out _ _) hsz2 ho2.out hone2 ?_
    | fail)
  obtain ⟨V, hV⟩ : ∃ V, ((((w4.alloc (.cells zeroCs 31)).alloc (.cells zeroCs 31)).setRow w4.heap.size cs1).setRow (w4.heap.size + 1) cs2) = V := ⟨_, rfl⟩
  have hbX : Bl V w4.heap.size 31 cs1 := by rw [← hV]; exact ((HN1.out zeroCs zeroCs).row cs1).but_ (But.row _ _ _) (by omega)
  have hbY : Bl V (w4.heap.size + 1) 31 cs2 := by rw [← hV]; exact (HN2.out zeroCs zeroCs).row cs2
  have hgV : Gr w4 V := by rw [← hV]; exact ((((Gr.refl _).alloc _).alloc _).fresh (But.row _ _ _) (Nat.le_refl _)).fresh (But.row _ _ _) (by omega)
  change (Code.region 6 _ true).wp _ _ _ ((((w4.alloc (.cells zeroCs 31)).alloc (.cells zeroCs 31)).setRow w4.heap.size cs1).setRow (w4.heap.size + 1) cs2)
  rw [hV]
  clear hV HN1 HN2
  obtain ⟨gX, hgX⟩ : ∃ g, w4.heap.size = g := ⟨_, rfl⟩
  rw [hgX] at hbX hbY ⊢
  obtain ⟨gY, hgY⟩ : ∃ g, gX + 1 = g := ⟨_, rfl⟩
  rw [hgY] at hbY ⊢
  clear hgX hgY
  have HBX := hide hbX
  have HBW := hide hbY
  have HXV := hide (HX4.out.gr hgV)
  have HYV := hide (HY4.out.gr hgV)
  have HGV := hide (HG4.out.trans hgV)
  clear hbX hbY hgV HX4 HY4 HG4
  have CP1 := hide (fun W (h : Gr V W) => MgPut_ok _ x W (HXV.out.gr h) hox.bnd hox.vers)
  have CP2 := hide (fun W (h : Gr V W) => MgPut_ok _ y W (HYV.out.gr h) hoy.bnd hoy.vers)
  have CS := hide (fun W (h : Gr V W) => RefSameMsg_ok _ _ x y W (HXV.out.gr h) (HYV.out.gr h) hox.bnd hoy.bnd)
  have CQ := hide (fun W (h : Gr V W) => MgSame_ok _ _ x y W (HXV.out.gr h) (HYV.out.gr h) hox.bnd hoy.bnd)
  have hp1 := put_pos hox.may hox.vers
  have hp2 := put_pos hoy.may hoy.vers
  have hps := put_same hox.may hoy.may hox.vers hoy.vers
  generalize putM x = E at CP1 hp1 hps
  generalize putM y = F at CP2 hp2 hps
  generalize decide (x = y) = b at CS CQ hps
  clear HXV HYV hox hoy
  have HPS := hide hps
  have HE := hide hp1
  have HF := hide hp2
  clear hps hp1 hp2
  refine Grow.wp_region_kept 55 [23, 24, 25, 26, 7, 8] rfl (by kernel_rfl) (by kernel_rfl) (by kernel_rfl)
    (Grow.Ahead.more (Grow.Ahead.more (Grow.Ahead.none_ _ _) 5 (Grow.Bx.stays gX 31 cs1) (by exact ⟨rfl, HBX.out.drewN 1⟩)) 6 (Grow.Bx.stays gY 31 cs2) (by exact ⟨rfl, HBW.out.drewN 1⟩)) ?_
  refine Grow.grow_row rfl (.inl ⟨rfl, rfl⟩) rfl Tryz.underlying31 rfl hsz1 ?_
  refine Grow.grow_call1 (Φ := Grow.Sl E) rfl (.inl ⟨rfl, rfl⟩) Tryz.func12 (by kernel_rfl) (by kernel_rfl) (Ψ := Grow.Is (.agg cs1)) rfl (Grow.Sl.stays E) (fun v W hg hv => by
    obtain rfl : v = _ := hv
    refine (CP1.out W ((Gr.drew (Gr.refl V)).trans hg)).mono ?_
    rintro e w' ⟨z, h1, h2, h3⟩
    obtain ⟨A2, c2, rfl, h4⟩ := h2.by_
    exact ⟨_, h1, h3, A2, c2, rfl, h4⟩) ?_
  refine Grow.grow_row rfl (.inl ⟨rfl, rfl⟩) rfl Tryz.underlying31 rfl hsz2 ?_
  refine Grow.grow_call1 (Φ := Grow.Sl F) rfl (.inl ⟨rfl, rfl⟩) Tryz.func12 (by kernel_rfl) (by kernel_rfl) (Ψ := Grow.Is (.agg cs2)) rfl (Grow.Sl.stays F) (fun v W hg hv => by
    obtain rfl : v = _ := hv
    refine (CP2.out W ((Gr.drew (Gr.refl V)).trans hg)).mono ?_
    rintro e w' ⟨z, h1, h2, h3⟩
    obtain ⟨A2, c2, rfl, h4⟩ := h2.by_
    exact ⟨_, h1, h3, A2, c2, rfl, h4⟩) ?_
  refine Grow.grow_mvs (.inr rfl) (.inl ⟨rfl, rfl⟩) rfl ?_
  refine Grow.grow_mvs (.inr rfl) (.inl ⟨rfl, rfl⟩) rfl ?_
  intro a1 w7 hg7 hs1 hd1 hu1 hk1
  obtain ⟨eA, ec, h7, hbE⟩ : Grow.Sl E (a1.tmps.getD 7 undef) w7 := hk1 7
  obtain ⟨fA, fc, h8, hbF⟩ : Grow.Sl F (a1.tmps.getD 8 undef) w7 := hk1 8
  obtain ⟨X, hX, hlay⟩ := Grow.lay_kept_by _ a1 55 _ hs1 hd1 hu1
  rw [hX] at h7 h8
  clear hX hu1 hd1 hs1 hk1 CP1 CP2
  subst hlay
  simp only [List.range, List.range.loop, List.map_cons, List.map_nil, List.contains_cons, List.contains_nil, Nat.reduceBEq, Bool.or_false, Bool.or_true, cond_false, cond_true, Array.getD_eq_getD_getElem?, h7, h8]
  clear h7 h8
  have HG7 := hide ((Gr.drew (Gr.refl V)).trans hg7)
  have HBE := hide hbE
  have HBF := hide hbF
  clear hbE hbF hg7
  go_upto_region 7 with (fail)
  refine Grow.wp_region_kept 55 [27, 28, 29, 30, 31, 32, 33, 34, 35, 36, 37, 38, 39, 40, 41, 42, 43, 44, 45, 46, 47, 48, 49, 50, 51, 52, 53, 54, 4] rfl (by kernel_rfl) (by kernel_rfl) (by kernel_rfl)
    (Grow.Ahead.more (Grow.Ahead.more (Grow.Ahead.more (Grow.Ahead.more (Grow.Ahead.none_ _ _) 5 (Grow.Bx.stays gX 31 cs1) (by exact ⟨rfl, (HBX.out.gr HG7.out).drewN 1⟩)) 6 (Grow.Bx.stays gY 31 cs2) (by exact ⟨rfl, (HBW.out.gr HG7.out).drewN 1⟩)) 7 (Grow.Sl.stays E) (by exact ⟨eA, ec, rfl, HBE.out.drewN 1⟩)) 8 (Grow.Sl.stays F) (by exact ⟨fA, fc, rfl, HBF.out.drewN 1⟩)) ?_
  refine Grow.grow_move (.tmp 7) (.inl rfl) (.inl ⟨rfl, rfl⟩) rfl (Grow.Sl.stays E) ?_
  refine Grow.grow_len_sl rfl Tryz.underlying22 (.inl ⟨rfl, rfl⟩) rfl ?_
  refine Grow.grow_int (k := .i64) (m := (E.length : Int)) (n := 0) (c := .bool true) rfl (.inl ⟨rfl, rfl⟩) rfl (fun _ => rfl) (by rw [show binOp .gtr _ _ _ = pure (.bool (decide ((E.length : Int) > 0))) from rfl, decide_eq_true (show (E.length : Int) > 0 by have := HE.out; omega)]) ?_
  refine Grow.grow_mv (.inl rfl) (.inl ⟨rfl, rfl⟩) rfl ?_
  refine Grow.grow_move (.tmp 8) (.inl rfl) (.inr ⟨3, true, 30, rfl, rfl, rfl, by decide⟩) rfl (Grow.Sl.stays F) ?_
  refine Grow.grow_len_sl rfl Tryz.underlying22 (.inr ⟨3, true, 30, rfl, rfl, rfl, by decide⟩) rfl ?_
  refine Grow.grow_int (k := .i64) (m := (F.length : Int)) (n := 0) (c := .bool true) rfl (.inr ⟨3, true, 30, rfl, rfl, rfl, by decide⟩) rfl (fun _ => rfl) (by rw [show binOp .gtr _ _ _ = pure (.bool (decide ((F.length : Int) > 0))) from rfl, decide_eq_true (show (F.length : Int) > 0 by have := HF.out; omega)]) ?_
  refine Grow.grow_pick_yes rfl (.inl ⟨rfl, rfl⟩) rfl rfl (Grow.Is.stays _) ?_
  refine Grow.grow_mv (.inl rfl) (.inl ⟨rfl, rfl⟩) rfl ?_
  refine Grow.grow_move (.tmp 7) (.inl rfl) (.inr ⟨8, true, 35, rfl, rfl, rfl, by decide⟩) rfl (Grow.Sl.stays E) ?_
  refine Grow.grow_conv (l := E) rfl (.inr ⟨8, true, 35, rfl, rfl, rfl, by decide⟩) rfl Tryz.underlying22 Tryz.underlying5 Tryz.underlying9 ?_
  refine Grow.grow_move (.tmp 8) (.inl rfl) (.inr ⟨8, true, 35, rfl, rfl, rfl, by decide⟩) rfl (Grow.Sl.stays F) ?_
  refine Grow.grow_conv (l := F) rfl (.inr ⟨8, true, 35, rfl, rfl, rfl, by decide⟩) rfl Tryz.underlying22 Tryz.underlying5 Tryz.underlying9 ?_
  refine Grow.grow_str_eq rfl (.inr ⟨8, true, 35, rfl, rfl, rfl, by decide⟩) rfl rfl ?_
  refine Grow.grow_row rfl (.inr ⟨8, true, 35, rfl, rfl, rfl, by decide⟩) rfl Tryz.underlying31 rfl hsz1 ?_
  refine Grow.grow_row rfl (.inr ⟨8, true, 35, rfl, rfl, rfl, by decide⟩) rfl Tryz.underlying31 rfl hsz2 ?_
  refine Grow.grow_call2 (Φ := Grow.Is (.bool b)) rfl (.inr ⟨8, true, 35, rfl, rfl, rfl, by decide⟩) Tryz.func14 (by kernel_rfl) (by kernel_rfl) (Ψ := Grow.Is (.agg cs1)) (Ψ' := Grow.Is (.agg cs2)) rfl rfl (Grow.Is.stays _) (fun v u W hg hv hu => by
    obtain rfl : v = _ := hv
    obtain rfl : u = _ := hu
    exact (CS.out W (HG7.out.trans ((Gr.drew (Gr.refl w7)).trans hg))).mono fun e w1 ⟨h1, h2⟩ => ⟨_, h1, h2, rfl⟩) ?_
  refine Grow.grow_bool_same HPS.out Tryz.underlying4 rfl (.inr ⟨8, true, 35, rfl, rfl, rfl, by decide⟩) rfl rfl ?_
  refine Grow.grow_pick_yes rfl (.inl ⟨rfl, rfl⟩) rfl rfl (Grow.Is.stays _) ?_
  refine Grow.grow_mv (.inl rfl) (.inl ⟨rfl, rfl⟩) rfl ?_
  refine Grow.grow_row rfl (.inr ⟨19, true, 46, rfl, rfl, rfl, by decide⟩) rfl Tryz.underlying31 rfl hsz1 ?_
  refine Grow.grow_row rfl (.inr ⟨19, true, 46, rfl, rfl, rfl, by decide⟩) rfl Tryz.underlying31 rfl hsz2 ?_
  refine Grow.grow_call2 (Φ := Grow.Is (.bool b)) rfl (.inr ⟨19, true, 46, rfl, rfl, rfl, by decide⟩) Tryz.func13 (by kernel_rfl) (by kernel_rfl) (Ψ := Grow.Is (.agg cs1)) (Ψ' := Grow.Is (.agg cs2)) rfl rfl (Grow.Is.stays _) (fun v u W hg hv hu => by
    obtain rfl : v = _ := hv
    obtain rfl : u = _ := hu
    exact (CQ.out W (HG7.out.trans ((Gr.drew (Gr.refl w7)).trans hg))).mono fun e w1 ⟨h1, h2⟩ => ⟨_, h1, h2, rfl⟩) ?_
  refine Grow.grow_row rfl (.inr ⟨19, true, 46, rfl, rfl, rfl, by decide⟩) rfl Tryz.underlying31 rfl hsz1 ?_
  refine Grow.grow_row rfl (.inr ⟨19, true, 46, rfl, rfl, rfl, by decide⟩) rfl Tryz.underlying31 rfl hsz2 ?_
  refine Grow.grow_call2 (Φ := Grow.Is (.bool b)) rfl (.inr ⟨19, true, 46, rfl, rfl, rfl, by decide⟩) Tryz.func14 (by kernel_rfl) (by kernel_rfl) (Ψ := Grow.Is (.agg cs1)) (Ψ' := Grow.Is (.agg cs2)) rfl rfl (Grow.Is.stays _) (fun v u W hg hv hu => by
    obtain rfl : v = _ := hv
    obtain rfl : u = _ := hu
    exact (CS.out W (HG7.out.trans ((Gr.drew (Gr.refl w7)).trans hg))).mono fun e w1 ⟨h1, h2⟩ => ⟨_, h1, h2, rfl⟩) ?_
  refine Grow.grow_bool_same rfl Tryz.underlying4 rfl (.inr ⟨19, true, 46, rfl, rfl, rfl, by decide⟩) rfl rfl ?_
  refine Grow.grow_pick_yes rfl (.inl ⟨rfl, rfl⟩) rfl rfl (Grow.Is.stays _) ?_
  refine Grow.grow_mv (.inr rfl) (.inl ⟨rfl, rfl⟩) rfl ?_
  intro a2 w8 hg hsz hdf hun hk
  have h2 := hk 4
  clear hk hun
  change a2.tmps.getD 4 undef = _ at h2
  have hgr := HGV.out.trans (HG7.out.trans ((Gr.drew (Gr.refl w7)).trans hg))
  rw [Grow.lay_frame a2 55 hsz, hdf]
  simp only [List.range, List.range.loop, List.map_cons, List.map_nil, h2]
  go_wp2_with fail
  go_ret
  exact ⟨rfl, hgr⟩

end Go.Proofs.YtpabppoohobjpaaGreat
