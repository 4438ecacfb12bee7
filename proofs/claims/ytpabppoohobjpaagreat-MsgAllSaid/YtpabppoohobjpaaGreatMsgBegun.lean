/-
  The law's begun, by its contract.
-/
import Derived.Test.YtpabppoohobjpaaGreatMgUnnamed
import Derived.Deep.Cut
namespace Go.Proofs.YtpabppoohobjpaaGreat
open Go Go.RowKit TxnMath KeyMath MsgMath
set_option maxRecDepth 100000

def m1 : MsgT := ⟨1, 1, 2, 0, 3, 4, 2, 0, false, [], noTxn, 0, 0, 0, 0, false, nothing, nothing, [], [], 0⟩
theorem m1_may : mayM m1 = true := by decide +kernel
theorem m1_len : 0 < (putM m1).length := by decide +kernel
theorem m1_took : tookM (putM m1) = true := by decide +kernel
theorem m1_taken : takenM (putM m1) = m1 := by decide +kernel
theorem m1_short : (putM m1).length ≤ 1000 := by decide +kernel
theorem no_took : tookM [] = false := by decide +kernel
theorem no_taken : takenM [] = noMsg := by unfold takenM; rw [no_took]; rfl
theorem zero_may : mayM noMsg = false := by decide +kernel
theorem m1_at (w : World) : MsgAt w (.agg #[.int .i64 1, .int .i64 1, .int .i64 2, .int .i64 0, .int .i64 3, .int .i64 4, .int .i64 2, .int .i64 0, .bool false, .slice none 0 0, .int .i64 0, .int .i64 0, .slice none 0 0, .slice none 0 0, .int .i64 0, .int .i64 0, .int .i64 0, .int .i64 0, .bool false, .string ⟨#[]⟩, .string ⟨#[]⟩, .slice none 0 0, .slice none 0 0, .int .i64 0]) m1 := ⟨⟨.slice none 0 0, (.slice none 0 0, .slice none 0 0), .slice none 0 0, .slice none 0 0⟩, rfl, EntsX.nil _ _, RowsX.none_ _ _, RowX.nil _ _ _, RowX.nil _ _ _⟩
theorem m1_bnd : MsgBnd m1 := { noMsg_bnd with }
theorem m1_vers : MsgVers m1 := ⟨fun x hx => (by cases hx), fun e he => (by cases he)⟩
theorem no_vers : MsgVers noMsg := ⟨fun x hx => (by cases hx), fun e he => (by cases he)⟩
theorem nil_by (w : World) : By w none 0 [] := ⟨Rd.nil _ _, by simp, by simp [maxLen], fun _ => rfl⟩

set_option maxHeartbeats 8000000 in
theorem begun_ok (w : World) : Calls Tryz.prog 7 #[] w fun e w' => e = .returned (.bool true) ∧ Gr w w' := by
  have CM := hide (fun W => m1_may ▸ MgMay_ok _ m1 W (m1_at W) m1_bnd m1_vers)
  have CP := hide (fun W => MgPut_ok _ m1 W (m1_at W) m1_bnd m1_vers)
  have CZ := hide (fun v W (h : MsgAt W v noMsg) => zero_may ▸ MgMay_ok v noMsg W h noMsg_bnd no_vers)
  have CQ := hide (fun v W (h : MsgAt W v m1) => (decide_eq_true (rfl : m1 = m1)) ▸ MgSame_ok v _ m1 m1 W h (m1_at W) m1_bnd m1_bnd)
  have CT := hide (fun W A c (h : By W A c (putM m1)) => MgTake_ok A c (putM m1) W h (Nat.le_trans m1_short (by decide)))
  have CN := hide (fun W => MgTake_ok none 0 [] W (nil_by W) (by decide))
  rw [m1_took, m1_taken] at CT
  rw [no_took, no_taken] at CN
  have hl := m1_len
  generalize putM m1 = B at CP CT hl
  have HBL := hide (show decide ((B.length : Int) > 0) = true by rw [decide_eq_true_eq]; omega)
  clear hl
  have hbu : Tryz.prog.built 31 [(0, .int .i64 1), (1, .int .i64 1), (2, .int .i64 2), (4, .int .i64 3), (5, .int .i64 4), (6, .int .i64 2)] = some #[.int .i64 1, .int .i64 1, .int .i64 2, .int .i64 0, .int .i64 3, .int .i64 4, .int .i64 2, .int .i64 0, .bool false, .slice none 0 0, .int .i64 0, .int .i64 0, .slice none 0 0, .slice none 0 0, .int .i64 0, .int .i64 0, .int .i64 0, .int .i64 0, .bool false, .string ⟨#[]⟩, .string ⟨#[]⟩, .slice none 0 0, .slice none 0 0, .int .i64 0] := by kernel_rfl
  have HBN := hide (Bl.new w 31 zeroCs)
  go_enter Tryz.func7, Tryz.ntmps7
  go_upto_region 2 with (first
    | refine wpList_build_to rfl 31 _ (by with_reducible rfl) #[.int .i64 1, .int .i64 1, .int .i64 2, .int .i64 0, .int .i64 3, .int .i64 4, .int .i64 2, .int .i64 0, .bool false, .slice none 0 0, .int .i64 0, .int .i64 0, .slice none 0 0, .slice none 0 0, .int .i64 0, .int .i64 0, .int .i64 0, .int .i64 0, .bool false, .string ⟨#[]⟩, .string ⟨#[]⟩, .slice none 0 0, .slice none 0 0, .int .i64 0] hbu ?_
    | refine wpList_store_row rfl 31 (.tmp 1) (.tmp 7) (by with_reducible rfl) w.heap.size #[.int .i64 1, .int .i64 1, .int .i64 2, .int .i64 0, .int .i64 3, .int .i64 4, .int .i64 2, .int .i64 0, .bool false, .slice none 0 0, .int .i64 0, .int .i64 0, .slice none 0 0, .slice none 0 0, .int .i64 0, .int .i64 0, .int .i64 0, .int .i64 0, .bool false, .string ⟨#[]⟩, .string ⟨#[]⟩, .slice none 0 0, .slice none 0 0, .int .i64 0] rfl rfl 31 zeroCs HBN.out (by kernel_rfl) rfl (by simp [Value.oneCell']) ?_
    | fail)
  obtain ⟨W, hW⟩ : ∃ W, (w.alloc (.cells zeroCs 31)).setRow w.heap.size #[.int .i64 1, .int .i64 1, .int .i64 2, .int .i64 0, .int .i64 3, .int .i64 4, .int .i64 2, .int .i64 0, .bool false, .slice none 0 0, .int .i64 0, .int .i64 0, .slice none 0 0, .slice none 0 0, .int .i64 0, .int .i64 0, .int .i64 0, .int .i64 0, .bool false, .string ⟨#[]⟩, .string ⟨#[]⟩, .slice none 0 0, .slice none 0 0, .int .i64 0] = W := ⟨_, rfl⟩
  have hbW : Bl W w.heap.size 31 #[.int .i64 1, .int .i64 1, .int .i64 2, .int .i64 0, .int .i64 3, .int .i64 4, .int .i64 2, .int .i64 0, .bool false, .slice none 0 0, .int .i64 0, .int .i64 0, .slice none 0 0, .slice none 0 0, .int .i64 0, .int .i64 0, .int .i64 0, .int .i64 0, .bool false, .string ⟨#[]⟩, .string ⟨#[]⟩, .slice none 0 0, .slice none 0 0, .int .i64 0] := by rw [← hW]; exact HBN.out.row #[.int .i64 1, .int .i64 1, .int .i64 2, .int .i64 0, .int .i64 3, .int .i64 4, .int .i64 2, .int .i64 0, .bool false, .slice none 0 0, .int .i64 0, .int .i64 0, .slice none 0 0, .slice none 0 0, .int .i64 0, .int .i64 0, .int .i64 0, .int .i64 0, .bool false, .string ⟨#[]⟩, .string ⟨#[]⟩, .slice none 0 0, .slice none 0 0, .int .i64 0]
  have hgW : Gr w W := by rw [← hW]; exact ((Gr.refl w).alloc _).fresh (But.row _ _ _) (Nat.le_refl _)
  change (Code.region 2 _ false).wp _ _ _ ((w.alloc (.cells zeroCs 31)).setRow w.heap.size #[.int .i64 1, .int .i64 1, .int .i64 2, .int .i64 0, .int .i64 3, .int .i64 4, .int .i64 2, .int .i64 0, .bool false, .slice none 0 0, .int .i64 0, .int .i64 0, .slice none 0 0, .slice none 0 0, .int .i64 0, .int .i64 0, .int .i64 0, .int .i64 0, .bool false, .string ⟨#[]⟩, .string ⟨#[]⟩, .slice none 0 0, .slice none 0 0, .int .i64 0])
  rw [hW]
  clear hW HBN hbu
  have HGW := hide hgW
  have HBW := hide hbW
  clear hgW
  go_wp2_with (first
    | refine wpList_load_row rfl 31 (.tmp 1) (by with_reducible rfl) w.heap.size rfl 31 _ (0, 0) _ hbW Tryz.underlying31 rfl (by kernel_rfl) ?_)
  refine (CP.out _).mono ?_
  rintro e w2 ⟨b, rfl, ho, hg2⟩
  obtain ⟨bA, bc, rfl, hby⟩ := ho.by_
  have HBY := hide hby
  have HG2 := hide (HGW.out.trans hg2)
  have HB2 := hide (HBW.out.gr hg2)
  clear ho hby hg2 hbW HGW HBW CP
  go_wp2_with fail
  refine (CT.out _ _ _ HBY.out).mono ?_
  rintro e w3 ⟨u, rfl, hu, hg3⟩
  obtain ⟨cs2, r2, rfl, hc2⟩ := hu.cells
  have hsz2 : (Tryz.prog.info? 31).map (·.size) = some cs2.size := by rw [hc2.size]; kernel_rfl
  have ho2 := hide (show 24 = cs2.size from hc2.size.symm)
  have hone2 := hc2.one
  have HX2 := hide (show MsgAt w3 (.agg cs2) m1 from hu.any)
  have HG3 := hide (HG2.out.trans hg3)
  have HB3 := hide (HB2.out.gr hg3)
  have HBY3 := hide (HBY.out.gr hg3)
  have HN3 := hide (fun old => Bl.new w3 31 old)
  clear hu hg3 hc2 HG2 HB2 HBY CT
  go_upto_region 4 with (first
    | refine wpList_store_row rfl 31 (.tmp 3) (.tmp 13) (by with_reducible rfl) w3.heap.size cs2 rfl rfl 31 _ (HN3.out _) hsz2 ho2.out hone2 ?_
    | fail)
  obtain ⟨V3, hV3⟩ : ∃ V3, (w3.alloc (.cells zeroCs 31)).setRow w3.heap.size cs2 = V3 := ⟨_, rfl⟩
  have hb3 : Bl V3 w3.heap.size 31 cs2 := by rw [← hV3]; exact (HN3.out _).row cs2
  have hg3 : Gr w3 V3 := by rw [← hV3]; exact ((Gr.refl _).alloc _).fresh (But.row _ _ _) (Nat.le_refl _)
  change (Code.region 4 _ false).wp _ _ _ ((w3.alloc (.cells zeroCs 31)).setRow w3.heap.size cs2)
  rw [hV3]
  have HV3 := hide hg3
  have HBV3 := hide hb3
  clear hV3 hb3 hg3 HN3
  go_wp2_with fail
  refine (CN.out _).mono ?_
  rintro e w4 ⟨u4, rfl, hu4, hg4⟩
  obtain ⟨cs4, r4, rfl, hc4⟩ := hu4.cells
  have hsz4 : (Tryz.prog.info? 31).map (·.size) = some cs4.size := by rw [hc4.size]; kernel_rfl
  have ho4 := hide (show 24 = cs4.size from hc4.size.symm)
  have hone4 := hc4.one
  have HG4 := hide (HV3.out.trans hg4)
  have HG34 := hide hg4
  have HN4 := hide (fun old => Bl.new w4 31 old)
  clear hu4 hg4 hc4 CN
  go_upto_region 5 with (first
    | refine wpList_store_row rfl 31 (.tmp 5) (.tmp 17) (by with_reducible rfl) w4.heap.size cs4 rfl rfl 31 _ (HN4.out _) hsz4 ho4.out hone4 ?_
    | fail)
  obtain ⟨V4, hV4⟩ : ∃ V4, (w4.alloc (.cells zeroCs 31)).setRow w4.heap.size cs4 = V4 := ⟨_, rfl⟩
  have hg4 : Gr w4 V4 := by rw [← hV4]; exact ((Gr.refl _).alloc _).fresh (But.row _ _ _) (Nat.le_refl _)
  change (Code.region 5 _ false).wp _ _ _ ((w4.alloc (.cells zeroCs 31)).setRow w4.heap.size cs4)
  rw [hV4]
  clear hV4 HN4
  have hgv := HG4.out.trans hg4
  have HGE := hide (HG3.out.trans hgv)
  replace HX2 := hide (HX2.out.gr hgv)
  have hbv := HB3.out.gr hgv
  have hbu := HBV3.out.gr (HG34.out.trans hg4)
  refine Grow.wp_region_text 43 [19, 20, 21, 22, 23, 24, 25, 26, 27, 28, 29, 30, 31, 32, 33, 34, 35, 36, 37, 38, 39, 40, 41, 42, 0] rfl (by kernel_rfl) (by kernel_rfl)
    (Grow.Ahead.more (Grow.Ahead.more (Grow.Ahead.more (Grow.Ahead.more (Grow.Ahead.more (Grow.Ahead.none_ _ _) 1 (Grow.Bx.stays w.heap.size 31 #[.int .i64 1, .int .i64 1, .int .i64 2, .int .i64 0, .int .i64 3, .int .i64 4, .int .i64 2, .int .i64 0, .bool false, .slice none 0 0, .int .i64 0, .int .i64 0, .slice none 0 0, .slice none 0 0, .int .i64 0, .int .i64 0, .int .i64 0, .int .i64 0, .bool false, .string ⟨#[]⟩, .string ⟨#[]⟩, .slice none 0 0, .slice none 0 0, .int .i64 0]) ⟨rfl, hbv⟩) 3 (Grow.Bx.stays w3.heap.size 31 cs2) ⟨rfl, hbu⟩) 2 (Grow.Sl.stays B) ⟨_, _, rfl, HBY3.out.gr hgv⟩) 4 (Grow.Is.stays (.bool true)) rfl) 6 (Grow.Is.stays (.bool false)) rfl) ?_
  refine Grow.grow_row rfl (.inl ⟨rfl, rfl⟩) rfl Tryz.underlying31 rfl (by kernel_rfl) ?_
  refine Grow.grow_call1 (Φ := Grow.Is (.bool true)) rfl (.inl ⟨rfl, rfl⟩) Tryz.func11 (by kernel_rfl) (by kernel_rfl) (Ψ := Grow.Is (.agg #[.int .i64 1, .int .i64 1, .int .i64 2, .int .i64 0, .int .i64 3, .int .i64 4, .int .i64 2, .int .i64 0, .bool false, .slice none 0 0, .int .i64 0, .int .i64 0, .slice none 0 0, .slice none 0 0, .int .i64 0, .int .i64 0, .int .i64 0, .int .i64 0, .bool false, .string ⟨#[]⟩, .string ⟨#[]⟩, .slice none 0 0, .slice none 0 0, .int .i64 0])) rfl (Grow.Is.stays _) (fun v W _ hv => by
    obtain rfl : v = _ := hv
    exact (CM.out W).mono fun e w1 ⟨h1, h2⟩ => ⟨_, h1, h2, rfl⟩) ?_
  refine Grow.grow_mv (.inl rfl) (.inl ⟨rfl, rfl⟩) rfl ?_
  refine Grow.grow_move (.tmp 2) (.inl rfl) (.inr ⟨2, true, 21, rfl, rfl, rfl, by decide⟩) rfl (Grow.Sl.stays _) ?_
  refine Grow.grow_len_sl (l := B) rfl Tryz.underlying22 (.inr ⟨2, true, 21, rfl, rfl, rfl, by decide⟩) rfl ?_
  refine Grow.grow_int (c := .bool true) rfl (.inr ⟨2, true, 21, rfl, rfl, rfl, by decide⟩) rfl (fun _ => rfl) (by rw [show binOp .gtr _ (.int .i64 (B.length : Int)) (.int .i64 0) = pure (.bool (decide ((B.length : Int) > 0))) from rfl, HBL.out]) ?_
  refine Grow.grow_pick_yes rfl (.inl ⟨rfl, rfl⟩) rfl rfl (Grow.Is.stays _) ?_
  refine Grow.grow_mv (.inl rfl) (.inl ⟨rfl, rfl⟩) rfl ?_
  refine Grow.grow_mv (.inl rfl) (.inr ⟨7, true, 26, rfl, rfl, rfl, by decide⟩) rfl ?_
  refine Grow.grow_pick_yes rfl (.inl ⟨rfl, rfl⟩) rfl rfl (Grow.Is.stays _) ?_
  refine Grow.grow_mv (.inl rfl) (.inl ⟨rfl, rfl⟩) rfl ?_
  refine Grow.grow_row rfl (.inr ⟨10, true, 29, rfl, rfl, rfl, by decide⟩) rfl Tryz.underlying31 rfl hsz2 ?_
  refine Grow.grow_row rfl (.inr ⟨10, true, 29, rfl, rfl, rfl, by decide⟩) rfl Tryz.underlying31 rfl (by kernel_rfl) ?_
  refine Grow.grow_call2 (Φ := Grow.Is (.bool true)) rfl (.inr ⟨10, true, 29, rfl, rfl, rfl, by decide⟩) Tryz.func13 (by kernel_rfl) (by kernel_rfl) (Ψ := Grow.Is (.agg cs2)) (Ψ' := Grow.Is (.agg #[.int .i64 1, .int .i64 1, .int .i64 2, .int .i64 0, .int .i64 3, .int .i64 4, .int .i64 2, .int .i64 0, .bool false, .slice none 0 0, .int .i64 0, .int .i64 0, .slice none 0 0, .slice none 0 0, .int .i64 0, .int .i64 0, .int .i64 0, .int .i64 0, .bool false, .string ⟨#[]⟩, .string ⟨#[]⟩, .slice none 0 0, .slice none 0 0, .int .i64 0])) rfl rfl (Grow.Is.stays _) (fun v u W hg hv hu => by
    obtain rfl : v = _ := hv
    obtain rfl : u = _ := hu
    exact (CQ.out _ W (HX2.out.gr hg)).mono fun e w1 ⟨h1, h2⟩ => ⟨_, h1, h2, rfl⟩) ?_
  refine Grow.grow_pick_yes rfl (.inl ⟨rfl, rfl⟩) rfl rfl (Grow.Is.stays _) ?_
  refine Grow.grow_mv (.inl rfl) (.inl ⟨rfl, rfl⟩) rfl ?_
  refine Grow.grow_mv (.inl rfl) (.inr ⟨15, true, 34, rfl, rfl, rfl, by decide⟩) rfl ?_
  refine Grow.grow_not rfl (.inr ⟨15, true, 34, rfl, rfl, rfl, by decide⟩) rfl ?_
  refine Grow.grow_pick_yes rfl (.inl ⟨rfl, rfl⟩) rfl rfl (Grow.Is.stays _) ?_
  refine Grow.grow_mv (.inl rfl) (.inl ⟨rfl, rfl⟩) rfl ?_
  refine Grow.cd_build (b := true) (Ψ := MgK noMsg) rfl (.inl ⟨19, 38, rfl, rfl, rfl, by decide⟩) (by kernel_rfl) (MgK.stays _) (fun w => noMsg_at w) ?_
  refine Grow.grow_call1 (Φ := Grow.Is (.bool false)) rfl (.inr ⟨19, true, 38, rfl, rfl, rfl, by decide⟩) Tryz.func11 (by kernel_rfl) (by kernel_rfl) (Ψ := MgK noMsg) rfl (Grow.Is.stays _) (fun v W _ hv => (CZ.out v W hv).mono fun e w1 ⟨h1, h2⟩ => ⟨_, h1, h2, rfl⟩) ?_
  refine Grow.grow_not rfl (.inr ⟨19, true, 38, rfl, rfl, rfl, by decide⟩) rfl ?_
  refine Grow.grow_pick_yes rfl (.inl ⟨rfl, rfl⟩) rfl rfl (Grow.Is.stays _) ?_
  refine Grow.grow_mv (.inr rfl) (.inl ⟨rfl, rfl⟩) rfl ?_
  intro a1 w5 hg hsz hdf hun hk
  have h0 := hk 0
  clear hk hun
  change a1.tmps.getD 0 undef = _ at h0
  have hgr := HGE.out.trans hg
  rw [Grow.lay_frame a1 43 hsz, hdf]
  simp only [List.range, List.range.loop, List.map_cons, List.map_nil, h0]
  go_wp2_with fail
  go_ret
  exact ⟨rfl, hgr⟩

end Go.Proofs.YtpabppoohobjpaaGreat
