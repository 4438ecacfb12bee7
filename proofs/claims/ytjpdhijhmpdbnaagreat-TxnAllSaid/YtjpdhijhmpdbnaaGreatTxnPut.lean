/-
  The document's PutTxn by its contract.
-/
import Derived.Test.YtjpdhijhmpdbnaaGreatTxnMay
import Derived.Test.YtjpdhijhmpdbnaaGreatNumPut
import Derived.Test.YtjpdhijhmpdbnaaGreatBaseM
namespace Go.Proofs.YtjpdhijhmpdbnaaGreat
open Go Go.RowKit TxnMath KeyMath NumPlain
set_option maxRecDepth 100000

theorem Flag_ok (b : Bool) (w : World) : Calls Tryz.prog 36 #[.bool b] w fun e w' => e = .returned (bv (flagB b)) ∧ Gr w w' := by
  cases b
  · go_enter Tryz.func36, Tryz.ntmps36
    go_wp2_with fail
    go_ret
    exact ⟨rfl, Gr.refl _⟩
  · go_enter Tryz.func36, Tryz.ntmps36
    go_wp2_with fail
    go_ret
    exact ⟨rfl, Gr.refl _⟩

set_option maxHeartbeats 2000000 in
theorem RefPutTxn_ok (v : Value) (t : TxT) (w : World) (hv : TxAt w v t) (ht : TxLim 1000000 t) :
    Calls Tryz.prog 11 #[v] w fun e w' => ∃ y, e = .returned y ∧ Own w' w.heap.size y (putTx t) ∧ Gr w w' := by
  obtain ⟨i0, hi, hz0, hz1, hz2⟩ := info_parts info_u8
  have HV := hide hv
  have HT := hide ht
  obtain ⟨rv, wv, rfl, hr, hw⟩ := hv
  obtain ⟨A, c, rfl, hr⟩ := hr.is
  obtain ⟨B, d, rfl, hw⟩ := hw.is
  have HR := hide hr
  have HW := hide hw
  clear hr hw ht
  obtain ⟨Z, hZ⟩ : ∃ Z, putTx t = Z := ⟨_, rfl⟩
  rw [hZ]
  have HZ := hide hZ
  clear hZ
  obtain ⟨N, hN⟩ : ∃ N, w.heap.size = N := ⟨_, rfl⟩
  rw [hN]
  have HNN := hide hN
  clear hN
  go_enter Tryz.func11, Tryz.ntmps11
  go_wp2_with fail
  obtain ⟨W, hW⟩ : ∃ W, w.alloc (.cells #[.int .i64 t.ses, .int .i64 t.seq, .slice A t.reads.length c, .slice B t.writes.length d] 26) = W := ⟨_, rfl⟩
  have hg : Gr w W := by rw [← hW]; exact (Gr.refl _).alloc _
  have hbx : Bl W w.heap.size 26 #[.int .i64 t.ses, .int .i64 t.seq, .slice A t.reads.length c, .slice B t.writes.length d] := by rw [← hW]; exact Bl.new _ _ _
  have hglt : w.heap.size < W.heap.size := by rw [← hW]; simp
  rw [hW]
  clear hW
  have hNO := HNN.out
  rw [hNO] at hbx hglt ⊢
  clear hNO
  have HBX := hide hbx
  clear hbx
  refine (RefMayTxn_ok _ t W (HV.out.gr hg) HT.out).mono ?_
  rintro e w1 ⟨rfl, hg1⟩
  cases hmay : mayT t
  · have hno := HZ.out
    unfold putTx at hno
    rw [hmay] at hno
    have HNO := hide (show Z = [] from hno.symm)
    clear hno
    go_wp2_with fail
    go_ret
    exact ⟨_, rfl, by rw [HNO.out]; exact OwnE.none_ _ _, hg.trans hg1⟩
  · have hput := HZ.out
    unfold putTx at hput
    rw [hmay] at hput
    have HPUT := hide (show Z = encT t from hput.symm)
    clear hput HZ
    have hp := mayT_parts hmay
    have HP := hide hp
    have hrn := hp.2.2.2.2.2.2.1
    have hwn := hp.2.2.2.2.2.2.2.1
    have hs0 := hp.2.2.1
    have hq0 := hp.2.2.2.2.1
    have hlt1 := hglt
    clear hp hmay
    have hgw := hg.trans hg1
    have HB1 := HBX.out.gr hg1
    have hN1 : N ≤ w1.heap.size := by have := hg1.size; omega
    have hp1 := hide (fun w => PutNum_ok t.ses (HT.out.ses.2) w)
    have hp2 := hide (fun w => PutNum_ok t.seq (HT.out.seq.2) w)
    have hp3 := hide (fun w => PutNum_ok (t.reads.length : Int) (by omega) w)
    rw [putZ_of (by omega)] at hp1
    rw [putZ_of (by omega)] at hp2
    rw [putZ_nat] at hp3
    have hb1 := natOf_len t.ses
    have hb2 := natOf_len t.seq
    have hb3 := (putN_len t.reads.length).2
    go_wp2_with fail
    refine Mine.wp_region_mine 87 [11, 12, 13, 14, 15, 16, 17, 18, 19, 20, 21, 22, 3] rfl (by kernel_rfl) (by kernel_rfl) (by kernel_rfl) (ob0 := none) (Mine.Ahead.more (Mine.Ahead.none_ _ _ _) 1 (Mine.Bx.stays N 26 #[.int .i64 t.ses, .int .i64 t.seq, .slice A t.reads.length c, .slice B t.writes.length d]) ⟨rfl, HB1.drewN 1, by simp⟩) 87 (C0 := fun _ _ o => o = none) none_keeps (fun k hk => by cases hk) rfl ?_
    refine Mine.field (j := 0) rfl rfl (by decide) rfl (fun _ => rfl) rfl ?_
    refine Mine.load rfl rfl (by decide) agg_int rfl ?_
    refine Mine.chain_call rfl rfl rfl (by decide) Tryz.func34 (by kernel_rfl) (by kernel_rfl) rfl hp1.out ?_
    refine Mine.field (j := 1) rfl rfl (by decide) rfl (fun _ => rfl) rfl ?_
    refine Mine.load rfl rfl (by decide) agg_int rfl ?_
    refine Mine.call_own rfl rfl (by decide) Tryz.func34 (by kernel_rfl) (by kernel_rfl) rfl hp2.out ?_
    refine Mine.chain_app (l := natOf t.ses) (r := natOf t.seq) rfl rfl rfl Tryz.underlying22 hi hz0 hz1 hz2 rfl (by omega) (Nat.le_refl _) ?_
    refine Mine.field (j := 2) rfl rfl (by decide) rfl (fun _ => rfl) rfl ?_
    refine Mine.load rfl rfl (by decide) agg_reads rfl ?_
    refine Mine.len rfl rfl (by decide) Tryz.underlying23 rfl ?_
    refine Mine.call_own rfl rfl (by decide) Tryz.func34 (by kernel_rfl) (by kernel_rfl) rfl hp3.out ?_
    refine Mine.chain_app (l := natOf t.ses ++ natOf t.seq) (r := putN t.reads.length) rfl rfl rfl Tryz.underlying22 hi hz0 hz1 hz2 rfl (by rw [List.length_append]; omega) (Nat.le_refl _) ?_
    refine Mine.chain_move (.inr rfl) rfl rfl ?_
    intro a2 w2 ob2 hr2 hsz2 hdf2 hun2 _ hat2
    obtain ⟨hown2, hob2⟩ := hat2
    change Own w2 w1.heap.size (a2.tmps.getD 3 undef) (encA t) at hown2
    have hgr2 : Gr w1 w2 := ((Gr.refl w1).drewN 1).below.grown hr2.gb (Nat.le_refl _) (fun k hk => by cases hk)
    obtain ⟨X, hX, hlay⟩ := Grow.lay_kept_by _ a2 87 _ hsz2 hdf2 hun2
    rw [hX] at hown2 hob2
    clear hX hun2 hdf2 hsz2 hr2 hp1 hp2 hp3 hb1 hb2 hb3 hs0 hq0
    subst hlay
    simp only [List.range, List.range.loop, List.map_cons, List.map_nil, List.contains_cons, List.contains_nil, Nat.reduceBEq, Bool.or_false, Bool.or_true, cond_false, cond_true, Array.getD_eq_getD_getElem?, List.getElem?_toArray, List.getElem?_cons_zero, List.getElem?_cons_succ, Option.getD_some]
    generalize X 3 = row at hown2 hob2 ⊢
    have HOWN := hide hown2
    clear hown2 hob2
    have hA := encA_len t
    have hN2 : w1.heap.size ≤ w2.heap.size := hgr2.size
    go_wp2_with fail
    go_loopw [3, 4] (fun o i wr => ∃ k : Nat, i = .int .i64 k ∧ k ≤ t.reads.length ∧ Hid (Own wr w1.heap.size o (encA t ++ (t.reads.take k).flatMap encR)) ∧ Gr w1 wr) (fun _ i _ => t.reads.length - (intOf i).toNat)
    case atStart => exact ⟨0, rfl, by omega, by simpa using HOWN, hgr2⟩
    case round =>
      obtain ⟨k, rfl, hk, hown, hgr⟩ := hrel
      have a2 : wr.cell? ⟨N, 2, none⟩ = some (.slice A t.reads.length c) := (HB1.gr hgr).cell 2
      by_cases hlt : k < t.reads.length
      · have hlt' : (k : Int) < (t.reads.length : Int) := by omega
        obtain ⟨ad, c', e1, a0, a1, b2, a3⟩ := (HR.out.gr (hgw.trans hgr)).rd hlt
        simp only [Value.slice.injEq, true_and] at e1
        obtain ⟨rfl, rfl⟩ := e1
        have hfl := hide (flat_more encR hlt)
        have hll : ((t.reads.take k).flatMap encR).length ≤ 541 * 6 := by
          have := flat_len encR 541 encR_len (t.reads.take k)
          rw [List.length_take] at this
          omega
        have hlx := HT.out.rd _ (List.getElem_mem hlt)
        have hox := rdOk_parts (HP.out.1 _ (List.getElem_mem hlt))
        obtain ⟨x, hx⟩ : ∃ x, t.reads[k]'hlt = x := ⟨_, rfl⟩
        rw [hx] at a0 a1 b2 a3 hfl hlx hox
        clear hx
        have hq1 := hide (fun w => RefPutText_ok x.key (by have := hlx.key; omega) w)
        have hq2 := hide (fun w => PutNum_ok x.ver (hlx.ver.2) w)
        rw [putZ_of hox.1] at hq2
        have hq3 := hide (fun w => RefPutText_ok x.val (by have := hlx.val; omega) w)
        have hq4 := hide (fun w => Flag_ok x.there w)
        have g1 := txtOf_len x.key
        have g2 := natOf_len x.ver
        have g3 := txtOf_len x.val
        have HFL := hide (show encR x = txtOf x.key ++ natOf x.ver ++ txtOf x.val ++ [flagB x.there] from rfl)
        have hplt : ∀ j, u3.ownBlock = some j → j < wr.heap.size := fun j hj => hown.out.lt j hj
        obtain ⟨L, hL⟩ : ∃ L, encA t ++ (t.reads.take k).flatMap encR = L := ⟨_, rfl⟩
        have hLl : L.length ≤ 4000 := by rw [← hL, List.length_append]; omega
        rw [hL] at hown
        have HL := hide hL
        clear hlx hox hL hll
        go_wp2_with fail
        obtain ⟨w8, hw8⟩ : ∃ w8, wr.alloc (.cells #[.string x.key, .int .i64 x.ver, .string x.val, .bool x.there] 46) = w8 := ⟨_, rfl⟩
        have hbl8 : Bl w8 wr.heap.size 46 #[.string x.key, .int .i64 x.ver, .string x.val, .bool x.there] := by rw [← hw8]; exact Bl.new _ _ _
        have hgr8 : Gr wr w8 := by rw [← hw8]; exact (Gr.refl _).alloc _
        rw [hw8]
        clear hw8
        obtain ⟨gx, hgx⟩ : ∃ gx, wr.heap.size = gx := ⟨_, rfl⟩
        have hne8 : some gx ≠ u3.ownBlock := fun e => by have := hplt _ e.symm; omega
        have hN8 : w1.heap.size ≤ w8.heap.size := Nat.le_trans hgr.size hgr8.size
        have hown8 : Own w8 w1.heap.size u3 L := hown.out.gr hgr8
        rw [hgx] at hbl8 ⊢
        refine Mine.wp_region_mine 87 [35, 36, 37, 38, 39, 40, 41, 42, 43, 3] rfl (by kernel_rfl) (by kernel_rfl) (by kernel_rfl) (ob0 := u3.ownBlock) (Mine.Ahead.more (Mine.Ahead.none_ _ _ _) 5 (Mine.Bx.stays gx 46 #[.string x.key, .int .i64 x.ver, .string x.val, .bool x.there]) ⟨rfl, hbl8.drewN 1, hne8⟩) 3 (C0 := Mine.Row 5 w1.heap.size L) (Mine.Row.keeps _ _ _) (fun j hj => Nat.lt_of_lt_of_le (hplt j hj) hgr8.size) ⟨hown8.gr ((Gr.refl _).drewN 1), rfl⟩ ?_
        refine Mine.chain_move (.inl rfl) rfl rfl ?_
        refine Mine.field (j := 0) rfl rfl (by decide) rfl (fun _ => rfl) rfl ?_
        refine Mine.load rfl rfl (by decide) agg_str rfl ?_
        refine Mine.call_own rfl rfl (by decide) Tryz.func35 (by kernel_rfl) (by kernel_rfl) rfl hq1.out ?_
        refine Mine.chain_app (l := L) (r := txtOf x.key) rfl rfl rfl Tryz.underlying22 hi hz0 hz1 hz2 rfl (by omega) hN8 ?_
        refine Mine.field (j := 1) rfl rfl (by decide) rfl (fun _ => rfl) rfl ?_
        refine Mine.load rfl rfl (by decide) agg_int rfl ?_
        refine Mine.call_own rfl rfl (by decide) Tryz.func34 (by kernel_rfl) (by kernel_rfl) rfl hq2.out ?_
        refine Mine.chain_app (l := L ++ txtOf x.key) (r := natOf x.ver) rfl rfl rfl Tryz.underlying22 hi hz0 hz1 hz2 rfl (by rw [List.length_append]; omega) hN8 ?_
        refine Mine.chain_move (.inr rfl) rfl rfl ?_
        intro a9 w9 ob9 hr9 hsz9 hdf9 hun9 hkn9 hat9
        obtain ⟨hown9, hob9⟩ := hat9
        change Own w9 w1.heap.size (a9.tmps.getD 3 undef) (L ++ txtOf x.key ++ natOf x.ver) at hown9
        obtain ⟨_, hbl9, hne9⟩ : Mine.Bx gx 46 #[.string x.key, .int .i64 x.ver, .string x.val, .bool x.there] (a9.tmps.getD 5 undef) w9 ob9 := hkn9 5
        have hgr9 : Gr w1 w9 := ((hgr.trans hgr8).drewN 1).below.grown hr9.gb hN8 (fun j hj => (World.ownsRow.lt hown8 j hj).1)
        obtain ⟨X9, hX9, hlay9⟩ := Grow.lay_kept_by _ a9 87 _ hsz9 hdf9 hun9
        rw [hX9] at hown9 hob9
        clear hX9 hun9 hdf9 hsz9 hr9 hkn9 hq1 hq2 hown8 hbl8 hgr8 hne8 a0 a1 b2 a3 a2 hplt
        subst hlay9
        simp only [List.range, List.range.loop, List.map_cons, List.map_nil, List.contains_cons, List.contains_nil, Nat.reduceBEq, Bool.or_false, Bool.or_true, cond_false, cond_true, Array.getD_eq_getD_getElem?, List.getElem?_toArray, List.getElem?_cons_zero, List.getElem?_cons_succ, Option.getD_some]
        generalize X9 3 = row9 at hown9 hob9 ⊢
        have hN9 : w1.heap.size ≤ w9.heap.size := hgr9.size
        go_wp2_with fail
        refine Mine.wp_region_mine 87 [44, 45, 46, 47, 48, 49, 50, 51, 52, 53, 3] rfl (by kernel_rfl) (by kernel_rfl) (by kernel_rfl) (ob0 := ob9) (Mine.Ahead.more (Mine.Ahead.none_ _ _ _) 5 (Mine.Bx.stays gx 46 #[.string x.key, .int .i64 x.ver, .string x.val, .bool x.there]) ⟨rfl, hbl9.drewN 1, hne9⟩) 3 (C0 := Mine.Row 5 w1.heap.size (L ++ txtOf x.key ++ natOf x.ver)) (Mine.Row.keeps _ _ _) (fun j hj => (World.ownsRow.lt hown9 j (by rw [hob9]; exact hj)).2) ⟨hown9.gr ((Gr.refl _).drewN 1), hob9⟩ ?_
        refine Mine.chain_move (.inl rfl) rfl rfl ?_
        refine Mine.field (j := 2) rfl rfl (by decide) rfl (fun _ => rfl) rfl ?_
        refine Mine.load rfl rfl (by decide) agg_str rfl ?_
        refine Mine.call_own rfl rfl (by decide) Tryz.func35 (by kernel_rfl) (by kernel_rfl) rfl hq3.out ?_
        refine Mine.chain_app (l := L ++ txtOf x.key ++ natOf x.ver) (r := txtOf x.val) rfl rfl rfl Tryz.underlying22 hi hz0 hz1 hz2 rfl (by simp only [List.length_append]; omega) hN9 ?_
        refine Mine.field (j := 3) rfl rfl (by decide) rfl (fun _ => rfl) rfl ?_
        refine Mine.load rfl rfl (by decide) agg_bool rfl ?_
        refine Mine.call_is rfl rfl (by decide) Tryz.func36 (by kernel_rfl) (by kernel_rfl) rfl hq4.out ?_
        refine Mine.lit1 rfl rfl (by decide) rfl (fun w => lit_byte w _) ?_
        refine Mine.chain_app (l := L ++ txtOf x.key ++ natOf x.ver ++ txtOf x.val) (r := [flagB x.there]) rfl rfl rfl Tryz.underlying22 hi hz0 hz1 hz2 rfl (by simp only [List.length_append, List.length_singleton]; omega) hN9 ?_
        refine Mine.chain_move (.inr rfl) rfl rfl ?_
        intro a10 w10 ob10 hr10 hsz10 hdf10 hun10 _ hat10
        obtain ⟨hown10, hob10⟩ := hat10
        change Own w10 w1.heap.size (a10.tmps.getD 3 undef) (L ++ txtOf x.key ++ natOf x.ver ++ txtOf x.val ++ [flagB x.there]) at hown10
        have hgr10 : Gr w1 w10 := (hgr9.drewN 1).below.grown hr10.gb hN9 (fun j hj => (World.ownsRow.lt hown9 j (by rw [hob9]; exact hj)).1)
        obtain ⟨X10, hX10, hlay10⟩ := Grow.lay_kept_by _ a10 87 _ hsz10 hdf10 hun10
        rw [hX10] at hown10
        clear hX10 hun10 hdf10 hsz10 hr10 hq3 hq4 hob9 hown9 hbl9 hne9 hob10
        subst hlay10
        simp only [List.range, List.range.loop, List.map_cons, List.map_nil, List.contains_cons, List.contains_nil, Nat.reduceBEq, Bool.or_false, Bool.or_true, cond_false, cond_true, Array.getD_eq_getD_getElem?, List.getElem?_toArray, List.getElem?_cons_zero, List.getElem?_cons_succ, Option.getD_some]
        generalize X10 3 = row10 at hown10 ⊢
        have hown11 : Hid (Own w10 w1.heap.size row10 (encA t ++ (t.reads.take (k + 1)).flatMap encR)) := by
          rw [hfl.out, ← List.append_assoc, HL.out, HFL.out]
          simpa only [Hid, List.append_assoc] using hown10
        clear hown10
        go_wp2_with fail
        go_roundw
        case rel => exact ⟨k + 1, by go_num, by omega, hown11, hgr10⟩
        case measure => simp [intOf]; omega
      · obtain rfl : k = t.reads.length := by omega
        have hown3 := hown.out
        rw [List.take_length] at hown3
        have HAL := hide (show encA t ++ t.reads.flatMap encR ++ putN t.writes.length ++ t.writes.flatMap encW = encT t from rfl)
        have hll : (t.reads.flatMap encR).length ≤ 541 * 6 := by
          have := flat_len encR 541 encR_len t.reads
          omega
        obtain ⟨L, hL⟩ : ∃ L, encA t ++ t.reads.flatMap encR = L := ⟨_, rfl⟩
        have hLl : L.length ≤ 4000 := by rw [← hL, List.length_append]; omega
        rw [hL] at hown3 HAL
        have hp4 := hide (fun w => PutNum_ok (t.writes.length : Int) (by omega) w)
        rw [putZ_nat] at hp4
        have hb4 := (putN_len t.writes.length).2
        have c3 : wr.cell? ⟨N, 3, none⟩ = some (.slice B t.writes.length d) := (HB1.gr hgr).cell 3
        clear hown hL hll hA
        have HOWN3 := hide hown3
        clear hown3
        go_wp2_with fail
        refine (hp4.out _).mono ?_
        rintro e w4 ⟨y4, rfl, hy4, hg4⟩
        obtain ⟨A4, c4, rfl, hby4⟩ := hy4.by_
        have hgr4 := hgr.trans hg4
        have hown4 := HOWN3.out.gr hg4
        clear hy4 hg4 c3 hp4 a2 HOWN3
        go_wp2_with (at_builtin; refine wpList_app rfl (.tmp 54) (.tmp 58) _ rfl 5 i0 Tryz.underlying22 hi hz0 hz1 hz2 (r := putN t.writes.length) rfl rfl hown4 hgr4 rfl hby4.rd hby4.nil (by omega) ?_; intro v5 w5 ho5 hg5)
        have HO5 := hide ho5
        have hLl2 : (L ++ putN t.writes.length).length ≤ 5000 := by rw [List.length_append]; omega
        obtain ⟨L2, hL2⟩ : ∃ L2, L ++ putN t.writes.length = L2 := ⟨_, rfl⟩
        rw [hL2] at HO5 HAL hLl2
        clear hown4 hgr4 hby4 ho5 hL2 hgr hb4
        go_loopw [3, 6] (fun o i wr => ∃ k : Nat, i = .int .i64 k ∧ k ≤ t.writes.length ∧ Hid (Own wr w1.heap.size o (L2 ++ (t.writes.take k).flatMap encW)) ∧ Gr w1 wr) (fun _ i _ => t.writes.length - (intOf i).toNat)
        case atStart => exact ⟨0, rfl, by omega, by simpa using HO5, hg5⟩
        case round =>
          obtain ⟨k, rfl, hk2, hown, hgr⟩ := hrel
          have c3 : wr.cell? ⟨N, 3, none⟩ = some (.slice B t.writes.length d) := (HB1.gr hgr).cell 3
          by_cases hlt2 : k < t.writes.length
          · have hlt' : (k : Int) < (t.writes.length : Int) := by omega
            obtain ⟨ad, c', e1, a0, a1, b2⟩ := (HW.out.gr (hgw.trans hgr)).wr hlt2
            simp only [Value.slice.injEq, true_and] at e1
            obtain ⟨rfl, rfl⟩ := e1
            have hfl := hide (flat_more encW hlt2)
            have hll : ((t.writes.take k).flatMap encW).length ≤ 531 * 4 := by
              have := flat_len encW 531 encW_len (t.writes.take k)
              rw [List.length_take] at this
              omega
            have hlx := HT.out.wr _ (List.getElem_mem hlt2)
            obtain ⟨x, hx⟩ : ∃ x, t.writes[k]'hlt2 = x := ⟨_, rfl⟩
            rw [hx] at a0 a1 b2 hfl hlx
            clear hx
            have hq1 := hide (fun w => RefPutText_ok x.key (by have := hlx.key; omega) w)
            have hq3 := hide (fun w => RefPutText_ok x.val (by have := hlx.val; omega) w)
            have hq4 := hide (fun w => Flag_ok x.gone w)
            have g1 := txtOf_len x.key
            have g3 := txtOf_len x.val
            have HFL := hide (show encW x = txtOf x.key ++ txtOf x.val ++ [flagB x.gone] from rfl)
            have hplt : ∀ j, u3.ownBlock = some j → j < wr.heap.size := fun j hj => hown.out.lt j hj
            obtain ⟨L3, hL3⟩ : ∃ L3, L2 ++ (t.writes.take k).flatMap encW = L3 := ⟨_, rfl⟩
            have hLl3 : L3.length ≤ 9000 := by rw [← hL3, List.length_append]; omega
            rw [hL3] at hown
            have HL3 := hide hL3
            clear hlx hL3 hll
            go_wp2_with fail
            obtain ⟨w8, hw8⟩ : ∃ w8, wr.alloc (.cells #[.string x.key, .string x.val, .bool x.gone] 44) = w8 := ⟨_, rfl⟩
            have hbl8 : Bl w8 wr.heap.size 44 #[.string x.key, .string x.val, .bool x.gone] := by rw [← hw8]; exact Bl.new _ _ _
            have hgr8 : Gr wr w8 := by rw [← hw8]; exact (Gr.refl _).alloc _
            rw [hw8]
            clear hw8
            obtain ⟨gx, hgx⟩ : ∃ gx, wr.heap.size = gx := ⟨_, rfl⟩
            have hne8 : some gx ≠ u3.ownBlock := fun e => by have := hplt _ e.symm; omega
            have hN8 : w1.heap.size ≤ w8.heap.size := Nat.le_trans hgr.size hgr8.size
            have hown8 : Own w8 w1.heap.size u3 L3 := hown.out.gr hgr8
            rw [hgx] at hbl8 ⊢
            refine Mine.wp_region_mine 87 [72, 73, 74, 75, 76, 77, 78, 79, 80, 81, 82, 83, 84, 85, 3] rfl (by kernel_rfl) (by kernel_rfl) (by kernel_rfl) (ob0 := u3.ownBlock) (Mine.Ahead.more (Mine.Ahead.none_ _ _ _) 7 (Mine.Bx.stays gx 44 #[.string x.key, .string x.val, .bool x.gone]) ⟨rfl, hbl8.drewN 1, hne8⟩) 3 (C0 := Mine.Row 5 w1.heap.size L3) (Mine.Row.keeps _ _ _) (fun j hj => Nat.lt_of_lt_of_le (hplt j hj) hgr8.size) ⟨hown8.gr ((Gr.refl _).drewN 1), rfl⟩ ?_
            refine Mine.chain_move (.inl rfl) rfl rfl ?_
            refine Mine.field (j := 0) rfl rfl (by decide) rfl (fun _ => rfl) rfl ?_
            refine Mine.load rfl rfl (by decide) agg_str rfl ?_
            refine Mine.call_own rfl rfl (by decide) Tryz.func35 (by kernel_rfl) (by kernel_rfl) rfl hq1.out ?_
            refine Mine.chain_app (l := L3) (r := txtOf x.key) rfl rfl rfl Tryz.underlying22 hi hz0 hz1 hz2 rfl (by omega) hN8 ?_
            refine Mine.field (j := 1) rfl rfl (by decide) rfl (fun _ => rfl) rfl ?_
            refine Mine.load rfl rfl (by decide) agg_str rfl ?_
            refine Mine.call_own rfl rfl (by decide) Tryz.func35 (by kernel_rfl) (by kernel_rfl) rfl hq3.out ?_
            refine Mine.chain_app (l := L3 ++ txtOf x.key) (r := txtOf x.val) rfl rfl rfl Tryz.underlying22 hi hz0 hz1 hz2 rfl (by rw [List.length_append]; omega) hN8 ?_
            refine Mine.field (j := 2) rfl rfl (by decide) rfl (fun _ => rfl) rfl ?_
            refine Mine.load rfl rfl (by decide) agg_bool rfl ?_
            refine Mine.call_is rfl rfl (by decide) Tryz.func36 (by kernel_rfl) (by kernel_rfl) rfl hq4.out ?_
            refine Mine.lit1 rfl rfl (by decide) rfl (fun w => lit_byte w _) ?_
            refine Mine.chain_app (l := L3 ++ txtOf x.key ++ txtOf x.val) (r := [flagB x.gone]) rfl rfl rfl Tryz.underlying22 hi hz0 hz1 hz2 rfl (by simp only [List.length_append, List.length_singleton]; omega) hN8 ?_
            refine Mine.chain_move (.inr rfl) rfl rfl ?_
            intro a10 w10 ob10 hr10 hsz10 hdf10 hun10 _ hat10
            obtain ⟨hown10, hob10⟩ := hat10
            change Own w10 w1.heap.size (a10.tmps.getD 3 undef) (L3 ++ txtOf x.key ++ txtOf x.val ++ [flagB x.gone]) at hown10
            have hgr10 : Gr w1 w10 := ((hgr.trans hgr8).drewN 1).below.grown hr10.gb hN8 (fun j hj => (World.ownsRow.lt hown8 j hj).1)
            obtain ⟨X10, hX10, hlay10⟩ := Grow.lay_kept_by _ a10 87 _ hsz10 hdf10 hun10
            rw [hX10] at hown10
            clear hX10 hun10 hdf10 hsz10 hr10 hq1 hq3 hq4 hown8 hbl8 hgr8 hne8 a0 a1 b2 hplt hob10
            subst hlay10
            simp only [List.range, List.range.loop, List.map_cons, List.map_nil, List.contains_cons, List.contains_nil, Nat.reduceBEq, Bool.or_false, Bool.or_true, cond_false, cond_true, Array.getD_eq_getD_getElem?, List.getElem?_toArray, List.getElem?_cons_zero, List.getElem?_cons_succ, Option.getD_some]
            generalize X10 3 = row10 at hown10 ⊢
            have hown11 : Hid (Own w10 w1.heap.size row10 (L2 ++ (t.writes.take (k + 1)).flatMap encW)) := by
              rw [hfl.out, ← List.append_assoc, HL3.out, HFL.out]
              simpa only [Hid, List.append_assoc] using hown10
            clear hown10
            go_wp2_with fail
            go_roundw
            case rel => exact ⟨k + 1, by go_num, by omega, hown11, hgr10⟩
            case measure => simp [intOf]; omega
          · obtain rfl : k = t.writes.length := by omega
            have hown6 := hown.out
            rw [List.take_length, HAL.out, ← HPUT.out] at hown6
            have HOWN6 := hide hown6
            clear hown6 hown
            go_wp2_with fail
            go_ret
            exact ⟨_, rfl, HOWN6.out.base hN1, hgw.trans hgr⟩

end Go.Proofs.YtjpdhijhmpdbnaaGreat
