/-
  The walk of 'TxnForms'.
-/
import Derived.Test.YtjpdhijhmpdbnaaTxnFormsBad
namespace Go.Proofs.Ytjpdhijhmpdbnaa
open Go Go.RowKit TxnMath KeyMath
set_option maxRecDepth 100000
open Go.Proofs.Ytjpdhijhmpdbnaa.Flow (HitG Sees LaidG RowN)

set_option maxRecDepth 100000 in
set_option maxHeartbeats 1000000 in
theorem walk_TxnForms (w : World) : Calls Try.prog 4 #[] w fun e w' => e = .returned (.bool true) ∧ Gr w w' := by
  go_enter Try.func4, Try.ntmps4
  go_wp2_with fail
  refine (begun_ok _).mono ?_
  rintro e w1 ⟨rfl, hg1⟩
  have hmk := make_txns
  go_wp2_with fail
  clear hmk
  obtain ⟨W, hW⟩ : ∃ W, ((w1.alloc (.cells goodR.toArray 39)).alloc (.cells goodW.toArray 41)) = W := ⟨_, rfl⟩
  have hr1 : Bl W w1.heap.size 39 goodR.toArray := by rw [← hW]; exact (Bl.new w1 _ _).gr ((Gr.refl _).alloc _)
  have hr2 : Bl W (w1.heap.size + 1) 41 goodW.toArray := by
    rw [← hW]
    have := Bl.new (w1.alloc (.cells goodR.toArray 39)) 41 goodW.toArray
    rwa [show (w1.alloc (.cells goodR.toArray 39)).heap.size = w1.heap.size + 1 by simp] at this
  have hgW : Gr w1 W := by rw [← hW]; exact ((Gr.refl _).alloc _).alloc _
  have hsW : W.heap.size = w1.heap.size + 1 + 1 := by rw [← hW]; simp
  have hW2 := hW
  simp only [goodR, goodW] at hW2
  rw [hW2]
  clear hW hW2
  have HW3 := hide (show Bl (W.alloc (.cells #[.int .i64 9, .int .i64 1000, .slice (some ⟨w1.heap.size, 0, none⟩) 2 2, .slice (some ⟨w1.heap.size + 1, 0, none⟩) 2 2] 28)) (w1.heap.size + 1 + 1) 28 #[.int .i64 9, .int .i64 1000, .slice (some ⟨w1.heap.size, 0, none⟩) 2 2, .slice (some ⟨w1.heap.size + 1, 0, none⟩) 2 2] by
    rw [← hsW]
    exact Bl.new W _ _)
  have hal : Gr W (W.alloc (.cells #[.int .i64 9, .int .i64 1000, .slice (some ⟨w1.heap.size, 0, none⟩) 2 2, .slice (some ⟨w1.heap.size + 1, 0, none⟩) 2 2] 28)) := (Gr.refl _).alloc _
  have hs3 : (W.alloc (.cells #[.int .i64 9, .int .i64 1000, .slice (some ⟨w1.heap.size, 0, none⟩) 2 2, .slice (some ⟨w1.heap.size + 1, 0, none⟩) 2 2] 28)).heap.size = w1.heap.size + 1 + 1 + 1 := by simp [hsW]
  generalize W.alloc (.cells #[.int .i64 9, .int .i64 1000, .slice (some ⟨w1.heap.size, 0, none⟩) 2 2, .slice (some ⟨w1.heap.size + 1, 0, none⟩) 2 2] 28) = W3 at HW3 hal hs3 ⊢
  have HR1 := hide (hr1.gr hal)
  have HR2 := hide (hr2.gr hal)
  have hg13 := hgW.trans hal
  have hg03 := hg1.trans hg13
  clear hr1 hr2 hgW hal hsW hg1 hg13
  have hb16 : Made16 (W3.alloc (.cells (madeCells #[.int .i64 0, .int .i64 0, .slice none 0 0, .slice none 0 0] 64) 28)) 0 (w1.heap.size + 1 + 1 + 1) := by
    rw [← hs3]
    exact Made16.none_ (Bl.new W3 _ _) (by simp [size_madeCells])
  have hal4 : Gr W3 (W3.alloc (.cells (madeCells #[.int .i64 0, .int .i64 0, .slice none 0 0, .slice none 0 0] 64) 28)) := (Gr.refl _).alloc _
  generalize W3.alloc (.cells (madeCells #[.int .i64 0, .int .i64 0, .slice none 0 0, .slice none 0 0] 64) 28) = W4 at hb16 hal4 ⊢
  have HB16 := hide hb16
  clear hb16
  obtain ⟨g1, hg1⟩ : ∃ g1, w1.heap.size = g1 := ⟨_, rfl⟩
  rw [hg1] at HW3 hs3 HR1 HR2 HB16 ⊢
  clear hg1
  obtain ⟨g2, hg2⟩ : ∃ g2, g1 + 1 = g2 := ⟨_, rfl⟩
  rw [hg2] at HW3 hs3 HR2 HB16 ⊢
  obtain ⟨g0, hg0⟩ : ∃ g0, g2 + 1 = g0 := ⟨_, rfl⟩
  rw [hg0] at HW3 hs3 HB16 ⊢
  obtain ⟨gb, hgb⟩ : ∃ gb, g0 + 1 = gb := ⟨_, rfl⟩
  rw [hgb] at hs3 HB16 ⊢
  go_loopw [3] (fun i wr => ∃ j : Nat, i = .int .i64 j ∧ j ≤ 16 ∧ Hid (Made16 wr j gb) ∧ Gr W3 wr) (fun i _ => 16 - (intOf i).toNat)
  case atStart => exact ⟨0, rfl, by omega, HB16, hal4⟩
  case round =>
    obtain ⟨j, rfl, hj, hmade, hgr⟩ := hrel
    by_cases hlt : j < 16
    · have hlt' : (j : Int) < 16 := by omega
      obtain ⟨B, hB⟩ : ∃ B, wr.heap.size = B := ⟨_, rfl⟩
      have hBg : gb < B := by
        obtain ⟨R, W, cR, cW, hm, _⟩ := hmade.out
        obtain ⟨cs, hb, _⟩ := hm.blk
        have := hb.lt
        omega
      have HGS := hide (show ∀ k i, Flow.Stays (HitG (fun k => k = gb) (G8 gb j B)) (G8 gb j B k i) from fun k i v w w' ⟨h1, h2⟩ hr => ⟨h1, by
        rcases h2 with h2 | h2 | h2 | h2
        · exact .inl h2
        · exact .inr (.inl h2)
        · exact .inr (.inr (.inl ⟨h2.1, RowN.stays (fun k hk => by omega) v w w' h2.2 hr⟩))
        · exact .inr (.inr (.inr ⟨h2.1, RowN.stays (fun k hk => by omega) v w w' h2.2 hr⟩))⟩)
      have HT := hide (fun w' (h : HitG (fun k => k = gb) (G8 gb j B) wr.drew w') => h.bl (Bl.drewN (HW3.out.gr hgr) 1) (by omega))
      have HA := hide (fun w' (h : HitG (fun k => k = gb) (G8 gb j B) wr.drew w') => h.bl (Bl.drewN (HR1.out.gr hgr) 1) (by omega))
      have HC := hide (fun w' (h : HitG (fun k => k = gb) (G8 gb j B) wr.drew w') => h.bl (Bl.drewN (HR2.out.gr hgr) 1) (by omega))
      have HSZ := hide (show ∀ w', HitG (fun k => k = gb) (G8 gb j B) wr.drew w' → B ≤ w'.heap.size from fun w' h => by have := h.size; rw [show wr.drew.heap.size = wr.heap.size from rfl] at this; omega)
      have HBK := hide (show ∀ w', HitG (fun k => k = gb) (G8 gb j B) wr.drew w' → ∃ cs, Bl w' gb 28 cs ∧ cs.size = 64 from fun w' h => by
        obtain ⟨R, W, cR, cW, hm, _⟩ := hmade.out
        obtain ⟨cs, hb, hc⟩ := hm.blk
        obtain ⟨cs', hb', hc'⟩ := h.some_ (hb.drewN 1)
        exact ⟨cs', hb', hc'.trans hc⟩)
      go_wp2_with fail
      refine Flow.wp_region_flow_kept (R := HitG (fun k => k = gb) (G8 gb j B)) HitG.refl (HitG.trans HGS.out) 152 [21, 22, 23, 24, 25, 26, 27, 28, 29, 30, 31, 32] rfl (by kernel_rfl) (by kernel_rfl) (by kernel_rfl) ?_
      refine Flow.move (u := .slice (some ⟨gb, 0, none⟩) 16 16) HitG.refl (.inl rfl) rfl rfl ?_
      refine Flow.move (u := .int .i64 (j : Int)) HitG.refl (.inl rfl) rfl rfl ?_
      refine Flow.step (fun v _ => ∃ b, v = .slice (some ⟨b, 0, none⟩) 0 0) rfl (fun _ _ _ h _ => h) (fun a w' _ _ => by
        unfold Flow.does execOp
        simp only [Array.map_empty, Sem.run_bind, lit_reads w']
        exact ⟨HitG.of_gr ((Gr.refl w').alloc _), _, rfl⟩) ?_
      refine Flow.val1 (x := .tmp 1) (u := .pointer (some ⟨g0, 0, none⟩)) (.pointer (some ⟨g0, 2, none⟩)) HitG.refl rfl (by simp [Op.operands]) rfl (fun a w' _ h => by unfold execOp; simp only [h]; rfl) ?_
      refine Flow.val1 (x := .tmp 24) (.slice (some ⟨g1, 0, none⟩) 2 2) HitG.refl rfl (by simp [Op.operands]) rfl (fun a w' hh h => by
        unfold execOp
        simp only [h, Sem.run_bind, show (Instr.loadAt 25 (.pointer (some ⟨g0, 2, none⟩))).run Try.prog w' = .ok (.slice (some ⟨g1, 0, none⟩) 2 2) w' by simp [Instr.loadAt, Instr.sureAddr, loadVar, agg_reads w', (HT.out w' hh).cell 2]]
        rfl) ?_
      refine Flow.app (RowN B 39 2 goodR) rfl rfl (Ψ := fun v _ => ∃ b, v = .slice (some ⟨b, 0, none⟩) 0 0) (Ψ' := Grow.Is (.slice (some ⟨g1, 0, none⟩) 2 2)) rfl rfl (RowN.stays (fun k hk => by omega)) (fun u v w' hh h1 h2 => by
        obtain ⟨b, rfl⟩ := h1
        obtain rfl : v = .slice (some ⟨g1, 0, none⟩) 2 2 := h2
        obtain ⟨z, w2, h3, h4, h5⟩ := app_reads (b := b) 25 (HA.out w' hh) rfl
        exact ⟨z, w2, h3, HitG.of_gr h5, rowN_base h4 (HSZ.out w' hh)⟩) ?_
      refine Flow.step (fun v _ => ∃ b, v = .slice (some ⟨b, 0, none⟩) 0 0) rfl (fun _ _ _ h _ => h) (fun a w' _ _ => by
        unfold Flow.does execOp
        simp only [Array.map_empty, Sem.run_bind, lit_writes w']
        exact ⟨HitG.of_gr ((Gr.refl w').alloc _), _, rfl⟩) ?_
      refine Flow.val1 (x := .tmp 1) (u := .pointer (some ⟨g0, 0, none⟩)) (.pointer (some ⟨g0, 3, none⟩)) HitG.refl rfl (by simp [Op.operands]) rfl (fun a w' _ h => by unfold execOp; simp only [h]; rfl) ?_
      refine Flow.val1 (x := .tmp 28) (.slice (some ⟨g2, 0, none⟩) 2 2) HitG.refl rfl (by simp [Op.operands]) rfl (fun a w' hh h => by
        unfold execOp
        simp only [h, Sem.run_bind, show (Instr.loadAt 26 (.pointer (some ⟨g0, 3, none⟩))).run Try.prog w' = .ok (.slice (some ⟨g2, 0, none⟩) 2 2) w' by simp [Instr.loadAt, Instr.sureAddr, loadVar, agg_writes w', (HT.out w' hh).cell 3]]
        rfl) ?_
      refine Flow.app (RowN B 41 2 goodW) rfl rfl (Ψ := fun v _ => ∃ b, v = .slice (some ⟨b, 0, none⟩) 0 0) (Ψ' := Grow.Is (.slice (some ⟨g2, 0, none⟩) 2 2)) rfl rfl (RowN.stays (fun k hk => by omega)) (fun u v w' hh h1 h2 => by
        obtain ⟨b, rfl⟩ := h1
        obtain rfl : v = .slice (some ⟨g2, 0, none⟩) 2 2 := h2
        obtain ⟨z, w2, h3, h4, h5⟩ := app_writes (b := b) 26 (HC.out w' hh) rfl
        exact ⟨z, w2, h3, HitG.of_gr h5, rowN_base h4 (HSZ.out w' hh)⟩) ?_
      refine Flow.with2 (x := .tmp 26) (y := .tmp 30) (Ψ := RowN B 39 2 goodR) (Ψ' := RowN B 41 2 goodW) (Tx8 B) rfl (by simp [Op.operands]) (by simp [Op.operands]) rfl rfl (Tx8.stays (fun k hk => by omega)) (fun a w' _ h1 h2 => by
        obtain ⟨r, c, e⟩ : ∃ r c, a.eval (.tmp 26) = .slice (some ⟨r, 0, none⟩) 2 c := by
          obtain ⟨r, c, _, e, _⟩ := h1
          exact ⟨r, c, e⟩
        obtain ⟨q, d, e2⟩ : ∃ r c, a.eval (.tmp 30) = .slice (some ⟨r, 0, none⟩) 2 c := by
          obtain ⟨r, c, _, e, _⟩ := h2
          exact ⟨r, c, e⟩
        rw [e] at h1
        rw [e2] at h2
        unfold Flow.does execOp
        simp only [List.map_toArray, List.map_cons, List.map_nil, e, e2, show ∀ c, a.eval (.const c) = c from fun _ => rfl, Sem.run_bind, build_txn]
        exact ⟨HitG.refl w', _, _, rfl, h1, h2⟩) ?_
      refine Flow.val2 (x := .tmp 21) (y := .tmp 22) (.pointer (some ⟨gb, 4 * j, none⟩)) HitG.refl rfl (by simp [Op.operands]) (by simp [Op.operands]) rfl rfl (fun a w' _ h h2 => by
        unfold execOp
        simp only [h, h2, Sem.run_bind, at_txn w' hlt]
        rfl) ?_
      refine Flow.with2 (x := .tmp 32) (y := .tmp 31) (Ψ := Grow.Is (.pointer (some ⟨gb, 4 * j, none⟩))) (Ψ' := Tx8 B) (Laid8 gb j B) rfl (by simp [Op.operands]) (by simp [Op.operands]) rfl rfl (Laid8.stays (by omega)) (fun a w' hh h1 h2 => by
        have e1 : a.eval (.tmp 32) = .pointer (some ⟨gb, 4 * j, none⟩) := h1
        obtain ⟨u, v, e2, h3, h4⟩ := h2
        obtain ⟨cs, hb, hc⟩ := HBK.out w' hh
        obtain ⟨w2, h5, h6, h7⟩ := store8 hb hc hlt h3 h4 (by omega)
        unfold Flow.does execOp
        simp only [e1, e2, Sem.run_bind, h5]
        exact ⟨h6, h7⟩) ?_
      intro a1 w5 hhit hs1 hd1 hu1 _ hI
      obtain ⟨u1, ⟨v0, l0, e0⟩, ⟨v1, l1, e1⟩, ⟨v2, l2, e2⟩, ⟨v3, l3, e3⟩⟩ := hI.2
      have e0' : v0 = .int .i64 9 := e0
      have e1' : v1 = .int .i64 1000 := e1
      subst e0' e1'
      have hh5 : HitG (fun k => k = gb) (G8 gb j B) wr w5 := HitG.drewN hhit
      have hm5 := hide (hmade.out.more hlt hBg (by omega) hh5 l0 l1 l2 e2 l3 e3)
      have hgr5 := HitG.gr hgr hh5 (fun k hk => by omega)
      obtain ⟨X, hX, hlay⟩ := Grow.lay_kept_by _ a1 152 _ hs1 hd1 hu1
      clear hX hu1 hd1 hs1 hhit hI hh5 l0 l1 l2 l3 e0 e1 e2 e3 HGS HT HA HC HSZ HBK
      subst hlay
      simp only [List.range, List.range.loop, List.map_cons, List.map_nil, List.contains_cons, List.contains_nil, Nat.reduceBEq, Bool.or_false, Bool.or_true, cond_false, cond_true, Array.getD_eq_getD_getElem?, List.getElem?_toArray, List.getElem?_cons_zero, List.getElem?_cons_succ, Option.getD_some]
      go_wp2_with fail
      go_roundw
      case rel => exact ⟨j + 1, by go_num, by omega, hm5, hgr5⟩
      case measure => simp [intOf]; omega
    · obtain rfl : j = 16 := by omega
      obtain ⟨R, W', cR, cW, hm, hbd⟩ := hmade.out
      have HM := hide hm
      have HBD := hide (fun z hz => (hbd z hz).2.2.2.2)
      have HLOW := hide (show ∀ z, z < 16 → gb ≤ R z ∧ gb ≤ W' z from fun z hz => ⟨by have := (hbd z hz).1; omega, by have := (hbd z hz).2.1; omega⟩)
      obtain ⟨cs, hb, hc⟩ := hm.blk
      have f0 := hb.frozen 0
      have f4 := hb.frozen 4
      have f9 := hb.frozen 9
      have f13 := hb.frozen 13
      have b0 : wr.cell? ⟨gb, 0, none⟩ = _ := (hm.sees 0 0 0 (by decide) (by decide) (by decide)).cell
      have b4 : wr.cell? ⟨gb, 4, none⟩ = _ := (hm.sees 0 1 0 (by decide) (by decide) (by decide)).cell
      have b9 : wr.cell? ⟨gb, 9, none⟩ = _ := (hm.sees 0 2 1 (by decide) (by decide) (by decide)).cell
      have b13 : wr.cell? ⟨gb, 13, none⟩ = _ := (hm.sees 0 3 1 (by decide) (by decide) (by decide)).cell
      clear hm hbd hmade hb hc
      go_wp2_with fail
      have hm9 : Mem ((((wr.setCell ⟨gb, 0, none⟩ (.int .i64 0)).setCell ⟨gb, 4, none⟩ (.int .i64 10)).setCell ⟨gb, 9, none⟩ (.int .i64 0)).setCell ⟨gb, 13, none⟩ (.int .i64 1001)) 16 gb R W' (over [(0, 3, 1, .int .i64 1001)] (over [(0, 2, 1, .int .i64 0)] (over [(0, 1, 0, .int .i64 10)] (over [(0, 0, 0, .int .i64 0)] (val0 R W' cR cW))))) := (((HM.out.set (κ := 0) (z := 0) (j := 0) (by decide) (by decide) (by decide) (.int .i64 0)).set (κ := 0) (z := 1) (j := 0) (by decide) (by decide) (by decide) (.int .i64 10)).set (κ := 0) (z := 2) (j := 1) (by decide) (by decide) (by decide) (.int .i64 0)).set (κ := 0) (z := 3) (j := 1) (by decide) (by decide) (by decide) (.int .i64 1001)
      have hbt : But wr ((((wr.setCell ⟨gb, 0, none⟩ (.int .i64 0)).setCell ⟨gb, 4, none⟩ (.int .i64 10)).setCell ⟨gb, 9, none⟩ (.int .i64 0)).setCell ⟨gb, 13, none⟩ (.int .i64 1001)) gb := ((((But.refl wr gb).set 0 _).set 4 _).set 9 _).set 13 _
      have hgr9 : Gr W3 ((((wr.setCell ⟨gb, 0, none⟩ (.int .i64 0)).setCell ⟨gb, 4, none⟩ (.int .i64 10)).setCell ⟨gb, 9, none⟩ (.int .i64 0)).setCell ⟨gb, 13, none⟩ (.int .i64 1001)) := hgr.fresh hbt (by omega)
      generalize (((wr.setCell ⟨gb, 0, none⟩ (.int .i64 0)).setCell ⟨gb, 4, none⟩ (.int .i64 10)).setCell ⟨gb, 9, none⟩ (.int .i64 0)).setCell ⟨gb, 13, none⟩ (.int .i64 1001) = w9 at hm9 hgr9 ⊢
      have HM9 := hide hm9
      have HG9 := hide hgr9
      clear hm9 hgr9 hbt HM b0 b4 b9 b13 f0 f4 f9 f13 hgr
      have hmd10 := hide (HM9.out.drew_)
      refine Flow.wp_region_flow_kept (R := RelP gb R W' [(1, 4, 4, .string ⟨#[97]⟩), (1, 5, 0, .string ⟨#[]⟩), (1, 6, 1, .int .i64 (-1)), (1, 7, 1, .int .i64 0)]) RelP.refl RelP.trans 152 [45, 46, 47, 48, 49, 50, 51, 52, 53, 54, 55, 56, 57, 58, 59, 60, 61, 62, 63, 64, 65, 66, 67, 68] rfl (by kernel_rfl) (by kernel_rfl) (by kernel_rfl) ?_
      refine Flow.move (u := .slice (some ⟨gb, 0, none⟩) 16 16) RelP.refl (.inl rfl) rfl rfl ?_
      refine Flow.at_txn 4 RelP.refl rfl rfl rfl (by decide) ?_
      refine Flow.fld (m' := 18) RelP.refl rfl rfl rfl (fun _ => rfl) ?_
      refine Flow.ld (v := .slice (some ⟨R 4, 0, none⟩) 2 (cR 4)) RelP.refl rfl rfl rfl (fun w' hh => ld_row w' agg_reads (hmd10.out.stillP (L := [(1, 4, 4, .string ⟨#[97]⟩), (1, 5, 0, .string ⟨#[]⟩), (1, 6, 1, .int .i64 (-1)), (1, 7, 1, .int .i64 0)]) rfl hh 0 4 2 (by decide) (by decide) (by decide) rfl)) ?_
      refine Flow.move (u := .slice (some ⟨gb, 0, none⟩) 16 16) RelP.refl (.inl rfl) rfl rfl ?_
      refine Flow.at_txn 5 RelP.refl rfl rfl rfl (by decide) ?_
      refine Flow.fld (m' := 22) RelP.refl rfl rfl rfl (fun _ => rfl) ?_
      refine Flow.ld (v := .slice (some ⟨R 5, 0, none⟩) 2 (cR 5)) RelP.refl rfl rfl rfl (fun w' hh => ld_row w' agg_reads (hmd10.out.stillP (L := [(1, 4, 4, .string ⟨#[97]⟩), (1, 5, 0, .string ⟨#[]⟩), (1, 6, 1, .int .i64 (-1)), (1, 7, 1, .int .i64 0)]) rfl hh 0 5 2 (by decide) (by decide) (by decide) rfl)) ?_
      refine Flow.move (u := .slice (some ⟨gb, 0, none⟩) 16 16) RelP.refl (.inl rfl) rfl rfl ?_
      refine Flow.at_txn 6 RelP.refl rfl rfl rfl (by decide) ?_
      refine Flow.fld (m' := 26) RelP.refl rfl rfl rfl (fun _ => rfl) ?_
      refine Flow.ld (v := .slice (some ⟨R 6, 0, none⟩) 2 (cR 6)) RelP.refl rfl rfl rfl (fun w' hh => ld_row w' agg_reads (hmd10.out.stillP (L := [(1, 4, 4, .string ⟨#[97]⟩), (1, 5, 0, .string ⟨#[]⟩), (1, 6, 1, .int .i64 (-1)), (1, 7, 1, .int .i64 0)]) rfl hh 0 6 2 (by decide) (by decide) (by decide) rfl)) ?_
      refine Flow.move (u := .slice (some ⟨gb, 0, none⟩) 16 16) RelP.refl (.inl rfl) rfl rfl ?_
      refine Flow.at_txn 7 RelP.refl rfl rfl rfl (by decide) ?_
      refine Flow.fld (m' := 30) RelP.refl rfl rfl rfl (fun _ => rfl) ?_
      refine Flow.ld (v := .slice (some ⟨R 7, 0, none⟩) 2 (cR 7)) RelP.refl rfl rfl rfl (fun w' hh => ld_row w' agg_reads (hmd10.out.stillP (L := [(1, 4, 4, .string ⟨#[97]⟩), (1, 5, 0, .string ⟨#[]⟩), (1, 6, 1, .int .i64 (-1)), (1, 7, 1, .int .i64 0)]) rfl hh 0 7 2 (by decide) (by decide) (by decide) rfl)) ?_
      refine Flow.at_read 1 RelP.refl rfl rfl rfl (by decide) ?_
      refine Flow.fld (m' := 4) RelP.refl rfl rfl rfl (fun _ => rfl) ?_
      refine Flow.store (LaidP gb R W' 1 4 4 (.string ⟨#[97]⟩)) rfl rfl rfl (fun _ => rfl) (hmd10.out.laidP rfl (by decide) (by decide) (by decide) rfl) (fun w hh => hmd10.out.storeP (κ := 1) (z := 4) (j := 4) (v := .string ⟨#[97]⟩) hh (fun w => by kernel_rfl) (by decide) (by decide) (by decide) rfl rfl) ?_
      refine Flow.at_read 0 RelP.refl rfl rfl rfl (by decide) ?_
      refine Flow.fld (m' := 0) RelP.refl rfl rfl rfl (fun _ => rfl) ?_
      refine Flow.store (LaidP gb R W' 1 5 0 (.string ⟨#[]⟩)) rfl rfl rfl (fun _ => rfl) (hmd10.out.laidP rfl (by decide) (by decide) (by decide) rfl) (fun w hh => hmd10.out.storeP (κ := 1) (z := 5) (j := 0) (v := .string ⟨#[]⟩) hh (fun w => by kernel_rfl) (by decide) (by decide) (by decide) rfl rfl) ?_
      refine Flow.at_read 0 RelP.refl rfl rfl rfl (by decide) ?_
      refine Flow.fld (m' := 1) RelP.refl rfl rfl rfl (fun _ => rfl) ?_
      refine Flow.store (LaidP gb R W' 1 6 1 (.int .i64 (-1))) rfl rfl rfl (fun _ => rfl) (hmd10.out.laidP rfl (by decide) (by decide) (by decide) rfl) (fun w hh => hmd10.out.storeP (κ := 1) (z := 6) (j := 1) (v := .int .i64 (-1)) hh (fun w => by kernel_rfl) (by decide) (by decide) (by decide) rfl rfl) ?_
      refine Flow.at_read 0 RelP.refl rfl rfl rfl (by decide) ?_
      refine Flow.fld (m' := 1) RelP.refl rfl rfl rfl (fun _ => rfl) ?_
      refine Flow.store (LaidP gb R W' 1 7 1 (.int .i64 0)) rfl rfl rfl (fun _ => rfl) (hmd10.out.laidP rfl (by decide) (by decide) (by decide) rfl) (fun w hh => hmd10.out.storeP (κ := 1) (z := 7) (j := 1) (v := .int .i64 0) hh (fun w => by kernel_rfl) (by decide) (by decide) (by decide) rfl rfl) ?_
      intro a10 w10 hh10 hs10 hd10 hu10 _ hI10
      have HM10 := hide (hmd10.out.putP (L := [(1, 4, 4, .string ⟨#[97]⟩), (1, 5, 0, .string ⟨#[]⟩), (1, 6, 1, .int .i64 (-1)), (1, 7, 1, .int .i64 0)]) rfl hh10 (four_all hI10.1.1.1.2 hI10.1.1.2 hI10.1.2 hI10.2))
      have HG10 := hide (RelP.gr (HG9.out.drew) hh10 (by omega) (fun z hz => by have := HLOW.out z hz; omega) rfl)
      obtain ⟨X10, hX10, hlay10⟩ := Grow.lay_kept_by _ a10 152 _ hs10 hd10 hu10
      clear hX10 hu10 hd10 hs10 hh10 hI10 hmd10
      subst hlay10
      simp only [List.range, List.range.loop, List.map_cons, List.map_nil, List.contains_cons, List.contains_nil, Nat.reduceBEq, Bool.or_false, Bool.or_true, cond_false, cond_true, Array.getD_eq_getD_getElem?, List.getElem?_toArray, List.getElem?_cons_zero, List.getElem?_cons_succ, Option.getD_some]
      go_wp2_with fail
      have hmd11 := hide (HM10.out.drew_)
      refine Flow.wp_region_flow_kept (R := RelP gb R W' [(1, 8, 6, .string ⟨#[120]⟩), (1, 9, 2, .string ⟨#[115, 101, 118, 101, 110, 116, 101, 101, 110, 45, 98, 121, 116, 101, 115, 45, 120]⟩), (2, 10, 1, .string ⟨#[120]⟩), (2, 11, 4, .string ⟨#[115, 101, 118, 101, 110, 116, 101, 101, 110, 45, 98, 121, 116, 101, 115, 45, 120]⟩)]) RelP.refl RelP.trans 152 [69, 70, 71, 72, 73, 74, 75, 76, 77, 78, 79, 80, 81, 82, 83, 84, 85, 86, 87, 88, 89, 90, 91, 92] rfl (by kernel_rfl) (by kernel_rfl) (by kernel_rfl) ?_
      refine Flow.move (u := .slice (some ⟨gb, 0, none⟩) 16 16) RelP.refl (.inl rfl) rfl rfl ?_
      refine Flow.at_txn 8 RelP.refl rfl rfl rfl (by decide) ?_
      refine Flow.fld (m' := 34) RelP.refl rfl rfl rfl (fun _ => rfl) ?_
      refine Flow.ld (v := .slice (some ⟨R 8, 0, none⟩) 2 (cR 8)) RelP.refl rfl rfl rfl (fun w' hh => ld_row w' agg_reads (hmd11.out.stillP (L := [(1, 8, 6, .string ⟨#[120]⟩), (1, 9, 2, .string ⟨#[115, 101, 118, 101, 110, 116, 101, 101, 110, 45, 98, 121, 116, 101, 115, 45, 120]⟩), (2, 10, 1, .string ⟨#[120]⟩), (2, 11, 4, .string ⟨#[115, 101, 118, 101, 110, 116, 101, 101, 110, 45, 98, 121, 116, 101, 115, 45, 120]⟩)]) rfl hh 0 8 2 (by decide) (by decide) (by decide) rfl)) ?_
      refine Flow.move (u := .slice (some ⟨gb, 0, none⟩) 16 16) RelP.refl (.inl rfl) rfl rfl ?_
      refine Flow.at_txn 9 RelP.refl rfl rfl rfl (by decide) ?_
      refine Flow.fld (m' := 38) RelP.refl rfl rfl rfl (fun _ => rfl) ?_
      refine Flow.ld (v := .slice (some ⟨R 9, 0, none⟩) 2 (cR 9)) RelP.refl rfl rfl rfl (fun w' hh => ld_row w' agg_reads (hmd11.out.stillP (L := [(1, 8, 6, .string ⟨#[120]⟩), (1, 9, 2, .string ⟨#[115, 101, 118, 101, 110, 116, 101, 101, 110, 45, 98, 121, 116, 101, 115, 45, 120]⟩), (2, 10, 1, .string ⟨#[120]⟩), (2, 11, 4, .string ⟨#[115, 101, 118, 101, 110, 116, 101, 101, 110, 45, 98, 121, 116, 101, 115, 45, 120]⟩)]) rfl hh 0 9 2 (by decide) (by decide) (by decide) rfl)) ?_
      refine Flow.move (u := .slice (some ⟨gb, 0, none⟩) 16 16) RelP.refl (.inl rfl) rfl rfl ?_
      refine Flow.at_txn 10 RelP.refl rfl rfl rfl (by decide) ?_
      refine Flow.fld (m' := 43) RelP.refl rfl rfl rfl (fun _ => rfl) ?_
      refine Flow.ld (v := .slice (some ⟨W' 10, 0, none⟩) 2 (cW 10)) RelP.refl rfl rfl rfl (fun w' hh => ld_row w' agg_writes (hmd11.out.stillP (L := [(1, 8, 6, .string ⟨#[120]⟩), (1, 9, 2, .string ⟨#[115, 101, 118, 101, 110, 116, 101, 101, 110, 45, 98, 121, 116, 101, 115, 45, 120]⟩), (2, 10, 1, .string ⟨#[120]⟩), (2, 11, 4, .string ⟨#[115, 101, 118, 101, 110, 116, 101, 101, 110, 45, 98, 121, 116, 101, 115, 45, 120]⟩)]) rfl hh 0 10 3 (by decide) (by decide) (by decide) rfl)) ?_
      refine Flow.move (u := .slice (some ⟨gb, 0, none⟩) 16 16) RelP.refl (.inl rfl) rfl rfl ?_
      refine Flow.at_txn 11 RelP.refl rfl rfl rfl (by decide) ?_
      refine Flow.fld (m' := 47) RelP.refl rfl rfl rfl (fun _ => rfl) ?_
      refine Flow.ld (v := .slice (some ⟨W' 11, 0, none⟩) 2 (cW 11)) RelP.refl rfl rfl rfl (fun w' hh => ld_row w' agg_writes (hmd11.out.stillP (L := [(1, 8, 6, .string ⟨#[120]⟩), (1, 9, 2, .string ⟨#[115, 101, 118, 101, 110, 116, 101, 101, 110, 45, 98, 121, 116, 101, 115, 45, 120]⟩), (2, 10, 1, .string ⟨#[120]⟩), (2, 11, 4, .string ⟨#[115, 101, 118, 101, 110, 116, 101, 101, 110, 45, 98, 121, 116, 101, 115, 45, 120]⟩)]) rfl hh 0 11 3 (by decide) (by decide) (by decide) rfl)) ?_
      refine Flow.at_read 1 RelP.refl rfl rfl rfl (by decide) ?_
      refine Flow.fld (m' := 6) RelP.refl rfl rfl rfl (fun _ => rfl) ?_
      refine Flow.store (LaidP gb R W' 1 8 6 (.string ⟨#[120]⟩)) rfl rfl rfl (fun _ => rfl) (hmd11.out.laidP rfl (by decide) (by decide) (by decide) rfl) (fun w hh => hmd11.out.storeP (κ := 1) (z := 8) (j := 6) (v := .string ⟨#[120]⟩) hh (fun w => by kernel_rfl) (by decide) (by decide) (by decide) rfl rfl) ?_
      refine Flow.at_read 0 RelP.refl rfl rfl rfl (by decide) ?_
      refine Flow.fld (m' := 2) RelP.refl rfl rfl rfl (fun _ => rfl) ?_
      refine Flow.store (LaidP gb R W' 1 9 2 (.string ⟨#[115, 101, 118, 101, 110, 116, 101, 101, 110, 45, 98, 121, 116, 101, 115, 45, 120]⟩)) rfl rfl rfl (fun _ => rfl) (hmd11.out.laidP rfl (by decide) (by decide) (by decide) rfl) (fun w hh => hmd11.out.storeP (κ := 1) (z := 9) (j := 2) (v := .string ⟨#[115, 101, 118, 101, 110, 116, 101, 101, 110, 45, 98, 121, 116, 101, 115, 45, 120]⟩) hh (fun w => by kernel_rfl) (by decide) (by decide) (by decide) rfl rfl) ?_
      refine Flow.at_write 0 RelP.refl rfl rfl rfl (by decide) ?_
      refine Flow.fld (m' := 1) RelP.refl rfl rfl rfl (fun _ => rfl) ?_
      refine Flow.store (LaidP gb R W' 2 10 1 (.string ⟨#[120]⟩)) rfl rfl rfl (fun _ => rfl) (hmd11.out.laidP rfl (by decide) (by decide) (by decide) rfl) (fun w hh => hmd11.out.storeP (κ := 2) (z := 10) (j := 1) (v := .string ⟨#[120]⟩) hh (fun w => by kernel_rfl) (by decide) (by decide) (by decide) rfl rfl) ?_
      refine Flow.at_write 1 RelP.refl rfl rfl rfl (by decide) ?_
      refine Flow.fld (m' := 4) RelP.refl rfl rfl rfl (fun _ => rfl) ?_
      refine Flow.store (LaidP gb R W' 2 11 4 (.string ⟨#[115, 101, 118, 101, 110, 116, 101, 101, 110, 45, 98, 121, 116, 101, 115, 45, 120]⟩)) rfl rfl rfl (fun _ => rfl) (hmd11.out.laidP rfl (by decide) (by decide) (by decide) rfl) (fun w hh => hmd11.out.storeP (κ := 2) (z := 11) (j := 4) (v := .string ⟨#[115, 101, 118, 101, 110, 116, 101, 101, 110, 45, 98, 121, 116, 101, 115, 45, 120]⟩) hh (fun w => by kernel_rfl) (by decide) (by decide) (by decide) rfl rfl) ?_
      intro a11 w11 hh11 hs11 hd11 hu11 _ hI11
      have HM11 := hide (hmd11.out.putP (L := [(1, 8, 6, .string ⟨#[120]⟩), (1, 9, 2, .string ⟨#[115, 101, 118, 101, 110, 116, 101, 101, 110, 45, 98, 121, 116, 101, 115, 45, 120]⟩), (2, 10, 1, .string ⟨#[120]⟩), (2, 11, 4, .string ⟨#[115, 101, 118, 101, 110, 116, 101, 101, 110, 45, 98, 121, 116, 101, 115, 45, 120]⟩)]) rfl hh11 (four_all hI11.1.1.1.2 hI11.1.1.2 hI11.1.2 hI11.2))
      have HG11 := hide (RelP.gr (HG10.out.drew) hh11 (by omega) (fun z hz => by have := HLOW.out z hz; omega) rfl)
      obtain ⟨X11, hX11, hlay11⟩ := Grow.lay_kept_by _ a11 152 _ hs11 hd11 hu11
      clear hX11 hu11 hd11 hs11 hh11 hI11 hmd11
      subst hlay11
      simp only [List.range, List.range.loop, List.map_cons, List.map_nil, List.contains_cons, List.contains_nil, Nat.reduceBEq, Bool.or_false, Bool.or_true, cond_false, cond_true, Array.getD_eq_getD_getElem?, List.getElem?_toArray, List.getElem?_cons_zero, List.getElem?_cons_succ, Option.getD_some]
      go_wp2_with fail
      have hmd12 := hide (HM11.out.drew_)
      refine Flow.wp_region_flow_kept (R := RelP gb R W' [(2, 12, 0, .string ⟨#[99]⟩), (2, 13, 3, .string ⟨#[110, 105, 110, 101, 45, 98, 121, 116, 101]⟩)]) RelP.refl RelP.trans 152 [93, 94, 95, 96, 97, 98, 99, 100, 101, 102, 103, 104] rfl (by kernel_rfl) (by kernel_rfl) (by kernel_rfl) ?_
      refine Flow.move (u := .slice (some ⟨gb, 0, none⟩) 16 16) RelP.refl (.inl rfl) rfl rfl ?_
      refine Flow.at_txn 12 RelP.refl rfl rfl rfl (by decide) ?_
      refine Flow.fld (m' := 51) RelP.refl rfl rfl rfl (fun _ => rfl) ?_
      refine Flow.ld (v := .slice (some ⟨W' 12, 0, none⟩) 2 (cW 12)) RelP.refl rfl rfl rfl (fun w' hh => ld_row w' agg_writes (hmd12.out.stillP (L := [(2, 12, 0, .string ⟨#[99]⟩), (2, 13, 3, .string ⟨#[110, 105, 110, 101, 45, 98, 121, 116, 101]⟩)]) rfl hh 0 12 3 (by decide) (by decide) (by decide) rfl)) ?_
      refine Flow.move (u := .slice (some ⟨gb, 0, none⟩) 16 16) RelP.refl (.inl rfl) rfl rfl ?_
      refine Flow.at_txn 13 RelP.refl rfl rfl rfl (by decide) ?_
      refine Flow.fld (m' := 55) RelP.refl rfl rfl rfl (fun _ => rfl) ?_
      refine Flow.ld (v := .slice (some ⟨W' 13, 0, none⟩) 2 (cW 13)) RelP.refl rfl rfl rfl (fun w' hh => ld_row w' agg_writes (hmd12.out.stillP (L := [(2, 12, 0, .string ⟨#[99]⟩), (2, 13, 3, .string ⟨#[110, 105, 110, 101, 45, 98, 121, 116, 101]⟩)]) rfl hh 0 13 3 (by decide) (by decide) (by decide) rfl)) ?_
      refine Flow.at_write 0 RelP.refl rfl rfl rfl (by decide) ?_
      refine Flow.fld (m' := 0) RelP.refl rfl rfl rfl (fun _ => rfl) ?_
      refine Flow.store (LaidP gb R W' 2 12 0 (.string ⟨#[99]⟩)) rfl rfl rfl (fun _ => rfl) (hmd12.out.laidP rfl (by decide) (by decide) (by decide) rfl) (fun w hh => hmd12.out.storeP (κ := 2) (z := 12) (j := 0) (v := .string ⟨#[99]⟩) hh (fun w => by kernel_rfl) (by decide) (by decide) (by decide) rfl rfl) ?_
      refine Flow.at_write 1 RelP.refl rfl rfl rfl (by decide) ?_
      refine Flow.fld (m' := 3) RelP.refl rfl rfl rfl (fun _ => rfl) ?_
      refine Flow.store (LaidP gb R W' 2 13 3 (.string ⟨#[110, 105, 110, 101, 45, 98, 121, 116, 101]⟩)) rfl rfl rfl (fun _ => rfl) (hmd12.out.laidP rfl (by decide) (by decide) (by decide) rfl) (fun w hh => hmd12.out.storeP (κ := 2) (z := 13) (j := 3) (v := .string ⟨#[110, 105, 110, 101, 45, 98, 121, 116, 101]⟩) hh (fun w => by kernel_rfl) (by decide) (by decide) (by decide) rfl rfl) ?_
      intro a12 w12 hh12 hs12 hd12 hu12 _ hI12
      have HM12 := hide (hmd12.out.putP (L := [(2, 12, 0, .string ⟨#[99]⟩), (2, 13, 3, .string ⟨#[110, 105, 110, 101, 45, 98, 121, 116, 101]⟩)]) rfl hh12 (two_all hI12.1.2 hI12.2))
      have HG12 := hide (RelP.gr (HG11.out.drew) hh12 (by omega) (fun z hz => by have := HLOW.out z hz; omega) rfl)
      obtain ⟨X12, hX12, hlay12⟩ := Grow.lay_kept_by _ a12 152 _ hs12 hd12 hu12
      clear hX12 hu12 hd12 hs12 hh12 hI12 hmd12
      subst hlay12
      simp only [List.range, List.range.loop, List.map_cons, List.map_nil, List.contains_cons, List.contains_nil, Nat.reduceBEq, Bool.or_false, Bool.or_true, cond_false, cond_true, Array.getD_eq_getD_getElem?, List.getElem?_toArray, List.getElem?_cons_zero, List.getElem?_cons_succ, Option.getD_some]
      go_wp2_with fail
      have hmd13 := hide (HM12.out.drew_)
      have hgbB : gb < w12.heap.size := by
        obtain ⟨cs, hb, _⟩ := HM12.out.blk
        exact hb.lt
      obtain ⟨B, hB⟩ : ∃ B, w12.heap.size = B := ⟨_, rfl⟩
      rw [hB] at hgbB
      have KRs := hide (show Flow.Stays (HitG (HL gb R W' (L13 B)) (GL gb R W' (L13 B))) (RowN B 39 7 zRs) from RowN.stays (fun k hk => by rw [HL13 hk]; exact hgbB))
      have KWs := hide (show Flow.Stays (HitG (HL gb R W' (L13 B)) (GL gb R W' (L13 B))) (RowN B 41 5 zWs) from RowN.stays (fun k hk => by rw [HL13 hk]; exact hgbB))
      have HSZ := hide (show ∀ w', HitG (HL gb R W' (L13 B)) (GL gb R W' (L13 B)) w12.drew w' → B ≤ w'.heap.size from fun w' h => by have := h.size; rw [show w12.drew.heap.size = w12.heap.size from rfl] at this; omega)
      refine Flow.wp_region_flow_kept (R := HitG (HL gb R W' (L13 B)) (GL gb R W' (L13 B))) HitG.refl (HitG.trans (GL.stays (two_allK KRs.out KWs.out))) 152 [105, 106, 107, 108, 109, 110, 111, 112] rfl (by kernel_rfl) (by kernel_rfl) (by kernel_rfl) ?_
      refine Flow.move (u := .slice (some ⟨gb, 0, none⟩) 16 16) HitG.refl (.inl rfl) rfl rfl ?_
      refine Flow.move (u := .slice (some ⟨gb, 0, none⟩) 16 16) HitG.refl (.inl rfl) rfl rfl ?_
      refine Flow.step (RowN B 39 7 zRs) rfl KRs.out (fun a w' hh _ => by
        unfold Flow.does execOp
        simp only [show ∀ c, a.eval (.const c) = c from fun _ => rfl, Sem.run_bind, make_reads w']
        exact ⟨HitG.of_gr ((Gr.refl w').alloc _), _, _, _, rfl, Nat.le_refl _, HSZ.out w' hh, Bl.new w' _ _, made28⟩) ?_
      refine Flow.step (RowN B 41 5 zWs) rfl KWs.out (fun a w' hh _ => by
        unfold Flow.does execOp
        simp only [show ∀ c, a.eval (.const c) = c from fun _ => rfl, Sem.run_bind, make_writes w']
        exact ⟨HitG.of_gr ((Gr.refl w').alloc _), _, _, _, rfl, Nat.le_refl _, HSZ.out w' hh, Bl.new w' _ _, made15⟩) ?_
      refine Flow.at_txn 14 HitG.refl rfl rfl rfl (by decide) ?_
      refine Flow.fld (m' := 58) HitG.refl rfl rfl rfl (fun _ => rfl) ?_
      refine Flow.with2 (x := .tmp 110) (y := .tmp 107) (Ψ := Grow.Is (.pointer (some ⟨gb, 58, none⟩))) (Ψ' := RowN B 39 7 zRs) (LaidG (bk gb R W' 0 14) (ix 0 14 2) (ty 0) (RowN B 39 7 zRs)) rfl (by simp [Op.operands]) (by simp [Op.operands]) rfl rfl (LaidG.stays KRs.out (fun u w' hg => hmd13.out.only L13.fits (by decide) (by decide) (by decide) L13.one u w' hg)) (fun a w' hh h1 h2 => by
        have e1 : a.eval (.tmp 110) = .pointer (some ⟨gb, 58, none⟩) := h1
        obtain ⟨w2, h5, h6, h7⟩ := hmd13.out.store_ (κ := 0) (z := 14) (j := 2) (v := a.eval (.tmp 107)) (Ψ := RowN B 39 7 zRs) hh (tt := 25) (fun w => by kernel_rfl) (by decide) (by decide) (by decide) (rowN_plain h2) (List.mem_cons_self ..) (rowN_set h2 hgbB)
        have h5' : (Instr.storeAt 25 (.pointer (some ⟨gb, 58, none⟩)) (a.eval (.tmp 107))).run Try.prog w' = .ok () w2 := h5
        unfold Flow.does execOp
        simp only [e1, Sem.run_bind, h5']
        exact ⟨h6, h7⟩) ?_
      refine Flow.at_txn 15 HitG.refl rfl rfl rfl (by decide) ?_
      refine Flow.fld (m' := 63) HitG.refl rfl rfl rfl (fun _ => rfl) ?_
      refine Flow.with2 (x := .tmp 112) (y := .tmp 108) (Ψ := Grow.Is (.pointer (some ⟨gb, 63, none⟩))) (Ψ' := RowN B 41 5 zWs) (LaidG (bk gb R W' 0 15) (ix 0 15 3) (ty 0) (RowN B 41 5 zWs)) rfl (by simp [Op.operands]) (by simp [Op.operands]) rfl rfl (LaidG.stays KWs.out (fun u w' hg => hmd13.out.only L13.fits (by decide) (by decide) (by decide) L13.two u w' hg)) (fun a w' hh h1 h2 => by
        have e1 : a.eval (.tmp 112) = .pointer (some ⟨gb, 63, none⟩) := h1
        obtain ⟨w2, h5, h6, h7⟩ := hmd13.out.store_ (κ := 0) (z := 15) (j := 3) (v := a.eval (.tmp 108)) (Ψ := RowN B 41 5 zWs) hh (tt := 26) (fun w => by kernel_rfl) (by decide) (by decide) (by decide) (rowN_plain h2) (List.mem_cons_of_mem _ (List.mem_cons_self ..)) (rowN_set h2 hgbB)
        have h5' : (Instr.storeAt 26 (.pointer (some ⟨gb, 63, none⟩)) (a.eval (.tmp 108))).run Try.prog w' = .ok () w2 := h5
        unfold Flow.does execOp
        simp only [e1, Sem.run_bind, h5']
        exact ⟨h6, h7⟩) ?_
      intro a13 w13 hh13 hs13 hd13 hu13 _ hI13
      obtain ⟨_, v14, s14, r14, c14, cs14, rfl, hc14, hr14, hb14, hx14⟩ := hI13.1.2
      obtain ⟨_, v15, s15, r15, c15, cs15, rfl, hc15, hr15, hb15, hx15⟩ := hI13.2
      have HM13 := hide (hmd13.out.put L13.fits hh13 [(0, 14, 2, .slice (some ⟨r14, 0, none⟩) 7 c14), (0, 15, 3, .slice (some ⟨r15, 0, none⟩) 5 c15)] rfl (two_all ⟨_, s14⟩ ⟨_, s15⟩))
      have hgb3 : W3.heap.size ≤ gb := by omega
      have hgr13 : Gr W3 w13 := HitG.gr (HG12.out.drew) hh13 (fun k hk => by rw [HL13 hk]; exact hgb3)
      have hrow14 : RowAt 4 w13 (.slice (some ⟨r14, 0, none⟩) 7 c14) ((List.replicate 7 zR).map rdC) := row_sees (t := 39) (fun x hx => by
        obtain ⟨y, _, rfl⟩ := List.mem_map.1 hx
        rfl) rfl hc14 (fun i u h => ⟨cs14, hb14, hx14 i u h⟩)
      have hrow15 : RowAt 3 w13 (.slice (some ⟨r15, 0, none⟩) 5 c15) ((List.replicate 5 zW).map wrC) := row_sees (t := 41) (fun x hx => by
        obtain ⟨y, _, rfl⟩ := List.mem_map.1 hx
        rfl) rfl hc15 (fun i u h => ⟨cs15, hb15, hx15 i u h⟩)
      have HBAD := hide (bads_at HM13.out HBD.out hrow14 hrow15)
      obtain ⟨X13, hX13, hlay13⟩ := Grow.lay_kept_by _ a13 152 _ hs13 hd13 hu13
      clear hX13 hu13 hd13 hs13 hh13 hI13 hmd13 hrow14 hrow15 s14 s15 hb14 hb15 hx14 hx15 hr14 hr15 hc14 hc15 KRs KWs HSZ HM13 HM12 HM11 HM10 HM9 HG9 HG10 HG11 HG12
      subst hlay13
      simp only [List.range, List.range.loop, List.map_cons, List.map_nil, List.contains_cons, List.contains_nil, Nat.reduceBEq, Bool.or_false, Bool.or_true, cond_false, cond_true, Array.getD_eq_getD_getElem?, List.getElem?_toArray, List.getElem?_cons_zero, List.getElem?_cons_succ, Option.getD_some]
      go_wp2_with fail
      have HGT := hide (good_at (HR1.out.gr hgr13) (HR2.out.gr hgr13))
      have HG0 := hide (HW3.out.gr hgr13)
      have hg013 := hg03.trans hgr13
      go_loopw [4] (fun i wr => ∃ k : Nat, i = .int .i64 k ∧ k ≤ 16 ∧ Gr w13 wr) (fun i _ => 16 - (intOf i).toNat)
      case atStart => exact ⟨0, rfl, by omega, Gr.refl _⟩
      case round =>
        obtain ⟨k, rfl, hk, hgz⟩ := hrel
        by_cases hlt : k < 16
        · have hlt' : (k : Int) < 16 := by omega
          obtain ⟨ta, tb, tA, tn, tc, tB, tm, td, q0, q1, q2, q3, htx⟩ := (HBAD.out k hlt).is
          have hbn := bad_at k hlt
          have hbl := hide (bad_lim k hlt)
          have HTX := hide htx
          have HLD := hide (show ∀ w', Gr wr.drew w' → (Instr.loadAt 28 (.pointer (some ⟨gb, 4 * k, none⟩))).run Try.prog w' = .ok (.agg #[.int .i64 ta, .int .i64 tb, .slice tA tn tc, .slice tB tm td]) w' from fun w' hg => load_txn (q0.gr (hgz.drew.trans hg)) (q1.gr (hgz.drew.trans hg)) (q2.gr (hgz.drew.trans hg)) (q3.gr (hgz.drew.trans hg)))
          have HC1 := hide (fun w' (h : Gr wr.drew w') => TxMay_ok _ _ w' (HTX.out.gr (hgz.drew.trans h)) hbl.out)
          have HC2 := hide (fun w' (h : Gr wr.drew w') => TxPut_ok _ _ w' (HTX.out.gr (hgz.drew.trans h)) hbl.out)
          have HC3 := hide (fun w' (h : Gr wr.drew w') => TxSame_ok _ _ _ _ w' (HTX.out.gr (hgz.drew.trans h)) (HGT.out.gr (hgz.drew.trans h)) hbl.out good_lim)
          rw [hbn.1] at HC1
          rw [show putTx (bads.getD k goodT) = [] from by unfold putTx; rw [hbn.1]; rfl] at HC2
          rw [hbn.2] at HC3
          clear hbn htx q0 q1 q2 q3
          go_wp2_with fail
          refine Grow.wp_region_kept 152 [119, 120, 121, 122, 123, 124, 125, 126, 127, 128, 129, 130, 131, 132, 133, 134, 135, 136, 137, 138, 139, 140] rfl (by kernel_rfl) (by kernel_rfl) (by kernel_rfl) (Grow.Ahead.more (Grow.Ahead.more (Grow.Ahead.more (Grow.Ahead.none_ _ _) 1 (Grow.Is.stays (.pointer (some ⟨g0, 0, none⟩))) rfl) 2 (Grow.Is.stays (.slice (some ⟨gb, 0, none⟩) 16 16)) rfl) 4 (Grow.Is.stays (.int .i64 (k : Int))) rfl) ?_
          refine Grow.grow_mv (.inl rfl) (.inl ⟨rfl, rfl⟩) rfl ?_
          refine Grow.grow_mv (.inl rfl) (.inl ⟨rfl, rfl⟩) rfl ?_
          refine Grow.grow_val2 (x := .tmp 119) (y := .tmp 120) (.pointer (some ⟨gb, 4 * k, none⟩)) (.inl ⟨rfl, rfl⟩) (by simp [Op.operands]) (by simp [Op.operands]) rfl rfl (fun a w' _ h h2 => by
            unfold execOp
            simp only [h, h2, Sem.run_bind, at_txn w' hlt]
            rfl) ?_
          refine Grow.grow_val1 (x := .tmp 121) (.agg #[.int .i64 ta, .int .i64 tb, .slice tA tn tc, .slice tB tm td]) (.inl ⟨rfl, rfl⟩) (by simp [Op.operands]) rfl (fun a w' hh h => by
            unfold execOp
            simp only [h, Sem.run_bind, HLD.out w' hh]
            rfl) ?_
          refine Grow.grow_call1 (Φ := Grow.Is (.bool false)) rfl (.inl ⟨rfl, rfl⟩) Try.func11 (by kernel_rfl) (by kernel_rfl) (Ψ := Grow.Is (.agg #[.int .i64 ta, .int .i64 tb, .slice tA tn tc, .slice tB tm td])) rfl (Grow.Is.stays _) (fun v w' hg hv => by
            obtain rfl : v = _ := hv
            exact (HC1.out w' hg).mono fun e w1 ⟨he, hg1⟩ => ⟨_, he, hg1, rfl⟩) ?_
          refine Grow.grow_mv (.inl rfl) (.inl ⟨rfl, rfl⟩) rfl ?_
          refine Grow.grow_mv (.inl rfl) (.inr ⟨5, false, 124, rfl, rfl, rfl, by decide⟩) rfl ?_
          refine Grow.grow_mv (.inl rfl) (.inr ⟨5, false, 124, rfl, rfl, rfl, by decide⟩) rfl ?_
          refine Grow.grow_val2 (x := .tmp 125) (y := .tmp 126) (.pointer (some ⟨gb, 4 * k, none⟩)) (.inr ⟨5, false, 124, rfl, rfl, rfl, by decide⟩) (by simp [Op.operands]) (by simp [Op.operands]) rfl rfl (fun a w' _ h h2 => by
            unfold execOp
            simp only [h, h2, Sem.run_bind, at_txn w' hlt]
            rfl) ?_
          refine Grow.grow_val1 (x := .tmp 127) (.agg #[.int .i64 ta, .int .i64 tb, .slice tA tn tc, .slice tB tm td]) (.inr ⟨5, false, 124, rfl, rfl, rfl, by decide⟩) (by simp [Op.operands]) rfl (fun a w' hh h => by
            unfold execOp
            simp only [h, Sem.run_bind, HLD.out w' hh]
            rfl) ?_
          refine Grow.grow_call1 (Φ := Grow.Sl []) rfl (.inr ⟨5, false, 124, rfl, rfl, rfl, by decide⟩) Try.func10 (by kernel_rfl) (by kernel_rfl) (Ψ := Grow.Is (.agg #[.int .i64 ta, .int .i64 tb, .slice tA tn tc, .slice tB tm td])) rfl (Grow.Sl.stays _) (fun v w' hg hv => by
            obtain rfl : v = _ := hv
            exact (HC2.out w' hg).mono fun e w1 ⟨A5, c5, he, hb5, hg1⟩ => ⟨_, he, hg1, A5, c5, rfl, hb5⟩) ?_
          refine Grow.grow_len_sl rfl Try.underlying22 (.inr ⟨5, false, 124, rfl, rfl, rfl, by decide⟩) rfl ?_
          refine Grow.grow_int (c := .bool false) rfl (.inr ⟨5, false, 124, rfl, rfl, rfl, by decide⟩) rfl (fun _ => rfl) rfl ?_
          refine Grow.grow_pick_no (Φ := Grow.Is (.bool false)) rfl (.inl ⟨rfl, rfl⟩) rfl rfl (Grow.Is.stays _) ?_
          refine Grow.grow_mv (.inl rfl) (.inl ⟨rfl, rfl⟩) rfl ?_
          refine Grow.grow_mv (.inl rfl) (.inr ⟨14, false, 133, rfl, rfl, rfl, by decide⟩) rfl ?_
          refine Grow.grow_mv (.inl rfl) (.inr ⟨14, false, 133, rfl, rfl, rfl, by decide⟩) rfl ?_
          refine Grow.grow_val2 (x := .tmp 134) (y := .tmp 135) (.pointer (some ⟨gb, 4 * k, none⟩)) (.inr ⟨14, false, 133, rfl, rfl, rfl, by decide⟩) (by simp [Op.operands]) (by simp [Op.operands]) rfl rfl (fun a w' _ h h2 => by
            unfold execOp
            simp only [h, h2, Sem.run_bind, at_txn w' hlt]
            rfl) ?_
          refine Grow.grow_val1 (x := .tmp 136) (.agg #[.int .i64 ta, .int .i64 tb, .slice tA tn tc, .slice tB tm td]) (.inr ⟨14, false, 133, rfl, rfl, rfl, by decide⟩) (by simp [Op.operands]) rfl (fun a w' hh h => by
            unfold execOp
            simp only [h, Sem.run_bind, HLD.out w' hh]
            rfl) ?_
          refine Grow.grow_val1 (x := .tmp 1) (.agg #[.int .i64 9, .int .i64 1000, .slice (some ⟨g1, 0, none⟩) 2 2, .slice (some ⟨g2, 0, none⟩) 2 2]) (.inr ⟨14, false, 133, rfl, rfl, rfl, by decide⟩) (by simp [Op.operands]) rfl (fun a w' hh h => by
            have hb := HG0.out.gr (hgz.drew.trans hh)
            unfold execOp
            simp only [h, Sem.run_bind, ld_txn w' hb]
            rfl) ?_
          refine Grow.grow_call2 (Φ := Grow.Is (.bool false)) rfl (.inr ⟨14, false, 133, rfl, rfl, rfl, by decide⟩) Try.func14 (by kernel_rfl) (by kernel_rfl) (Ψ := Grow.Is (.agg #[.int .i64 ta, .int .i64 tb, .slice tA tn tc, .slice tB tm td])) (Ψ' := Grow.Is (.agg #[.int .i64 9, .int .i64 1000, .slice (some ⟨g1, 0, none⟩) 2 2, .slice (some ⟨g2, 0, none⟩) 2 2])) rfl rfl (Grow.Is.stays _) (fun v u w' hg hv hu => by
            obtain rfl : v = _ := hv
            obtain rfl : u = _ := hu
            exact (HC3.out w' hg).mono fun e w1 ⟨he, hg1⟩ => ⟨_, he, hg1, rfl⟩) ?_
          refine Grow.grow_pick_no (Φ := Grow.Is (.bool false)) rfl (.inl ⟨rfl, rfl⟩) rfl rfl (Grow.Is.stays _) ?_
          intro az w5 hgz5 hsz hdz huz hkz
          have h140 : az.tmps.getD 140 undef = .bool false := hkz 140
          have hgn := hgz.drew.trans hgz5
          obtain ⟨X, hX, hlay⟩ := Grow.lay_kept_by _ az 152 _ hsz hdz huz
          rw [hX] at h140
          clear hX huz hdz hsz hkz hgz5 HLD HC1 HC2 HC3 HTX hbl
          subst hlay
          simp only [List.range, List.range.loop, List.map_cons, List.map_nil, List.contains_cons, List.contains_nil, Nat.reduceBEq, Bool.or_false, Bool.or_true, cond_false, cond_true, Array.getD_eq_getD_getElem?, List.getElem?_toArray, List.getElem?_cons_zero, List.getElem?_cons_succ, Option.getD_some, h140]
          go_wp2_with fail
          go_roundw
          case rel => exact ⟨k + 1, by go_num, by omega, hgn⟩
          case measure => simp [intOf]; omega
        · obtain rfl : k = 16 := by omega
          have HBG := hide (HG0.out.gr hgz)
          have HGW := hide (HGT.out.gr hgz)
          have CM := hide (TxMay_ok _ _ wr HGW.out good_lim)
          rw [good_may] at CM
          have CS := hide (fun w' (hg : Gr wr w') => TxSame_ok _ _ _ _ w' (HGW.out.gr hg) (HGW.out.gr hg) good_lim good_lim)
          rw [decide_eq_true rfl] at CS
          have CN := hide (fun w' => TxMay_ok _ _ w' (one2_at w') one2_lim)
          rw [one2_may] at CN
          have c0 : wr.cell? ⟨g0, 0, none⟩ = some (.int .i64 9) := HBG.out.cell 0
          have c1 : wr.cell? ⟨g0, 1, none⟩ = some (.int .i64 1000) := HBG.out.cell 1
          have c2 : wr.cell? ⟨g0, 2, none⟩ = some (.slice (some ⟨g1, 0, none⟩) 2 2) := HBG.out.cell 2
          have c3 : wr.cell? ⟨g0, 3, none⟩ = some (.slice (some ⟨g2, 0, none⟩) 2 2) := HBG.out.cell 3
          go_wp2_with fail
          refine CM.out.mono ?_
          rintro e w15 ⟨rfl, hg15⟩
          replace c0 : w15.cell? ⟨g0, 0, none⟩ = some (.int .i64 9) := (HBG.out.gr hg15).cell 0
          replace c1 : w15.cell? ⟨g0, 1, none⟩ = some (.int .i64 1000) := (HBG.out.gr hg15).cell 1
          replace c2 : w15.cell? ⟨g0, 2, none⟩ = some (.slice (some ⟨g1, 0, none⟩) 2 2) := (HBG.out.gr hg15).cell 2
          replace c3 : w15.cell? ⟨g0, 3, none⟩ = some (.slice (some ⟨g2, 0, none⟩) 2 2) := (HBG.out.gr hg15).cell 3
          clear CM
          go_wp2_with fail
          refine (CS.out _ hg15).mono ?_
          rintro e w16 ⟨rfl, hg16⟩
          clear CS c0 c1 c2 c3
          go_wp2_with fail
          refine (CN.out _).mono ?_
          rintro e w17 ⟨rfl, hg17⟩
          clear CN
          go_wp2_with fail
          go_ret
          exact ⟨rfl, (((hg013.trans hgz).trans hg15).trans hg16).trans hg17⟩

end Go.Proofs.Ytjpdhijhmpdbnaa
