/-
  The law's begun, by its contract.
-/
import Derived.Test.YthpaoeiackbdoaaRfProp
import Derived.Test.YthpaoeiackbdoaaRfFullMath
import Derived.Deep.Cut
namespace Go.Proofs.Ythpaoeiackbdoaa
open Go Go.RowKit TxnMath KeyMath MsgMath BalMath RfMath
set_option maxRecDepth 100000

theorem good_of {r : RaftT} (h1 : r.log.length ≤ 10000) (h2 : ∀ e ∈ r.log, EntBnd e) (h3 : r.votes.length ≤ 10000) (h4 : r.next.length ≤ 10000) (h5 : r.mtch.length ≤ 10000) (h6 : r.term < 1152921504606846976) (h7 : ∀ x ∈ r.next, 0 ≤ x ∧ x ≤ 1152921504606846976) (h8 : ∀ x ∈ r.mtch, 0 ≤ x ∧ x ≤ 1000000) : RfGood r :=
  ⟨⟨h1, h2, h3, h4, h5⟩, h6, h7, h8⟩
theorem seal_bnd (t : Int) : EntBnd (sealT t) := ⟨Nat.zero_le _, Nat.zero_le _⟩
theorem good_bg0 : RfGood bg0 := good_of (by decide) (by simp [bg0]) (by decide) (by decide) (by decide) (by decide) (by simp [bg0]) (by simp [bg0])
theorem good_bg1 : RfGood bg1 := good_of (by decide) (by simp [bg1]) (by decide) (by decide) (by decide) (by decide) (by simp [bg1]) (by simp [bg1])
theorem good_bg2 : RfGood bg2 := good_of (by decide) (by simp [bg2, seal_bnd]) (by decide) (by decide) (by decide) (by decide) (by simp [bg2]) (by simp [bg2])

set_option maxHeartbeats 4000000 in
theorem begun_ok (w : World) : Calls Try.prog 11 #[] w fun e w' => e = .returned (.bool true) ∧ Gr w w' := by
  go_enter Try.func11, Try.ntmps11
  go_wp2_with fail
  refine (New_ok _ 1 1 2).mono ?_
  rintro e w1 ⟨v1, rfl, hN⟩
  have hg1 := hN.gr
  rw [bg_new] at hN
  obtain ⟨R1, rfl, hin1⟩ := hN.ins
  have hone1 := hin1.x.ones
  clear hN
  go_wp2_with (refine wpList_newBox (r := bg0) (R := R1) rfl rfl rfl rfl rfl rfl (fun _ => rfl) (fun _ => rfl) hone1 ?_)
  intro W1 hb1 hgr1
  have HB1 : Hid (BoxR W1 w1.heap.size bg0 R1) := hide ⟨hb1, _, _, hin1.gr hgr1, .inr (Nat.le_refl _)⟩
  have HG1 := hide (hg1.trans hgr1)
  generalize w1.heap.size = b1 at HB1 ⊢
  clear hin1 hone1 hb1 hgr1 hg1
  go_wp2_with (refine wpList_ldBox (r := bg0) (R := R1) rfl rfl rfl HB1.out.bl ?_)
  refine (Tick_ok _ bg0 R1 HB1.out.x good_bg0).mono ?_
  rintro e w2 ⟨v2, u2, rfl, hT⟩
  have hg2 := hT.gr
  rw [bg_tick1] at hT
  obtain ⟨R2, rfl, hin2, hout2⟩ := hT.ins
  have hone2 := hin2.x.ones
  obtain ⟨A2, c2, rfl⟩ := hout2.x.is
  clear hT hout2
  go_wp2_with (refine wpList_newBox (r := bg1) (R := R2) rfl rfl rfl rfl rfl rfl (fun _ => rfl) (fun _ => rfl) hone2 ?_)
  intro W2 hb2 hgr2
  have HB2 : Hid (BoxR W2 w2.heap.size bg1 R2) := hide ⟨hb2, _, _, hin2.gr hgr2, .inr (Nat.le_refl _)⟩
  have HB1 := hide (HB1.out.gr (hg2.trans hgr2))
  have HG2 := hide (HG1.out.trans (hg2.trans hgr2))
  generalize w2.heap.size = b2 at HB2 ⊢
  clear hin2 hone2 hb2 hgr2 hg2 HG1
  go_wp2_with (refine wpList_ldBox (r := bg1) (R := R2) rfl rfl rfl HB2.out.bl ?_)
  refine (Tick_ok _ bg1 R2 HB2.out.x good_bg1).mono ?_
  rintro e w3 ⟨v3, u3, rfl, hT⟩
  have hg3 := hT.gr
  rw [bg_tick2] at hT
  obtain ⟨R3, rfl, hin3, hout3⟩ := hT.ins
  have hone3 := hin3.x.ones
  obtain ⟨A3, c3, rfl⟩ := hout3.x.is
  clear hT hout3
  go_wp2_with (refine wpList_newBox (r := bg2) (R := R3) rfl rfl rfl rfl rfl rfl (fun _ => rfl) (fun _ => rfl) hone3 ?_)
  intro W3 hb3 hgr3
  have HB3 : Hid (BoxR W3 w3.heap.size bg2 R3) := hide ⟨hb3, _, _, hin3.gr hgr3, .inr (Nat.le_refl _)⟩
  have HB1 := hide (HB1.out.gr (hg3.trans hgr3))
  have HB2 := hide (HB2.out.gr (hg3.trans hgr3))
  have HG3 := hide (HG2.out.trans (hg3.trans hgr3))
  generalize w3.heap.size = b3 at HB3 ⊢
  clear hin3 hone3 hb3 hgr3 hg3 HG2
  go_wp2_with (refine wpList_ldBox (r := bg2) (R := R3) rfl rfl rfl HB3.out.bl ?_)
  refine (Propose_ok _ bg2 R3 HB3.out.x good_bg2 ⟨0, true, noTxn⟩ (.slice none 0 0, .slice none 0 0) (RowsX.none_ _ _) ⟨Nat.zero_le _, Nat.zero_le _⟩).mono ?_
  rintro e w4 ⟨v4, u4, rfl, hT⟩
  have hg4 := hT.gr
  rw [bg_prop.1] at hT
  rw [bg_prop.2]
  obtain ⟨R4, rfl, hin4, hout4⟩ := hT.ins
  have hone4 := hin4.x.ones
  obtain ⟨A4, c4, rfl⟩ := hout4.x.is
  clear hT hout4
  go_wp2_with (refine wpList_newBox (r := bg3) (R := R4) rfl rfl rfl rfl rfl rfl (fun _ => rfl) (fun _ => rfl) hone4 ?_)
  intro W4 hb4 hgr4
  have HB4 : Hid (BoxR W4 w4.heap.size bg3 R4) := hide ⟨hb4, _, _, hin4.gr hgr4, .inr (Nat.le_refl _)⟩
  have HB1 := hide (HB1.out.gr (hg4.trans hgr4))
  have HB2 := hide (HB2.out.gr (hg4.trans hgr4))
  have HB3 := hide (HB3.out.gr (hg4.trans hgr4))
  have HG4 := hide (HG3.out.trans (hg4.trans hgr4))
  generalize w4.heap.size = b4 at HB4 ⊢
  clear hin4 hone4 hb4 hgr4 hg4 HG3
  go_wp2_with (refine wpList_ldBox (r := bg1) (R := R2) rfl rfl rfl HB2.out.bl ?_)
  refine (Propose_ok _ bg1 R2 HB2.out.x good_bg1 ⟨0, true, noTxn⟩ (.slice none 0 0, .slice none 0 0) (RowsX.none_ _ _) ⟨Nat.zero_le _, Nat.zero_le _⟩).mono ?_
  rintro e w5 ⟨v5, u5, rfl, hT⟩
  have hg5 := hT.gr
  rw [bg_no.1] at hT
  rw [bg_no.2]
  obtain ⟨R5, rfl, hin5, hout5⟩ := hT.ins
  have hone5 := hin5.x.ones
  obtain ⟨A5, c5, rfl⟩ := hout5.x.is
  clear hT hout5
  go_wp2_with (refine wpList_newBox (r := bg1) (R := R5) rfl rfl rfl rfl rfl rfl (fun _ => rfl) (fun _ => rfl) hone5 ?_)
  intro W5 _ hgr5
  have HB1 := hide (HB1.out.gr (hg5.trans hgr5))
  have HB2 := hide (HB2.out.gr (hg5.trans hgr5))
  have HB3 := hide (HB3.out.gr (hg5.trans hgr5))
  have HB4 := hide (HB4.out.gr (hg5.trans hgr5))
  have HG5 := hide (HG4.out.trans (hg5.trans hgr5))
  clear hin5 hone5 hgr5 hg5 HG4
  go_upto_region 6 with (fail)
  refine wp_region_list ?_
  rw [List.toList_toArray]
  refine wpList_ldBox (r := bg0) (R := R1) rfl rfl rfl HB1.out.bl ?_
  simp only [Act.put, List.setIfInBounds_toArray, List.set_cons_zero, List.set_cons_succ]
  go_wp2_with fail
  refine (May_ok _ bg0 R1 HB1.out.x good_bg0.toRfSz).mono ?_
  rintro e w6 ⟨rfl, hg6⟩
  rw [bg_may]
  have HB2 := hide (HB2.out.gr hg6)
  have HB3 := hide (HB3.out.gr hg6)
  have HB4 := hide (HB4.out.gr hg6)
  have HG6 := hide (HG5.out.trans hg6)
  clear hg6 HG5 HB1
  obtain ⟨L3, d3, hl3⟩ := HB3.out.x.l.is
  obtain ⟨L4, d4, hl4⟩ := HB4.out.x.l.is
  have q12 : w6.cell? ⟨b2, 12, none⟩ = some (.int .i64 1) := HB2.out.bl.cell 12
  have r7 : w6.cell? ⟨b3, 7, none⟩ = some (.int .i64 2) := HB3.out.bl.cell 7
  have r3 : w6.cell? ⟨b3, 3, none⟩ = some (.int .i64 1) := HB3.out.bl.cell 3
  have r5 : w6.cell? ⟨b3, 5, none⟩ = some (.slice L3 1 d3) := (HB3.out.bl.cell 5).trans (congrArg some hl3)
  have r6 : w6.cell? ⟨b3, 6, none⟩ = some (.int .i64 1) := HB3.out.bl.cell 6
  have s5 : w6.cell? ⟨b4, 5, none⟩ = some (.slice L4 2 d4) := (HB4.out.bl.cell 5).trans (congrArg some hl4)
  have s6 : w6.cell? ⟨b4, 6, none⟩ = some (.int .i64 2) := HB4.out.bl.cell 6
  clear hl3 hl4
  go_wp2_with (first | refine wpList_ldBoxG (r := bg1) (R := R2) rfl rfl rfl HB2.out.bl ?_ | refine wpList_ldBoxG (r := bg2) (R := R3) rfl rfl rfl HB3.out.bl ?_)
  refine (SameR_ok _ bg1 bg1 R2 R2 HB2.out.x HB2.out.x good_bg1.toRfSz good_bg1.toRfSz).mono ?_
  rintro e w7 ⟨rfl, hg7⟩
  rw [bg_same]
  have HB2 := hide (HB2.out.gr hg7)
  have HB3 := hide (HB3.out.gr hg7)
  have HG7 := hide (HG6.out.trans hg7)
  clear hg7 HG6 HB4 q12 r7 r3 r5 r6 s5 s6
  go_wp2_with (first | refine wpList_ldBoxG (r := bg1) (R := R2) rfl rfl rfl HB2.out.bl ?_ | refine wpList_ldBoxG (r := bg2) (R := R3) rfl rfl rfl HB3.out.bl ?_)
  refine (SameR_ok _ bg1 bg2 R2 R3 HB2.out.x HB3.out.x good_bg1.toRfSz good_bg2.toRfSz).mono ?_
  rintro e w8 ⟨rfl, hg8⟩
  rw [bg_unlike]
  go_wp2_with fail
  go_ret
  exact ⟨rfl, HG7.out.trans hg8⟩
end Go.Proofs.Ythpaoeiackbdoaa
