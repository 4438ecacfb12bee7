/-
  The walk of 'RaftFull'.
-/
import Derived.Test.YthpaoeiackbdoaaRfBegun
import Derived.Test.YthpaoeiackbdoaaRfRefMay
namespace Go.Proofs.Ythpaoeiackbdoaa
open Go Go.RowKit TxnMath KeyMath MsgMath BalMath RfMath
set_option maxRecDepth 100000

theorem byte_nat {a : Int} (h : (Lit.int .u8 a).wf = true) : ∃ k : Nat, a = (k : Int) ∧ k < 256 := by
  have h0 : 0 ≤ a ∧ a ≤ 255 := by simpa [Lit.wf, IntKind.min, IntKind.max, IntKind.signed, IntKind.bits] using h
  exact ⟨a.toNat, by omega, by omega⟩
/-- tick by tick -/
def waitK : Nat → RaftT
  | 0 => new1
  | 1 => wait1
  | 2 => wait2
  | _ => aloneR 1
theorem tick_wait {k : Nat} (h : k < 3) : tickT (waitK k) = ⟨waitK (k + 1), []⟩ := by
  obtain rfl | rfl | rfl : k = 0 ∨ k = 1 ∨ k = 2 := by omega
  · exact tick1
  · exact tick2
  · exact tick3
theorem good_alone (k : Nat) (hk : k ≤ 200) : RfGood (aloneR k) := by
  refine good_of ?_ ?_ (by simp [aloneR]) (by simp [aloneR]) (by simp [aloneR]) (by simp [aloneR]) ?_ ?_
  · simp [aloneR]; omega
  · intro e he
    simp only [aloneR, List.mem_replicate] at he
    rw [he.2]
    exact seal_bnd 1
  · simp [aloneR]
  · simp [aloneR]; omega
theorem good_wait (k : Nat) : RfGood (waitK k) := by
  match k with
  | 0 => exact good_of (by simp [waitK, new1]) (by simp [waitK, new1]) (by simp [waitK, new1]) (by simp [waitK, new1]) (by simp [waitK, new1]) (by simp [waitK, new1]) (by simp [waitK, new1]) (by simp [waitK, new1])
  | 1 => exact good_of (by simp [waitK, wait1]) (by simp [waitK, wait1]) (by simp [waitK, wait1]) (by simp [waitK, wait1]) (by simp [waitK, wait1]) (by simp [waitK, wait1]) (by simp [waitK, wait1]) (by simp [waitK, wait1])
  | 2 => exact good_of (by simp [waitK, wait2]) (by simp [waitK, wait2]) (by simp [waitK, wait2]) (by simp [waitK, wait2]) (by simp [waitK, wait2]) (by simp [waitK, wait2]) (by simp [waitK, wait2]) (by simp [waitK, wait2])
  | k + 3 => exact good_alone 1 (by decide)

set_option maxHeartbeats 4000000 in
theorem walk_RaftFull (w : World) (a0 : Int) (h0 : (Lit.int .u8 a0).wf = true) : Calls Try.prog 10 #[.int .u8 a0] w fun e w' => e = .returned (.bool true) ∧ Gr w w' := by
  obtain ⟨n, rfl, hn⟩ := byte_nat h0
  have HBE := hide begun_ok
  have hcv : IntKind.i64.wrap (n : Int) = (n : Int) := by rw [IntKind.wrap_i64]; omega
  clear h0
  go_enter Try.func10, Try.ntmps10
  go_wp2_with fail
  refine (HBE.out _).mono ?_
  rintro e w0 ⟨rfl, hg0⟩
  go_wp2_with fail
  refine (New_ok _ 1 1 3).mono ?_
  rintro e w1 ⟨v1, rfl, hN⟩
  have hg1 := hN.gr
  rw [new1_is] at hN
  obtain ⟨R1, rfl, hin1⟩ := hN.ins
  have hone1 := hin1.x.ones
  clear hN HBE
  go_wp2_with (refine wpList_newBox (r := new1) (R := R1) rfl rfl rfl rfl rfl rfl (fun _ => rfl) (fun _ => rfl) hone1 ?_)
  intro W1 hb1 hgr1
  have HB1 : Hid (BoxR W1 w1.heap.size new1 R1) := hide ⟨hb1, _, _, hin1.gr hgr1, .inr (Nat.le_refl _)⟩
  have HG1 := hide ((hg0.trans hg1).trans hgr1)
  have hbW : w.heap.size ≤ w1.heap.size := (hg0.trans hg1).size
  generalize w1.heap.size = b1 at HB1 hbW ⊢
  clear hin1 hone1 hb1 hgr1 hg1 hg0
  go_wp2_with fail
  go_loopw [4] (fun i wr => ∃ (k : Nat) (R : RowsM), i = .int .i64 k ∧ k ≤ 3 ∧ Hid (BoxR wr b1 (waitK k) R) ∧ Hid (Gr w wr)) (fun i _ => 3 - (intOf i).toNat)
  case atStart => exact ⟨0, R1, rfl, by omega, HB1, HG1⟩
  case round =>
    obtain ⟨k, R, rfl, hk, HB, HG⟩ := hrel
    by_cases hlt : k < 3
    · have hlt' : (k : Int) < 3 := by omega
      have HT := hide (Tick_ok _ (waitK k) R HB.out.x (good_wait k))
      rw [tick_wait hlt] at HT
      have hbl := HB.out.bl.lt
      go_wp2_with (refine wpList_ldBox (r := waitK k) (R := R) rfl rfl rfl HB.out.bl ?_)
      refine HT.out.mono ?_
      rintro e w2 ⟨v2, u2, rfl, hT⟩
      have hg2 := hT.gr
      obtain ⟨R2, rfl, hin2, hout2⟩ := hT.ins
      have hone2 := hin2.x.ones
      have hbo := HB.out.bl.gr hg2
      obtain ⟨A2, c2, rfl⟩ := hout2.x.is
      clear hT hout2 HT
      go_wp2_with (refine wpList_setBox (r := waitK (k + 1)) (R := R2) rfl rfl rfl rfl rfl hbo rfl hone2 ?_)
      intro W2 hb2 hu2
      have HB2 : Hid (BoxR W2 b1 (waitK (k + 1)) R2) := hide ⟨hb2, _, _, hin2.but hu2 (.inl hbl), .inl hbl⟩
      have HG2 := hide ((HG.out.trans hg2).fresh_ hu2 hbW)
      clear hb2 hu2 hin2 hone2 hbo HB HG hg2
      go_wp2_with fail
      go_roundw
      case rel => exact ⟨k + 1, R2, by go_num, by omega, HB2, HG2⟩
      case measure => simp [intOf]; omega
    · obtain rfl : k = 3 := by omega
      have HB := hide (show BoxR wr b1 (aloneR (min (1 + 0) 200)) R from HB.out)
      rw [show ((3 : Nat) : Int) = 3 from rfl]
      go_wp2_with fail
      go_loopw [5] (fun i wr => ∃ (k : Nat) (R : RowsM), i = .int .i64 k ∧ k ≤ n ∧ Hid (BoxR wr b1 (aloneR (min (1 + k) 200)) R) ∧ Hid (Gr w wr)) (fun i _ => n - (intOf i).toNat)
      case atStart => exact ⟨0, R, rfl, by omega, HB, HG⟩
      case round =>
        obtain ⟨j, R, rfl, hj, HB, HG⟩ := hrel
        obtain ⟨m, hm⟩ : ∃ m, min (1 + j) 200 = m := ⟨_, rfl⟩
        have hm200 : m ≤ 200 := by omega
        rw [hm] at HB
        have hbl := HB.out.bl.lt
        obtain ⟨L1, d1, hl1⟩ := HB.out.x.l.is
        rw [show (aloneR m).log.length = m by simp [aloneR]] at hl1
        by_cases hlt : j < n
        · have hlt' : (j : Int) < (n : Int) := by omega
          have HP := hide (Propose_ok _ (aloneR m) R HB.out.x (good_alone m hm200) ⟨0, true, noTxn⟩ (.slice none 0 0, .slice none 0 0) (RowsX.none_ _ _) ⟨Nat.zero_le _, Nat.zero_le _⟩)
          rw [(prop_alone m hm200).1, (prop_alone m hm200).2] at HP
          obtain ⟨q, hq⟩ : ∃ q, (if m < 200 then m + 1 else m) = q := ⟨_, rfl⟩
          rw [hq] at HP
          have hq2 : min (1 + (j + 1)) 200 = q := by split at hq <;> omega
          have hq200 : q ≤ 200 := by omega
          obtain ⟨ok, hok⟩ : ∃ ok, decide (m < 200) = ok := ⟨_, rfl⟩
          have hok' : decide ((m : Int) < 200) = ok := by rw [← hok]; exact decide_eq_decide.2 (by omega)
          rw [hok] at HP
          have HM := hide (fun W R (h : RaftR Any W (aloneR q) R) => RefMayYes W (aloneR q) R h (may_alone q hq200))
          go_wp2_with (refine wpList_ldBox (r := aloneR m) (R := R) rfl rfl rfl HB.out.bl ?_)
          refine HP.out.mono ?_
          rintro e w2 ⟨v2, u2, rfl, hT⟩
          have hg2 := hT.gr
          obtain ⟨R2, rfl, hin2, hout2⟩ := hT.ins
          have hone2 := hin2.x.ones
          obtain ⟨A2, c2, rfl⟩ := hout2.x.is
          clear hT hout2 HP
          go_wp2_with (refine wpList_newBox (r := aloneR q) (R := R2) rfl rfl rfl rfl rfl rfl (fun _ => rfl) (fun _ => rfl) hone2 ?_)
          intro W2 hb2 hgr2
          have hin2' := hin2.gr hgr2
          have HBo := hide (HB.out.gr (hg2.trans hgr2))
          have HB6 := hide hb2
          have HIN := hide hin2'
          have HG2 := hide (HG.out.trans (hg2.trans hgr2))
          have l5 : W2.cell? ⟨b1, 5, none⟩ = some (.slice L1 m d1) := (HBo.out.bl.cell 5).trans (congrArg some hl1)
          generalize w2.heap.size = b6 at HB6 HIN ⊢
          clear hb2 hgr2 hin2 hin2' hg2 HB HG hl1
          have hone2 := HIN.out.x.ones
          go_wp2_with (refine wpList_ldBoxG (r := aloneR q) (R := R2) rfl rfl rfl HB6.out ?_)
          refine (HM.out _ _ HIN.out.x).mono ?_
          rintro e w3 ⟨rfl, hg3⟩
          have hb6 := Bl.gr HB6.out hg3
          have hbo := HBo.out.bl.gr hg3
          have HIN3 := hide (HIN.out.gr hg3)
          have HG3 := hide (HG2.out.trans hg3)
          clear l5 HB6 HBo HIN HG2 hg3 HM
          go_wp2_with (first | refine wpList_ldBox (r := aloneR q) (R := R2) rfl rfl rfl hb6 ?_ | refine wpList_setBox (r := aloneR q) (R := R2) rfl rfl rfl rfl rfl hbo rfl hone2 ?_)
          intro W4 hb4 hu4
          have HB4 : Hid (BoxR W4 b1 (aloneR (min (1 + (j + 1)) 200)) R2) := hide (by rw [hq2]; exact ⟨hb4, _, _, HIN3.out.but hu4 (.inl hbl), .inl hbl⟩)
          have HG4 := hide (HG3.out.fresh_ hu4 hbW)
          clear hb4 hu4 hb6 hbo HIN3 HG3 hone2
          go_wp2_with fail
          go_roundw
          case rel => exact ⟨j + 1, R2, by go_num, by omega, HB4, HG4⟩
          case measure => simp [intOf]; omega
        · obtain rfl : j = n := by omega
          have HT := hide (Tick_ok _ (aloneR m) R HB.out.x (good_alone m hm200))
          rw [tick_alone m hm200] at HT
          go_wp2_with (refine wpList_ldBox (r := aloneR m) (R := R) rfl rfl rfl HB.out.bl ?_)
          refine HT.out.mono ?_
          rintro e w2 ⟨v2, u2, rfl, hT⟩
          have hg2 := hT.gr
          obtain ⟨R2, rfl, hin2, hout2⟩ := hT.ins
          have hone2 := hin2.x.ones
          obtain ⟨A2, c2, rfl⟩ := hout2.x.is
          clear hT hout2 HT
          go_wp2_with (refine wpList_newBox (r := aloneR m) (R := R2) rfl rfl rfl rfl rfl rfl (fun _ => rfl) (fun _ => rfl) hone2 ?_)
          intro W2 hb2 hgr2
          have HBo := hide (HB.out.gr (hg2.trans hgr2))
          have HB9 := hide hb2
          have HIN := hide (hin2.gr hgr2)
          have HG2 := hide (HG.out.trans (hg2.trans hgr2))
          have l5 : W2.cell? ⟨b1, 5, none⟩ = some (.slice L1 m d1) := (HBo.out.bl.cell 5).trans (congrArg some hl1)
          have l6 : W2.cell? ⟨b1, 6, none⟩ = some (.int .i64 (m : Int)) := HBo.out.bl.cell 6
          generalize w2.heap.size = b9 at HB9 HIN ⊢
          clear hb2 hgr2 hin2 hg2 HB HG hl1 hone2
          have HS := hide (SameR_ok W2 (aloneR m) (aloneR m) R2 R HIN.out.x HBo.out.x (good_alone m hm200).toRfSz (good_alone m hm200).toRfSz)
          simp only [decide_true] at HS
          by_cases h200 : 1 + j ≤ 200
          · obtain rfl : m = 1 + j := by omega
            go_wp2_with (first | refine wpList_ldBoxG (r := aloneR (1 + j)) (R := R2) rfl rfl rfl HB9.out ?_ | refine wpList_ldBoxG (r := aloneR (1 + j)) (R := R) rfl rfl rfl HBo.out.bl ?_)
            refine HS.out.mono ?_
            rintro e w3 ⟨rfl, hg3⟩
            go_wp2_with fail
            go_ret
            exact ⟨rfl, HG2.out.trans hg3⟩
          · obtain rfl : m = 200 := by omega
            go_wp2_with (first | refine wpList_ldBoxG (r := aloneR 200) (R := R2) rfl rfl rfl HB9.out ?_ | refine wpList_ldBoxG (r := aloneR 200) (R := R) rfl rfl rfl HBo.out.bl ?_)
            refine HS.out.mono ?_
            rintro e w3 ⟨rfl, hg3⟩
            go_wp2_with fail
            go_ret
            exact ⟨rfl, HG2.out.trans hg3⟩
end Go.Proofs.Ythpaoeiackbdoaa
