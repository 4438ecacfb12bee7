/-
  The walk of 'BallotAll'.
-/
import Derived.Test.YtjdbhogobbbcpaaBallotRow
import Derived.Test.YtjdbhogobbbcpaaPlayMade
namespace Go.Proofs.Ytjdbhogobbbcpaa
open Go Go.RowKit BalMath TxnMath KeyMath MsgMath
set_option maxRecDepth 100000

set_option maxHeartbeats 1000000 in
theorem walk_BallotAll (w : World) (n : Int) (hn : (Lit.int .u8 n).wf = true) (vv : Value) (vl : List Bool) (hvv : BoolsX w vv vl) (MA : Option Addr) (mn mc : Nat) (ml : List UInt8) (hmn : mn = ml.length) (hmy : By w MA mc ml)
    (PA : Option Addr) (pn pc : Nat) (pl : List UInt8) (hpn : pn = pl.length) (hby : By w PA pc pl)
    (tm : Int) (htm : (Lit.int .u8 tm).wf = true) (cm : Int) (hcm : (Lit.int .u8 cm).wf = true) :
    Calls Try.prog 3 #[.int .u8 n, vv, .slice MA mn mc, .slice PA pn pc, .int .u8 tm, .int .u8 cm] w fun e w' => e = .returned (.bool true) ∧ Gr w w' := by
  subst hpn hmn
  obtain ⟨nn, rfl, hnn⟩ := nat8 hn
  obtain ⟨nt, rfl, hnt⟩ := nat8 htm
  obtain ⟨nc, rfl, hnc⟩ := nat8 hcm
  clear hn htm hcm
  have HBY := hide hby
  have HMY := hide hmy
  have HVV := hide hvv
  obtain ⟨VA, vc, rfl, _⟩ := hvv.is
  clear hby hmy hvv
  by_cases hvl : (9 : Int) < (vl.length : Int)
  · go_enter Try.func3, Try.ntmps3
    go_wp2_with fail
    refine (begun_ok _).mono ?_
    rintro e w1 ⟨rfl, hg1⟩
    go_wp2_with fail
    go_ret
    exact ⟨rfl, hg1⟩
  by_cases hml : (9 : Int) < (ml.length : Int)
  · go_enter Try.func3, Try.ntmps3
    go_wp2_with fail
    refine (begun_ok _).mono ?_
    rintro e w1 ⟨rfl, hg1⟩
    go_wp2_with fail
    go_ret
    exact ⟨rfl, hg1⟩
  by_cases hpl : (80 : Int) < (pl.length : Int)
  · go_enter Try.func3, Try.ntmps3
    go_wp2_with fail
    refine (begun_ok _).mono ?_
    rintro e w1 ⟨rfl, hg1⟩
    go_wp2_with fail
    go_ret
    exact ⟨rfl, hg1⟩
  obtain ⟨c9, hc9⟩ : ∃ r, nc % 9 = r := ⟨_, rfl⟩
  have e4 : (nc : Int).tmod 9 = (c9 : Int) := by rw [← hc9]; rfl
  have e4b : (nc : Int) % 9 = (c9 : Int) := by omega
  have hc99 : c9 < 9 := by omega
  clear hc9
  have hml9 : ml.length ≤ 9 := by omega
  go_enter Try.func3, Try.ntmps3
  go_wp2_with fail
  refine (begun_ok _).mono ?_
  rintro e w1 ⟨rfl, hg1⟩
  replace HMY := hide (HMY.out.gr hg1)
  replace HBY := hide (HBY.out.gr hg1)
  replace HVV := hide (HVV.out.gr hg1)
  have HG := hide hg1
  clear hg1
  go_wp2_with fail
  go_loopw [13, 14] (fun u v wr => ∃ i : Nat, v = .int .i64 i ∧ i ≤ ml.length ∧ Hid (OwnI wr w1.heap.size u (numL (ml.take i) (· % 12))) ∧ Hid (Gr w1 wr)) (fun _ v _ => ml.length - (intOf v).toNat)
  case atStart => exact ⟨0, rfl, by omega, OwnI.none_ _ _, Gr.refl _⟩
  case round =>
    obtain ⟨i, rfl, hi, HO, HR⟩ := hrel
    by_cases hlt : i < ml.length
    · have hlt' : (i : Int) < (ml.length : Int) := by omega
      obtain ⟨ad, rfl, c1⟩ := (HMY.out.gr HR.out).rd i hlt
      have hx := (ml[i]'hlt).toNat_lt
      have HM := hide (numL_more (f := (· % 12)) hlt)
      have HLN := hide (numL_len (ml.take i) (· % 12))
      unfold bv at c1
      generalize (ml[i]'hlt).toNat = x at c1 HM hx
      obtain ⟨y, hy⟩ : ∃ y, x % 12 = y := ⟨_, rfl⟩
      have e5 : (x : Int).tmod 12 = (y : Int) := by rw [← hy]; rfl
      have e5b : (x : Int) % 12 = (y : Int) := by omega
      have hy11 : y < 12 := by omega
      simp only [hy] at HM
      clear hy
      obtain ⟨A, c, hv, _⟩ := HO.out.is
      rw [HLN.out, List.length_take, Nat.min_eq_left (by omega)] at hv
      subst hv
      clear HLN
      go_wp2_with (at_builtin; refine wpList_pushI rfl (.tmp 38) (.tmp 45) rfl (y : Int) rfl HO.out HR.out (congrArg (fun z => Value.slice (some ⟨z, 0, none⟩) 1 1) (by simp)) (by rw [numL_len, List.length_take]; omega) ?_; intro v3 w4 ho3 hg3; obtain ⟨A3, c3, hv3, _⟩ := ho3.is; generalize hm3 : List.length _ = m3 at hv3; subst hv3; clear hm3; have HO3 := hide ho3; have HG3 := hide hg3; clear ho3 hg3)
      go_roundw
      case rel => exact ⟨i + 1, by go_num, by omega, by unfold Hid; rw [HM.out]; exact HO3.out, HG3⟩
      case measure => simp [intOf]; omega
    · obtain rfl : i = ml.length := by omega
      have HLK := hide (show (numL (ml.take ml.length) (· % 12)).length = ml.length by rw [numL_len, List.length_take]; omega)
      have HNN := hide (numL_nn (ml.take ml.length) (· % 12))
      generalize numL (ml.take ml.length) (· % 12) = L at HO HLK HNN
      obtain ⟨A, c, hv, _⟩ := HO.out.is
      rw [HLK.out] at hv
      subst hv
      have HL := hide HO.out.ints
      replace HBY := hide (HBY.out.gr HR.out)
      replace HVV := hide (HVV.out.gr HR.out)
      replace HG := hide (HG.out.trans HR.out)
      clear HO HR HMY
      go_wp2_with fail
      refine (Made_ok PA pc pl wr HBY.out).mono ?_
      rintro e w2 ⟨rfl, hg2, hpk⟩
      go_wp2_with fail
      refine (Log_ok wr.heap.size PA pc pl 0 8 (by omega) (by omega) w2 hpk).mono ?_
      rintro e w3 ⟨lv, rfl, hlo, hb3, _⟩
      have hx := hlo.entsX
      have hlen := logP_len pl 0 8
      clear hlo hpk
      generalize (logP pl 0 8).1 = es at hx hlen
      obtain ⟨lA, lc, rfl⟩ := hx.is
      rw [hlen]
      rw [hlen] at hx
      have HX := hide hx
      have HES := hide hlen
      have hg3 : Gr wr w3 := hg2.fresh hb3 (Nat.le_refl _)
      replace HL := hide (HL.out.gr hg3)
      replace HVV := hide (HVV.out.gr hg3)
      replace HG := hide (HG.out.trans hg3)
      clear hx hb3 hg2 hg3 hlen HBY
      have HNX := hide (fun (t cc : Int) (hcc : 0 ≤ cc) wz (hgz : Gr w3 wz) => Next_ok _ _ L es t cc wz (HL.out.gr hgz) (HX.out.gr hgz) (by rw [HLK.out]; omega) HNN.out (by rw [HES.out]; omega) hcc)
      have HNR := hide (fun (t cc : Int) (hcc : 0 ≤ cc) wz (hgz : Gr w3 wz) => RefNext_ok _ _ L es t cc wz (HL.out.gr hgz) (HX.out.gr hgz) (by rw [HLK.out]; omega) (by rw [HES.out]; omega) hcc)
      have HMO := hide (fun wz (hgz : Gr w3 wz) => Most_ok _ L wz (HL.out.gr hgz) (by rw [HLK.out]; omega) HNN.out)
      have HMR := hide (fun wz (hgz : Gr w3 wz) => RefMost_ok _ L wz (HL.out.gr hgz) (by rw [HLK.out]; omega))
      have HMA := hide (fun wz (hgz : Gr w3 wz) => Many_ok _ vl wz (HVV.out.gr hgz) (by omega))
      have HMB := hide (fun wz (hgz : Gr w3 wz) => RefMany_ok _ vl wz (HVV.out.gr hgz) (by omega))
      clear HX HES HLK HNN HVV
      go_wp2_with fail
      go_loopw [16] (fun v wz => ∃ p : Nat, v = .int .i64 p ∧ p ≤ 6 ∧ Hid (Gr w3 wz)) (fun v _ => 6 - (intOf v).toNat)
      case atStart => exact ⟨0, rfl, by omega, Gr.refl _⟩
      case round =>
        obtain ⟨p, rfl, hp, HZ⟩ := hrel
        by_cases hlt2 : p < 6
        · have hlt2' : (p : Int) < 6 := by omega
          go_wp2_with fail
          refine (HNX.out (p : Int) (c9 : Int) (by omega) _ HZ.out).mono ?_
          rintro e w5 ⟨rfl, hg5, _⟩
          replace HZ := hide (HZ.out.trans hg5)
          clear hg5
          go_wp2_with fail
          refine (HNR.out (p : Int) (c9 : Int) (by omega) _ HZ.out).mono ?_
          rintro e w6 ⟨rfl, hg6⟩
          replace HZ := hide (HZ.out.trans hg6)
          clear hg6
          go_wp2_with fail
          go_roundw
          case rel => exact ⟨p + 1, by go_num, by omega, HZ⟩
          case measure => simp [intOf]; omega
        · obtain rfl : p = 6 := by omega
          have HMJ := hide (fun wz => Majority_ok nn wz (by omega))
          have e6 : (nn : Int).tdiv 2 = ((nn / 2 : Nat) : Int) := by rw [Int.tdiv_eq_ediv_of_nonneg (by omega)]; omega
          have e7 : ((nn / 2 : Nat) : Int) + 1 = ((majN nn : Nat) : Int) := by unfold majN; omega
          have e8 : ((majN nn : Nat) : Int) ≤ 1000 := by unfold majN; omega
          generalize majN nn = mj at HMJ e7 e8
          generalize nn / 2 = nh at e6 e7
          have e9 : (nn : Int) / 2 = (nh : Int) := by rw [← e6, Int.tdiv_eq_ediv_of_nonneg (by omega)]
          clear hp
          go_wp2_with fail
          refine (HMJ.out _).mono ?_
          rintro e w5 ⟨rfl, hw5⟩
          subst hw5
          go_wp2_with fail
          refine (HMA.out _ HZ.out).mono ?_
          rintro e w5 ⟨rfl, hw5⟩
          subst hw5
          go_wp2_with fail
          refine (HMB.out _ HZ.out).mono ?_
          rintro e w5 ⟨rfl, hw5⟩
          subst hw5
          go_wp2_with fail
          refine (HMO.out _ HZ.out).mono ?_
          rintro e w6 ⟨x, rfl, hx, hg6⟩
          have hx' := hx.1
          replace HZ := hide (HZ.out.trans hg6)
          subst hx'
          clear hx hg6
          go_wp2_with fail
          refine (HMR.out _ HZ.out).mono ?_
          rintro e w7 ⟨rfl, hg7⟩
          replace HZ := hide (HZ.out.trans hg7)
          clear hg7
          go_wp2_with fail
          refine (HNX.out (nt : Int) (nc : Int) (by omega) _ HZ.out).mono ?_
          rintro e w8 ⟨rfl, hg8, _⟩
          replace HZ := hide (HZ.out.trans hg8)
          clear hg8
          go_wp2_with fail
          refine (HNR.out (nt : Int) (nc : Int) (by omega) _ HZ.out).mono ?_
          rintro e w9 ⟨rfl, hg9⟩
          replace HZ := hide (HZ.out.trans hg9)
          clear hg9
          go_wp2_with fail
          go_ret
          exact ⟨rfl, HG.out.trans HZ.out⟩

end Go.Proofs.Ytjdbhogobbbcpaa
