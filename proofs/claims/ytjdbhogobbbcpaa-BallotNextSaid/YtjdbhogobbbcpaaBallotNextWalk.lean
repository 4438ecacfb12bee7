/-
  The walk of 'BallotNext'.
-/
import Derived.Test.YtjdbhogobbbcpaaBallotRow
import Derived.Test.YtjdbhogobbbcpaaPlayMade
namespace Go.Proofs.Ytjdbhogobbbcpaa
open Go Go.RowKit BalMath TxnMath KeyMath MsgMath
set_option maxRecDepth 100000

set_option maxHeartbeats 1000000 in
theorem walk_BallotNext (w : World) (l : List UInt8) (hl : l.length = 5) (n : Int) (hn : (Lit.int .u8 n).wf = true) (PA : Option Addr) (pn pc : Nat) (pl : List UInt8) (hpn : pn = pl.length) (hby : By w PA pc pl)
    (tm : Int) (htm : (Lit.int .u8 tm).wf = true) (cm : Int) (hcm : (Lit.int .u8 cm).wf = true) :
    Calls Try.prog 7 #[.agg (bvs l).toArray, .int .u8 n, .slice PA pn pc, .int .u8 tm, .int .u8 cm] w fun e w' => e = .returned (.bool true) ∧ Gr w w' := by
  subst hpn
  obtain ⟨nn, rfl, hnn⟩ := nat8 hn
  obtain ⟨nt, rfl, hnt⟩ := nat8 htm
  obtain ⟨nc, rfl, hnc⟩ := nat8 hcm
  clear hn htm hcm
  have b1 := Bl.new w 37 (bvs l).toArray
  have g1 := (Gr.refl w).alloc (.cells (bvs l).toArray 37)
  have HBY := hide (hby.gr g1)
  clear hby
  by_cases hpl : (80 : Int) < (pl.length : Int)
  · go_enter Try.func7, Try.ntmps7
    go_wp2_with fail
    generalize w.alloc (.cells (bvs l).toArray 37) = W at g1 ⊢
    refine (begun_ok _).mono ?_
    rintro e w1 ⟨rfl, hg1⟩
    go_wp2_with fail
    go_ret
    exact ⟨rfl, g1.trans hg1⟩
  obtain ⟨r, hr⟩ : ∃ r, nn % 5 = r := ⟨_, rfl⟩
  have e1 : (nn : Int).tmod 5 = (r : Int) := by rw [← hr]; rfl
  have e1b : (nn : Int) % 5 = (r : Int) := by omega
  have hr5 : r < 5 := by omega
  clear hr
  obtain ⟨k, hk⟩ : ∃ k, 1 + r = k := ⟨_, rfl⟩
  have e2 : 1 + (r : Int) = (k : Int) := by omega
  have hk5 : k ≤ 5 := by omega
  have hk1 : 1 ≤ k := by omega
  clear hk
  obtain ⟨t4, ht4⟩ : ∃ r, nt % 4 = r := ⟨_, rfl⟩
  have e3 : (nt : Int).tmod 4 = (t4 : Int) := by rw [← ht4]; rfl
  have e3b : (nt : Int) % 4 = (t4 : Int) := by omega
  have ht44 : t4 < 4 := by omega
  obtain ⟨c9, hc9⟩ : ∃ r, nc % 9 = r := ⟨_, rfl⟩
  have e4 : (nc : Int).tmod 9 = (c9 : Int) := by rw [← hc9]; rfl
  have e4b : (nc : Int) % 9 = (c9 : Int) := by omega
  have hc99 : c9 < 9 := by omega
  clear ht4 hc9
  go_enter Try.func7, Try.ntmps7
  go_wp2_with fail
  obtain ⟨W, hW⟩ : ∃ W, w.alloc (.cells (bvs l).toArray 37) = W := ⟨_, rfl⟩
  rw [hW] at b1 g1 HBY ⊢
  generalize w.heap.size = q at b1 ⊢
  have HB := hide b1
  have HG := hide g1
  clear hW b1 g1
  refine (begun_ok _).mono ?_
  rintro e w1 ⟨rfl, hg1⟩
  replace HB := hide (HB.out.gr hg1)
  replace HG := hide (HG.out.trans hg1)
  replace HBY := hide (HBY.out.gr hg1)
  clear hg1 W
  go_wp2_with fail
  refine (Made_ok PA pc pl w1 HBY.out).mono ?_
  rintro e w2 ⟨rfl, hg2, hpk⟩
  have HS1 := hide (Nat.le_refl w1.heap.size)
  go_wp2_with fail
  refine (Log_ok w1.heap.size PA pc pl 0 8 (by omega) (by omega) w2 hpk).mono ?_
  rintro e w3 ⟨lv, rfl, hlo, hb3, _⟩
  have hx := hlo.entsX
  have hlen := logP_len pl 0 8
  clear hlo hpk
  generalize (logP pl 0 8).1 = es at hx hlen
  obtain ⟨lA, lc, rfl⟩ := hx.is
  rw [hlen]
  rw [hlen] at hx
  have HX := hide hx
  have HES := hide hlen
  have hg3 : Gr w1 w3 := hg2.fresh hb3 (Nat.le_refl _)
  replace HB := hide (HB.out.gr hg3)
  replace HG := hide (HG.out.trans hg3)
  clear hx hb3 hg2 hg3 hlen HBY
  go_wp2_with fail
  go_loopw [13, 14] (fun u v wr => ∃ i : Nat, v = .int .i64 i ∧ i ≤ k ∧ Hid (OwnI wr w3.heap.size u (numL (l.take i) (· % 11))) ∧ Hid (Gr w3 wr)) (fun _ v _ => k - (intOf v).toNat)
  case atStart => exact ⟨0, rfl, by omega, OwnI.none_ _ _, Gr.refl _⟩
  case round =>
    obtain ⟨i, rfl, hi, HO, HR⟩ := hrel
    by_cases hlt : i < k
    · have hlt' : (i : Int) < (k : Int) := by omega
      have hlt5 : (i : Int) < 5 := by omega
      have hil : i < l.length := by omega
      have c1 : wr.cell? ⟨q, i, none⟩ = some (.int .u8 ((l[i]'hil).toNat : Int)) := by
        rw [(HB.out.gr HR.out).cell]; simp [bvs, bv, hil]
      have hx := (l[i]'hil).toNat_lt
      have HM := hide (numL_more (f := (· % 11)) hil)
      have HLN := hide (numL_len (l.take i) (· % 11))
      generalize (l[i]'hil).toNat = x at c1 HM hx
      obtain ⟨y, hy⟩ : ∃ y, x % 11 = y := ⟨_, rfl⟩
      have e5 : (x : Int).tmod 11 = (y : Int) := by rw [← hy]; rfl
      have e5b : (x : Int) % 11 = (y : Int) := by omega
      have hy11 : y < 11 := by omega
      simp only [hy] at HM
      clear hy
      obtain ⟨A, c, hv, _⟩ := HO.out.is
      rw [HLN.out, List.length_take, Nat.min_eq_left (by omega)] at hv
      subst hv
      clear HLN
      go_wp2_with (at_builtin; refine wpList_pushI rfl (.tmp 37) (.tmp 43) rfl (y : Int) rfl HO.out HR.out (congrArg (fun z => Value.slice (some ⟨z, 0, none⟩) 1 1) (by simp)) (by rw [numL_len, List.length_take]; omega) ?_; intro v3 w4 ho3 hg3; obtain ⟨A3, c3, hv3, _⟩ := ho3.is; generalize hm3 : List.length _ = m3 at hv3; subst hv3; clear hm3; have HO3 := hide ho3; have HG3 := hide hg3; clear ho3 hg3)
      go_roundw
      case rel => exact ⟨i + 1, by go_num, by omega, by unfold Hid; rw [HM.out]; exact HO3.out, HG3⟩
      case measure => simp [intOf]; omega
    · obtain rfl : i = k := by omega
      have HLK := hide (show (numL (l.take i) (· % 11)).length = i by rw [numL_len, List.length_take]; omega)
      have HNN := hide (numL_nn (l.take i) (· % 11))
      generalize numL (l.take i) (· % 11) = L at HO HLK HNN
      obtain ⟨A, c, hv, _⟩ := HO.out.is
      rw [HLK.out] at hv
      subst hv
      have HL := hide HO.out.ints
      replace HX := hide (HX.out.gr HR.out)
      have HCN := hide (Next_ok _ _ L es (1 + (t4 : Int)) (c9 : Int) wr HL.out HX.out (by rw [HLK.out]; omega) HNN.out (by rw [HES.out]; omega) (by omega))
      clear HB HO
      go_wp2_with fail
      refine HCN.out.mono ?_
      rintro e w5 ⟨rfl, hg5, hmp⟩
      obtain ⟨x, hx⟩ : ∃ x, nextL L es (1 + (t4 : Int)) (c9 : Int) = x := ⟨_, rfl⟩
      rw [hx]
      have HNX := hide hx
      have HMP := hide hmp
      replace HL := hide (HL.out.gr hg5)
      replace HX := hide (HX.out.gr hg5)
      replace HG := hide ((HG.out.trans HR.out).trans hg5)
      clear HCN HR hg5 hx hmp
      by_cases hxc : x = (c9 : Int)
      · subst hxc
        go_wp2_with fail
        go_ret
        exact ⟨rfl, HG.out⟩
      have hxc' : (x == (c9 : Int)) = false := by rw [beq_eq_false_iff_ne]; exact hxc
      have HXM : Hid ((c9 : Int) < x ∧ hasL es x (1 + (t4 : Int)) = true ∧ majN L.length ≤ geN L x) := by
        have h1 := HNX.out
        unfold nextL at h1
        split at h1
        · rename_i h2
          rw [h1] at h2
          have h3 := (HMP.out.2 (by rw [HLK.out]; omega)).2.1
          rw [h1] at h3
          exact ⟨h2.1, h2.2, h3⟩
        · exact absurd h1.symm hxc
      obtain ⟨x1, x2, x3⟩ := HXM.out
      unfold hasL at x2
      rw [decide_eq_false (by omega : ¬ x = 0), Bool.false_or, Bool.and_eq_true] at x2
      obtain ⟨x4, x5⟩ := x2
      obtain ⟨_, x6⟩ := there_at x4
      rw [HES.out] at x6
      have x6' : x ≤ 8 := by omega
      have x7 : termL es x = 1 + (t4 : Int) := by simpa using x5
      have HTM := hide (RefTerm_ok _ es x w5 HX.out (by rw [HES.out]; omega))
      rw [x7] at HTM
      have HGE := hide x3
      rw [HLK.out] at x3
      clear x4 x5 x6 x7 HXM HNX HMP HX
      go_wp2_with fail
      go_loopw [18, 19] (fun u1 v wz => ∃ p : Nat, v = .int .i64 p ∧ p ≤ i ∧ u1 = .int .i64 (geN (L.take p) x) ∧ wz = w5) (fun _ v _ => i - (intOf v).toNat)
      case atStart => exact ⟨0, rfl, by omega, rfl, rfl⟩
      case round =>
        obtain ⟨p, rfl, hp, rfl, hwr⟩ := hrel
        subst hwr
        have h1 : geN (L.take p) x ≤ 5 := Nat.le_trans (geN_le _ _) (by rw [List.length_take]; omega)
        by_cases hlt2 : p < i
        · have hlt2' : (p : Int) < (i : Int) := by omega
          have hpl2 : p < L.length := by rw [HLK.out]; exact hlt2
          obtain ⟨A', c', e6, _, hc⟩ := HL.out.is
          rw [HLK.out] at e6
          injection e6 with e6 _ e7
          subst e6 e7
          obtain ⟨ad, rfl, c0⟩ := hc p hpl2
          have HG1 := hide (geN_more (x := x) hpl2)
          generalize L[p] = y at c0 HG1
          generalize geN (L.take p) x = s1 at *
          unfold iv at c0
          clear hc
          by_cases hxy : x ≤ y
          · go_wp2_with fail
            go_roundw
            case rel => exact ⟨p + 1, by go_num, by omega, by rw [HG1.out, if_pos hxy]; simp, trivial⟩
            case measure => simp [intOf]; omega
          · go_wp2_with fail
            go_roundw
            case rel => exact ⟨p + 1, by go_num, by omega, by rw [HG1.out, if_neg (by omega)]; simp, trivial⟩
            case measure => simp [intOf]; omega
        · obtain rfl : p = i := by omega
          have t1 : geN (L.take p) x = geN L x := by rw [List.take_of_length_le (by rw [HLK.out]; omega)]
          rw [t1] at h1 ⊢
          clear t1
          have k1 : (p : Int) < 2 * ((geN L x : Nat) : Int) := by unfold majN at x3; omega
          have hgz : (geN L x : Int) ≤ 5 := by omega
          clear x3
          generalize geN L x = s1 at k1 h1 hgz ⊢
          go_wp2_with fail
          refine HTM.out.mono ?_
          rintro e w6 ⟨rfl, hw6⟩
          subst hw6
          go_wp2_with fail
          go_ret
          exact ⟨rfl, HG.out⟩

end Go.Proofs.Ytjdbhogobbbcpaa
