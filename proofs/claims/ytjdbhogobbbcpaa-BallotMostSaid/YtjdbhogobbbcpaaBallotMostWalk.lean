/-
  The walk of 'BallotMost'.
-/
import Derived.Test.YtjdbhogobbbcpaaBallotRow
namespace Go.Proofs.Ytjdbhogobbbcpaa
open Go Go.RowKit BalMath TxnMath KeyMath MsgMath
set_option maxRecDepth 100000

set_option maxHeartbeats 1000000 in
theorem walk_BallotMost (w : World) (l : List UInt8) (hl : l.length = 5) (n : Int) (hn : (Lit.int .u8 n).wf = true) (who : Int) (hwho : (Lit.int .u8 who).wf = true) (b : Int) (hb : (Lit.int .u8 b).wf = true) :
    Calls Try.prog 5 #[.agg (bvs l).toArray, .int .u8 n, .int .u8 who, .int .u8 b] w fun e w' => e = .returned (.bool true) ∧ Gr w w' := by
  obtain ⟨nn, rfl, hnn⟩ := nat8 hn
  obtain ⟨nw, rfl, hnw⟩ := nat8 hwho
  obtain ⟨nb, rfl, hnb⟩ := nat8 hb
  clear hn hwho hb
  obtain ⟨r, hr⟩ : ∃ r, nn % 5 = r := ⟨_, rfl⟩
  have e1 : (nn : Int).tmod 5 = (r : Int) := by rw [← hr]; rfl
  have e1b : (nn : Int) % 5 = (r : Int) := by omega
  have hr5 : r < 5 := by omega
  clear hr
  obtain ⟨k, hk⟩ : ∃ k, 1 + r = k := ⟨_, rfl⟩
  have e2 : 1 + (r : Int) = (k : Int) := by omega
  have hk5 : k ≤ 5 := by omega
  have hk1 : 1 ≤ k := by omega
  clear hk
  obtain ⟨j, hj⟩ : ∃ j, nw % k = j := ⟨_, rfl⟩
  have hjk : j < k := by rw [← hj]; exact Nat.mod_lt _ (by omega)
  have e3 : (nw : Int).tmod (k : Int) = (j : Int) := by rw [← hj]; rfl
  have e3b : (nw : Int) % (k : Int) = (j : Int) := by rw [← hj]; rfl
  have hk0 : ((k : Int) == 0) = false := by rw [beq_eq_false_iff_ne]; omega
  have hk0' : ¬ (k : Int) = 0 := by omega
  clear hj
  have b1 := Bl.new w 37 (bvs l).toArray
  have g1 := (Gr.refl w).alloc (.cells (bvs l).toArray 37)
  go_enter Try.func5, Try.ntmps5
  go_wp2_with fail
  obtain ⟨W, hW⟩ : ∃ W, w.alloc (.cells (bvs l).toArray 37) = W := ⟨_, rfl⟩
  rw [hW] at b1 g1 ⊢
  generalize w.heap.size = q at b1 ⊢
  have HB := hide b1
  have HG := hide g1
  clear hW b1 g1
  refine (begun_ok _).mono ?_
  rintro e w1 ⟨rfl, hg1⟩
  replace HB := hide (HB.out.gr hg1)
  replace HG := hide (HG.out.trans hg1)
  clear hg1 W
  go_wp2_with fail
  go_loopw [10, 11] (fun u v wr => ∃ i : Nat, v = .int .i64 i ∧ i ≤ k ∧ Hid (OwnI wr w1.heap.size u (numL (l.take i) id)) ∧ Hid (Gr w1 wr)) (fun _ v _ => k - (intOf v).toNat)
  case atStart => exact ⟨0, rfl, by omega, OwnI.none_ _ _, Gr.refl _⟩
  case round =>
    obtain ⟨i, rfl, hi, HO, HR⟩ := hrel
    by_cases hlt : i < k
    · have hlt' : (i : Int) < (k : Int) := by omega
      have hlt5 : (i : Int) < 5 := by omega
      have hil : i < l.length := by omega
      have c1 : wr.cell? ⟨q, i, none⟩ = some (.int .u8 ((l[i]'hil).toNat : Int)) := by
        rw [(HB.out.gr HR.out).cell]; simp [bvs, bv, hil]
      have hx := (l[i]'hil).toNat_lt
      have HM := hide (numL_more (f := id) hil)
      have HLN := hide (numL_len (l.take i) id)
      generalize (l[i]'hil).toNat = x at c1 HM hx
      obtain ⟨A, c, hv, _⟩ := HO.out.is
      rw [HLN.out, List.length_take, Nat.min_eq_left (by omega)] at hv
      subst hv
      clear HLN
      go_wp2_with (at_builtin; refine wpList_pushI rfl (.tmp 28) (.tmp 33) rfl (x : Int) rfl HO.out HR.out (congrArg (fun z => Value.slice (some ⟨z, 0, none⟩) 1 1) (by simp)) (by rw [numL_len, List.length_take]; omega) ?_; intro v3 w3 ho3 hg3; obtain ⟨A3, c3, hv3, _⟩ := ho3.is; generalize hm3 : List.length _ = m3 at hv3; subst hv3; clear hm3; have HO3 := hide ho3; have HG3 := hide hg3; clear ho3 hg3)
      go_roundw
      case rel => exact ⟨i + 1, by go_num, by omega, by unfold Hid; rw [HM.out]; exact HO3.out, HG3⟩
      case measure => simp [intOf]; omega
    · obtain rfl : i = k := by omega
      have HLK := hide (show (numL (l.take i) id).length = i by rw [numL_len, List.length_take]; omega)
      have HNN := hide (numL_nn (l.take i) id)
      have HBIG := hide (show ∀ x ∈ numL (l.take i) id, x ≤ 255 from fun x hx => by
        obtain ⟨b, _, rfl⟩ := List.mem_map.1 hx
        have := b.toNat_lt
        simp only [id]
        omega)
      generalize numL (l.take i) id = L at HO HLK HNN HBIG
      obtain ⟨A, c, hv, _⟩ := HO.out.is
      rw [HLK.out] at hv
      subst hv
      have HL := hide HO.out.ints
      have HCM := hide (Most_ok _ L wr HL.out (by rw [HLK.out]; omega) HNN.out)
      clear hnn HB HO
      go_wp2_with fail
      refine HCM.out.mono ?_
      rintro e w2 ⟨x, rfl, hm, hg2⟩
      have HM2 := hide (hm.2 (by rw [HLK.out]; omega))
      replace HL := hide (HL.out.gr hg2)
      replace HG := hide ((HG.out.trans HR.out).trans hg2)
      clear HCM HR hg2 hm
      go_wp2_with fail
      go_loopw [13, 14, 15] (fun u1 u2 v wr => ∃ p : Nat, v = .int .i64 p ∧ p ≤ i ∧ u1 = .int .i64 (geN (L.take p) x) ∧ u2 = .int .i64 (gtN (L.take p) x) ∧ wr = w2) (fun _ _ v _ => i - (intOf v).toNat)
      case atStart => exact ⟨0, rfl, by omega, rfl, rfl, rfl⟩
      case round =>
        obtain ⟨p, rfl, hp, rfl, rfl, hwr⟩ := hrel
        subst hwr
        have h1 : geN (L.take p) x ≤ 5 := Nat.le_trans (geN_le _ _) (by rw [List.length_take]; omega)
        have h2 : gtN (L.take p) x ≤ 5 := Nat.le_trans (gtN_le _ _) (by rw [List.length_take]; omega)
        by_cases hlt2 : p < i
        · have hlt2' : (p : Int) < (i : Int) := by omega
          have hpl : p < L.length := by rw [HLK.out]; exact hlt2
          obtain ⟨A', c', e4, _, hc⟩ := HL.out.is
          rw [HLK.out] at e4
          injection e4 with e4 _ e5
          subst e4 e5
          obtain ⟨ad, rfl, c0⟩ := hc p hpl
          have HG1 := hide (geN_more (x := x) hpl)
          have HG2 := hide (gtN_more (x := x) hpl)
          generalize L[p] = y at c0 HG1 HG2
          generalize geN (L.take p) x = s1 at *
          generalize gtN (L.take p) x = s2 at *
          unfold iv at c0
          clear hc
          by_cases hxy : x ≤ y
          · by_cases hxy2 : x < y
            · go_wp2_with fail
              go_roundw
              case rel => exact ⟨p + 1, by go_num, by omega, by rw [HG1.out, if_pos hxy]; simp, by rw [HG2.out, if_pos hxy2]; simp, trivial⟩
              case measure => simp [intOf]; omega
            · go_wp2_with fail
              go_roundw
              case rel => exact ⟨p + 1, by go_num, by omega, by rw [HG1.out, if_pos hxy]; simp, by rw [HG2.out, if_neg (by omega)]; simp, trivial⟩
              case measure => simp [intOf]; omega
          · have hxy2 : ¬ x < y := by omega
            go_wp2_with fail
            go_roundw
            case rel => exact ⟨p + 1, by go_num, by omega, by rw [HG1.out, if_neg (by omega)]; simp, by rw [HG2.out, if_neg (by omega)]; simp, trivial⟩
            case measure => simp [intOf]; omega
        · obtain rfl : p = i := by omega
          have t1 : geN (L.take p) x = geN L x := by rw [List.take_of_length_le (by rw [HLK.out]; omega)]
          have t2 : gtN (L.take p) x = gtN L x := by rw [List.take_of_length_le (by rw [HLK.out]; omega)]
          obtain ⟨hx1, hx2, hx3⟩ := HM2.out
          have HGE := hide hx2
          rw [HLK.out] at hx2 hx3
          rw [t1] at h1 ⊢
          rw [t2] at h2 ⊢
          clear t1 t2
          have k1 : (p : Int) < 2 * ((geN L x : Nat) : Int) := by unfold majN at hx2; omega
          have k2 : 2 * ((gtN L x : Nat) : Int) ≤ (p : Int) := by unfold majN at hx3; omega
          clear hx1 hx2 hx3
          have hgz : (geN L x : Int) ≤ 5 := by omega
          have hgz2 : (gtN L x : Int) ≤ 5 := by omega
          generalize geN L x = s1 at k1 h1 hgz ⊢
          generalize gtN L x = s2 at k2 h2 hgz2 ⊢
          have hjL : j < L.length := by rw [HLK.out]; exact hjk
          have hb0 := HNN.out _ (List.getElem_mem hjL)
          have hb1 := HBIG.out _ (List.getElem_mem hjL)
          obtain ⟨y, hy⟩ : ∃ y, L[j] = y := ⟨_, rfl⟩
          rw [hy] at hb0 hb1
          have HMR := hide (fun z => geN_set (y := y + (nb : Int)) hjL (by omega) z)
          have HNN2 : Hid (∀ x ∈ L.set j (y + (nb : Int)), 0 ≤ x) := hide (fun x hx => by
            rcases List.mem_or_eq_of_mem_set hx with h | h
            · exact HNN.out x h
            · omega)
          have HLK2 := hide (show (L.set j (y + (nb : Int))).length = p by rw [List.length_set]; exact HLK.out)
          have HY := hide hy
          have hjp : (j : Int) < (p : Int) := by omega
          clear hy
          go_wp2_with (at_builtin; refine wpList_copyI rfl (.tmp 58) (.tmp 59) rfl (congrArg (fun z => Value.slice (some ⟨z, 0, none⟩) 0 0) (by simp)) HL.out rfl (by rw [HLK.out]; omega) (by rw [HLK.out]; omega) ?_; intro v5 w5 ho5 hg5; have HO5 := hide ho5; have HG5 := hide (HG.out.trans hg5); have hws := HG.out.size; obtain ⟨g5, c5, hv5, hB5, hgw5, hcc5, hmm5, hrow5⟩ := ho5.block_ (by rw [HLK.out]; omega); have c0 := hrow5.cellAt j (by omega); rw [ivs_at hjL, HY.out] at c0; have f0 := hrow5.frozenAt j; obtain ⟨ho6, hg6⟩ := hrow5.stored j (.int .i64 (y + (nb : Int))); have HO6 : Hid (OwnI (w5.setCell ⟨g5, j, none⟩ (.int .i64 (y + (nb : Int)))) wr.heap.size (.slice (some ⟨g5, 0, none⟩) p c5) (L.set j (y + (nb : Int)))) := hide (by unfold OwnI OwnV; rw [ivs_set, List.length_set, ivs_len]; rw [HLK.out] at ho6 ⊢; exact ho6); have HG6 : Hid (Gr w (w5.setCell ⟨g5, j, none⟩ (.int .i64 (y + (nb : Int))))) := hide ⟨hg6.os.trans HG5.out.os, hg6.tape.trans HG5.out.tape, hg6.output.trans HG5.out.output, Nat.le_trans HG5.out.size hg6.size, fun k hk => (hg6.block k (Nat.lt_of_lt_of_le hk HG5.out.size) (by simp; omega)).trans (HG5.out.block k hk)⟩; rw [HLK.out] at hv5; subst hv5; clear ho5 hg5 ho6 hg6 hrow5 HO5 HG5 hws hB5 hmm5 hcc5; unfold iv at c0)
          have HCM := hide (Most_ok _ _ _ HO6.out.ints (by rw [HLK2.out]; omega) HNN2.out)
          clear c0 f0 HO6 HNN2
          generalize w5.setCell ⟨g5, j, none⟩ (.int .i64 (y + (nb : Int))) = w6 at HCM HG6 ⊢
          refine HCM.out.mono ?_
          rintro e w7 ⟨z, rfl, hm, hg7⟩
          have hxz : x ≤ z := by
            have h3 := (hm.2 (by rw [HLK2.out]; omega)).2.2
            exact most_rises (l := L) (r := L.set j (y + (nb : Int))) (by rw [HLK.out, HLK2.out]) HMR.out HGE.out h3
          have HR := hide (HG6.out.trans hg7)
          clear hm hg7 HCM
          go_wp2_with fail
          go_ret
          exact ⟨rfl, HR.out⟩

end Go.Proofs.Ytjdbhogobbbcpaa
