/-
  The walk of 'EpochJoins'.
-/
import Derived.Test.YtiinidkofonidaaEpochAllWalk
import Derived.Test.YtiinidkofonidaaEntOwn
namespace Go.Proofs.Ytiinidkofonidaa.EpMath
theorem clo_val (l : List Bool) : ∀ k, ∀ r ∈ (cloL l k).1, ∀ x ∈ r, 0 ≤ x ∧ x ≤ (k : Int)
  | 0, r, h => by simp [cloL] at h
  | k + 1, r, h => by
    intro x hx
    cases e : l.getD k false
    · rw [clo_no e] at h
      have := clo_val l k r h x hx
      omega
    · rw [clo_yes e] at h
      rcases List.mem_append.1 h with h | h
      · have := clo_val l k r h x hx
        omega
      · rw [List.mem_singleton] at h
        subst h
        unfold risL at hx
        obtain ⟨i, hi, rfl⟩ := List.mem_map.1 hx
        have := List.mem_range.1 hi
        omega
theorem cut_val (l : List Bool) : ∀ r ∈ cutL l, ∀ x ∈ r, 0 ≤ x ∧ x ≤ (l.length : Int) := fun r h x hx => by
  rcases List.mem_append.1 h with h | h
  · exact clo_val l _ r h x hx
  · rw [List.mem_singleton] at h
    subst h
    unfold risL at hx
    obtain ⟨i, hi, rfl⟩ := List.mem_map.1 hx
    have := List.mem_range.1 hi
    omega
/-- the joined log's batches, one by one -/
theorem cut_two (x y : List Bool) : (cutL (x ++ true :: y)).length = (cutL x).length + (cutL y).length ∧ ∀ (i : Nat) (h : i < (cutL (x ++ true :: y)).length), (∀ h2 : i < (cutL x).length, (cutL (x ++ true :: y))[i] = (cutL x)[i]) ∧
    (¬ i < (cutL x).length → ∃ q, ∃ h3 : q < (cutL y).length, i = (cutL x).length + q ∧ (cutL (x ++ true :: y))[i].length = (cutL y)[q].length ∧
      ∀ (j : Nat) (h4 : j < (cutL (x ++ true :: y))[i].length) (h5 : j < (cutL y)[q].length), (cutL (x ++ true :: y))[i][j] = (cutL y)[q][j] + ((x.length : Int) + 1)) := by
  have e := cut_joins x y
  generalize cutL (x ++ true :: y) = Z at *
  subst e
  refine ⟨by simp, fun i h => ⟨fun h2 => List.getElem_append_left h2, fun h2 => ?_⟩⟩
  have h3 : i - (cutL x).length < (cutL y).length := by simp at h; omega
  refine ⟨i - (cutL x).length, h3, by omega, ?_, fun j h4 h5 => ?_⟩
  · rw [List.getElem_append_right (by omega), List.getElem_map, List.length_map]
  · simp only [List.getElem_append_right (show (cutL x).length ≤ i by omega), List.getElem_map]
    push_cast
    rfl
end Go.Proofs.Ytiinidkofonidaa.EpMath
namespace Go.Proofs.Ytiinidkofonidaa
open Go Go.RowKit TxnMath KeyMath MsgMath EpMath
set_option maxRecDepth 100000

set_option maxHeartbeats 4000000 in
theorem walk_EpochJoins (w : World) (A : Option Addr) (n c : Nat) (l : List UInt8) (hn : n = l.length) (hby : By w A c l) (B : Option Addr) (m d : Nat) (r : List UInt8) (hm : m = r.length) (hbr : By w B d r)
    (a : Int) (ha : (Lit.int .u8 a).wf = true) (b : Int) (hb : (Lit.int .u8 b).wf = true) :
    Calls Try.prog 6 #[.slice A n c, .slice B m d, .int .u8 a, .int .u8 b] w fun e w' => e = .returned (.bool true) ∧ Gr w w' := by
  subst hn hm
  have HBY := hide hby
  have HBR := hide hbr
  clear hby hbr
  obtain ⟨na, rfl, hna⟩ := u8_nat ha
  obtain ⟨nb, rfl, hnb⟩ := u8_nat hb
  clear ha hb
  by_cases h1 : (100 : Int) < (l.length : Int)
  · go_enter Try.func6, Try.ntmps6
    go_wp2_with fail
    refine (begun_ok _).mono ?_
    rintro e w1 ⟨rfl, hg1⟩
    go_wp2_with fail
    go_ret
    exact ⟨rfl, hg1⟩
  by_cases h2 : (100 : Int) < (r.length : Int)
  · go_enter Try.func6, Try.ntmps6
    go_wp2_with fail
    refine (begun_ok _).mono ?_
    rintro e w1 ⟨rfl, hg1⟩
    go_wp2_with fail
    go_ret
    exact ⟨rfl, hg1⟩
  obtain ⟨ka, hka⟩ : ∃ k, na % 10 = k := ⟨_, rfl⟩
  obtain ⟨kb, hkb⟩ : ∃ k, nb % 10 = k := ⟨_, rfl⟩
  have ea : (na : Int).tmod 10 = (ka : Int) := by rw [← hka]; rfl
  have eb : (nb : Int).tmod 10 = (kb : Int) := by rw [← hkb]; rfl
  have ea2 : (na : Int) % 10 = (ka : Int) := by omega
  have eb2 : (nb : Int) % 10 = (kb : Int) := by omega
  have hka9 : ka ≤ 9 := by omega
  have hkb9 : kb ≤ 9 := by omega
  have HLL := hide (logP_len l 0 ka)
  have HKL := hide (logP_len r 0 kb)
  clear hka hkb
  go_enter Try.func6, Try.ntmps6
  go_wp2_with fail
  refine (begun_ok _).mono ?_
  rintro e w1 ⟨rfl, hg1⟩
  go_wp2_with fail
  refine (Made_ok A c l w1 (HBY.out.gr hg1)).mono ?_
  rintro e w2 ⟨rfl, hg2, hpk⟩
  have hgw1 := hg1.size
  have hg12 := hg1.trans hg2
  go_wp2_with fail
  refine (Log_ok w1.heap.size A c l 0 ka (by omega) (by omega) w2 hpk).mono ?_
  rintro e w3 ⟨lv, rfl, hlo, hb3, _⟩
  have hx := hlo.entsX
  clear hlo hpk
  generalize (logP l 0 ka).1 = L at hx HLL
  obtain ⟨lA, lc, rfl⟩ := hx.is
  rw [HLL.out] at hx ⊢
  have HX := hide hx
  have hg3 : Gr w w3 := hg12.fresh hb3 hgw1
  clear hx hb3 hg1 hg2 hg12 hgw1
  go_wp2_with fail
  refine (Made_ok B d r w3 (HBR.out.gr hg3)).mono ?_
  rintro e w4 ⟨rfl, hg4, hpk⟩
  have hgw3 := hg3.size
  have hg34 := hg3.trans hg4
  go_wp2_with fail
  refine (Log_ok w3.heap.size B d r 0 kb (by omega) (by omega) w4 hpk).mono ?_
  rintro e w5 ⟨kv, rfl, hko, hb5, _⟩
  have hy := hko.entsX
  clear hko hpk
  generalize (logP r 0 kb).1 = K at hy HKL
  obtain ⟨rA, rc, rfl⟩ := hy.is
  rw [HKL.out] at hy ⊢
  have HY := hide hy
  have hg5 : Gr w w5 := hg34.fresh hb5 hgw3
  have hg35 : Gr w3 w5 := hg4.fresh hb5 (Nat.le_refl _)
  replace HX := hide (HX.out.gr hg35)
  have HG := hide hg5
  clear hy hb5 hg3 hg4 hg34 hg35 hgw3 hg5 HBY HBR
  have HXB := hide HX.out.below
  have HYB := hide HY.out.below
  have HT := hide (cut_two (shuts L) (shuts K))
  have HVY := hide (cut_val (shuts K))
  have HB1 := hide (cut_bnd (shuts L))
  have HB2 := hide (cut_bnd (shuts K))
  have HR1 := hide (cut_row (shuts L))
  have HR2 := hide (cut_row (shuts K))
  have HQ1 := hide (seal_len (shuts L))
  have HQ2 := hide (seal_len (shuts K))
  have HQ3 := hide (seal_len (shuts L ++ true :: shuts K))
  have HSH := hide (show shuts ([] ++ L ++ [(9, true)].map plE ++ K) = shuts L ++ true :: shuts K from by simp [shuts, plE])
  have hl3 : (shuts L ++ true :: shuts K).length = ka + 1 + kb := by rw [List.length_append, List.length_cons, shuts_len, shuts_len, HLL.out, HKL.out]; omega
  rw [shuts_len, HLL.out] at HT HB1 HR1 HQ1
  rw [shuts_len, HKL.out] at HVY HB2 HR2 HQ2
  rw [hl3] at HQ3
  have HLEN := hide (show ([] ++ L ++ [(9, true)].map plE ++ K).length = ka + 1 + kb from by rw [List.length_append, List.length_append, List.nil_append, HLL.out, HKL.out]; rfl)
  have HC1 := hide (fun W (h : EntsX Any W (.slice lA ka lc) L) => Cut_ok _ L W h (by rw [HLL.out]; omega))
  have HC2 := hide (fun W (h : EntsX Any W (.slice rA kb rc) K) => Cut_ok _ K W h (by rw [HKL.out]; omega))
  have HC3 := hide (fun v W (h : EntsX Any W v ([] ++ L ++ [(9, true)].map plE ++ K)) => Cut_ok v _ W h (by rw [HLEN.out]; omega))
  have HS1 := hide (fun W (h : EntsX Any W (.slice lA ka lc) L) => Sealed_ok _ L W h (by rw [HLL.out]; omega))
  have HS2 := hide (fun W (h : EntsX Any W (.slice rA kb rc) K) => Sealed_ok _ K W h (by rw [HKL.out]; omega))
  have HS3 := hide (fun v W (h : EntsX Any W v ([] ++ L ++ [(9, true)].map plE ++ K)) => Sealed_ok v _ W h (by rw [HLEN.out]; omega))
  rw [HSH.out] at HC3
  rw [HSH.out, HLEN.out] at HS3
  rw [HLL.out] at HS1
  rw [HKL.out] at HS2
  clear hl3 HSH
  generalize shuts L ++ true :: shuts K = z at HT HQ3 HC3 HS3
  generalize shuts L = x at HT HB1 HR1 HQ1 HC1 HS1
  generalize shuts K = y at HT HVY HB2 HR2 HQ2 HC2 HS2
  generalize cutL z = Z at HT HQ3 HC3
  generalize cutL x = P at HT HB1 HR1 HQ1 HC1
  generalize cutL y = R at HT HVY HB2 HR2 HQ2 HC2
  generalize sealN x ka = s1 at HQ1 HS1
  generalize sealN y kb = s2 at HQ2 HS2
  generalize sealN z (ka + 1 + kb) = s3 at HQ3 HS3
  go_wp2_with (at_builtin; refine pause ?_)
  refine hide ?_
  refine wpList_appEnt rfl (.tmp 40) (.tmp 41) rfl (X := fun _ => True) (B := w5.heap.size) rfl (ownEnt_empty _ _ (Nat.le_refl _)) ((HXB.out.gr ((Gr.refl w5).alloc _)).wide fun j hj => ⟨trivial, fun e => by injection e with e; simp only at e; omega⟩) ((Gr.refl w5).alloc _).size rfl (by rw [HLL.out]; simp only [List.length_nil]; omega) ?_
  intro v1 w6 ho1 hp1
  have hg6 : Gr w5 w6 := own_more (w := w5) ((Gr.refl w5).alloc _) (ownEnt_empty (fun _ => True) w5 (Nat.le_refl _)) (Nat.le_refl _) (Gr.refl _) hp1
  have HO1 := hide ho1
  have HG6 := hide hg6
  have hz6 := hg6.size
  obtain ⟨A1, c1, hv1⟩ := ho1.is
  have hlb1 := fun k hk => (ho1.lt k hk)
  have HLB1 := hide hlb1
  generalize hq1 : ([] ++ L).length = q1 at hv1
  subst hv1
  clear ho1 hp1 hg6 hlb1
  go_wp2_with (at_builtin; refine pause ?_)
  refine hide ?_
  obtain ⟨W7, hW7⟩ : ∃ W7, w6.alloc (.cells #[.int .i64 9, .bool true, .int .i64 0, .int .i64 0, .slice none 0 0, .slice none 0 0] 39) = W7 := ⟨_, rfl⟩
  have E7 := ents_lit_at (ts := [(9, true)]) rfl (by decide) hW7
  have g7 : Gr w6 W7 := by rw [← hW7]; exact (Gr.refl _).alloc _
  rw [hW7]
  refine wpList_appEnt rfl (.tmp 42) (.tmp 44) rfl (X := fun _ => True) (B := w5.heap.size) (es := [] ++ L) (qs := [(9, true)].map plE) rfl (HO1.out.gr g7) (E7.wide fun j hj => ⟨trivial, fun e => by have := (HLB1.out j e).2; omega⟩) (Nat.le_trans hz6 g7.size) rfl (by rw [hq1]; simp only [List.length_map, List.length_cons, List.length_nil]; have := HLL.out; simp only [List.nil_append] at hq1; omega) ?_
  intro v2 w8 ho2 hp2
  have hg8 : Gr w5 w8 := own_more (w := w5) HG6.out HO1.out (Nat.le_refl _) g7 hp2
  have HO2 := hide ho2
  have HG8 := hide hg8
  have hz8 := hg8.size
  obtain ⟨A2, c2, hv2⟩ := ho2.is
  have HLB2 := hide (fun k hk => (ho2.lt k hk))
  generalize hq2 : ([] ++ L ++ [(9, true)].map plE).length = q2 at hv2
  subst hv2
  clear ho2 hp2 hg8 E7 g7 hW7 hq1 HO1 HG6 HLB1
  go_wp2_with (at_builtin; refine pause ?_)
  refine hide ?_
  refine wpList_appEnt rfl (.tmp 45) (.tmp 46) rfl (X := fun _ => True) (B := w5.heap.size) (es := [] ++ L ++ [(9, true)].map plE) (qs := K) rfl HO2.out ((HYB.out.gr HG8.out).wide fun j hj => ⟨trivial, fun e => by have := (HLB2.out j e).1; omega⟩) hz8 rfl (by rw [← List.length_append, HLEN.out]; omega) ?_
  intro v3 w9 ho3 hp3
  have hg9 : Gr w5 w9 := own_more (w := w5) HG8.out HO2.out (Nat.le_refl _) (Gr.refl _) hp3
  have HE := hide ho3.entsX
  obtain ⟨A3, c3, hv3⟩ := ho3.is
  generalize ([] ++ L ++ [(9, true)].map plE ++ K).length = q3 at hv3
  subst hv3
  replace HX := hide (HX.out.gr hg9)
  replace HY := hide (HY.out.gr hg9)
  replace HG := hide (HG.out.trans hg9)
  clear ho3 hp3 hg9 hq2 HO2 HG8 HLB2 HXB HYB hz6 hz8
  go_wp2_with fail
  refine (HC1.out w9 HX.out).mono ?_
  rintro e w10 ⟨va, rfl, hra, hg⟩
  replace HX := hide (HX.out.gr hg)
  replace HY := hide (HY.out.gr hg)
  replace HE := hide (HE.out.gr hg)
  replace HG := hide (HG.out.trans hg)
  have HA := hide hra
  clear hg hra HC1
  go_wp2_with fail
  refine (HC2.out w10 HY.out).mono ?_
  rintro e w11 ⟨vb, rfl, hrb, hg⟩
  replace HX := hide (HX.out.gr hg)
  replace HY := hide (HY.out.gr hg)
  replace HE := hide (HE.out.gr hg)
  replace HG := hide (HG.out.trans hg)
  replace HA := hide (HA.out.gr hg)
  have HB := hide hrb
  clear hg hrb HC2
  go_wp2_with fail
  refine (HC3.out _ w11 HE.out).mono ?_
  rintro e w12 ⟨vc, rfl, hrc, hg⟩
  replace HX := hide (HX.out.gr hg)
  replace HY := hide (HY.out.gr hg)
  replace HE := hide (HE.out.gr hg)
  replace HG := hide (HG.out.trans hg)
  replace HA := hide (HA.out.gr hg)
  replace HB := hide (HB.out.gr hg)
  have HD := hide hrc
  clear hg hrc HC3
  have hz0 := HT.out.1
  have hp0 : 0 < P.length := by have := HQ1.out; omega
  have hr0 : 0 < R.length := by have := HQ2.out; omega
  have hp9 : P.length ≤ 10 := by have := HB1.out; omega
  have hr9 : R.length ≤ 10 := by have := HB2.out; omega
  obtain ⟨ga, ca, rfl, _⟩ := HA.out.at_ hp0
  obtain ⟨gb, cb, rfl, _⟩ := HB.out.at_ hr0
  obtain ⟨gc, cc, rfl, _⟩ := HD.out.at_ (by omega)
  have HS31 := hide (HS3.out _ w12 HE.out)
  have hzz : (Z.length : Int) = (P.length : Int) + (R.length : Int) := by omega
  have hwz : IntKind.i64.wrap ((P.length : Int) + (R.length : Int)) = (P.length : Int) + (R.length : Int) := IntWalk.i64_in _ (by omega)
  have hs1 : s1 + 1 = P.length := HQ1.out
  have hs2 : s2 + 1 = R.length := HQ2.out
  have hs3 : s3 + 1 = Z.length := HQ3.out
  have hsw : IntKind.i64.wrap ((s1 : Int) + (s2 : Int)) = (s1 : Int) + (s2 : Int) := IntWalk.i64_in _ (by omega)
  have hsw2 : IntKind.i64.wrap ((s1 : Int) + (s2 : Int) + 1) = (s1 : Int) + (s2 : Int) + 1 := IntWalk.i64_in _ (by omega)
  have hss : (s3 : Int) = (s1 : Int) + (s2 : Int) + 1 := by omega
  have HH := hide (And.intro hs1 (And.intro hs2 hs3))
  clear hs1 hs2 hs3 HS3
  go_wp2_with fail
  refine HS31.out.mono ?_
  rintro e w13 ⟨rfl, hg⟩
  replace HX := hide (HX.out.gr hg)
  replace HY := hide (HY.out.gr hg)
  replace HG := hide (HG.out.trans hg)
  replace HA := hide (HA.out.gr hg)
  replace HB := hide (HB.out.gr hg)
  replace HD := hide (HD.out.gr hg)
  clear hg HE HS31
  have HS11 := hide (HS1.out w13 HX.out)
  go_wp2_with fail
  refine HS11.out.mono ?_
  rintro e w14 ⟨rfl, hg⟩
  replace HY := hide (HY.out.gr hg)
  replace HG := hide (HG.out.trans hg)
  replace HA := hide (HA.out.gr hg)
  replace HB := hide (HB.out.gr hg)
  replace HD := hide (HD.out.gr hg)
  clear hg HX HS11 HS1
  have HS21 := hide (HS2.out w14 HY.out)
  go_wp2_with fail
  refine HS21.out.mono ?_
  rintro e w15 ⟨rfl, hg⟩
  replace HG := hide (HG.out.trans hg)
  replace HA := hide (HA.out.gr hg)
  replace HB := hide (HB.out.gr hg)
  replace HD := hide (HD.out.gr hg)
  clear hg HY HS21 HS2
  go_wp2_with fail
  clear hwz hsw hsw2 hss
  go_loopw [15] (fun i wr => ∃ j : Nat, i = .int .i64 j ∧ j ≤ Z.length ∧ Hid (Gr w15 wr)) (fun i _ => Z.length - (intOf i).toNat)
  case atStart => exact ⟨0, rfl, by omega, Gr.refl _⟩
  case round =>
    obtain ⟨j, rfl, hj, HR⟩ := hrel
    by_cases hlt : j < Z.length
    · have hlt' : (j : Int) < (Z.length : Int) := by omega
      obtain ⟨t1, t2⟩ := HT.out.2 j hlt
      obtain ⟨gc', cc', e1, hc⟩ := (HD.out.gr HR.out).at_ (by omega)
      simp only [Value.slice.injEq, Option.some.injEq, Addr.mk.injEq, true_and, and_true] at e1
      obtain ⟨rfl, rfl⟩ := e1
      obtain ⟨A4, k4, a4, i4, n4⟩ := hc j hlt
      clear hc
      by_cases hin : j < P.length
      · have hin' : (j : Int) < (P.length : Int) := by omega
        have heq := t1 hin
        have hrj := HR1.out _ (List.getElem_mem hin)
        obtain ⟨ga', ca', e1, ha⟩ := (HA.out.gr HR.out).at_ hp0
        simp only [Value.slice.injEq, Option.some.injEq, Addr.mk.injEq, true_and, and_true] at e1
        obtain ⟨rfl, rfl⟩ := e1
        obtain ⟨A5, k5, a5, i5, _⟩ := ha j hin
        have HQ := hide (fun n => SameInts_ok _ _ Z[j] P[j] (wr.drewN n) (i4.gr ((Gr.refl wr).drewN n)) (i5.gr ((Gr.refl wr).drewN n)) (by rw [heq]; omega) (by omega) heq)
        clear ha i4 i5 n4 t1 t2
        rw [heq] at a4 HQ
        clear heq
        generalize P[j].length = rl at a4 a5 HQ hrj
        go_wp2_with fail
        go_quiet (refine Calls.quiet_of (HQ.out _))
        go_wp2_with fail
        go_roundw
        case rel => exact ⟨j + 1, by go_num, by omega, HR.out.drewN _⟩
        case measure => simp [intOf]; omega
      · have hin' : ¬ (j : Int) < (P.length : Int) := by omega
        obtain ⟨q, h3, hq, h4, h5⟩ := t2 hin
        have hsub : (j : Int) - (P.length : Int) = (q : Int) := by omega
        have h3' : (q : Int) < (R.length : Int) := by omega
        have hrj := HR2.out _ (List.getElem_mem h3)
        have HVQ := hide (HVY.out _ (List.getElem_mem h3))
        obtain ⟨gb', cb', e1, hb⟩ := (HB.out.gr HR.out).at_ hr0
        simp only [Value.slice.injEq, Option.some.injEq, Addr.mk.injEq, true_and, and_true] at e1
        obtain ⟨rfl, rfl⟩ := e1
        obtain ⟨A5, k5, a5, _, n5⟩ := hb q h3
        have HN4 := hide n4
        have HN5 := hide n5
        have HEQ := hide h5
        have HA4 := hide (fun W (h : Gr wr W) => gr_cell h _ _ a4)
        clear hb i4 n4 n5 h5 t1 t2 hq
        generalize Z[j] = zj at *
        generalize R[q] = rq at *
        rw [h4] at a4 HA4
        go_wp2_with fail
        have HW := hide (Gr.refl wr)
        go_loopw [17] (fun i ws => ∃ k : Nat, i = .int .i64 k ∧ k ≤ rq.length ∧ Hid (Gr wr ws)) (fun i _ => rq.length - (intOf i).toNat)
        case atStart => exact ⟨0, rfl, by omega, HW⟩
        case round =>
          obtain ⟨k, rfl, hk, HR2x⟩ := hrel
          have b1 := HA4.out _ HR2x.out
          by_cases hk2 : k < rq.length
          · have hk2' : (k : Int) < (rq.length : Int) := by omega
            obtain ⟨x1, rfl, y1⟩ := HN4.out k (by omega)
            obtain ⟨x2, rfl, y2⟩ := HN5.out k hk2
            have z1 := gr_cell HR2x.out _ _ y1
            have z2 := gr_cell HR2x.out _ _ y2
            have heq := HEQ.out k (by omega) hk2
            have hval := HVQ.out _ (List.getElem_mem hk2)
            rw [heq] at z1
            clear y1 y2 heq
            generalize rq[k] = num at z1 z2 hval
            have hw1 : IntKind.i64.wrap (num + (ka : Int)) = num + (ka : Int) := IntWalk.i64_in _ (by omega)
            have hw2 : IntKind.i64.wrap (num + (ka : Int) + 1) = num + (ka : Int) + 1 := IntWalk.i64_in _ (by omega)
            rw [← Int.add_assoc] at z1
            go_wp2_with fail
            go_quiet (fail)
            go_wp2_with fail
            go_roundw
            case rel => exact ⟨k + 1, by go_num, by omega, HR2x.out.drewN _⟩
            case measure => simp [intOf]; omega
          · obtain rfl : k = rq.length := by omega
            go_wp2_with fail
            go_roundw
            case rel => exact ⟨j + 1, by go_num, by omega, HR.out.trans HR2x.out⟩
            case measure => simp [intOf]; omega
    · obtain rfl : j = Z.length := by omega
      go_wp2_with fail
      go_ret
      exact ⟨rfl, HG.out.trans HR.out⟩

end Go.Proofs.Ytiinidkofonidaa
