/-
  The walk of 'MergeOnce'.
-/
import Derived.Test.YtncdmecppfmmgaaMergeFacts
import Derived.Test.YtncdmecppfmmgaaMgCopy
import Derived.Test.YtncdmecppfmmgaaMgOnce
import Derived.StillTailTactics
namespace Go.Proofs.Ytncdmecppfmmgaa
open Go Go.RowKit TxnMath KeyMath MsgMath EpMath MgMath
set_option maxRecDepth 100000

theorem u8_nat {a : Int} (h : (Lit.int .u8 a).wf = true) : ∃ k : Nat, a = (k : Int) ∧ k < 256 := by
  have h0 : 0 ≤ a ∧ a ≤ 255 := by simpa [Lit.wf, IntKind.min, IntKind.max, IntKind.signed, IntKind.bits] using h
  exact ⟨a.toNat, by omega, by omega⟩
theorem logP_ses (l : List UInt8) (n : Nat) : ∀ k, ∀ e ∈ (logP l n k).1, e.t.ses ≤ 3
  | 0, e, he => by simp [logP] at he
  | k + 1, e, he => by
    rw [logP] at he
    rcases List.mem_append.1 he with he | he
    · exact logP_ses l n k e he
    · rw [List.mem_singleton] at he
      subst he
      unfold entP
      split
      · simp [noTxn]
      · have := pickV_lt l (pickN l (pickN l (logP l n k).2.2)) 3 (by decide)
        simp only [txP]
        omega
theorem logsL_ses (l : List UInt8) : ∀ p, ∀ e ∈ lg (logsL l) p, e.t.ses ≤ 3 := fun p e he => by
  rcases lg_mem (ls := logsL l) (p := p) with h | h
  · rw [h] at he; simp at he
  · obtain ⟨i, j, _, h2⟩ := logsL_mem h
    rw [h2] at he
    exact logP_ses _ _ _ e he
/-- the law's array of last ones -/
def lastC (ps : List PlaceT) (i : Nat) : Array Value := #[.int .i64 (lastQ ps 0 i), .int .i64 (lastQ ps 1 i), .int .i64 (lastQ ps 2 i), .int .i64 (lastQ ps 3 i)]
theorem lastC_at (ps : List PlaceT) (i : Nat) {q : Nat} (h : q < 4) : (lastC ps i)[q]? = some (.int .i64 (lastQ ps q i)) := by
  rcases q with _ | _ | _ | _ | q
  · rfl
  · rfl
  · rfl
  · rfl
  · omega
theorem lastC_more {ps : List PlaceT} {i : Nat} (hi : i < ps.length) (h : ps[i].part < 4) : (lastC ps i).setIfInBounds ps[i].part (.int .i64 ps[i].index) = lastC ps (i + 1) := by
  unfold lastC
  rw [lastQ_more hi, lastQ_more hi, lastQ_more hi, lastQ_more hi]
  obtain ⟨q, hq⟩ : ∃ q, ps[i].part = q := ⟨_, rfl⟩
  rw [hq] at h ⊢
  rcases q with _ | _ | _ | _ | q
  · simp
  · simp
  · simp
  · simp
  · omega

set_option maxHeartbeats 16000000 in
theorem walk_MergeOnce (w : World) (A : Option Addr) (n c : Nat) (l : List UInt8) (hn : n = l.length) (hby : By w A c l) (a : Int) (ha : (Lit.int .u8 a).wf = true) :
    Calls Try.prog 5 #[.slice A n c, .int .u8 a] w fun e w' => e = .returned (.bool true) ∧ Gr w w' := by
  subst hn
  have HBY := hide hby
  clear hby
  obtain ⟨na, rfl, hna⟩ := u8_nat ha
  clear ha
  by_cases h1 : (250 : Int) < (l.length : Int)
  · go_enter Try.func5, Try.ntmps5
    go_wp2_with fail
    refine (begun_ok _).mono ?_
    rintro e w1 ⟨rfl, hg1⟩
    go_wp2_with fail
    go_ret
    exact ⟨rfl, hg1⟩
  go_enter Try.func5, Try.ntmps5
  go_wp2_with fail
  refine (begun_ok _).mono ?_
  rintro e w1 ⟨rfl, hg1⟩
  have HG1 := hide hg1
  clear hg1
  go_wp2_with fail
  refine (logs_ok A c l w1 (HBY.out.gr HG1.out) (by omega)).mono ?_
  rintro e w2 ⟨v, rfl, hlx, hg2⟩
  have HT := hide (logsL_10 l)
  have HE := hide (logsL_each l)
  have HL3 := hide (logsL_len l)
  have HSS := hide (logsL_ses l)
  generalize logsL l = ls at hlx HT HE HL3 HSS
  have HLX := hide hlx
  replace HG1 := hide (HG1.out.trans hg2)
  obtain ⟨vA, vc, rfl, _⟩ := hlx.is
  clear hlx hg2
  have hlen3 : ls.length ≤ 3 := HL3.out
  have HA := hide (fun W v (h : LogsX W v ls) => All_ok v ls W h HT.out.len HT.out.each HT.out.bnd)
  have HOL := hide (order_len HT.out.len HT.out.each)
  have HOB := hide (order_bnd HT.out.bnd)
  have HON := hide (fun ps (h : (orderL ls).1 = ps) => fun i (hi : i < ps.length) => once_step h hi)
  go_wp2_with fail
  refine (HA.out w2 _ HLX.out).mono ?_
  rintro e w4 ⟨va, rfl, hpa, hg4, _⟩
  obtain ⟨aA, ac, rfl, _⟩ := hpa.is
  have HPA := hide hpa
  replace HG1 := hide (HG1.out.trans hg4)
  replace HLX := hide (HLX.out.gr hg4)
  clear hpa hg4 HA
  obtain ⟨ps, hps⟩ : ∃ ps, (orderL ls).1 = ps := ⟨_, rfl⟩
  have HPS := hide hps
  rw [hps] at HPA HOL HOB ⊢
  replace HON := hide (HON.out ps hps)
  clear hps
  go_wp2_with fail
  have hB4 := Bl.new w4 35 (lastC ps 0)
  have hB4g : Gr w4 (w4.alloc (.cells (lastC ps 0) 35)) := (Gr.refl w4).alloc _
  unfold lastC at hB4 hB4g
  rw [lastQ_zero, lastQ_zero, lastQ_zero, lastQ_zero] at hB4 hB4g
  obtain ⟨W5, hW5⟩ : ∃ W5, w4.alloc (.cells #[.int .i64 0, .int .i64 0, .int .i64 0, .int .i64 0] 35) = W5 := ⟨_, rfl⟩
  rw [hW5] at hB4 hB4g ⊢
  have HB0 : Hid (Bl W5 w4.heap.size 35 (lastC ps 0)) := by
    unfold Hid lastC
    rw [lastQ_zero, lastQ_zero, lastQ_zero, lastQ_zero]
    exact hB4
  have HG0 := hide hB4g
  clear hW5 hB4 hB4g
  go_loopw [8] (fun i wr => ∃ k : Nat, i = .int .i64 (k : Int) ∧ k ≤ ps.length ∧ Hid (Gr w4 wr) ∧ Hid (Bl wr w4.heap.size 35 (lastC ps k))) (fun i _ => ps.length - (intOf i).toNat)
  case atStart => exact ⟨0, rfl, by omega, HG0, HB0⟩
  case round =>
    obtain ⟨i, rfl, hi, HR, HB⟩ := hrel
    by_cases hlt : i < ps.length
    · have hlt' : (i : Int) < (ps.length : Int) := by omega
      obtain ⟨hq1, hq0, hq2, hq3, hq4, hq5, hq6⟩ := HON.out i hlt
      have hla := lastC_at ps i (show ps[i].part < 4 by omega)
      have hlm := lastC_more hlt (show ps[i].part < 4 by omega)
      have hbn := HOB.out _ (List.getElem_mem hlt)
      obtain ⟨ad, c', q, e1, hq, a0, a1, a2, a3, a4, a5⟩ := (HPA.out.gr HR.out).at_ hlt
      simp only [Value.slice.injEq, true_and] at e1
      obtain ⟨rfl, rfl⟩ := e1
      obtain ⟨x, hx⟩ : ∃ x, ps[i]'hlt = x := ⟨_, rfl⟩
      simp only [hx] at hq1 hq0 hq2 hq3 hq4 hq5 hq6 hla hlm hbn hq a0 a1 a2 a3 a4 a5
      obtain ⟨A1, c1, e3, _⟩ := hq.rd.1.is
      obtain ⟨B1, d1, e4, _⟩ := hq.wr.1.is
      obtain ⟨q1, q2⟩ := q
      simp only at e3 e4
      subst e3 e4
      obtain ⟨m, hm⟩ : ∃ m : Nat, x.index = (m : Int) + 1 := ⟨(x.index - 1).toNat, by omega⟩
      obtain ⟨pt, hpt⟩ : ∃ pt, x.part = pt := ⟨_, rfl⟩
      simp only [hm, hpt] at hq1 hq0 hq2 hq3 hq4 hq5 hq6 hla hlm a0 a1
      rw [lg_at hq1] at hq3 hq4 hq5 hq6
      have hml : m < ls[pt].length := by omega
      have hmt : ((m : Int) + 1).toNat - 1 = m := by omega
      rw [hmt] at hq4 hq5
      have ht5 : x.t = ls[pt][m].t := by rw [hq5]; simp [hml]
      have hsh : ls[pt][m].shut = false := by simpa [hml] using hq4
      have HQ6 := hide hq6
      have HLM := hide hlm
      have HLA := hide hla
      have HBN := hide hbn
      have HQX := hide hq
      have HSH := hide hsh
      have hl15 : ls[pt].length ≤ 15 := by have := HE.out pt; rwa [lg_at hq1] at this
      have HT5 := hide ht5
      clear hq4 hq5 hq6 hla hlm hbn hq hsh hx hm hpt ht5 hmt
      obtain ⟨z1, hz1⟩ : ∃ z1, x.t.ses = z1 := ⟨_, rfl⟩
      obtain ⟨z2, hz2⟩ : ∃ z2, x.t.seq = z2 := ⟨_, rfl⟩
      rw [hz1] at a2
      rw [hz2] at a3
      have HZ1 := hide hz1
      have HZ2 := hide hz2
      clear hz1 hz2
      go_wp2_with fail
      obtain ⟨W6, hW6⟩ : ∃ W6, wr.alloc (.cells #[.int .i64 (pt : Int), .int .i64 ((m : Int) + 1), .int .i64 z1, .int .i64 z2, .slice A1 x.t.reads.length c1, .slice B1 x.t.writes.length d1] 41) = W6 := ⟨_, rfl⟩
      have bx : Bl W6 wr.heap.size 41 #[.int .i64 (pt : Int), .int .i64 ((m : Int) + 1), .int .i64 z1, .int .i64 z2, .slice A1 x.t.reads.length c1, .slice B1 x.t.writes.length d1] := by rw [← hW6]; exact Bl.new _ _ _
      have g6 : Gr wr W6 := by rw [← hW6]; exact (Gr.refl _).alloc _
      rw [hW6]
      have hb6 := HB.out.gr g6
      obtain ⟨lA, lc, e2, _, hj⟩ := (HLX.out.gr (HR.out.trans g6)).is
      simp only [Value.slice.injEq, true_and] at e2
      obtain ⟨rfl, rfl⟩ := e2
      obtain ⟨adl, A2, c2, rfl, l0, hxl⟩ := hj pt hq1
      obtain ⟨ad2, c3, p2, e5, hp2, t0, t1, t2, t3, t4, t5⟩ := hxl.ent hml
      simp only [Value.slice.injEq, true_and] at e5
      obtain ⟨rfl, rfl⟩ := e5
      rw [HSH.out] at t1
      rw [← HT5.out] at hp2 t2 t3
      rw [HZ1.out] at t2
      rw [HZ2.out] at t3
      obtain ⟨A3, c4, e6, _⟩ := hp2.rd.1.is
      obtain ⟨B3, d4, e7, _⟩ := hp2.wr.1.is
      obtain ⟨p3, p4⟩ := p2
      simp only at e6 e7 t4 t5
      subst e6 e7
      have y0 : W6.cell? ⟨wr.heap.size, 0, none⟩ = some (.int .i64 (pt : Int)) := bx.cell 0
      have y1 : W6.cell? ⟨wr.heap.size, 1, none⟩ = some (.int .i64 ((m : Int) + 1)) := bx.cell 1
      have y2 : W6.cell? ⟨wr.heap.size, 2, none⟩ = some (.int .i64 z1) := bx.cell 2
      have y3 : W6.cell? ⟨wr.heap.size, 3, none⟩ = some (.int .i64 z2) := bx.cell 3
      have y4 : W6.cell? ⟨wr.heap.size, 4, none⟩ = some (.slice A1 x.t.reads.length c1) := bx.cell 4
      have y5 : W6.cell? ⟨wr.heap.size, 5, none⟩ = some (.slice B1 x.t.writes.length d1) := bx.cell 5
      have yl : W6.cell? ⟨w4.heap.size, pt, none⟩ = some (.int .i64 (lastQ ps pt i)) := by rw [hb6.cell]; exact HLA.out
      have hqx6 := HQX.out.gr g6
      have HC := hide (fun w' (h : Gr W6 w') => SameTxn_ok (.agg (txC x.t _).toArray) (.agg (txC x.t _).toArray) x.t x.t w' (hqx6.gr h).txAt (hp2.gr h).txAt HBN.out.1 HBN.out.1 HBN.out.2)
      rw [decide_eq_true rfl] at HC
      change Hid (∀ w', Gr W6 w' → Calls _ _ #[.agg #[.int .i64 x.t.ses, .int .i64 x.t.seq, .slice A1 _ c1, .slice B1 _ d1], .agg #[.int .i64 x.t.ses, .int .i64 x.t.seq, .slice A3 _ c4, .slice B3 _ d4]] _ _) at HC
      rw [HZ1.out, HZ2.out] at HC
      obtain ⟨lq, hlq⟩ : ∃ lq, lastQ ps pt i = lq := ⟨_, rfl⟩
      rw [hlq] at yl hq0 hq2 HQ6
      obtain ⟨n2, hn2⟩ : ∃ n2, ls[pt].length = n2 := ⟨_, rfl⟩
      rw [hn2] at l0 hml hl15
      have HN2 := hide hn2
      have HB6 := hide hb6
      have HG6 := hide g6
      have HXL := hide hxl
      have hix : (m : Int) + 1 - 1 = (m : Int) := by omega
      have hwx : IntKind.i64.wrap (m : Int) = (m : Int) := IntWalk.i64_in _ (by omega)
      have k1 : ¬ (pt : Int) < 0 := by omega
      have k2 : (pt : Int) < (ls.length : Int) := by omega
      have k3 : ¬ (m : Int) + 1 < 1 := by omega
      have k4 : ¬ (n2 : Int) < (m : Int) + 1 := by omega
      have k5 : ¬ (m : Int) + 1 ≤ lq := by omega
      have k6 : (m : Int) < (n2 : Int) := by omega
      have k7 : (pt : Int) < 4 := by omega
      clear hn2 hb6 g6 hxl hj hqx6 hp2 hlq bx hW6 a0 a1 a2 a3 a4 a5
      obtain ⟨lqn, hlqn⟩ : ∃ n : Nat, lq = (n : Int) := ⟨lq.toNat, by omega⟩
      subst hlqn
      have hwl : IntKind.i64.wrap ((lqn : Int) + 1) = (lqn : Int) + 1 := IntWalk.i64_in _ (by omega)
      go_still_tail 62, (by kernel_rfl)
      change wpList _ _ _ _ _ W6.drew
      go_wp2_with fail
      refine (HC.out _ (Gr.refl W6).drew).mono ?_
      rintro e w7 ⟨rfl, hg7⟩
      have hg67 := (Gr.refl W6).drew.trans hg7
      have v0 := gr_cell hg67 _ _ y0
      have v1 := gr_cell hg67 _ _ y1
      have vl := gr_cell hg67 _ _ yl
      have ll := gr_cell hg67 _ _ l0
      have HB7 := hide (HB6.out.gr hg67)
      have HR7 := hide (HR.out.trans (HG6.out.trans hg67))
      have HXL7 := hide (HXL.out.gr hg67)
      have f7 : w7.frozen? ⟨w4.heap.size, pt, none⟩ = false := HB7.out.frozen pt
      clear y0 y1 y2 y3 y4 y5 yl l0 t0 t1 t2 t3 t4 t5 HC HB6 HG6 HXL hg7 hg67
      go_wp2_with fail
      go_loopw [10] (fun v ws => ∃ kk : Nat, v = .int .i64 ((kk : Int) + 1) ∧ lqn ≤ kk ∧ kk ≤ m ∧ ws = w7) (fun v _ => m + 2 - (intOf v).toNat)
      case atStart => exact ⟨lqn, by go_num, by omega, by omega, rfl⟩
      case round =>
        obtain ⟨kk, rfl, hk1, hk2, rfl⟩ := hrel
        by_cases hkm : kk < m
        · have hkI : (kk : Int) + 1 < (m : Int) + 1 := by omega
          have hkI2 : (kk : Int) < (m : Int) := by omega
          have hkn : (kk : Int) < (n2 : Int) := by omega
          have hkl : kk < ls[pt].length := by rw [HN2.out]; omega
          have hsk : ls[pt][kk].shut = true := by
            have h := HQ6.out (kk + 1) (by omega) (by omega)
            rw [Nat.add_sub_cancel] at h
            simpa [hkl] using h
          obtain ⟨ad3, c5, p5, e8, _, _, s1, _, _, _, _⟩ := HXL7.out.ent hkl
          simp only [Value.slice.injEq, true_and] at e8
          obtain ⟨e8, e9⟩ := e8
          injection e8 with e8
          subst e8 e9
          rw [hsk] at s1
          have hix2 : (kk : Int) + 1 - 1 = (kk : Int) := by omega
          have hwx2 : IntKind.i64.wrap (kk : Int) = (kk : Int) := IntWalk.i64_in _ (by omega)
          go_wp2_with fail
          go_roundw
          case rel => exact ⟨kk + 1, by go_num, by omega, by omega, trivial⟩
          case measure => simp [intOf]; omega
        · obtain rfl : kk = m := by omega
          have hpl : ps.length ≤ 1000000 := HOL.out
          have hil : (i : Int) < (ps.length : Int) := by omega
          go_wp2_with fail
          go_roundw
          case rel =>
            refine ⟨i + 1, by go_num, by omega, HR7.out.fresh ((But.refl _ _).set _ _) (Nat.le_refl _), ?_⟩
            have h := HB7.out.put pt (.int .i64 ((kk : Int) + 1))
            rw [HLM.out] at h
            exact h
          case measure => simp [intOf]; omega
    · obtain rfl : i = ps.length := by omega
      have HLXR := hide (HLX.out.gr HR.out)
      have HGR := hide (HG1.out.trans HR.out)
      by_cases hz : ls.length = 0
      · have hp0 : ps.length = 0 := by rw [← HPS.out, order_none hz]; rfl
        rw [hz] at HLXR ⊢
        clear hz HLX HG1 HB HR
        go_wp2_with fail
        go_ret
        exact ⟨rfl, HGR.out⟩
      have hpos : 0 < ls.length := by omega
      obtain ⟨k, hk⟩ : ∃ k, na % ls.length = k := ⟨_, rfl⟩
      have hkl : k < ls.length := by rw [← hk]; exact Nat.mod_lt _ hpos
      have ek : (na : Int).tmod (ls.length : Int) = (k : Int) := by rw [← hk]; rfl
      have ek2 : (na : Int) % (ls.length : Int) = (k : Int) := by rw [← hk]; exact (Int.natCast_emod na ls.length).symm
      have m0 : ¬ (ls.length : Int) = 0 := by omega
      have hkI : (k : Int) < (ls.length : Int) := by omega
      clear hk
      have hel : ls[k].length ≤ 15 := by have := HE.out k; rwa [lg_at hkl] at this
      have hT2 : Logs10 (ls.set k (ls[k] ++ [barE 9 false 9 9])) := HT.out.set hkl (by simp; omega) fun e he => by
        rcases List.mem_append.1 he with he | he
        · exact HT.out.bnd k e (by rw [lg_at hkl]; exact he)
        · rw [List.mem_singleton] at he; subst he; exact Bare.bnd ⟨rfl, rfl⟩
      have HGO := hide (order_set hkl (barE 9 false 9 9))
      have HB9 := hide (fun W v (h : LogsX W v (ls.set k (ls[k] ++ [barE 9 false 9 9]))) => All_ok v _ W h hT2.len hT2.each hT2.bnd)
      have HBL := hide (order_len hT2.len hT2.each)
      have HNO := hide (order_P (P := fun t => t.ses ≤ 3) HSS.out (by decide))
      rw [HPS.out] at HGO HNO
      clear hT2 HLX HB HPA HON
      have HLX := HLXR
      clear HLXR
      go_wp2_with (at_builtin; refine pause ?_)
      refine hide ?_
      refine wpList_copyLogs rfl (.tmp 137) (.tmp 138) rfl rfl HLX.out rfl (by omega) hpos ?_
      intro g gc cs w5 hcp
      have hg5 := hcp.bl.lt
      have hgi := hcp.hi
      obtain ⟨lA, lc, e1, _, hj⟩ := HLX.out.is
      simp only [Value.slice.injEq, true_and] at e1
      obtain ⟨rfl, rfl⟩ := e1
      obtain ⟨ad, kA, kc, rfl, a0, hx⟩ := hj k hkl
      have hgr5 : Gr wr (w5.alloc (.cells #[] 43)) := hcp.gr.alloc _
      have a1 := gr_cell hgr5 _ _ a0
      have hx5 := (hx.low.wide (X' := fun j => j < wr.heap.size) fun j hj => hj.2).gr hgr5
      have HX := hide (hx5.wide (X' := fun j => j < wr.heap.size ∧ (Value.slice (some ⟨w5.heap.size, 0, none⟩) 0 0).ownBlock ≠ some j) fun j hj => ⟨hj, by intro e; simp [Value.ownBlock] at e; have := hcp.gr.size; omega⟩)
      have HOE := hide (ownEnt_empty (fun j => j < wr.heap.size) w5 (Nat.le_refl _))
      have HCP := hide hcp
      have hkA := hide hx5
      clear hj hx hx5 a0 hgr5 hcp hkA
      obtain ⟨ml, hml⟩ : ∃ ml, ls[k].length = ml := ⟨_, rfl⟩
      rw [hml] at a1 HX
      go_wp2_with (at_builtin; refine pause ?_)
      refine hide ?_
      refine wpList_appEnt rfl (.tmp 142) (.tmp 146) rfl rfl HOE.out HX.out (by simp) rfl (by simp; omega) ?_
      intro v6 w6 o6 p6
      rw [List.nil_append] at o6
      obtain ⟨A6, c6, rfl⟩ := o6.is
      rw [hml] at o6 p6 ⊢
      have g6 : Gr w5 w6 := own_more ((Gr.refl w5).alloc _) HOE.out (Nat.le_refl _) (Gr.refl _) p6
      have HO6 := hide o6
      have HG6 := hide g6
      clear o6 p6 g6 HOE HX a1
      go_wp2_with (at_builtin; refine pause ?_)
      refine hide ?_
      refine wpList_pushEnt rfl (.tmp 147) (.tmp 150) rfl (barE 9 false 9 9) (.slice none 0 0, .slice none 0 0) rfl rfl HO6.out (bare_rows _ _ ⟨rfl, rfl⟩) HG6.out.size (congrArg (fun z => Value.slice (some ⟨z, 0, none⟩) 1 1) (by simp)) (by omega) ?_
      intro v7 w7 o7 p7
      have g7 : Gr w5 w7 := own_more HG6.out HO6.out (Nat.le_refl _) (Gr.refl _) p7
      have hcp7 := HCP.out.more g7
      obtain ⟨u0, hc7⟩ := hcp7.cell hkl
      have f7 : w7.frozen? ⟨g, k, none⟩ = false := hcp7.bl.frozen k
      have hx7 := o7.off (g := g) (fun e => by have := (o7.lt g e).1; omega) (fun j hj => by omega)
      obtain ⟨hlx8, hg8⟩ := hcp7.put (k := k) hx7
      obtain ⟨A7, c7, e7⟩ := o7.is
      have e8 : (ls[k] ++ [barE 9 false 9 9]).length = ml + 1 := by simp [hml]
      rw [e8] at e7
      subst e7
      have HLX8 := hide hlx8
      have HG8 := hide hg8
      clear hlx8 hg8 hx7 hcp7 g7 p7 o7 HO6 HG6 HCP hml e8
      go_wp2_with fail
      refine (HB9.out _ _ HLX8.out).mono ?_
      rintro e w9 ⟨vb, rfl, hpb, hg9, _⟩
      obtain ⟨r, hr⟩ := HGO.out
      rw [hr] at hpb HBL
      have HFR := hide (first_behind (ses := 9) (seq := 9) (a := ps) (r := r) fun x hx h => by have := HNO.out x hx; omega)
      obtain ⟨bA, bc, rfl, _⟩ := hpb.is
      have HPB := hide hpb
      replace HGR := hide (HGR.out.trans (HG8.out.trans hg9))
      clear hpb hg9 HG8 HLX8 HB9 hc7 f7 HGO
      generalize ps ++ r = bs9 at *
      go_wp2_with fail
      refine (First_ok _ bs9 9 9 w9 HPB.out HBL.out).mono ?_
      rintro e w10 ⟨rfl, hg10⟩
      replace HGR := hide (HGR.out.trans hg10)
      clear hg10 HPB
      obtain ⟨f9, hf9⟩ : ∃ f, firstL 9 9 bs9 0 = f := ⟨_, rfl⟩
      rw [hf9] at HFR ⊢
      clear hf9
      rcases HFR.out with h0 | h0
      · subst h0
        go_wp2_with fail
        go_ret
        exact ⟨rfl, HGR.out⟩
      · have hI : (ps.length : Int) < (f9 : Int) := by omega
        have hI2 : ((f9 : Int) == 0) = false := by rw [beq_eq_false_iff_ne]; omega
        go_wp2_with fail
        go_ret
        exact ⟨rfl, HGR.out⟩

end Go.Proofs.Ytncdmecppfmmgaa
