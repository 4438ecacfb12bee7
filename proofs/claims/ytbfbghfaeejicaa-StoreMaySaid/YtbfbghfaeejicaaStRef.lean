/-
  The document's chain, one, Get, Last of a store, by their contracts.
-/
import Derived.Test.YtbfbghfaeejicaaStGet
import Derived.Test.YtbfbghfaeejicaaChRef
import Derived.Test.YtbfbghfaeejicaaStMay
import Derived.Test.YtbfbghfaeejicaaChRefMay
namespace Go.Proofs.Ytbfbghfaeejicaa
open Go Go.RowKit ChMath KeyMath StMath TxnMath
set_option maxRecDepth 100000

def ChainPost (k : ByteArray) (cs : List ChT) (w : World) (e : Ending) (w' : World) : Prop := ∃ p, e = .returned p ∧ VersX w' p (findC k cs) ∧ Gr w w'
theorem key_cases (a b : ByteArray) : a = b ∨ a ≠ b ∧ (a.toList == b.toList) = false := by
  by_cases h : a.toList = b.toList
  · exact .inl (list_inj h)
  · exact .inr ⟨fun e => h (by rw [e]), beq_eq_false_iff_ne.2 h⟩
set_option maxHeartbeats 1000000 in
theorem refChain_ok (k : ByteArray) (u : Value) (m : Int) (cs : List ChT) (w : World) (hv : ChnsX w u cs) (hl : CsLen cs) :
    Calls Try.prog 43 #[.agg #[u, .int .i64 m], .string k] w (ChainPost k cs w) := by
  have HV := hide hv
  have hcl := hl.1
  have HL := hide hl.2
  obtain ⟨A, c, rfl⟩ := hv.is
  clear hv hl
  go_enter Try.func43, Try.ntmps43
  go_upto_region 1 with (fail)
  obtain ⟨W1, hW1⟩ : ∃ W1, w.alloc (.cells #[.slice A cs.length c, .int .i64 m] 26) = W1 := ⟨_, rfl⟩
  have hg1 : Gr w W1 := by rw [← hW1]; exact (Gr.refl _).alloc _
  have hb1 : Bl W1 w.heap.size 26 #[.slice A cs.length c, .int .i64 m] := by rw [← hW1]; exact Bl.new _ _ _
  rw [hW1]
  have m0 : W1.cell? ⟨w.heap.size, 0, none⟩ = some (.slice A cs.length c) := hb1.cell 0
  have HG1 := hide hg1
  clear hW1 hg1 hb1
  go_wp2_with fail
  go_loopw [5] (fun i wr => ∃ j : Nat, i = .int .i64 j ∧ j ≤ cs.length ∧ Hid (∀ i (hi : i < cs.length), i < j → isK k cs[i] = false) ∧ wr = W1) (fun i _ => cs.length - (intOf i).toNat)
  case atStart => exact ⟨0, rfl, by omega, fun i _ h => absurd h (by omega), rfl⟩
  case round =>
    obtain ⟨j, rfl, hj, HJ, rfl⟩ := hrel
    by_cases hlt : j < cs.length
    · have hlt' : (j : Int) < (cs.length : Int) := by omega
      obtain ⟨ad, c', q, e1, hq, a0, a1⟩ := (HV.out.gr HG1.out).at_ hlt
      simp only [Value.slice.injEq, true_and] at e1
      obtain ⟨rfl, rfl⟩ := e1
      have HJ1 : Hid (isK k cs[j] = false → ∀ i (hi : i < cs.length), i < j + 1 → isK k cs[i] = false) := hide (fun h i hi hij => by
        by_cases hx : i < j
        · exact HJ.out i hi hx
        · obtain rfl : i = j := by omega
          exact h)
      have HJ2 : Hid (isK k cs[j] = true → findC k cs = cs[j].l) := hide (fun h => by
        have e := firstI_at hlt h HJ.out
        rw [findC_first, e, List.getElem?_eq_getElem hlt]
        rfl)
      have hle := HL.out _ (List.getElem_mem hlt)
      generalize cs[j] = x at a0 a1 HJ1 HJ2 hq hle
      obtain ⟨xk, xl⟩ := x
      simp only at a0 a1 hq hle
      have HQ := hide hq
      obtain ⟨qA, qc, hqe, _⟩ := hq.is
      generalize xl.length = qn at hqe
      subst hqe
      clear hq
      rcases key_cases xk k with rfl | ⟨hne, hnl⟩
      · have HF := hide (HJ2.out (decide_eq_true rfl))
        clear HJ1 HJ2 HJ
        go_wp2_with fail
        go_ret
        exact ⟨_, rfl, by rw [HF.out]; exact HQ.out, HG1.out⟩
      · have HJ3 := hide (HJ1.out (decide_eq_false hne))
        clear HJ1 HJ2 HJ hne
        go_wp2_with fail
        go_roundw
        case rel => exact ⟨j + 1, by go_num, by omega, HJ3, trivial⟩
        case measure => simp [intOf]; omega
    · obtain rfl : j = cs.length := by omega
      have HF := hide (show findC k cs = [] from find_none (firstI_none fun i hi => HJ.out i hi hi))
      clear HJ
      go_wp2_with fail
      go_ret
      exact ⟨_, rfl, by rw [HF.out]; exact VersX.nil _ _ _, HG1.out⟩

set_option maxHeartbeats 1000000 in
theorem refLastS_ok (k : ByteArray) (u : Value) (m : Int) (cs : List ChT) (w : World) (hv : ChnsX w u cs) (hl : CsLen cs) :
    Calls Try.prog 17 #[.agg #[u, .int .i64 m], .string k] w fun e w' => e = .returned (.int .i64 (lastP (findC k cs))) ∧ Gr w w' := by
  have HV := hide hv
  have HU := hide (fun W (h : ChnsX W u cs) => refChain_ok k u m cs W h hl)
  have hfl := find_len k hl
  obtain ⟨A, c, rfl⟩ := hv.is
  obtain ⟨z, hz⟩ : ∃ z, lastP (findC k cs) = z := ⟨_, rfl⟩
  rw [hz]
  have HZ := hide hz
  clear hv hz
  go_enter Try.func17, Try.ntmps17
  go_wp2_with fail
  refine (HU.out _ (HV.out.gr ((Gr.refl _).alloc _))).mono ?_
  rintro e w2 ⟨p, rfl, hp, hg⟩
  have HL := hide (RefLast_ok p (findC k cs) w2 hp (by omega))
  have HG := hide (((Gr.refl w).alloc _).trans hg)
  obtain ⟨pA, pc, hpp, _⟩ := hp.is
  rw [HZ.out] at HL
  generalize (findC k cs).length = n at hpp
  subst hpp
  clear hp hg
  go_wp2_with fail
  refine HL.out.mono ?_
  rintro e w3 ⟨rfl, rfl⟩
  go_wp2_with fail
  go_ret
  exact ⟨rfl, HG.out⟩

set_option maxHeartbeats 1000000 in
theorem one_ok (q : ByteArray) (pos : Int) (u : Value) (m : Int) (cs : List ChT) (w : World) (hv : ChnsX w u cs) (hl : CsLen cs) :
    Calls Try.prog 40 #[.agg #[u, .int .i64 m], .string q, .int .i64 pos] w fun e w' => e = .returned (rdA (seenC q (findC q cs) pos)) ∧ Gr w w' := by
  have HV := hide hv
  have HU := hide (fun W (h : ChnsX W u cs) => refChain_ok q u m cs W h hl)
  have hfl := find_len q hl
  obtain ⟨A, c, rfl⟩ := hv.is
  clear hv hl
  obtain ⟨l, hll⟩ : ∃ l, findC q cs = l := ⟨_, rfl⟩
  unfold ChainPost at HU
  rw [hll] at HU hfl ⊢
  clear hll
  have HA := hide (fun p W (h : VersX W p l) => RefAt_ok p l pos W h (by omega))
  unfold seenC
  unfold AtPost at HA
  obtain ⟨x, hx⟩ : ∃ x, atV pos l = x := ⟨_, rfl⟩
  obtain ⟨y, hy⟩ : ∃ y, isV pos l = y := ⟨_, rfl⟩
  rw [hx, hy] at HA ⊢
  obtain ⟨xp, xt, xb⟩ := x
  simp only [verA] at HA
  unfold rdA
  clear hx hy
  go_enter Try.func40, Try.ntmps40
  go_upto_region 1 with (fail)
  obtain ⟨W1, hW1⟩ : ∃ W1, (w.alloc (.cells #[.slice A cs.length c, .int .i64 m] 26)).alloc (.cells #[.string ⟨#[]⟩, .int .i64 0, .string ⟨#[]⟩, .bool false] 40) = W1 := ⟨_, rfl⟩
  have hg1 : Gr w W1 := by rw [← hW1]; exact ((Gr.refl _).alloc _).alloc _
  have hb1 : Bl W1 w.heap.size 26 #[.slice A cs.length c, .int .i64 m] := by rw [← hW1]; exact (Bl.new _ _ _).gr ((Gr.refl _).alloc _)
  have hb2 : Bl W1 (w.heap.size + 1) 40 #[.string ⟨#[]⟩, .int .i64 0, .string ⟨#[]⟩, .bool false] := by rw [← hW1]; have := Bl.new (w.alloc (.cells #[.slice A cs.length c, .int .i64 m] 26)) 40 #[.string ⟨#[]⟩, .int .i64 0, .string ⟨#[]⟩, .bool false]; simpa using this
  rw [hW1]
  have k0 : W1.cell? ⟨w.heap.size, 0, none⟩ = some (.slice A cs.length c) := hb1.cell 0
  have k1 : W1.cell? ⟨w.heap.size, 1, none⟩ = some (.int .i64 m) := hb1.cell 1
  have HG1 := hide hg1
  have HB2 := hide hb2
  clear hW1 hg1 hb1 hb2
  go_wp2_with fail
  refine (HU.out _ (HV.out.gr HG1.out)).mono ?_
  rintro e w1 ⟨p, rfl, hp, hg1⟩
  have HP := hide hp
  have HGA := hide hg1
  obtain ⟨pA, pc, hpp, _⟩ := hp.is
  generalize hln : l.length = n at hpp
  subst hpp
  clear hp hg1 k0 k1 hln
  go_wp2_with fail
  refine (HA.out _ _ HP.out).mono ?_
  rintro e w2 ⟨rfl, hg2⟩
  go_upto_region 2 with (fail)
  obtain ⟨W2, hW2⟩ : ∃ W2, w2.alloc (.cells #[.int .i64 xp, .string xt, .bool xb] 51) = W2 := ⟨_, rfl⟩
  have hg3 : Gr W1 W2 := by rw [← hW2]; exact (HGA.out.trans hg2).alloc _
  have hb3 : Bl W2 w2.heap.size 51 #[.int .i64 xp, .string xt, .bool xb] := by rw [← hW2]; exact Bl.new _ _ _
  rw [hW2]
  have m0 : W2.cell? ⟨w2.heap.size, 0, none⟩ = some (.int .i64 xp) := hb3.cell 0
  have m1 : W2.cell? ⟨w2.heap.size, 1, none⟩ = some (.string xt) := hb3.cell 1
  have m2 : W2.cell? ⟨w2.heap.size, 2, none⟩ = some (.bool xb) := hb3.cell 2
  have hbr := HB2.out.gr hg3
  have r0 : W2.cell? ⟨w.heap.size + 1, 0, none⟩ = some (.string ⟨#[]⟩) := hbr.cell 0
  have r1 : W2.cell? ⟨w.heap.size + 1, 1, none⟩ = some (.int .i64 0) := hbr.cell 1
  have r2 : W2.cell? ⟨w.heap.size + 1, 2, none⟩ = some (.string ⟨#[]⟩) := hbr.cell 2
  have r3 : W2.cell? ⟨w.heap.size + 1, 3, none⟩ = some (.bool false) := hbr.cell 3
  have f0 := hbr.frozen 0
  have f1 := hbr.frozen 1
  have f2 := hbr.frozen 2
  have f3 := hbr.frozen 3
  have HG3 := hide (HG1.out.trans hg3)
  have HBR := hide hbr
  have hw1 : w.heap.size ≤ w.heap.size + 1 := Nat.le_succ _
  clear hW2 hg3 hb3 hbr hg2 HB2 HG1 HU HA HP HGA
  have hfin : ∀ z : Bool, Hid (∀ W3, W3 = (((W2.setCell ⟨w.heap.size + 1, 0, none⟩ (.string q)).setCell ⟨w.heap.size + 1, 1, none⟩ (.int .i64 xp)).setCell ⟨w.heap.size + 1, 2, none⟩ (.string xt)).setCell ⟨w.heap.size + 1, 3, none⟩ (.bool z) → Bl W3 (w.heap.size + 1) 40 #[.string q, .int .i64 xp, .string xt, .bool z] ∧ Gr w W3) := fun z => hide (fun W3 h3 => by
    refine ⟨?_, ?_⟩
    · rw [h3]; exact (((HBR.out.put 0 _).put 1 _).put 2 _).put 3 _
    · refine HG3.out.fresh_ (k := w.heap.size + 1) ?_ hw1
      rw [h3]
      exact ((((But.refl _ _).set 0 _).set 1 _).set 2 _).set 3 _)
  cases y
  · have HF := hfin false
    clear hfin
    go_wp2_with fail
    obtain ⟨W3, hW3⟩ : ∃ W3, W3 = (((W2.setCell ⟨w.heap.size + 1, 0, none⟩ (.string q)).setCell ⟨w.heap.size + 1, 1, none⟩ (.int .i64 xp)).setCell ⟨w.heap.size + 1, 2, none⟩ (.string xt)).setCell ⟨w.heap.size + 1, 3, none⟩ (.bool false) := ⟨_, rfl⟩
    rw [← hW3]
    obtain ⟨hb4, hg4⟩ := HF.out W3 hW3
    refine bodyPost_ret (results_cell_row rfl _ W3 (w.heap.size + 1) 40 _ (0, 0) _ rfl hb4 Try.underlying40 rfl (by kernel_rfl)) rfl ?_
    exact ⟨rfl, hg4⟩
  · have HF := hfin (!xb)
    clear hfin
    go_wp2_with fail
    obtain ⟨W3, hW3⟩ : ∃ W3, W3 = (((W2.setCell ⟨w.heap.size + 1, 0, none⟩ (.string q)).setCell ⟨w.heap.size + 1, 1, none⟩ (.int .i64 xp)).setCell ⟨w.heap.size + 1, 2, none⟩ (.string xt)).setCell ⟨w.heap.size + 1, 3, none⟩ (.bool (!xb)) := ⟨_, rfl⟩
    rw [← hW3]
    obtain ⟨hb4, hg4⟩ := HF.out W3 hW3
    refine bodyPost_ret (results_cell_row rfl _ W3 (w.heap.size + 1) 40 _ (0, 0) _ rfl hb4 Try.underlying40 rfl (by kernel_rfl)) rfl ?_
    exact ⟨rfl, hg4⟩

set_option maxHeartbeats 1000000 in
theorem RefGet_ok (s : StT) (k : ByteArray) (pos : Int) (u : Value) (w : World) (hv : ChnsX w u s.chains) (hl : CsLen s.chains) :
    Calls Try.prog 15 #[.agg #[u, .int .i64 s.mark], .string k, .int .i64 pos] w (GetPost (getS s k pos) w) := by
  obtain ⟨cs, m⟩ := s
  simp only at hv hl ⊢
  have HV := hide hv
  have HU := hide (fun W (h : ChnsX W u cs) => one_ok k pos u m cs W h hl)
  obtain ⟨A, c, rfl⟩ := hv.is
  clear hv
  obtain ⟨r, hr⟩ : ∃ r, getS ⟨cs, m⟩ k pos = r := ⟨_, rfl⟩
  rw [hr]
  have HR := hide hr
  clear hr
  go_enter Try.func15, Try.ntmps15
  go_upto_region 1 with (fail)
  obtain ⟨W1, hW1⟩ : ∃ W1, (w.alloc (.cells #[.slice A cs.length c, .int .i64 m] 26)).alloc (.cells #[.string ⟨#[]⟩, .int .i64 0, .string ⟨#[]⟩, .bool false] 40) = W1 := ⟨_, rfl⟩
  have hg1 : Gr w W1 := by rw [← hW1]; exact ((Gr.refl _).alloc _).alloc _
  have hb1 : Bl W1 w.heap.size 26 #[.slice A cs.length c, .int .i64 m] := by rw [← hW1]; exact (Bl.new _ _ _).gr ((Gr.refl _).alloc _)
  have hb2 : Bl W1 (w.heap.size + 1) 40 #[.string ⟨#[]⟩, .int .i64 0, .string ⟨#[]⟩, .bool false] := by rw [← hW1]; have := Bl.new (w.alloc (.cells #[.slice A cs.length c, .int .i64 m] 26)) 40 #[.string ⟨#[]⟩, .int .i64 0, .string ⟨#[]⟩, .bool false]; simpa using this
  rw [hW1]
  have k0 : W1.cell? ⟨w.heap.size, 0, none⟩ = some (.slice A cs.length c) := hb1.cell 0
  have k1 : W1.cell? ⟨w.heap.size, 1, none⟩ = some (.int .i64 m) := hb1.cell 1
  have HG1 := hide hg1
  have HB2 := hide hb2
  have hw1 : w.heap.size ≤ w.heap.size + 1 := Nat.le_succ _
  have hfin : Hid (∀ (W2 : World) (r : RdT), Gr W1 W2 → ∀ W3, W3 = (((W2.setCell ⟨w.heap.size + 1, 0, none⟩ (.string r.key)).setCell ⟨w.heap.size + 1, 1, none⟩ (.int .i64 r.ver)).setCell ⟨w.heap.size + 1, 2, none⟩ (.string r.val)).setCell ⟨w.heap.size + 1, 3, none⟩ (.bool r.there) → Bl W3 (w.heap.size + 1) 40 #[.string r.key, .int .i64 r.ver, .string r.val, .bool r.there] ∧ Gr w W3) := hide (fun W2 r hg W3 h3 => by
    refine ⟨?_, ?_⟩
    · rw [h3]; exact ((((HB2.out.gr hg).put 0 _).put 1 _).put 2 _).put 3 _
    · refine (HG1.out.trans hg).fresh_ (k := w.heap.size + 1) ?_ hw1
      rw [h3]
      exact ((((But.refl _ _).set 0 _).set 1 _).set 2 _).set 3 _)
  by_cases hpm : pos < m
  · have HE := hide (HR.out.symm.trans (show getS ⟨cs, m⟩ k pos = (noRd, 4) by unfold getS; rw [if_pos (by exact hpm)]))
    have r0 : W1.cell? ⟨w.heap.size + 1, 0, none⟩ = some (.string ⟨#[]⟩) := hb2.cell 0
    have r1 : W1.cell? ⟨w.heap.size + 1, 1, none⟩ = some (.int .i64 0) := hb2.cell 1
    have r2 : W1.cell? ⟨w.heap.size + 1, 2, none⟩ = some (.string ⟨#[]⟩) := hb2.cell 2
    have r3 : W1.cell? ⟨w.heap.size + 1, 3, none⟩ = some (.bool false) := hb2.cell 3
    have f0 := hb2.frozen 0
    have f1 := hb2.frozen 1
    have f2 := hb2.frozen 2
    have f3 := hb2.frozen 3
    have HF := hide (hfin.out W1 noRd (Gr.refl _))
    clear hfin hW1 hg1 hb1 hb2
    go_wp2_with fail
    obtain ⟨W3, hW3⟩ : ∃ W3, W3 = (((W1.setCell ⟨w.heap.size + 1, 0, none⟩ (.string ⟨#[]⟩)).setCell ⟨w.heap.size + 1, 1, none⟩ (.int .i64 0)).setCell ⟨w.heap.size + 1, 2, none⟩ (.string ⟨#[]⟩)).setCell ⟨w.heap.size + 1, 3, none⟩ (.bool false) := ⟨_, rfl⟩
    rw [← hW3]
    obtain ⟨hb4, hg4⟩ := HF.out W3 hW3
    refine bodyPost_ret (results_cell2 rfl _ W3 (w.heap.size + 1) 40 _ (0, 0) _ rfl hb4 Try.underlying40 rfl (by kernel_rfl)) rfl ?_
    exact ⟨by rw [HE.out]; rfl, hg4⟩
  · have HE := hide (HR.out.symm.trans (show getS ⟨cs, m⟩ k pos = (seenC k (findC k cs) pos, 0) by unfold getS; rw [if_neg (by exact hpm)]))
    obtain ⟨x, hx⟩ : ∃ x, seenC k (findC k cs) pos = x := ⟨_, rfl⟩
    rw [hx] at HU HE
    obtain ⟨xk, xv, xx, xt⟩ := x
    unfold rdA at HU
    simp only at HU
    clear hW1 hg1 hb1 hb2 hx
    go_wp2_with fail
    refine (HU.out _ (HV.out.gr HG1.out)).mono ?_
    rintro e w3 ⟨rfl, hg3⟩
    have HG3 := hide hg3
    have hb2 := HB2.out.gr HG3.out
    have r0 : w3.cell? ⟨w.heap.size + 1, 0, none⟩ = some (.string ⟨#[]⟩) := hb2.cell 0
    have r1 : w3.cell? ⟨w.heap.size + 1, 1, none⟩ = some (.int .i64 0) := hb2.cell 1
    have r2 : w3.cell? ⟨w.heap.size + 1, 2, none⟩ = some (.string ⟨#[]⟩) := hb2.cell 2
    have r3 : w3.cell? ⟨w.heap.size + 1, 3, none⟩ = some (.bool false) := hb2.cell 3
    have f0 := hb2.frozen 0
    have f1 := hb2.frozen 1
    have f2 := hb2.frozen 2
    have f3 := hb2.frozen 3
    have HF := hide (hfin.out w3 ⟨xk, xv, xx, xt⟩ HG3.out)
    clear hfin hg3 hb2 k0 k1 HU HV
    go_wp2_with fail
    obtain ⟨W3, hW3⟩ : ∃ W3, W3 = (((w3.setCell ⟨w.heap.size + 1, 0, none⟩ (.string xk)).setCell ⟨w.heap.size + 1, 1, none⟩ (.int .i64 xv)).setCell ⟨w.heap.size + 1, 2, none⟩ (.string xx)).setCell ⟨w.heap.size + 1, 3, none⟩ (.bool xt) := ⟨_, rfl⟩
    rw [← hW3]
    obtain ⟨hb4, hg4⟩ := HF.out W3 hW3
    refine bodyPost_ret (results_cell2 rfl _ W3 (w.heap.size + 1) 40 _ (0, 0) _ rfl hb4 Try.underlying40 rfl (by kernel_rfl)) rfl ?_
    exact ⟨by rw [HE.out]; rfl, hg4⟩
end Go.Proofs.Ytbfbghfaeejicaa

/-
  The document's Span and MayStore by their contracts.
-/
namespace Go.Proofs.Ytbfbghfaeejicaa
open Go Go.RowKit ChMath KeyMath StMath TxnMath
set_option maxRecDepth 100000

theorem spanR_next {f t : ByteArray} {p : Int} {all cs : List ChT} {k : Nat} (hk : k < cs.length) : spanR f t p all (cs.take (k + 1)) = spanR f t p all (cs.take k) ++ (if withinK (seenC cs[k].key (findC cs[k].key all) p).key f t && (seenC cs[k].key (findC cs[k].key all) p).there then [seenC cs[k].key (findC cs[k].key all) p] else []) := by
  unfold spanR
  rw [List.take_succ_eq_append_getElem hk, List.map_append, List.filter_append, List.map_cons, List.map_nil]
  rw [List.filter_cons, List.filter_nil]
theorem spanR_len (f t : ByteArray) (p : Int) (all cs : List ChT) : (spanR f t p all cs).length ≤ cs.length := by
  unfold spanR
  refine Nat.le_trans (List.length_filter_le _ _) ?_
  rw [List.length_map]
  exact Nat.le_refl _
def spanRS (s : StT) (f t : ByteArray) (p : Int) : List RdT × Int := if p < s.mark then ([], 4) else (spanR f t p s.chains s.chains, 0)
theorem spanRS_old {s : StT} {f t : ByteArray} {p : Int} (h : p < s.mark) : spanRS s f t p = ([], 4) := if_pos h
theorem spanRS_ok {s : StT} {f t : ByteArray} {p : Int} (h : ¬ p < s.mark) : spanRS s f t p = (spanR f t p s.chains s.chains, 0) := if_neg h
set_option maxHeartbeats 2000000 in
theorem RefSpan_ok (s : StT) (f t : ByteArray) (pos : Int) (u : Value) (w : World) (hv : ChnsX w u s.chains) (hl : CsLen s.chains) :
    Calls Try.prog 19 #[.agg #[u, .int .i64 s.mark], .string f, .string t, .int .i64 pos] w (SpanPost (spanRS s f t pos) w) := by
  obtain ⟨cs, m⟩ := s
  simp only at hv hl ⊢
  have HV := hide hv
  have hcl := hl.1
  have HONE := hide (fun q W (h : ChnsX W u cs) => one_ok q pos u m cs W h hl)
  obtain ⟨A, c, rfl⟩ := hv.is
  clear hv hl
  obtain ⟨r, hr⟩ : ∃ r, spanRS ⟨cs, m⟩ f t pos = r := ⟨_, rfl⟩
  rw [hr]
  have HR := hide hr
  clear hr
  go_enter Try.func19, Try.ntmps19
  go_upto_region 1 with (fail)
  obtain ⟨W1, hW1⟩ : ∃ W1, w.alloc (.cells #[.slice A cs.length c, .int .i64 m] 26) = W1 := ⟨_, rfl⟩
  have hg1 : Gr w W1 := by rw [← hW1]; exact (Gr.refl _).alloc _
  have hb1 : Bl W1 w.heap.size 26 #[.slice A cs.length c, .int .i64 m] := by rw [← hW1]; exact Bl.new _ _ _
  rw [hW1]
  have k0 : W1.cell? ⟨w.heap.size, 0, none⟩ = some (.slice A cs.length c) := hb1.cell 0
  have k1 : W1.cell? ⟨w.heap.size, 1, none⟩ = some (.int .i64 m) := hb1.cell 1
  have HG1 := hide hg1
  have HB1 := hide hb1
  clear hW1 hg1 hb1
  by_cases hpm : pos < m
  · have HE := hide (HR.out.symm.trans (spanRS_old (s := ⟨cs, m⟩) hpm))
    go_wp2_with fail
    go_ret2
    exact ⟨_, by rw [HE.out]; rfl, by rw [HE.out]; exact OwnR.none_ _ _, HG1.out⟩
  · have HE := hide (HR.out.symm.trans (spanRS_ok (s := ⟨cs, m⟩) hpm))
    clear HR
    go_wp2_with fail
    clear k0 k1
    go_loopw [10, 11] (fun u i wr => ∃ (j : Nat), i = .int .i64 j ∧ j ≤ cs.length ∧ Hid (RdsO wr W1.heap.size u (spanR f t pos cs (cs.take j))) ∧ Hid (Gr W1 wr)) (fun _ i _ => cs.length - (intOf i).toNat)
    case atStart => exact ⟨0, rfl, by omega, OwnR.none_ _ _, Gr.refl _⟩
    case round =>
      obtain ⟨j, rfl, hj, HO, HG⟩ := hrel
      obtain ⟨B, d, hu⟩ := HO.out.is
      have hol := spanR_len f t pos cs (cs.take j)
      rw [List.length_take] at hol
      generalize hq : (spanR f t pos cs (cs.take j)).length = q at hu hol
      subst hu
      have hb1 := HB1.out.gr HG.out
      have k0 : wr.cell? ⟨w.heap.size, 0, none⟩ = some (.slice A cs.length c) := hb1.cell 0
      have k1 : wr.cell? ⟨w.heap.size, 1, none⟩ = some (.int .i64 m) := hb1.cell 1
      clear hb1
      by_cases hlt : j < cs.length
      · have hlt' : (j : Int) < (cs.length : Int) := by omega
        obtain ⟨ad, c', p, e1, hp, a0, a1⟩ := (HV.out.gr (HG1.out.trans HG.out)).at_ hlt
        simp only [Value.slice.injEq, true_and] at e1
        obtain ⟨rfl, rfl⟩ := e1
        have HN := hide (spanR_next (f := f) (t := t) (p := pos) (all := cs) hlt)
        generalize cs[j] = x at a0 a1 HN hp
        obtain ⟨xk, xl⟩ := x
        simp only at a0 a1 HN hp
        have HAS := hide (fun W (h : ChnsX W (.slice (some ad) cs.length c) cs) => HONE.out xk W h)
        obtain ⟨y, hy⟩ : ∃ y, seenC xk (findC xk cs) pos = y := ⟨_, rfl⟩
        have hyk : y.key = xk := by rw [← hy]; rfl
        rw [hy] at HAS HN
        obtain ⟨yk, yv, yx, yt⟩ := y
        simp only at hyk
        subst hyk
        have HW := hide (RefWithin_ok yk f t)
        generalize hwi : withinK yk f t = wi at HW HN
        simp only at HN
        unfold rdA at HAS
        simp only at HAS
        clear hp hy hwi a1
        go_wp2_with fail
        refine (HAS.out _ (HV.out.gr (HG1.out.trans HG.out))).mono ?_
        rintro e w2 ⟨rfl, hg2⟩
        go_upto_region 9 with (fail)
        obtain ⟨W2, hW2⟩ : ∃ W2, w2.alloc (.cells #[.string yk, .int .i64 yv, .string yx, .bool yt] 40) = W2 := ⟨_, rfl⟩
        have hg3 : Gr wr W2 := by rw [← hW2]; exact (hg2.alloc _)
        have hb3 : Bl W2 w2.heap.size 40 #[.string yk, .int .i64 yv, .string yx, .bool yt] := by rw [← hW2]; exact Bl.new _ _ _
        rw [hW2]
        have n0 : W2.cell? ⟨w2.heap.size, 0, none⟩ = some (.string yk) := hb3.cell 0
        have n1 : W2.cell? ⟨w2.heap.size, 1, none⟩ = some (.int .i64 yv) := hb3.cell 1
        have n2 : W2.cell? ⟨w2.heap.size, 2, none⟩ = some (.string yx) := hb3.cell 2
        have n3 : W2.cell? ⟨w2.heap.size, 3, none⟩ = some (.bool yt) := hb3.cell 3
        have HG3 := hide (HG.out.trans hg3)
        have HO3 := hide (HO.out.gr hg3)
        clear hW2 hg3 hb3 hg2 a0 HAS HG HO k0 k1
        go_wp2_with fail
        refine (HW.out _).mono ?_
        rintro e w4 ⟨rfl, rfl⟩
        cases wi
        · have HN2 := hide ((HN.out.trans (List.append_nil _) : spanR f t pos cs (cs.take (j + 1)) = spanR f t pos cs (cs.take j)))
          go_wp2_with fail
          go_roundw
          case rel => exact ⟨j + 1, by go_num, by omega, by rw [HN2.out]; exact HO3, HG3⟩
          case measure => simp [intOf]; omega
        · cases yt
          · have HN2 := hide ((HN.out.trans (List.append_nil _) : spanR f t pos cs (cs.take (j + 1)) = spanR f t pos cs (cs.take j)))
            go_wp2_with fail
            go_roundw
            case rel => exact ⟨j + 1, by go_num, by omega, by rw [HN2.out]; exact HO3, HG3⟩
            case measure => simp [intOf]; omega
          · have HN2 : Hid (spanR f t pos cs (cs.take (j + 1)) = spanR f t pos cs (cs.take j) ++ [⟨yk, yv, yx, true⟩]) := hide HN.out
            go_wp2_with (at_builtin; refine pause ?_)
            refine hide ?_
            refine wpList_pushRd rfl (.tmp 43) (.tmp 45) rfl (w0 := W1) (ls := spanR f t pos cs (cs.take j)) rfl HO3.out HG3.out rfl (by omega) ?_
            intro v3 w3 h1 h2
            rw [← HN2.out] at h1
            have HO5 := hide h1
            have HG5 := hide h2
            obtain ⟨A3, c3, hv3⟩ := h1.is
            generalize (spanR f t pos cs (cs.take (j + 1))).length = q5 at hv3
            subst hv3
            clear h1 h2 n0 n1 n2 n3
            go_wp2_with fail
            go_roundw
            case rel => exact ⟨j + 1, by go_num, by omega, HO5, HG5⟩
            case measure => simp [intOf]; omega
      · obtain rfl : j = cs.length := by omega
        rw [List.take_length] at HO
        go_wp2_with fail
        go_ret2
        exact ⟨_, by rw [HE.out]; rfl, by rw [HE.out]; exact OwnR.base HO.out HG1.out.size, HG1.out.trans HG.out⟩

theorem mayC_take {cs : List ChT} {k : Nat} (hk : k < cs.length) (h : mayC cs[k] = false) : cs.all mayC = false := by
  rw [List.all_eq_false]
  exact ⟨_, List.getElem_mem hk, by rw [h]; simp⟩
set_option maxHeartbeats 2000000 in
theorem RefStMay_ok (s : StT) (u : Value) (w : World) (hv : ChnsX w u s.chains) (hl : CsLen s.chains) (hb : CsBig s.chains) :
    Calls Try.prog 25 #[.agg #[u, .int .i64 s.mark]] w fun e w' => e = .returned (.bool (mayS s)) ∧ Gr w w' := by
  obtain ⟨cs, m⟩ := s
  simp only at hv hl hb ⊢
  obtain ⟨i0, hi, hz0, hz1, hz2⟩ := info_parts info_str
  obtain ⟨z, hz⟩ : ∃ z, mayS ⟨cs, m⟩ = z := ⟨_, rfl⟩
  rw [hz]
  have HZ := hide (show (decide (0 ≤ m) && risingK (cs.map (·.key)) && cs.all mayC) = z from hz)
  clear hz
  have HV := hide hv
  have HB := hide hb
  have HL := hide hl.2
  have hcl := hl.1
  have HR := hide (fun A c W (h : Strs W A c (cs.map (·.key))) => RefRisingB_ok A cs.length c (cs.map (·.key)) (by rw [List.length_map]) W h (fun s hs => by
    obtain ⟨d, hd, rfl⟩ := List.mem_map.1 hs
    exact (hb d hd).1) (by rw [List.length_map]; omega))
  obtain ⟨A, c, rfl⟩ := hv.is
  clear hv hl hb
  go_enter Try.func25, Try.ntmps25
  go_upto_region 1 with (fail)
  obtain ⟨W1, hW1⟩ : ∃ W1, w.alloc (.cells #[.slice A cs.length c, .int .i64 m] 26) = W1 := ⟨_, rfl⟩
  have hg1 : Gr w W1 := by rw [← hW1]; exact (Gr.refl _).alloc _
  have hb1 : Bl W1 w.heap.size 26 #[.slice A cs.length c, .int .i64 m] := by rw [← hW1]; exact Bl.new _ _ _
  rw [hW1]
  have HG1 := hide hg1
  have HB1 := hide hb1
  clear hW1 hg1 hb1
  go_wp2_with fail
  go_loopw [3, 4] (fun o i wr => ∃ k : Nat, i = .int .i64 k ∧ k ≤ cs.length ∧ OwnV 9 wr W1.heap.size o (((cs.take k).map (·.key)).map Value.string) ∧ Gr W1 wr ∧ Hid (∀ j (hj : j < cs.length), j < k → mayC cs[j] = true)) (fun _ i _ => cs.length - (intOf i).toNat)
  case atStart => exact ⟨0, rfl, by omega, OwnV.none_ _ _, Gr.refl _, fun j _ h => absurd h (by omega)⟩
  case round =>
    obtain ⟨k, rfl, hk, hown, hgr, HJ⟩ := hrel
    have hb1 := HB1.out.gr hgr
    have k0 : wr.cell? ⟨w.heap.size, 0, none⟩ = some (.slice A cs.length c) := hb1.cell 0
    have k1 : wr.cell? ⟨w.heap.size, 1, none⟩ = some (.int .i64 m) := hb1.cell 1
    clear hb1
    by_cases hlt : k < cs.length
    · have hlt' : (k : Int) < (cs.length : Int) := by omega
      obtain ⟨ad, c', p, e1, hp, b0, b1⟩ := HV.out.at_ hlt
      simp only [Value.slice.injEq, true_and] at e1
      obtain ⟨rfl, rfl⟩ := e1
      have hmap := hide (map_take_more (·.key) hlt)
      have hlen : ((cs.take k).map (·.key)).length = k := by rw [List.length_map, List.length_take]; omega
      have H1 : Hid (mayC cs[k] = true → ∀ j (hj : j < cs.length), j < k + 1 → mayC cs[j] = true) := hide (fun h j hj hjk => by
        by_cases hx : j < k
        · exact HJ.out j hj hx
        · obtain rfl : j = k := by omega
          exact h)
      have H2 := hide (fun h => mayC_take hlt h)
      have h1 := HL.out _ (List.getElem_mem hlt)
      have h2 := (HB.out _ (List.getElem_mem hlt)).2
      obtain ⟨x, hx⟩ : ∃ x, cs[k]'hlt = x := ⟨_, rfl⟩
      rw [hx] at H1 H2
      simp only [hx] at b0 b1 hmap hp h1 h2
      clear hx
      obtain ⟨xk, xl⟩ := x
      simp only at b0 b1 hmap hp h1 h2
      have HM := hide (fun W (h : VersX W p xl) => RefChainMay_ok p xl W h (by omega) h2)
      have HP := hide hp
      obtain ⟨pA, pc, hpe, _⟩ := hp.is
      obtain ⟨pn, hpn⟩ : ∃ pn, xl.length = pn := ⟨_, rfl⟩
      rw [hpn] at hpe h1
      subst hpe
      have a0 := gr_cell (HG1.out.trans hgr) _ _ b0
      have a1 := gr_cell (HG1.out.trans hgr) _ _ b1
      clear hp h2
      go_wp2_with (at_builtin; refine wpList_pushV rfl (.tmp 12) (.tmp 19) _ rfl 9 i0 _ 16 Try.underlying38 hi hz0 hz1 hz2 rfl rfl rfl hown hgr (congrArg (fun z => Value.slice (some ⟨z, 0, none⟩) 1 1) (by simp)) (by rw [List.length_map, hlen]; unfold maxLen; omega) (by rw [List.length_map, hlen]; omega) ?_; intro v3 w3 ho3 hg3 hp3; have HO3 := hide ho3; have HG3 := hide hg3; clear hown hgr hp3 ho3 hg3 k0 k1; refine pause ?_)
      refine hide ?_
      have hb3 := HB1.out.gr HG3.out
      have k0 : w3.cell? ⟨w.heap.size, 0, none⟩ = some (.slice (some ad) cs.length c) := hb3.cell 0
      have a1 := gr_cell (HG1.out.trans HG3.out) _ _ b1
      obtain ⟨A3, c3, hv3, _⟩ := OwnV.is HO3.out
      have hl3 : ((((cs.take k).map (·.key)).map Value.string) ++ [Value.string xk]).length = k + 1 := by rw [List.length_append, List.length_map, hlen]; rfl
      rw [hl3] at hv3
      subst hv3
      clear hb3 b0 b1
      rcases Nat.eq_zero_or_pos pn with h0 | h0
      · have HE := hide (show z = false by rw [← HZ.out, H2.out (by unfold mayC; rw [decide_eq_false (by show ¬ 0 < xl.length; omega)]; rfl), Bool.and_false])
        subst h0
        go_wp2_with fail
        go_ret
        exact ⟨by rw [HE.out]; rfl, HG1.out.trans HG3.out⟩
      · have HY := hide (show mayC ⟨xk, xl⟩ = mayL xl by unfold mayC; rw [decide_eq_true (by show 0 < xl.length; omega)]; rfl)
        have h0' : ¬ (pn : Int) = 0 := by omega
        go_wp2_with fail
        refine (HM.out _ (HP.out.gr (HG1.out.trans HG3.out))).mono ?_
        rintro e w4 ⟨rfl, hg4⟩
        have HG4 := hide (HG3.out.trans hg4)
        have HO4 := hide (OwnV.gr HO3.out hg4)
        clear hg4 k0 a1
        cases hml : mayL xl
        · have HE := hide (show z = false by rw [← HZ.out, H2.out (by rw [HY.out, hml]), Bool.and_false])
          clear hml
          go_wp2_with fail
          go_ret
          exact ⟨by rw [HE.out]; rfl, HG1.out.trans HG4.out⟩
        · have HJ2 := hide (H1.out (by rw [HY.out, hml]))
          clear hml H1 H2
          go_wp2_with fail
          go_roundw
          case rel => exact ⟨k + 1, by go_num, by omega, by rw [hmap.out, List.map_append]; exact HO4.out, HG4.out, HJ2⟩
          case measure => simp [intOf]; omega
    · obtain rfl : k = cs.length := by omega
      rw [List.take_length] at hown
      have HS := hide (OwnV.strs hown (fun s hs => by
        obtain ⟨d, hd, rfl⟩ := List.mem_map.1 hs
        have := (HB.out d hd).1
        unfold maxLen
        omega))
      have HA := hide (show cs.all mayC = true by
        rw [List.all_eq_true]
        intro x hx
        obtain ⟨j, hj, rfl⟩ := List.getElem_of_mem hx
        exact HJ.out j hj hj)
      have HGE := hide (HG1.out.trans hgr)
      clear hown HJ
      obtain ⟨A', c', h1, h2⟩ := HS.out
      rw [List.length_map] at h1
      subst h1
      have HR2 := hide (HR.out _ _ _ h2)
      clear h2 HS hgr
      obtain ⟨ri, hri⟩ : ∃ ri, risingK (cs.map (·.key)) = ri := ⟨_, rfl⟩
      rw [hri] at HR2 HZ
      rw [HA.out, Bool.and_true] at HZ
      clear hri HR
      by_cases hm : 0 ≤ m
      · have hm' : m ≥ 0 := hm
        rw [decide_eq_true hm, Bool.true_and] at HZ
        go_wp2_with fail
        refine HR2.out.mono ?_
        rintro e w3 ⟨rfl, hg3⟩
        have HG3 := hide (HGE.out.trans hg3)
        clear hg3 k0 k1
        go_wp2_with fail
        go_ret
        exact ⟨by rw [← HZ.out]; rfl, HG3.out⟩
      · have hm' : ¬ m ≥ 0 := hm
        rw [decide_eq_false hm, Bool.false_and] at HZ
        go_wp2_with fail
        go_ret
        exact ⟨by rw [← HZ.out]; rfl, HGE.out⟩
end Go.Proofs.Ytbfbghfaeejicaa
