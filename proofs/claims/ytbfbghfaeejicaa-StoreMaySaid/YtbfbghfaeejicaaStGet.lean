/-
  store's under, Last, Get, Span by their contracts.
-/
import Derived.Test.YtbfbghfaeejicaaStFns
import Derived.Test.YtbfbghfaeejicaaPlayTxn
namespace Go.Proofs.Ytbfbghfaeejicaa
open Go Go.RowKit ChMath KeyMath StMath TxnMath
set_option maxRecDepth 100000

theorem find_none {k : ByteArray} {cs : List ChT} (h : firstI (isK k) cs = cs.length) : findC k cs = [] := by
  rw [findC_first, h, List.getElem?_eq_none (Nat.le_refl _)]
  rfl
theorem find_some {k : ByteArray} {cs : List ChT} (h : firstI (isK k) cs < cs.length) : cs[firstI (isK k) cs].key = k ∧ findC k cs = cs[firstI (isK k) cs].l := by
  refine ⟨of_decide_eq_true (firstI_spec h), ?_⟩
  rw [findC_first, List.getElem?_eq_getElem h]
  rfl
theorem find_len {cs : List ChT} (k : ByteArray) (h : CsLen cs) : (findC k cs).length ≤ 1000000 := by
  by_cases hi : firstI (isK k) cs < cs.length
  · rw [(find_some hi).2]
    exact h.2 _ (List.getElem_mem _)
  · rw [find_none (by have := firstI_le (isK k) cs; omega)]
    simp
def UnderPost (k : ByteArray) (cs : List ChT) (w : World) (e : Ending) (w' : World) : Prop := ∃ p, e = .returned (chA k p) ∧ VersX w' p (findC k cs) ∧ Gr w w'
set_option maxHeartbeats 1000000 in
theorem under_ok (k : ByteArray) (v : Value) (cs : List ChT) (w : World) (hv : ChnsX w v cs) (hl : cs.length ≤ 1000000) :
    Calls Try.prog 38 #[v, .string k] w (UnderPost k cs w) := by
  have HV := hide hv
  have HF := hide (fun W (h : ChnsX W v cs) => first_is k v cs W h hl)
  obtain ⟨A, c, rfl⟩ := hv.is
  clear hv
  have hile := firstI_le (isK k) cs
  have HN := hide (fun h => find_none (k := k) (cs := cs) h)
  have HS := hide (fun h => find_some (k := k) (cs := cs) h)
  obtain ⟨i, hi⟩ : ∃ i, firstI (isK k) cs = i := ⟨_, rfl⟩
  rw [hi] at HF hile
  go_enter Try.func38, Try.ntmps38
  go_upto_region 1 with (fail)
  obtain ⟨W1, hW1⟩ : ∃ W1, w.alloc (.cells #[.string ⟨#[]⟩, .slice none 0 0] 69) = W1 := ⟨_, rfl⟩
  have hg1 : Gr w W1 := by rw [← hW1]; exact (Gr.refl _).alloc _
  have hb1 : Bl W1 w.heap.size 69 #[.string ⟨#[]⟩, .slice none 0 0] := by rw [← hW1]; exact Bl.new _ _ _
  rw [hW1]
  have HG1 := hide hg1
  have HB1 := hide hb1
  clear hW1 hg1 hb1
  go_wp2_with fail
  refine (HF.out _ (HV.out.gr HG1.out)).mono ?_
  rintro e w2 ⟨rfl, hg2⟩
  have hb2 := HB1.out.gr hg2
  have HG2 := hide (HG1.out.trans hg2)
  have f0 := hb2.frozen 0
  have f1 := hb2.frozen 1
  have z0 : w2.cell? ⟨w.heap.size, 0, none⟩ = some (.string ⟨#[]⟩) := hb2.cell 0
  have z1 : w2.cell? ⟨w.heap.size, 1, none⟩ = some (.slice none 0 0) := hb2.cell 1
  have HB2 := hide hb2
  clear hg2 hb2 HG1 HB1 HF
  have hfin : ∀ p : Value, Hid (∀ W3, W3 = (w2.setCell ⟨w.heap.size, 0, none⟩ (.string k)).setCell ⟨w.heap.size, 1, none⟩ p → Bl W3 w.heap.size 69 #[.string k, p] ∧ Gr w W3 ∧ ∀ l, VersX w2 p l → NotIn (some w.heap.size) p → VersX W3 p l) := fun p => hide (fun W3 h3 => by
    have hb : But w2 W3 w.heap.size := by rw [h3]; exact ((But.refl _ _).set 0 _).set 1 _
    refine ⟨by rw [h3]; exact (HB2.out.put 0 _).put 1 _, HG2.out.fresh_ hb (Nat.le_refl _), fun l hp hn => hp.kept hn hb⟩)
  by_cases hc : i = cs.length
  · have HE := hide (HN.out (hi.trans hc))
    have HF := hfin (.slice none 0 0)
    clear hfin HN HS hi
    subst hc
    go_wp2_with fail
    obtain ⟨W3, hW3⟩ : ∃ W3, W3 = (w2.setCell ⟨w.heap.size, 0, none⟩ (.string k)).setCell ⟨w.heap.size, 1, none⟩ (.slice none 0 0) := ⟨_, rfl⟩
    rw [← hW3]
    obtain ⟨hb4, hg4, _⟩ := HF.out W3 hW3
    refine bodyPost_ret (results_cell_row rfl _ W3 w.heap.size 69 _ (0, 0) _ rfl hb4 Try.underlying69 rfl (by kernel_rfl)) rfl ?_
    exact ⟨_, rfl, by rw [HE.out]; exact VersX.nil _ _ _, hg4⟩
  · have hlt : i < cs.length := by omega
    obtain ⟨hk, hf⟩ := HS.out (by rw [hi]; exact hlt)
    simp only [hi] at hk hf
    obtain ⟨fl, hfl⟩ : ∃ fl, cs[i].l = fl := ⟨_, rfl⟩
    rw [hfl] at hf
    have HFC := hide hf
    obtain ⟨ad, c', q, e1, hq0, b0, b1⟩ := HV.out.at_ hlt
    rw [hk] at b0
    have a0 := gr_cell HG2.out _ _ b0
    have a1 := gr_cell HG2.out _ _ b1
    rw [hfl] at hq0
    simp only [Value.slice.injEq, true_and] at e1
    obtain ⟨rfl, rfl⟩ := e1
    have hlt' : (i : Int) < (cs.length : Int) := by omega
    have hne : ¬ (i : Int) = (cs.length : Int) := by omega
    have hqn : NotIn (some w.heap.size) q := hq0.notIn (Nat.le_refl _)
    have hq := hq0.gr HG2.out
    have HF := hfin q
    have HQ := hide hq
    obtain ⟨qA, qc, hqq, _⟩ := hq.is
    obtain ⟨qn, hqn2⟩ : ∃ qn, fl.length = qn := ⟨_, rfl⟩
    rw [hqn2] at hqq
    subst hqq
    clear hfin HN HS hi hq hk hf hfl hq0 b0 b1
    go_wp2_with fail
    obtain ⟨W3, hW3⟩ : ∃ W3, W3 = (w2.setCell ⟨w.heap.size, 0, none⟩ (.string k)).setCell ⟨w.heap.size, 1, none⟩ (.slice qA qn qc) := ⟨_, rfl⟩
    rw [← hW3]
    obtain ⟨hb4, hg4, hv4⟩ := HF.out W3 hW3
    refine bodyPost_ret (results_cell_row rfl _ W3 w.heap.size 69 _ (0, 0) _ rfl hb4 Try.underlying69 rfl (by kernel_rfl)) rfl ?_
    exact ⟨_, rfl, by rw [HFC.out]; exact hv4 _ HQ.out hqn, hg4⟩

theorem StLast_ok (k : ByteArray) (u : Value) (m : Int) (cs : List ChT) (w : World) (hv : ChnsX w u cs) (hl : CsLen cs) :
    Calls Try.prog 16 #[.agg #[u, .int .i64 m], .string k] w fun e w' => e = .returned (.int .i64 (lastP (findC k cs))) ∧ Gr w w' := by
  have HV := hide hv
  have HU := hide (fun W (h : ChnsX W u cs) => under_ok k u cs W h hl.1)
  have hfl := find_len k hl
  obtain ⟨A, c, rfl⟩ := hv.is
  obtain ⟨z, hz⟩ : ∃ z, lastP (findC k cs) = z := ⟨_, rfl⟩
  rw [hz]
  have HZ := hide hz
  clear hv hz
  go_enter Try.func16, Try.ntmps16
  go_wp2_with fail
  refine (HU.out _ (HV.out.gr ((Gr.refl _).alloc _))).mono ?_
  rintro e w2 ⟨p, rfl, hp, hg⟩
  have HL := hide (Last_ok p (findC k cs) w2 hp (by omega))
  have HG := hide (((Gr.refl w).alloc _).trans hg)
  obtain ⟨pA, pc, hpp, _⟩ := hp.is
  rw [HZ.out] at HL
  generalize (findC k cs).length = n at hpp
  subst hpp
  unfold chA
  have hfd : ∀ w, (Instr.field 69 (.agg #[.string k, .slice pA n pc]) 1).run Try.prog w = .ok (.slice pA n pc) w := fun w => by kernel_rfl
  clear hp hg
  go_wp2_with fail
  refine HL.out.mono ?_
  rintro e w3 ⟨rfl, rfl⟩
  go_wp2_with fail
  go_ret
  exact ⟨rfl, HG.out⟩

def GetPost (r : RdT × Int) (w : World) (e : Ending) (w' : World) : Prop := e = .returned (.tuple #[rdA r.1, .int .i64 r.2]) ∧ Gr w w'
set_option maxHeartbeats 1000000 in
theorem Get_ok (s : StT) (k : ByteArray) (pos : Int) (u : Value) (w : World) (hv : ChnsX w u s.chains) (hl : CsLen s.chains) :
    Calls Try.prog 14 #[.agg #[u, .int .i64 s.mark], .string k, .int .i64 pos] w (GetPost (getS s k pos) w) := by
  obtain ⟨cs, m⟩ := s
  simp only at hv hl ⊢
  have HV := hide hv
  have HU := hide (fun W (h : ChnsX W u cs) => under_ok k u cs W h hl.1)
  have hfl := find_len k hl
  obtain ⟨A, c, rfl⟩ := hv.is
  clear hv
  obtain ⟨r, hr⟩ : ∃ r, getS ⟨cs, m⟩ k pos = r := ⟨_, rfl⟩
  rw [hr]
  have HR := hide hr
  clear hr
  go_enter Try.func14, Try.ntmps14
  go_upto_region 1 with (fail)
  obtain ⟨W1, hW1⟩ : ∃ W1, (w.alloc (.cells #[.slice A cs.length c, .int .i64 m] 26)).alloc (.cells #[.string ⟨#[]⟩, .int .i64 0, .string ⟨#[]⟩, .bool false] 40) = W1 := ⟨_, rfl⟩
  have hg1 : Gr w W1 := by rw [← hW1]; exact ((Gr.refl _).alloc _).alloc _
  have hb1 : Bl W1 w.heap.size 26 #[.slice A cs.length c, .int .i64 m] := by rw [← hW1]; exact (Bl.new _ _ _).gr ((Gr.refl _).alloc _)
  have hb2 : Bl W1 (w.heap.size + 1) 40 #[.string ⟨#[]⟩, .int .i64 0, .string ⟨#[]⟩, .bool false] := by rw [← hW1]; have := Bl.new (w.alloc (.cells #[.slice A cs.length c, .int .i64 m] 26)) 40 #[.string ⟨#[]⟩, .int .i64 0, .string ⟨#[]⟩, .bool false]; simpa using this
  rw [hW1]
  have k0 : W1.cell? ⟨w.heap.size, 0, none⟩ = some (.slice A cs.length c) := hb1.cell 0
  have k1 : W1.cell? ⟨w.heap.size, 1, none⟩ = some (.int .i64 m) := hb1.cell 1
  have HG1 := hide hg1
  have HB2 := hide hb2
  have hw1 : w.heap.size ≤ w.heap.size + 1 := Nat.le_succ _
  have hfin : Hid (∀ (W2 : World) (r : RdT), Gr W1 W2 → ∀ W3, W3 = (((W2.setCell ⟨w.heap.size + 1, 0, none⟩ (.string r.key)).setCell ⟨w.heap.size + 1, 1, none⟩ (.int .i64 r.ver)).setCell ⟨w.heap.size + 1, 2, none⟩ (.string r.val)).setCell ⟨w.heap.size + 1, 3, none⟩ (.bool r.there) → Bl W3 (w.heap.size + 1) 40 #[.string r.key, .int .i64 r.ver, .string r.val, .bool r.there] ∧ Gr w W3) := hide (fun W2 r hg W3 h3 => by
    refine ⟨?_, ?_⟩
    · rw [h3]; exact ((((HB2.out.gr hg).put 0 _).put 1 _).put 2 _).put 3 _
    · refine (HG1.out.trans hg).fresh_ (k := w.heap.size + 1) ?_ hw1
      rw [h3]
      exact ((((But.refl _ _).set 0 _).set 1 _).set 2 _).set 3 _)
  by_cases hpm : pos < m
  · have HE := hide (HR.out.symm.trans (show getS ⟨cs, m⟩ k pos = (noRd, 4) by unfold getS; rw [if_pos (by exact hpm)]))
    have r0 : W1.cell? ⟨w.heap.size + 1, 0, none⟩ = some (.string ⟨#[]⟩) := hb2.cell 0
    have r1 : W1.cell? ⟨w.heap.size + 1, 1, none⟩ = some (.int .i64 0) := hb2.cell 1
    have r2 : W1.cell? ⟨w.heap.size + 1, 2, none⟩ = some (.string ⟨#[]⟩) := hb2.cell 2
    have r3 : W1.cell? ⟨w.heap.size + 1, 3, none⟩ = some (.bool false) := hb2.cell 3
    have f0 := hb2.frozen 0
    have f1 := hb2.frozen 1
    have f2 := hb2.frozen 2
    have f3 := hb2.frozen 3
    have HF := hide (hfin.out W1 noRd (Gr.refl _))
    clear hfin hW1 hg1 hb1 hb2
    go_wp2_with fail
    obtain ⟨W3, hW3⟩ : ∃ W3, W3 = (((W1.setCell ⟨w.heap.size + 1, 0, none⟩ (.string ⟨#[]⟩)).setCell ⟨w.heap.size + 1, 1, none⟩ (.int .i64 0)).setCell ⟨w.heap.size + 1, 2, none⟩ (.string ⟨#[]⟩)).setCell ⟨w.heap.size + 1, 3, none⟩ (.bool false) := ⟨_, rfl⟩
    rw [← hW3]
    obtain ⟨hb4, hg4⟩ := HF.out W3 hW3
    refine bodyPost_ret (results_cell2 rfl _ W3 (w.heap.size + 1) 40 _ (0, 0) _ rfl hb4 Try.underlying40 rfl (by kernel_rfl)) rfl ?_
    exact ⟨by rw [HE.out]; rfl, hg4⟩
  · have HE := hide (HR.out.symm.trans (show getS ⟨cs, m⟩ k pos = (seenC k (findC k cs) pos, 0) by unfold getS; rw [if_neg (by exact hpm)]))
    clear hW1 hg1 hb1 hb2
    go_wp2_with fail
    refine (HU.out _ (HV.out.gr HG1.out)).mono ?_
    rintro e w2 ⟨p, rfl, hp, hg⟩
    have HAS := hide (asOf_ok k p (findC k cs) pos w2 hp (by omega))
    have HG2 := hide hg
    obtain ⟨pA, pc, hpp, _⟩ := hp.is
    generalize (findC k cs).length = n at hpp
    subst hpp
    obtain ⟨x, hx⟩ : ∃ x, seenC k (findC k cs) pos = x := ⟨_, rfl⟩
    rw [hx] at HAS HE
    obtain ⟨xk, xv, xx, xt⟩ := x
    unfold chA at HAS ⊢
    unfold rdA at HAS
    simp only at HAS
    clear hp hg hx
    go_wp2_with fail
    refine HAS.out.mono ?_
    rintro e w3 ⟨rfl, hg3⟩
    have HG3 := hide (HG2.out.trans hg3)
    have hb2 := HB2.out.gr HG3.out
    have r0 : w3.cell? ⟨w.heap.size + 1, 0, none⟩ = some (.string ⟨#[]⟩) := hb2.cell 0
    have r1 : w3.cell? ⟨w.heap.size + 1, 1, none⟩ = some (.int .i64 0) := hb2.cell 1
    have r2 : w3.cell? ⟨w.heap.size + 1, 2, none⟩ = some (.string ⟨#[]⟩) := hb2.cell 2
    have r3 : w3.cell? ⟨w.heap.size + 1, 3, none⟩ = some (.bool false) := hb2.cell 3
    have f0 := hb2.frozen 0
    have f1 := hb2.frozen 1
    have f2 := hb2.frozen 2
    have f3 := hb2.frozen 3
    have HF := hide (hfin.out w3 ⟨xk, xv, xx, xt⟩ HG3.out)
    clear hfin hg3 hb2 k0 k1 HAS HU HV
    go_wp2_with fail
    obtain ⟨W3, hW3⟩ : ∃ W3, W3 = (((w3.setCell ⟨w.heap.size + 1, 0, none⟩ (.string xk)).setCell ⟨w.heap.size + 1, 1, none⟩ (.int .i64 xv)).setCell ⟨w.heap.size + 1, 2, none⟩ (.string xx)).setCell ⟨w.heap.size + 1, 3, none⟩ (.bool xt) := ⟨_, rfl⟩
    rw [← hW3]
    obtain ⟨hb4, hg4⟩ := HF.out W3 hW3
    refine bodyPost_ret (results_cell2 rfl _ W3 (w.heap.size + 1) 40 _ (0, 0) _ rfl hb4 Try.underlying40 rfl (by kernel_rfl)) rfl ?_
    exact ⟨by rw [HE.out]; rfl, hg4⟩

theorem span_next {f t : ByteArray} {p : Int} {cs : List ChT} {k : Nat} (hk : k < cs.length) : spanC f t p (cs.take (k + 1)) = spanC f t p (cs.take k) ++ (if (seenC cs[k].key cs[k].l p).there && withinK cs[k].key f t then [seenC cs[k].key cs[k].l p] else []) := by
  unfold spanC
  rw [List.take_succ_eq_append_getElem hk, List.map_append, List.filter_append, List.map_cons, List.map_nil]
  congr 1
  rw [List.filter_cons, List.filter_nil]
  rfl
theorem span_len (f t : ByteArray) (p : Int) (cs : List ChT) : (spanC f t p cs).length ≤ cs.length := by
  unfold spanC
  refine Nat.le_trans (List.length_filter_le _ _) ?_
  rw [List.length_map]
  exact Nat.le_refl _
def RdsO (w : World) (B : Nat) (v : Value) (l : List RdT) : Prop := OwnR 40 4 w B v (l.map rdC)
theorem RdsO.is {w : World} {B : Nat} {v : Value} {l : List RdT} (h : RdsO w B v l) : ∃ A c, v = .slice A l.length c := by
  obtain ⟨A, c, e, _⟩ := h.rowAt
  rw [List.length_map] at e
  exact ⟨A, c, e⟩
def SpanPost (r : List RdT × Int) (w : World) (e : Ending) (w' : World) : Prop := ∃ u, e = .returned (.tuple #[u, .int .i64 r.2]) ∧ RdsO w' w.heap.size u r.1 ∧ Gr w w'
/-- 'append(own, r)' -/
theorem wpList_pushRd {ops : Array Oper} {rest : List Oper} {o : Oper} {a : Act} {Q : Exit → Act → World → Prop} (hgd : o.guard = none) (s x : Operand)
    (ho : o.op = .call { callee := .builtin .append, args := #[s, x], argTypes := #[28, 28] }) {w0 w : World} {v : Value} {ls : List RdT} {k : ByteArray} {p : Int} {t : ByteArray} {b : Bool}
    (hs : a.eval s = v) (hown : RdsO w w0.heap.size v ls) (hgr : Gr w0 w) (hx : a.eval x = .slice (some ⟨w.heap.size, 0, none⟩) 1 1) (hl : ls.length ≤ 100000000)
    (h : ∀ v' w', RdsO w' w0.heap.size v' (ls ++ [⟨k, p, t, b⟩]) → Gr w0 w' → wpList Try.prog ops Q rest (a.put o.dst v') w') : wpList Try.prog ops Q (o :: rest) a (w.alloc (.cells #[.string k, .int .i64 p, .string t, .bool b] 40)) := by
  obtain ⟨i0, hi, hz0, hz1, hz2⟩ := info_parts info_rd
  refine wpList_pushR hgd s x 28 ho 40 i0 _ 4 48 Try.underlying28 hi hz0 hz1 hz2 rfl (by decide) (cs := #[.string k, .int .i64 p, .string t, .bool b]) rfl (fun u hu => ?_) hs hown hgr.size hx (by rw [List.length_map]; unfold maxLen; omega) (by rw [List.length_map]; omega) (fun v' w' g1 g2 => ?_)
  · simp at hu
    rcases hu with rfl | rfl | rfl | rfl <;> rfl
  · refine h v' w' ?_ (g2.below hown hgr)
    unfold RdsO
    rw [List.map_append]
    exact g1
theorem spanS_old {s : StT} {f t : ByteArray} {p : Int} (h : p < s.mark) : spanS s f t p = ([], 4) := if_pos h
theorem spanS_ok {s : StT} {f t : ByteArray} {p : Int} (h : ¬ p < s.mark) : spanS s f t p = (spanC f t p s.chains, 0) := if_neg h
end Go.Proofs.Ytbfbghfaeejicaa
