/-
  store's small functions by their contracts: is, above, name, may, asOf, first, under, Last, Get.
-/
import Derived.Test.YtbfbghfaeejicaaStMem
import Derived.Test.YtbfbghfaeejicaaChDo
import Derived.Test.YtbfbghfaeejicaaKeyIn
import Derived.Test.YtbfbghfaeejicaaTxnMath
import Derived.StillTailTactics
namespace Go.Proofs.Ytbfbghfaeejicaa
open Go Go.RowKit ChMath KeyMath StMath TxnMath
set_option maxRecDepth 100000

theorem text_isEq (a b : ByteArray) : (a.toList == b.toList) = decide (a = b) := by
  rw [Bool.eq_iff_iff, beq_iff_eq, decide_eq_true_eq]
  exact ⟨list_inj, fun e => by rw [e]⟩
def chA (k : ByteArray) (p : Value) : Value := .agg #[.string k, p]

theorem is_ok (q k : ByteArray) (p : Value) (w : World) :
    Calls Try.prog 63 #[chA q p, .string k] w fun e w' => e = .returned (.bool (decide (q = k))) ∧ Gr w w' := by
  rw [← text_isEq]
  unfold chA
  go_enter Try.func63, Try.ntmps63
  go_wp2_with fail
  go_ret
  exact ⟨rfl, (Gr.refl _).alloc _⟩
theorem above_eq (q k : ByteArray) : (!Op.bytesLess q.toList k.toList && !(q.toList == k.toList)) = ltK k q := by
  rw [← not_le]
  unfold leK
  rw [Bool.not_or]
theorem above_ok (q k : ByteArray) (p : Value) (w : World) :
    Calls Try.prog 73 #[chA q p, .string k] w fun e w' => e = .returned (.bool (ltK k q)) ∧ Gr w w' := by
  rw [← above_eq]
  unfold chA
  go_enter Try.func73, Try.ntmps73
  go_wp2_with fail
  go_ret
  exact ⟨rfl, (Gr.refl _).alloc _⟩
theorem name_ok (q : ByteArray) (p : Value) (w : World) :
    Calls Try.prog 32 #[chA q p] w fun e w' => e = .returned (.string q) ∧ Gr w w' := by
  unfold chA
  go_enter Try.func32, Try.ntmps32
  go_wp2_with fail
  go_ret
  exact ⟨rfl, (Gr.refl _).alloc _⟩
theorem hmay_ok (q : ByteArray) (p : Value) (l : List VerT) (w : World) (hp : VersX w p l) (hl : l.length ≤ 1000000) (hb : VerBnd l) :
    Calls Try.prog 35 #[chA q p] w fun e w' => e = .returned (.bool (mayC ⟨q, l⟩)) ∧ Gr w w' := by
  have HV := hide hp
  have HM := hide (fun W (h : VersX W p l) => ChainMay_ok p l W h (by omega) hb)
  obtain ⟨A, c, rfl, hc⟩ := hp.is
  clear hp hb
  unfold chA
  go_enter Try.func35, Try.ntmps35
  rcases Nat.eq_zero_or_pos l.length with h0 | h0
  · have HR := hide (show mayC ⟨q, l⟩ = false by unfold mayC; rw [decide_eq_false (by show ¬ 0 < l.length; omega)]; rfl)
    have h0' : ¬ (l.length : Int) > 0 := by omega
    go_wp2_with fail
    go_ret
    exact ⟨by rw [HR.out]; rfl, (Gr.refl _).alloc _⟩
  · have HR := hide (show mayC ⟨q, l⟩ = mayL l by unfold mayC; rw [decide_eq_true (by exact h0)]; rfl)
    have h0' : (l.length : Int) > 0 := by omega
    go_wp2_with fail
    refine (HM.out _ (HV.out.gr ((Gr.refl _).alloc _))).mono ?_
    rintro e w2 ⟨rfl, hg⟩
    have HG := hide (((Gr.refl w).alloc _).trans hg)
    go_wp2_with fail
    go_ret
    exact ⟨by rw [HR.out]; rfl, HG.out⟩

def rdA (r : RdT) : Value := .agg #[.string r.key, .int .i64 r.ver, .string r.val, .bool r.there]
set_option maxHeartbeats 1000000 in
theorem asOf_ok (q : ByteArray) (p : Value) (l : List VerT) (pos : Int) (w : World) (hp : VersX w p l) (hl : l.length ≤ 1000000) :
    Calls Try.prog 39 #[chA q p, .int .i64 pos] w fun e w' => e = .returned (rdA (seenC q l pos)) ∧ Gr w w' := by
  have HV := hide hp
  have HA := hide (fun W (h : VersX W p l) => At_ok p l pos W h (by omega))
  obtain ⟨A, c, rfl, hc⟩ := hp.is
  clear hp
  unfold seenC AtPost at *
  obtain ⟨x, hx⟩ : ∃ x, atV pos l = x := ⟨_, rfl⟩
  obtain ⟨y, hy⟩ : ∃ y, isV pos l = y := ⟨_, rfl⟩
  rw [hx, hy] at HA ⊢
  obtain ⟨xp, xt, xb⟩ := x
  simp only [verA] at HA
  unfold chA rdA
  clear hx hy
  go_enter Try.func39, Try.ntmps39
  go_upto_region 1 with (fail)
  obtain ⟨W1, hW1⟩ : ∃ W1, (w.alloc (.cells #[.string q, .slice A l.length c] 69)).alloc (.cells #[.string ⟨#[]⟩, .int .i64 0, .string ⟨#[]⟩, .bool false] 40) = W1 := ⟨_, rfl⟩
  have hg1 : Gr w W1 := by rw [← hW1]; exact ((Gr.refl _).alloc _).alloc _
  have hb1 : Bl W1 w.heap.size 69 #[.string q, .slice A l.length c] := by rw [← hW1]; exact (Bl.new _ _ _).gr ((Gr.refl _).alloc _)
  have hb2 : Bl W1 (w.heap.size + 1) 40 #[.string ⟨#[]⟩, .int .i64 0, .string ⟨#[]⟩, .bool false] := by rw [← hW1]; have := Bl.new (w.alloc (.cells #[.string q, .slice A l.length c] 69)) 40 #[.string ⟨#[]⟩, .int .i64 0, .string ⟨#[]⟩, .bool false]; simpa using this
  rw [hW1]
  have k1 : W1.cell? ⟨w.heap.size, 1, none⟩ = some (.slice A l.length c) := hb1.cell 1
  have HG1 := hide hg1
  have HB1 := hide hb1
  have HB2 := hide hb2
  clear hW1 hg1 hb1 hb2
  go_wp2_with fail
  refine (HA.out _ (HV.out.gr HG1.out)).mono ?_
  rintro e w2 ⟨rfl, hg2⟩
  go_upto_region 2 with (fail)
  obtain ⟨W2, hW2⟩ : ∃ W2, w2.alloc (.cells #[.int .i64 xp, .string xt, .bool xb] 51) = W2 := ⟨_, rfl⟩
  have hg3 : Gr W1 W2 := by rw [← hW2]; exact hg2.alloc _
  have hb3 : Bl W2 w2.heap.size 51 #[.int .i64 xp, .string xt, .bool xb] := by rw [← hW2]; exact Bl.new _ _ _
  rw [hW2]
  have m0 : W2.cell? ⟨w2.heap.size, 0, none⟩ = some (.int .i64 xp) := hb3.cell 0
  have m1 : W2.cell? ⟨w2.heap.size, 1, none⟩ = some (.string xt) := hb3.cell 1
  have m2 : W2.cell? ⟨w2.heap.size, 2, none⟩ = some (.bool xb) := hb3.cell 2
  have hbq := HB1.out.gr hg3
  have n0 : W2.cell? ⟨w.heap.size, 0, none⟩ = some (.string q) := hbq.cell 0
  have hbr := HB2.out.gr hg3
  have r0 : W2.cell? ⟨w.heap.size + 1, 0, none⟩ = some (.string ⟨#[]⟩) := hbr.cell 0
  have r1 : W2.cell? ⟨w.heap.size + 1, 1, none⟩ = some (.int .i64 0) := hbr.cell 1
  have r2 : W2.cell? ⟨w.heap.size + 1, 2, none⟩ = some (.string ⟨#[]⟩) := hbr.cell 2
  have r3 : W2.cell? ⟨w.heap.size + 1, 3, none⟩ = some (.bool false) := hbr.cell 3
  have f0 := hbr.frozen 0
  have f1 := hbr.frozen 1
  have f2 := hbr.frozen 2
  have f3 := hbr.frozen 3
  have HG3 := hide (HG1.out.trans hg3)
  have HBR := hide hbr
  have hw1 : w.heap.size ≤ w.heap.size + 1 := Nat.le_succ _
  clear hW2 hg3 hb3 hbq hbr hg2 HB1 HB2 HG1 k1
  have hfin : ∀ z : Bool, Hid (∀ W3, W3 = (((W2.setCell ⟨w.heap.size + 1, 0, none⟩ (.string q)).setCell ⟨w.heap.size + 1, 1, none⟩ (.int .i64 xp)).setCell ⟨w.heap.size + 1, 2, none⟩ (.string xt)).setCell ⟨w.heap.size + 1, 3, none⟩ (.bool z) → Bl W3 (w.heap.size + 1) 40 #[.string q, .int .i64 xp, .string xt, .bool z] ∧ Gr w W3) := fun z => hide (fun W3 h3 => by
    refine ⟨?_, ?_⟩
    · rw [h3]; exact (((HBR.out.put 0 _).put 1 _).put 2 _).put 3 _
    · refine HG3.out.fresh_ (k := w.heap.size + 1) ?_ hw1
      rw [h3]
      exact ((((But.refl _ _).set 0 _).set 1 _).set 2 _).set 3 _)
  cases y
  · have HF := hfin false
    clear hfin
    go_wp2_with fail
    obtain ⟨W3, hW3⟩ : ∃ W3, W3 = (((W2.setCell ⟨w.heap.size + 1, 0, none⟩ (.string q)).setCell ⟨w.heap.size + 1, 1, none⟩ (.int .i64 xp)).setCell ⟨w.heap.size + 1, 2, none⟩ (.string xt)).setCell ⟨w.heap.size + 1, 3, none⟩ (.bool false) := ⟨_, rfl⟩
    rw [← hW3]
    obtain ⟨hb4, hg4⟩ := HF.out W3 hW3
    refine bodyPost_ret (results_cell_row rfl _ W3 (w.heap.size + 1) 40 _ (0, 0) _ rfl hb4 Try.underlying40 rfl (by kernel_rfl)) rfl ?_
    exact ⟨rfl, hg4⟩
  · have HF := hfin (!xb)
    clear hfin
    go_wp2_with fail
    obtain ⟨W3, hW3⟩ : ∃ W3, W3 = (((W2.setCell ⟨w.heap.size + 1, 0, none⟩ (.string q)).setCell ⟨w.heap.size + 1, 1, none⟩ (.int .i64 xp)).setCell ⟨w.heap.size + 1, 2, none⟩ (.string xt)).setCell ⟨w.heap.size + 1, 3, none⟩ (.bool (!xb)) := ⟨_, rfl⟩
    rw [← hW3]
    obtain ⟨hb4, hg4⟩ := HF.out W3 hW3
    refine bodyPost_ret (results_cell_row rfl _ W3 (w.heap.size + 1) 40 _ (0, 0) _ rfl hb4 Try.underlying40 rfl (by kernel_rfl)) rfl ?_
    exact ⟨rfl, hg4⟩

/-! The first one that is so. -/
/-- this method tells this of a key -/
def Asks (f : Nat) (k : ByteArray) (p : ChT → Bool) : Prop := ∀ (c : ChT) (v : Value) (w : World), Calls Try.prog f #[chA c.key v, .string k] w fun e w' => e = .returned (.bool (p c)) ∧ Gr w w'
set_option maxHeartbeats 1000000 in
theorem first_ok (fn : Nat) (p : ChT → Bool) (k : ByteArray) (v : Value) (cs : List ChT) (w : World) (hf : Asks fn k p) (hfn : fn = 63 ∨ fn = 73) (hv : ChnsX w v cs) (hl : cs.length ≤ 1000000) :
    Calls Try.prog 62 #[v, .string k, .func (.func fn) #[] #[]] w fun e w' => e = .returned (.int .i64 (firstI p cs : Nat)) ∧ Gr w w' := by
  have HV := hide hv
  have HF := hide hf
  obtain ⟨A, c, rfl⟩ := hv.is
  clear hv hf
  go_enter Try.func62, Try.ntmps62
  go_wp2_with fail
  go_loopw [11] (fun i wr => ∃ j : Nat, i = .int .i64 j ∧ j ≤ cs.length ∧ Hid (∀ i (hi : i < cs.length), i < j → p cs[i] = false) ∧ Hid (Gr w wr)) (fun i _ => cs.length - (intOf i).toNat)
  case atStart => exact ⟨0, rfl, by omega, fun i _ h => absurd h (by omega), Gr.refl _⟩
  case round =>
    obtain ⟨j, rfl, hj, HJ, HG⟩ := hrel
    by_cases hlt : j < cs.length
    · have hlt' : (j : Int) < (cs.length : Int) := by omega
      obtain ⟨ad, c', q, e1, hq, a0, a1⟩ := (HV.out.gr HG.out).at_ hlt
      simp only [Value.slice.injEq, true_and] at e1
      obtain ⟨rfl, rfl⟩ := e1
      have HQ := hide (HF.out cs[j] q)
      have HH := hide hq
      obtain ⟨qA, qc, rfl, _⟩ := hq.is
      have HJ1 : Hid (p cs[j] = false → ∀ i (hi : i < cs.length), i < j + 1 → p cs[i] = false) := hide (fun h i hi hij => by
        by_cases hx : i < j
        · exact HJ.out i hi hx
        · obtain rfl : i = j := by omega
          exact h)
      have HJ2 : Hid (p cs[j] = true → firstI p cs = j) := hide (fun h => firstI_at hlt h HJ.out)
      generalize cs[j] = x at a0 a1 HQ HJ1 HJ2 hq
      obtain ⟨xk, xl⟩ := x
      unfold chA at HQ
      simp only at a0 a1 HQ
      rcases hfn with rfl | rfl
      all_goals
        cases hp : p ⟨xk, xl⟩
        · have HJ3 := hide (HJ1.out hp)
          rw [hp] at HQ
          clear HJ1 HJ2 HJ hp
          go_wp2_with fail
          refine (HQ.out _).mono ?_
          rintro e w2 ⟨rfl, hg2⟩
          have HG2 := hide ((HG.out.alloc _).trans hg2)
          clear hg2 a0 a1
          go_wp2_with fail
          go_roundw
          case rel => exact ⟨j + 1, by go_num, by omega, HJ3, HG2⟩
          case measure => simp [intOf]; omega
        · have HJ3 := hide (HJ2.out hp)
          rw [hp] at HQ
          clear HJ1 HJ2 HJ hp
          go_wp2_with fail
          refine (HQ.out _).mono ?_
          rintro e w2 ⟨rfl, hg2⟩
          have HG2 := hide ((HG.out.alloc _).trans hg2)
          clear hg2 a0 a1
          go_wp2_with fail
          go_ret
          exact ⟨by rw [HJ3.out]; rfl, HG2.out⟩
    · obtain rfl : j = cs.length := by omega
      have HR := hide (show firstI p cs = cs.length from firstI_none fun i hi => HJ.out i hi hi)
      clear HJ
      go_wp2_with fail
      go_ret
      exact ⟨by rw [HR.out]; rfl, HG.out⟩
theorem first_is (k : ByteArray) (v : Value) (cs : List ChT) (w : World) (hv : ChnsX w v cs) (hl : cs.length ≤ 1000000) :
    Calls Try.prog 62 #[v, .string k, .func (.func 63) #[] #[]] w fun e w' => e = .returned (.int .i64 (firstI (isK k) cs : Nat)) ∧ Gr w w' :=
  first_ok _ _ k v cs w (fun c v w => is_ok c.key k v w) (.inl rfl) hv hl
theorem first_above (k : ByteArray) (v : Value) (cs : List ChT) (w : World) (hv : ChnsX w v cs) (hl : cs.length ≤ 1000000) :
    Calls Try.prog 62 #[v, .string k, .func (.func 73) #[] #[]] w fun e w' => e = .returned (.int .i64 (firstI (aboveK k) cs : Nat)) ∧ Gr w w' :=
  first_ok _ _ k v cs w (fun c v w => above_ok c.key k v w) (.inr rfl) hv hl
end Go.Proofs.Ytbfbghfaeejicaa
