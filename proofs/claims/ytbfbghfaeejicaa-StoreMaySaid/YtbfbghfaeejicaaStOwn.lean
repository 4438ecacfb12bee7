/-
  store's copied, each (of chains), own by their contracts.
-/
import Derived.Test.YtbfbghfaeejicaaStGet
namespace Go.Proofs.Ytbfbghfaeejicaa
open Go Go.RowKit ChMath KeyMath StMath TxnMath
set_option maxRecDepth 100000

/-- what has two cells holds no version -/
theorem VersX.notBox {w : World} {p : Value} {l : List VerT} (h : VersX w p l) {g : Nat} {t : TypeId} {cs : Array Value} (hb : Bl w g t cs) (hs : cs.size ≤ 2) : NotIn (some g) p := fun ad n c e hn e2 => by
  subst e
  injection e2 with e2
  have hl : 0 < l.length := by obtain ⟨_, _, e, _⟩ := h.is; injection e with _ e3; omega
  obtain ⟨ad', c', e3, _, _, h3⟩ := h.at_ hl
  injection e3 with e4
  injection e4 with e4
  subst e4
  rw [Nat.zero_mul, add_zero_, e2, hb.cell, Array.getElem?_eq_none (by omega)] at h3
  cases h3
theorem ChnsX.but {w w' : World} {v : Value} {cs : List ChT} {g : Nat} {t : TypeId} {bs : Array Value} (h : ChnsX w v cs) (hb : But w w' g) (hbl : Bl w g t bs) (hs : bs.size ≤ 2) (hv : v.ownBlock ≠ some g) : ChnsX w' v cs := by
  obtain ⟨is, e, h1, h2⟩ := h
  refine ⟨is, e, ?_, fun i hi => (h2 i hi).kept ((h2 i hi).notBox hbl hs) hb⟩
  obtain ⟨A, c, rfl, hc, hr⟩ := h1
  refine ⟨A, c, rfl, hc, fun j i r u hj hi => ?_⟩
  obtain ⟨ad, rfl, hx⟩ := hr j i r u hj hi
  refine ⟨ad, rfl, hb.cell hx ?_⟩
  rw [add_block]
  exact fun e => hv (by show some ad.block = some g; rw [e])
theorem ChnsO.but {w w' : World} {B : Nat} {v : Value} {cs : List ChT} {g : Nat} {t : TypeId} {bs : Array Value} (h : ChnsO w B v cs) (hb : But w w' g) (hg : g < B) (hbl : Bl w g t bs) (hs : bs.size ≤ 2) : ChnsO w' B v cs := by
  obtain ⟨is, e, h1, h2⟩ := h
  exact ⟨is, e, h1.but hb hg, fun i hi => ⟨(h2 i hi).1.kept ((h2 i hi).1.notBox hbl hs) hb, (h2 i hi).2⟩⟩

def CopPost (q : ByteArray) (l : List VerT) (w : World) (e : Ending) (w' : World) : Prop := ∃ p, e = .returned (chA q p) ∧ VersO w' w.heap.size p l ∧ Gr w w'
set_option maxHeartbeats 1000000 in
theorem copied_ok (q : ByteArray) (p : Value) (l : List VerT) (w : World) (hp : VersX w p l) (hl : l.length ≤ 1000000) :
    Calls Try.prog 67 #[chA q p] w (CopPost q l w) := by
  have HV := hide hp
  obtain ⟨A, c, rfl, hc⟩ := hp.is
  clear hp
  unfold chA
  go_enter Try.func67, Try.ntmps67
  go_upto_region 1 with (fail)
  obtain ⟨W1, hW1⟩ : ∃ W1, (w.alloc (.cells #[.string q, .slice A l.length c] 69)).alloc (.cells #[.string ⟨#[]⟩, .slice none 0 0] 54) = W1 := ⟨_, rfl⟩
  have hg1 : Gr w W1 := by rw [← hW1]; exact ((Gr.refl _).alloc _).alloc _
  have hb1 : Bl W1 w.heap.size 69 #[.string q, .slice A l.length c] := by rw [← hW1]; exact (Bl.new _ _ _).gr ((Gr.refl _).alloc _)
  have hb2 : Bl W1 (w.heap.size + 1) 54 #[.string ⟨#[]⟩, .slice none 0 0] := by rw [← hW1]; have := Bl.new (w.alloc (.cells #[.string q, .slice A l.length c] 69)) 54 #[.string ⟨#[]⟩, .slice none 0 0]; simpa using this
  rw [hW1]
  have hs1 : w.heap.size + 1 < W1.heap.size := hb2.lt
  have k1 : W1.cell? ⟨w.heap.size, 1, none⟩ = some (.slice A l.length c) := hb1.cell 1
  have HG1 := hide hg1
  have HB1 := hide hb1
  have HB2 := hide hb2
  clear hW1 hg1 hb1 hb2
  go_wp2_with (at_builtin; refine pause ?_)
  refine hide ?_
  refine wpList_appV rfl _ (.tmp 4) rfl (w0 := W1) (v := .slice none 0 0) (ls := []) (qs := l) rfl (VersO.none_ _ _) (Gr.refl _) rfl (HV.out.gr HG1.out) (by simp; omega) ?_
  intro v2 w2 h1 h2
  rw [List.nil_append] at h1
  have hb1 := HB1.out.gr h2
  have hb2 := HB2.out.gr h2
  have HO := hide h1
  have HG2 := hide (HG1.out.trans h2)
  have f1 := hb1.frozen 1
  have k1 : w2.cell? ⟨w.heap.size, 1, none⟩ = some (.slice A l.length c) := hb1.cell 1
  have HB3 := hide hb1
  have HB4 := hide hb2
  obtain ⟨A2, c2, rfl, _⟩ := h1.x.is
  clear h1 h2 hb1 hb2 HB1 HB2 k1
  have k1 : w2.cell? ⟨w.heap.size, 1, none⟩ = some (.slice A l.length c) := HB3.out.cell 1
  go_upto_region 2 with (fail)
  obtain ⟨W3, hW3⟩ : ∃ W3, w2.setCell ⟨w.heap.size, 1, none⟩ (.slice A2 l.length c2) = W3 := ⟨_, rfl⟩
  have hb3 : Bl W3 w.heap.size 69 #[.string q, .slice A2 l.length c2] := by rw [← hW3]; exact HB3.out.put 1 _
  have hu3 : But w2 W3 w.heap.size := by rw [← hW3]; exact (But.refl _ _).set 1 _
  have hb4 := HB4.out.but_ hu3 (by omega)
  rw [hW3]
  have m0 : W3.cell? ⟨w.heap.size, 0, none⟩ = some (.string q) := hb3.cell 0
  have m1 : W3.cell? ⟨w.heap.size, 1, none⟩ = some (.slice A2 l.length c2) := hb3.cell 1
  have n0 : W3.cell? ⟨w.heap.size + 1, 0, none⟩ = some (.string ⟨#[]⟩) := hb4.cell 0
  have n1 : W3.cell? ⟨w.heap.size + 1, 1, none⟩ = some (.slice none 0 0) := hb4.cell 1
  have g0 := hb4.frozen 0
  have g1 := hb4.frozen 1
  have HB5 := hide hb4
  have HO3 : Hid (VersO W3 W1.heap.size (.slice A2 l.length c2) l) := hide (HO.out.apart hu3 (fun e => by have := (HO.out.lt _ e.symm).1; omega))
  have HG3 := hide (HG2.out.fresh_ hu3 (Nat.le_refl _))
  clear hW3 hb3 hu3 hb4 k1 f1
  go_wp2_with fail
  obtain ⟨W4, hW4⟩ : ∃ W4, (W3.setCell ⟨w.heap.size + 1, 0, none⟩ (.string q)).setCell ⟨w.heap.size + 1, 1, none⟩ (.slice A2 l.length c2) = W4 := ⟨_, rfl⟩
  have hb6 : Bl W4 (w.heap.size + 1) 54 #[.string q, .slice A2 l.length c2] := by rw [← hW4]; exact (HB5.out.put 0 _).put 1 _
  have hu6 : But W3 W4 (w.heap.size + 1) := by rw [← hW4]; exact ((But.refl _ _).set 0 _).set 1 _
  rw [hW4]
  refine bodyPost_ret (results_cell_row rfl _ W4 (w.heap.size + 1) 54 _ (0, 0) _ rfl hb6 Try.underlying54 rfl (by kernel_rfl)) rfl ?_
  exact ⟨_, rfl, (HO3.out.apart hu6 (fun e => by have := (HO3.out.lt _ e.symm).1; omega)).base HG1.out.size, HG3.out.fresh_ hu6 (Nat.le_succ _)⟩

def OwnChPost (cs : List ChT) (w : World) (e : Ending) (w' : World) : Prop := ∃ u, e = .returned u ∧ ChnsO w' w.heap.size u cs ∧ Gr w w'
set_option maxHeartbeats 1000000 in
theorem eachChn_ok (v : Value) (cs : List ChT) (w : World) (hv : ChnsX w v cs) (hl : CsLen cs) :
    Calls Try.prog 66 #[v, .func (.func 67) #[] #[]] w (OwnChPost cs w) := by
  have HV := hide hv
  have hcl := hl.1
  have HL := hide hl.2
  obtain ⟨A, c, rfl⟩ := hv.is
  clear hv hl
  go_enter Try.func66, Try.ntmps66
  go_wp2_with fail
  go_loopw [5, 10] (fun u i wr => ∃ j : Nat, i = .int .i64 j ∧ j ≤ cs.length ∧ Hid (ChnsO wr w.heap.size u (cs.take j)) ∧ Hid (Gr w wr)) (fun _ i _ => cs.length - (intOf i).toNat)
  case atStart => exact ⟨0, rfl, by omega, ChnsO.none_ _ _, Gr.refl _⟩
  case round =>
    obtain ⟨j, rfl, hj, HO, HG⟩ := hrel
    obtain ⟨B, d, hu⟩ := HO.out.is
    rw [List.length_take, Nat.min_eq_left hj] at hu
    subst hu
    by_cases hlt : j < cs.length
    · have hlt' : (j : Int) < (cs.length : Int) := by omega
      obtain ⟨ad, c', p, e1, hp, a0, a1⟩ := (HV.out.gr HG.out).at_ hlt
      simp only [Value.slice.injEq, true_and] at e1
      obtain ⟨rfl, rfl⟩ := e1
      have HT := hide (List.take_succ_eq_append_getElem hlt)
      have hcl2 := HL.out _ (List.getElem_mem hlt)
      generalize cs[j] = x at a0 a1 HT hp hcl2
      obtain ⟨xk, xl⟩ := x
      simp only at a0 a1 HT hp hcl2
      have HC := hide (fun W (h : VersX W p xl) => copied_ok xk p xl W h hcl2)
      have HP := hide hp
      obtain ⟨pA, pc, rfl, _⟩ := hp.is
      unfold chA at HC
      clear hp
      go_wp2_with fail
      refine (HC.out _ (HP.out.gr ((Gr.refl _).alloc _))).mono ?_
      rintro e w2 ⟨p2, rfl, ho2, hg2⟩
      have HP2 := hide ho2.x
      have hg3 : Gr wr w2 := ((Gr.refl _).alloc _).trans hg2
      have HO2 := hide (HO.out.gr hg3)
      have HG2 := hide (HG.out.trans hg3)
      have HN2 := hide (show NotIn (Value.slice B j d).ownBlock p2 by
        cases hb : (Value.slice B j d).ownBlock with
        | none => exact NotIn.none_ _
        | some k => exact ho2.notIn (by have := (HO.out.lt k hb).2; simp; omega))
      obtain ⟨pA2, pc2, rfl, _⟩ := ho2.x.is
      unfold chA
      clear ho2 hg2 hg3 a0 a1 HC HO HG
      go_wp2_with (at_builtin; refine pause ?_)
      refine hide ?_
      refine wpList_pushChn rfl (.tmp 14) (.tmp 18) rfl (B := w.heap.size) ⟨xk, xl⟩ (.slice pA2 xl.length pc2) rfl HO2.out HP2.out HN2.out HG2.out.size rfl (by rw [List.length_take]; omega) ?_
      intro v3 w3 h1 h2 _
      rw [← HT.out] at h1
      have HO3 := hide h1
      have HG3 := hide (h2.gr HO2.out (Nat.le_refl _) HG2.out)
      obtain ⟨A3, c3, hv3⟩ := h1.is
      rw [List.length_take, Nat.min_eq_left (by omega)] at hv3
      subst hv3
      clear h1 h2
      go_wp2_with fail
      go_roundw
      case rel => exact ⟨j + 1, by go_num, by omega, HO3, HG3⟩
      case measure => simp [intOf]; omega
    · obtain rfl : j = cs.length := by omega
      rw [List.take_length] at HO
      go_wp2_with fail
      go_ret
      exact ⟨_, rfl, HO.out, HG.out⟩

def OwnStPost (cs : List ChT) (m : Int) (w : World) (e : Ending) (w' : World) : Prop := ∃ u, e = .returned (.agg #[u, .int .i64 m]) ∧ ChnsO w' w.heap.size u cs ∧ Gr w w'
set_option maxHeartbeats 1000000 in
theorem StOwn_ok (u : Value) (m : Int) (cs : List ChT) (w : World) (hv : ChnsX w u cs) (hl : CsLen cs) :
    Calls Try.prog 47 #[.agg #[u, .int .i64 m]] w (OwnStPost cs m w) := by
  have HV := hide hv
  have HE := hide (fun W (h : ChnsX W u cs) => eachChn_ok u cs W h hl)
  obtain ⟨A, c, rfl⟩ := hv.is
  clear hv hl
  go_enter Try.func47, Try.ntmps47
  go_upto_region 1 with (fail)
  obtain ⟨W1, hW1⟩ : ∃ W1, (w.alloc (.cells #[.slice A cs.length c, .int .i64 m] 26)).alloc (.cells #[.slice none 0 0, .int .i64 0] 26) = W1 := ⟨_, rfl⟩
  have hg1 : Gr w W1 := by rw [← hW1]; exact ((Gr.refl _).alloc _).alloc _
  have hb1 : Bl W1 w.heap.size 26 #[.slice A cs.length c, .int .i64 m] := by rw [← hW1]; exact (Bl.new _ _ _).gr ((Gr.refl _).alloc _)
  have hb2 : Bl W1 (w.heap.size + 1) 26 #[.slice none 0 0, .int .i64 0] := by rw [← hW1]; have := Bl.new (w.alloc (.cells #[.slice A cs.length c, .int .i64 m] 26)) 26 #[.slice none 0 0, .int .i64 0]; simpa using this
  rw [hW1]
  have hs1 : w.heap.size + 1 < W1.heap.size := hb2.lt
  have k0 : W1.cell? ⟨w.heap.size, 0, none⟩ = some (.slice A cs.length c) := hb1.cell 0
  have HG1 := hide hg1
  have HB1 := hide hb1
  have HB2 := hide hb2
  clear hW1 hg1 hb1 hb2
  go_wp2_with fail
  refine (HE.out _ (HV.out.gr HG1.out)).mono ?_
  rintro e w2 ⟨u2, rfl, ho, hg⟩
  have HO := hide ho
  have HG2 := hide (HG1.out.trans hg)
  have hb1 := HB1.out.gr hg
  have hb2 := HB2.out.gr hg
  have f0 := hb1.frozen 0
  have k0 : w2.cell? ⟨w.heap.size, 0, none⟩ = some (.slice A cs.length c) := hb1.cell 0
  have HB3 := hide hb1
  have HB4 := hide hb2
  obtain ⟨A2, c2, rfl⟩ := ho.is
  clear ho hg hb1 hb2 HB1 HB2
  go_upto_region 2 with (fail)
  obtain ⟨W3, hW3⟩ : ∃ W3, w2.setCell ⟨w.heap.size, 0, none⟩ (.slice A2 cs.length c2) = W3 := ⟨_, rfl⟩
  have hb3 : Bl W3 w.heap.size 26 #[.slice A2 cs.length c2, .int .i64 m] := by rw [← hW3]; exact HB3.out.put 0 _
  have hu3 : But w2 W3 w.heap.size := by rw [← hW3]; exact (But.refl _ _).set 0 _
  have hb4 := HB4.out.but_ hu3 (by omega)
  rw [hW3]
  have m0 : W3.cell? ⟨w.heap.size, 0, none⟩ = some (.slice A2 cs.length c2) := hb3.cell 0
  have m1 : W3.cell? ⟨w.heap.size, 1, none⟩ = some (.int .i64 m) := hb3.cell 1
  have n0 : W3.cell? ⟨w.heap.size + 1, 0, none⟩ = some (.slice none 0 0) := hb4.cell 0
  have n1 : W3.cell? ⟨w.heap.size + 1, 1, none⟩ = some (.int .i64 0) := hb4.cell 1
  have g0 := hb4.frozen 0
  have g1 := hb4.frozen 1
  have HB5 := hide hb4
  have HO3 := hide (HO.out.but hu3 (by omega) HB3.out (by simp))
  have HG3 := hide (HG2.out.fresh_ hu3 (Nat.le_refl _))
  clear hW3 hb3 hu3 hb4 k0 f0
  go_wp2_with fail
  obtain ⟨W4, hW4⟩ : ∃ W4, (W3.setCell ⟨w.heap.size + 1, 0, none⟩ (.slice A2 cs.length c2)).setCell ⟨w.heap.size + 1, 1, none⟩ (.int .i64 m) = W4 := ⟨_, rfl⟩
  have hb6 : Bl W4 (w.heap.size + 1) 26 #[.slice A2 cs.length c2, .int .i64 m] := by rw [← hW4]; exact (HB5.out.put 0 _).put 1 _
  have hu6 : But W3 W4 (w.heap.size + 1) := by rw [← hW4]; exact ((But.refl _ _).set 0 _).set 1 _
  rw [hW4]
  refine bodyPost_ret (results_cell_row rfl _ W4 (w.heap.size + 1) 26 _ (0, 0) _ rfl hb6 Try.underlying26 rfl (by kernel_rfl)) rfl ?_
  exact ⟨_, rfl, (HO3.out.but hu6 hs1 HB5.out (by simp)).base HG1.out.size, HG3.out.fresh_ hu6 (Nat.le_succ _)⟩
end Go.Proofs.Ytbfbghfaeejicaa
