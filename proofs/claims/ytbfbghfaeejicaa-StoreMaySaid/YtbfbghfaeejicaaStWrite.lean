/-
  store's Write and Trim by their contracts.
-/
import Derived.Test.YtbfbghfaeejicaaStAdd
import Derived.Test.YtbfbghfaeejicaaTxnRows
namespace Go.Proofs.Ytbfbghfaeejicaa
open Go Go.RowKit ChMath KeyMath StMath TxnMath
set_option maxRecDepth 100000

/-- no more than n keys, of no more than n versions each -/
def CsBnd (n : Nat) (cs : List ChT) : Prop := cs.length ≤ n ∧ ∀ c ∈ cs, c.l.length ≤ n
theorem CsBnd.len {n : Nat} {cs : List ChT} (h : CsBnd n cs) (hn : n ≤ 1000000) : CsLen cs := ⟨Nat.le_trans h.1 hn, fun c hc => Nat.le_trans (h.2 c hc) hn⟩
theorem addL_len (l : List VerT) (v : VerT) : (addL l v).length ≤ l.length + 1 := by unfold addL; split <;> simp
theorem CsBnd.add {n : Nat} {cs : List ChT} (h : CsBnd n cs) (k : ByteArray) (v : VerT) : CsBnd (n + 1) (addC cs k v) := by
  have h1 := h.1
  unfold addC
  split
  · rename_i hi
    rw [modify_set hi]
    refine ⟨by rw [List.length_set]; omega, fun c hc => ?_⟩
    rcases List.mem_or_eq_of_mem_set hc with hc | hc
    · have := h.2 c hc; omega
    · rw [hc]
      have := h.2 _ (List.getElem_mem hi)
      have h2 := addL_len (cs[firstI (isK k) cs]).l v
      show (addL _ v).length ≤ n + 1
      omega
  · split
    · exact ⟨by omega, fun c hc => by have := h.2 c hc; omega⟩
    · refine ⟨by rw [List.length_append, List.length_cons, List.length_take, List.length_drop]; omega, fun c hc => ?_⟩
      rcases List.mem_append.1 hc with hc | hc
      · have := h.2 c (List.mem_of_mem_take hc); omega
      · rcases List.mem_cons.1 hc with hc | hc
        · rw [hc]; show 1 ≤ n + 1; omega
        · have := h.2 c (List.mem_of_mem_drop hc); omega
theorem writeC_snoc (p : Int) (x : WrT) : ∀ (l : List WrT) (cs : List ChT), writeC p (l ++ [x]) cs = addC (writeC p l cs) x.key ⟨p, x.val, x.gone⟩
  | [], _ => rfl
  | y :: r, cs => by rw [List.cons_append, writeC, writeC, writeC_snoc p x r]
theorem CsBnd.write {n : Nat} (p : Int) : ∀ (l : List WrT) {cs : List ChT}, CsBnd n cs → CsBnd (n + l.length) (writeC p l cs)
  | [], _, h => h
  | x :: r, cs, h => by
    have := CsBnd.write p r (h.add x.key ⟨p, x.val, x.gone⟩)
    rw [writeC, List.length_cons, show n + (r.length + 1) = n + 1 + r.length by omega]
    exact this
theorem Bl.grown {w w' : World} {g : Nat} {t : TypeId} {cs : Array Value} {o : Option Nat} (h : Bl w g t cs) (hg : w.grownBy w' o) (ho : some g ≠ o) : Bl w' g t cs := (hg.block g h.lt ho).trans h

def StPost (cs : List ChT) (m : Int) (w : World) (e : Ending) (w' : World) : Prop := ∃ u, e = .returned (.agg #[u, .int .i64 m]) ∧ ChnsX w' u cs ∧ Gr w w'
set_option maxHeartbeats 4000000 in
theorem Write_ok (u : Value) (m p : Int) (cs : List ChT) (lv : Value) (ws : List WrT) (w : World) (hv : ChnsX w u cs) (n : Nat) (hn : CsBnd n cs) (hnw : n + ws.length ≤ 1000000) (hw : RowAt 3 w lv (ws.map wrC)) :
    Calls Try.prog 23 #[.agg #[u, .int .i64 m], .int .i64 p, lv] w (StPost (writeC p ws cs) m w) := by
  have HV := hide hv
  have HW := hide hw
  have HOW := hide (fun W (h : ChnsX W u cs) => StOwn_ok u m cs W h (hn.len (by omega)))
  have HN := hide hn
  obtain ⟨A, c, rfl⟩ := hv.is
  obtain ⟨lA, lc, rfl, _⟩ := RowAt.is hw
  clear hv hw hn
  go_enter Try.func23, Try.ntmps23
  go_upto_region 1 with (fail)
  obtain ⟨W1, hW1⟩ : ∃ W1, (w.alloc (.cells #[.slice A cs.length c, .int .i64 m] 26)).alloc (.cells #[.slice none 0 0, .int .i64 0] 26) = W1 := ⟨_, rfl⟩
  have hg1 : Gr w W1 := by rw [← hW1]; exact ((Gr.refl _).alloc _).alloc _
  have hb1 : Bl W1 w.heap.size 26 #[.slice A cs.length c, .int .i64 m] := by rw [← hW1]; exact (Bl.new _ _ _).gr ((Gr.refl _).alloc _)
  have hb2 : Bl W1 (w.heap.size + 1) 26 #[.slice none 0 0, .int .i64 0] := by rw [← hW1]; have := Bl.new (w.alloc (.cells #[.slice A cs.length c, .int .i64 m] 26)) 26 #[.slice none 0 0, .int .i64 0]; simpa using this
  rw [hW1]
  have hs1 : w.heap.size + 1 < W1.heap.size := hb2.lt
  have k0 : W1.cell? ⟨w.heap.size, 0, none⟩ = some (.slice A cs.length c) := hb1.cell 0
  have k1 : W1.cell? ⟨w.heap.size, 1, none⟩ = some (.int .i64 m) := hb1.cell 1
  have HG1 := hide hg1
  have HB1 := hide hb1
  have HB2 := hide hb2
  clear hW1 hg1 hb1 hb2
  go_wp2_with fail
  refine (HOW.out _ (HV.out.gr HG1.out)).mono ?_
  rintro e w2 ⟨u2, rfl, ho, hg⟩
  have HO := hide ho
  have hsz1 := hg.size
  have HG2 := hide (HG1.out.trans hg)
  have hb1 := HB1.out.gr hg
  have hb2 := HB2.out.gr hg
  have f0 := hb1.frozen 0
  have f1 := hb1.frozen 1
  have k0 : w2.cell? ⟨w.heap.size, 0, none⟩ = some (.slice A cs.length c) := hb1.cell 0
  have k1 : w2.cell? ⟨w.heap.size, 1, none⟩ = some (.int .i64 m) := hb1.cell 1
  have HB3 := hide hb1
  have HB4 := hide hb2
  obtain ⟨A2, c2, rfl⟩ := ho.is
  clear ho hg hb1 hb2 HB1 HB2 HOW
  go_upto_region 2 with (fail)
  obtain ⟨W3, hW3⟩ : ∃ W3, (w2.setCell ⟨w.heap.size, 0, none⟩ (.slice A2 cs.length c2)).setCell ⟨w.heap.size, 1, none⟩ (.int .i64 m) = W3 := ⟨_, rfl⟩
  have hb3 : Bl W3 w.heap.size 26 #[.slice A2 cs.length c2, .int .i64 m] := by rw [← hW3]; exact (HB3.out.put 0 _).put 1 _
  have hu3 : But w2 W3 w.heap.size := by rw [← hW3]; exact ((But.refl _ _).set 0 _).set 1 _
  have hb4 := HB4.out.but_ hu3 (by omega)
  rw [hW3]
  have HB5 := hide hb3
  have HB6 := hide hb4
  have HO3 := hide (HO.out.but hu3 (by omega) HB3.out (by simp))
  have HG3 := hide (HG2.out.fresh_ hu3 (Nat.le_refl _))
  have hsW : W1.heap.size ≤ W3.heap.size := Nat.le_trans hsz1 hu3.size
  clear hW3 hb3 hu3 hb4 k0 k1 f0 f1
  go_wp2_with fail
  go_loopw [13] (fun i wr => ∃ (j : Nat) (u : Value), i = .int .i64 j ∧ j ≤ ws.length ∧ Hid (Bl wr w.heap.size 26 #[u, .int .i64 m]) ∧ Hid (Bl wr (w.heap.size + 1) 26 #[.slice none 0 0, .int .i64 0]) ∧ Hid (ChnsO wr W1.heap.size u (writeC p (ws.take j) cs)) ∧ Hid (Gr w wr) ∧ W1.heap.size ≤ wr.heap.size) (fun i _ => ws.length - (intOf i).toNat)
  case atStart => exact ⟨0, _, rfl, by omega, HB5, HB6, HO3, HG3, hsW⟩
  case round =>
    obtain ⟨j, u, rfl, hj, HB, HR, HO, HG, hsz⟩ := hrel
    obtain ⟨B, d, hu⟩ := HO.out.is
    obtain ⟨q, hq⟩ : ∃ q, (writeC p (ws.take j) cs).length = q := ⟨_, rfl⟩
    rw [hq] at hu
    subst hu
    by_cases hlt : j < ws.length
    · have hlt' : (j : Int) < (ws.length : Int) := by omega
      obtain ⟨ad, c', e1, a0, a1, a2⟩ := (HW.out.gr HG.out).wr hlt
      simp only [Value.slice.injEq, true_and] at e1
      obtain ⟨rfl, rfl⟩ := e1
      have HT := hide (show writeC p (ws.take (j + 1)) cs = addC (writeC p (ws.take j) cs) ws[j].key ⟨p, ws[j].val, ws[j].gone⟩ by rw [List.take_succ_eq_append_getElem hlt, writeC_snoc])
      have hlen := (CsBnd.write p (ws.take j) HN.out).len (by rw [List.length_take]; omega)
      generalize ws[j] = x at a0 a1 a2 HT
      obtain ⟨xk, xt, xb⟩ := x
      simp only at a0 a1 a2 HT
      have HADD := hide (fun W v (h : ChnsO W W1.heap.size v (writeC p (ws.take j) cs)) (hB : W1.heap.size ≤ W.heap.size) => add_ok W1.heap.size v (writeC p (ws.take j) cs) xk ⟨p, xt, xb⟩ W h hlen hB)
      unfold verA at HADD
      simp only at HADD
      go_upto_region 5 with (fail)
      obtain ⟨W4, hW4⟩ : ∃ W4, wr.alloc (.cells #[.string xk, .string xt, .bool xb] 59) = W4 := ⟨_, rfl⟩
      have hg4 : Gr wr W4 := by rw [← hW4]; exact (Gr.refl _).alloc _
      have hb4 : Bl W4 wr.heap.size 59 #[.string xk, .string xt, .bool xb] := by rw [← hW4]; exact Bl.new _ _ _
      rw [hW4]
      have hbx := HB.out.gr hg4
      have n0 : W4.cell? ⟨w.heap.size, 0, none⟩ = some (.slice B q d) := hbx.cell 0
      have m0 : W4.cell? ⟨wr.heap.size, 0, none⟩ = some (.string xk) := hb4.cell 0
      have m1 : W4.cell? ⟨wr.heap.size, 1, none⟩ = some (.string xt) := hb4.cell 1
      have m2 : W4.cell? ⟨wr.heap.size, 2, none⟩ = some (.bool xb) := hb4.cell 2
      have HBX := hide hbx
      have HRX := hide (HR.out.gr hg4)
      have HO4 := hide (HO.out.gr hg4)
      have HG4 := hide (HG.out.trans hg4)
      have hsz4 : W1.heap.size ≤ W4.heap.size := Nat.le_trans hsz hg4.size
      clear hW4 hg4 hb4 hbx a0 a1 a2 HB HR HO HG
      go_wp2_with fail
      refine (HADD.out _ _ HO4.out hsz4).mono ?_
      rintro e w5 ⟨v5, rfl, ho5, hg5⟩
      rw [← HT.out] at ho5
      have hlo : ∀ k, k < W1.heap.size → some k ≠ (Value.slice B q d).ownBlock := fun k hk e => by have := (HO4.out.lt k e.symm).1; omega
      have hbx := HBX.out.grown hg5 (hlo _ (by omega))
      have hrx := HRX.out.grown hg5 (hlo _ hs1)
      have HO5 := hide ho5
      have HG5 := hide (show Gr w w5 from ⟨hg5.os.trans HG4.out.os, hg5.tape.trans HG4.out.tape, hg5.output.trans HG4.out.output, Nat.le_trans HG4.out.size hg5.size, fun k hk => (hg5.block k (Nat.lt_of_lt_of_le hk HG4.out.size) (hlo k (by omega))).trans (HG4.out.block k hk)⟩)
      have hsz5 : W1.heap.size ≤ w5.heap.size := Nat.le_trans hsz4 hg5.size
      have f0 := hbx.frozen 0
      have n0 : w5.cell? ⟨w.heap.size, 0, none⟩ = some (.slice B q d) := hbx.cell 0
      have HBX5 := hide hbx
      have HRX5 := hide hrx
      obtain ⟨A5, c5, hv5⟩ := ho5.is
      obtain ⟨q5, hq5⟩ : ∃ q5, (writeC p (ws.take (j + 1)) cs).length = q5 := ⟨_, rfl⟩
      rw [hq5] at hv5
      subst hv5
      clear ho5 hg5 hbx hrx hlo m0 m1 m2 HADD HBX HRX HO4 HG4
      go_upto_region 6 with (fail)
      obtain ⟨W6, hW6⟩ : ∃ W6, w5.setCell ⟨w.heap.size, 0, none⟩ (.slice A5 q5 c5) = W6 := ⟨_, rfl⟩
      have hb6 : Bl W6 w.heap.size 26 #[.slice A5 q5 c5, .int .i64 m] := by rw [← hW6]; exact HBX5.out.put 0 _
      have hu6 : But w5 W6 w.heap.size := by rw [← hW6]; exact (But.refl _ _).set 0 _
      rw [hW6]
      have HB6' := hide hb6
      have HR6 := hide (HRX5.out.but_ hu6 (by omega))
      have HO6 := hide (HO5.out.but hu6 (by omega) HBX5.out (by simp))
      have HG6 := hide (HG5.out.fresh_ hu6 (Nat.le_refl _))
      have hsz6 : W1.heap.size ≤ W6.heap.size := Nat.le_trans hsz5 hu6.size
      clear hW6 hb6 hu6 f0 n0 HBX5 HRX5 HO5 HG5
      go_wp2_with fail
      go_roundw
      case rel => exact ⟨j + 1, _, by go_num, by omega, HB6', HR6, HO6, HG6, hsz6⟩
      case measure => simp [intOf]; omega
    · obtain rfl : j = ws.length := by omega
      rw [List.take_length] at HO
      have m0 : wr.cell? ⟨w.heap.size, 0, none⟩ = some (.slice B q d) := HB.out.cell 0
      have m1 : wr.cell? ⟨w.heap.size, 1, none⟩ = some (.int .i64 m) := HB.out.cell 1
      have n0 : wr.cell? ⟨w.heap.size + 1, 0, none⟩ = some (.slice none 0 0) := HR.out.cell 0
      have n1 : wr.cell? ⟨w.heap.size + 1, 1, none⟩ = some (.int .i64 0) := HR.out.cell 1
      have g0 := HR.out.frozen 0
      have g1 := HR.out.frozen 1
      go_wp2_with fail
      obtain ⟨W4, hW4⟩ : ∃ W4, (wr.setCell ⟨w.heap.size + 1, 0, none⟩ (.slice B q d)).setCell ⟨w.heap.size + 1, 1, none⟩ (.int .i64 m) = W4 := ⟨_, rfl⟩
      have hb6 : Bl W4 (w.heap.size + 1) 26 #[.slice B q d, .int .i64 m] := by rw [← hW4]; exact (HR.out.put 0 _).put 1 _
      have hu6 : But wr W4 (w.heap.size + 1) := by rw [← hW4]; exact ((But.refl _ _).set 0 _).set 1 _
      rw [hW4]
      refine bodyPost_ret (results_cell_row rfl _ W4 (w.heap.size + 1) 26 _ (0, 0) _ rfl hb6 Try.underlying26 rfl (by kernel_rfl)) rfl ?_
      exact ⟨_, rfl, (HO.out.but hu6 hs1 HR.out (by simp)).x, HG.out.fresh_ hu6 (Nat.le_succ _)⟩
end Go.Proofs.Ytbfbghfaeejicaa
