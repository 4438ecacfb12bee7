/-
  ulog's copied (an entry's, and lists'), Join, by their contracts.
-/
import Derived.Test.YthpaoeiackbdoaaUlFront
import Derived.Test.YthpaoeiackbdoaaRowCopy
namespace Go.Proofs.Ythpaoeiackbdoaa
open Go Go.RowKit TxnMath KeyMath MsgMath
set_option maxRecDepth 100000

set_option maxHeartbeats 1000000 in
theorem copiedE_ok (x : EntT) (p : Value × Value) (w : World) (hp : RowsX Any w x.t p) (hb : EntBnd x) :
    Calls Try.prog 90 #[.agg (entC x p).toArray] w fun en w' => ∃ q, en = .returned (.agg (entC x q).toArray) ∧ RowsX (fun j => w.heap.size ≤ j) w' x.t q ∧ Gr w w' := by
  obtain ⟨i0, hi, hz0, hz1, hz2⟩ := info_parts info_rd
  obtain ⟨i1, gi, gz0, gz1, gz2⟩ := info_parts info_wr
  have HP := hide hp
  have HB := hide hb
  obtain ⟨A, c, e1, _⟩ := hp.rd.1.is
  obtain ⟨B, d, e2, _⟩ := hp.wr.1.is
  obtain ⟨p1, p2⟩ := p
  simp only at e1 e2
  subst e1 e2
  clear hp hb
  show Calls _ _ #[.agg #[.int .i64 x.term, .bool x.shut, .int .i64 x.t.ses, .int .i64 x.t.seq, _, _]] _ _
  go_enter Try.func90, Try.ntmps90
  go_wp2_with (at_builtin; refine pause ?_)
  refine hide ?_
  obtain ⟨W2, hW2⟩ : ∃ W2, (w.alloc (.cells #[.int .i64 x.term, .bool x.shut, .int .i64 x.t.ses, .int .i64 x.t.seq, .slice A x.t.reads.length c, .slice B x.t.writes.length d] 92)).alloc (.cells #[.int .i64 0, .bool false, .int .i64 0, .int .i64 0, .slice none 0 0, .slice none 0 0] 38) = W2 := ⟨_, rfl⟩
  have hg2 : Gr w W2 := by rw [← hW2]; exact ((Gr.refl _).alloc _).alloc _
  obtain ⟨hbB, hbR⟩ := boxesAB (w := w) (w1 := W2) (by rw [hW2]; exact Gr.refl _)
  have HSZ := hide (show w.heap.size + 1 < W2.heap.size by rw [← hW2]; simp)
  rw [hW2]
  have HR := hide (HP.out.gr hg2).rd.1
  clear hW2
  refine wpList_appR rfl _ (.tmp 5) _ rfl 100 i0 _ 4 48 Try.underlying33 hi hz0 hz1 hz2 rfl (by decide) (B := w.heap.size) (qs := x.t.reads.map rdC) rfl (OwnR.none_ _ _) hg2.size rfl HR.out (rdC_four _) (rdC_one _) (by have := HB.out.1; rw [List.length_map]; simp only [List.length_nil]; unfold maxLen; omega) (by have := HB.out.1; rw [List.length_map]; simp only [List.length_nil]; omega) ?_
  intro v1 w3 ho1 hp1
  rw [List.nil_append] at ho1
  have hg3 : Gr W2 w3 := hp1.gr0
  obtain ⟨A1, c1, rfl, _⟩ := ho1.is
  generalize hm1 : List.length _ = m1 at ho1 hp1 ⊢
  replace hbB := hbB.gr hg3
  replace hbR := hbR.gr hg3
  have hu1 : ∀ g, (Value.slice A1 m1 c1).ownBlock = some g → W2.heap.size ≤ g := fun g hg => by
    rcases hp1.2 with h | ⟨k, h, hk⟩
    · rw [h] at hg; cases hg
    · rw [h] at hg; injection hg with hg; omega
  have HM1 := hide hm1
  clear hm1 hp1
  obtain ⟨W4, hW4⟩ : ∃ W4, w3.setCell ⟨w.heap.size, 4, none⟩ (.slice A1 m1 c1) = W4 := ⟨_, rfl⟩
  have f4 := hbB.frozen 4
  have k4 : w3.cell? ⟨w.heap.size, 4, none⟩ = some (.slice A x.t.reads.length c) := hbB.cell 4
  have hbB4 : Bl W4 w.heap.size 92 #[.int .i64 x.term, .bool x.shut, .int .i64 x.t.ses, .int .i64 x.t.seq, .slice A1 m1 c1, .slice B x.t.writes.length d] := by rw [← hW4]; exact hbB.put 4 _
  have hbu4 : But w3 W4 w.heap.size := by rw [← hW4]; exact (But.refl _ _).set 4 _
  have hbR4 : Bl W4 (w.heap.size + 1) 38 #[.int .i64 0, .bool false, .int .i64 0, .int .i64 0, .slice none 0 0, .slice none 0 0] := hbR.but_ hbu4 (by omega)
  have k5 : W4.cell? ⟨w.heap.size, 5, none⟩ = some (.slice B x.t.writes.length d) := hbB4.cell 5
  have hgw4 : Gr w W4 := (hg2.trans hg3).fresh hbu4 (Nat.le_refl _)
  have HW := hide (HP.out.gr hgw4).wr.1
  have HO1 := hide ho1
  clear ho1 hbB hbR
  go_wp2_with (at_builtin; refine pause ?_)
  refine hide ?_
  refine wpList_appR rfl _ (.tmp 11) _ rfl 103 i1 _ 3 40 Try.underlying34 gi gz0 gz1 gz2 rfl (by decide) (B := w.heap.size) (qs := x.t.writes.map wrC) rfl (OwnR.none_ _ _) hgw4.size rfl HW.out (wrC_three _) (wrC_one _) (by have := HB.out.2; rw [List.length_map]; simp only [List.length_nil]; unfold maxLen; omega) (by have := HB.out.2; rw [List.length_map]; simp only [List.length_nil]; omega) ?_
  intro v2 w5 ho2 hp2
  rw [List.nil_append] at ho2
  have hg5 : Gr W4 w5 := hp2.gr0
  obtain ⟨A2, c2, rfl, _⟩ := ho2.is
  generalize hm2 : List.length _ = m2 at ho2 hp2 ⊢
  replace hbB4 := hbB4.gr hg5
  replace hbR4 := hbR4.gr hg5
  have hs2 : W2.heap.size ≤ W4.heap.size := Nat.le_trans hg3.size hbu4.size
  have hu2 : ∀ g, (Value.slice A2 m2 c2).ownBlock = some g → W2.heap.size ≤ g := fun g hg => by
    rcases hp2.2 with h | ⟨k, h, hk⟩
    · rw [h] at hg; cases hg
    · rw [h] at hg; injection hg with hg; omega
  have hW2s : w.heap.size + 1 < W2.heap.size := HSZ.out
  obtain ⟨W6, hW6⟩ : ∃ W6, w5.setCell ⟨w.heap.size, 5, none⟩ (.slice A2 m2 c2) = W6 := ⟨_, rfl⟩
  have f5 := hbB4.frozen 5
  have k5' : w5.cell? ⟨w.heap.size, 5, none⟩ = some (.slice B x.t.writes.length d) := hbB4.cell 5
  have hbB6 : Bl W6 w.heap.size 92 #[.int .i64 x.term, .bool x.shut, .int .i64 x.t.ses, .int .i64 x.t.seq, .slice A1 m1 c1, .slice A2 m2 c2] := by rw [← hW6]; exact hbB4.put 5 _
  have hbu6 : But w5 W6 w.heap.size := by rw [← hW6]; exact (But.refl _ _).set 5 _
  have hbR6 : Bl W6 (w.heap.size + 1) 38 #[.int .i64 0, .bool false, .int .i64 0, .int .i64 0, .slice none 0 0, .slice none 0 0] := hbR4.but_ hbu6 (by omega)
  have z0 : W6.cell? ⟨w.heap.size, 0, none⟩ = some (.int .i64 x.term) := hbB6.cell 0
  have z1 : W6.cell? ⟨w.heap.size, 1, none⟩ = some (.bool x.shut) := hbB6.cell 1
  have z2 : W6.cell? ⟨w.heap.size, 2, none⟩ = some (.int .i64 x.t.ses) := hbB6.cell 2
  have z3 : W6.cell? ⟨w.heap.size, 3, none⟩ = some (.int .i64 x.t.seq) := hbB6.cell 3
  have z4 : W6.cell? ⟨w.heap.size, 4, none⟩ = some (.slice A1 m1 c1) := hbB6.cell 4
  have z5 : W6.cell? ⟨w.heap.size, 5, none⟩ = some (.slice A2 m2 c2) := hbB6.cell 5
  have y0 : W6.cell? ⟨w.heap.size + 1, 0, none⟩ = some (.int .i64 0) := hbR6.cell 0
  have y1 : W6.cell? ⟨w.heap.size + 1, 1, none⟩ = some (.bool false) := hbR6.cell 1
  have y2 : W6.cell? ⟨w.heap.size + 1, 2, none⟩ = some (.int .i64 0) := hbR6.cell 2
  have y3 : W6.cell? ⟨w.heap.size + 1, 3, none⟩ = some (.int .i64 0) := hbR6.cell 3
  have y4 : W6.cell? ⟨w.heap.size + 1, 4, none⟩ = some (.slice none 0 0) := hbR6.cell 4
  have y5 : W6.cell? ⟨w.heap.size + 1, 5, none⟩ = some (.slice none 0 0) := hbR6.cell 5
  have g0 := hbR6.frozen 0
  have g1 := hbR6.frozen 1
  have g2 := hbR6.frozen 2
  have g3 := hbR6.frozen 3
  have g4 := hbR6.frozen 4
  have g5 := hbR6.frozen 5
  have HM2 := hide hm2
  have HO2 := hide ho2
  clear hm2 ho2 hp2 hbB4 hbR4 k4 k5 f4
  go_wp2_with fail
  obtain ⟨W7, hW7⟩ : ∃ W7, (((((W6.setCell ⟨w.heap.size + 1, 0, none⟩ (.int .i64 x.term)).setCell ⟨w.heap.size + 1, 1, none⟩ (.bool x.shut)).setCell ⟨w.heap.size + 1, 2, none⟩ (.int .i64 x.t.ses)).setCell ⟨w.heap.size + 1, 3, none⟩ (.int .i64 x.t.seq)).setCell ⟨w.heap.size + 1, 4, none⟩ (.slice A1 m1 c1)).setCell ⟨w.heap.size + 1, 5, none⟩ (.slice A2 m2 c2) = W7 := ⟨_, rfl⟩
  have hbR7 : Bl W7 (w.heap.size + 1) 38 #[.int .i64 x.term, .bool x.shut, .int .i64 x.t.ses, .int .i64 x.t.seq, .slice A1 m1 c1, .slice A2 m2 c2] := by rw [← hW7]; exact (((((hbR6.put 0 _).put 1 _).put 2 _).put 3 _).put 4 _).put 5 _
  have hbu7 : But W6 W7 (w.heap.size + 1) := by rw [← hW7]; exact ((((((But.refl _ _).set 0 _).set 1 _).set 2 _).set 3 _).set 4 _).set 5 _
  rw [hW7]
  clear hW7 z0 z1 z2 z3 z4 z5 y0 y1 y2 y3 y4 y5 g0 g1 g2 g3 g4 g5
  have n1 : ∀ g, g < W2.heap.size → some g ≠ (Value.slice A1 m1 c1).ownBlock := fun g hg e => by have := hu1 g e.symm; omega
  have n2 : ∀ g, g < W2.heap.size → some g ≠ (Value.slice A2 m2 c2).ownBlock := fun g hg e => by have := hu2 g e.symm; omega
  have q1 : OwnR 100 4 W7 w.heap.size (.slice A1 m1 c1) (x.t.reads.map rdC) := (((HO1.out.apart hbu4 (n1 _ (by omega))).gr hg5).apart hbu6 (n1 _ (by omega))).apart hbu7 (n1 _ hW2s)
  have q2 : OwnR 103 3 W7 w.heap.size (.slice A2 m2 c2) (x.t.writes.map wrC) := (HO2.out.apart hbu6 (n2 _ (by omega))).apart hbu7 (n2 _ hW2s)
  refine bodyPost_ret (results_cell_row rfl _ W7 (w.heap.size + 1) 38 #[.int .i64 x.term, .bool x.shut, .int .i64 x.t.ses, .int .i64 x.t.seq, .slice A1 m1 c1, .slice A2 m2 c2] (0, 0) _ rfl hbR7 Try.underlying38 rfl (by kernel_rfl)) rfl ?_
  exact ⟨(.slice A1 m1 c1, .slice A2 m2 c2), rfl, ⟨q1.rowX.wide fun _ h => h.1, q2.rowX.wide fun _ h => h.1⟩, ((hgw4.trans hg5).fresh hbu6 (Nat.le_refl _)).fresh hbu7 (by omega)⟩

/-- lists of entries, one behind the other -/
structure ListsX (w : World) (A : Option Addr) (n c : Nat) (ls : List (List EntT)) : Prop where
  len : n = ls.length
  le : n ≤ c
  rd : ∀ j (h : j < ls.length), ∃ ad B d, A = some ad ∧ w.cell? (ad.add j) = some (.slice B ls[j].length d) ∧ EntsX Any w (.slice B ls[j].length d) ls[j]
theorem ListsX.gr {w w' : World} {A : Option Addr} {n c : Nat} {ls : List (List EntT)} (h : ListsX w A n c ls) (hg : Gr w w') : ListsX w' A n c ls := ⟨h.len, h.le, fun j hj => by
  obtain ⟨ad, B, d, h1, h2, h3⟩ := h.rd j hj
  exact ⟨ad, B, d, h1, gr_cell hg _ _ h2, h3.gr hg⟩⟩
set_option maxHeartbeats 1000000 in
theorem copied_ok (A : Option Addr) (n c : Nat) (ls : List (List EntT)) (w : World) (hv : ListsX w A n c ls) (hn : n ≤ 1000) (hl : ∀ l ∈ ls, l.length ≤ 100000) (hb : ∀ l ∈ ls, ∀ e ∈ l, EntBnd e) :
    Calls Try.prog 83 #[.slice A n c] w fun en w' => ∃ v, en = .returned v ∧ OwnEnt (fun j => w.heap.size ≤ j) w' w.heap.size v ls.flatten ∧ Gr w w' := by
  have HV := hide hv
  have HL := hide hl
  have HB := hide hb
  have HN := hide hv.len
  clear hv hl hb
  have fl : ∀ k, k ≤ ls.length → (ls.take k).flatten.length ≤ k * 100000 := by
    intro k hk
    induction k with
    | zero => simp
    | succ k ih =>
      have := HL.out ls[k] (List.getElem_mem (by omega))
      rw [List.take_succ_eq_append_getElem (by omega), List.flatten_append, List.length_append]
      have h2 := ih (by omega)
      simp only [List.flatten_cons, List.flatten_nil, List.append_nil]
      omega
  have FL := hide fl
  clear fl
  have HFIN := hide (show ls.take n = ls by rw [HN.out, List.take_length])
  go_enter Try.func83, Try.ntmps83
  go_wp2_with fail
  go_loopw [3, 10] (fun v i wr => ∃ k : Nat, i = .int .i64 k ∧ k ≤ n ∧ Hid (OwnEnt (fun j => w.heap.size ≤ j) wr w.heap.size v (ls.take k).flatten) ∧ Gr w wr) (fun _ i _ => n - (intOf i).toNat)
  case atStart => exact ⟨0, rfl, by omega, OwnEnt.none_ _ _ _, Gr.refl _⟩
  case round =>
    obtain ⟨k, rfl, hk, HO, hgr⟩ := hrel
    by_cases hlt : k < n
    · have hlt' : (k : Int) < (n : Int) := by omega
      have hkl : k < ls.length := by have := HN.out; omega
      obtain ⟨ad, Bk, d, rfl, hc0, he⟩ := HV.out.rd k hkl
      have hc := gr_cell hgr _ _ hc0
      clear hc0
      have hfl := FL.out k (by omega)
      have hlk := HL.out _ (List.getElem_mem hkl)
      have HBK := hide (HB.out _ (List.getElem_mem hkl))
      have HNX := hide (show (ls.take k).flatten ++ ls[k] = (ls.take (k + 1)).flatten by rw [List.take_succ_eq_append_getElem hkl, List.flatten_append]; simp)
      generalize ls[k] = lk at hc he hlk HBK HNX
      generalize (ls.take k).flatten = so at HO hfl HNX
      have HE := hide he
      have HFL := hide hfl
      obtain ⟨vA, vc, hvv⟩ := HO.out.is
      generalize hsm : so.length = sm at hvv
      subst hvv
      have HSM := hide hsm
      clear he hfl hsm
      go_wp2_with fail
      go_loopw [3, 16] (fun v i wz => ∃ m : Nat, i = .int .i64 m ∧ m ≤ lk.length ∧ Hid (OwnEnt (fun j => w.heap.size ≤ j) wz w.heap.size v (so ++ lk.take m)) ∧ Hid (Gr w wz)) (fun _ i _ => lk.length - (intOf i).toNat)
      case atStart => exact ⟨0, rfl, by omega, by rw [List.take_zero, List.append_nil]; exact HO, hgr⟩
      case round =>
        obtain ⟨m, rfl, hm, HZ, HG⟩ := hrel
        by_cases hmt : m < lk.length
        · have hmt' : (m : Int) < (lk.length : Int) := by omega
          obtain ⟨bd, c', p, e1, hp, a0, a1, a2, a3, a4, a5⟩ := (HE.out.gr HG.out).ent hmt
          simp only [Value.slice.injEq, true_and] at e1
          obtain ⟨rfl, rfl⟩ := e1
          have HC := hide (fun w' (h : Gr wr w') => copiedE_ok lk[m] p w' (hp.gr h) (HBK.out _ (List.getElem_mem hmt)))
          have HNM := hide (show so ++ lk.take (m + 1) = so ++ lk.take m ++ [lk[m]] by rw [List.take_succ_eq_append_getElem hmt, List.append_assoc])
          have hlm : (so ++ lk.take m).length ≤ 1000000000 := by have := HFL.out; have := HSM.out; rw [List.length_append, List.length_take]; omega
          have HLM := hide hlm
          obtain ⟨A2, c2, e3, _⟩ := hp.rd.1.is
          obtain ⟨B2, d2, e4, _⟩ := hp.wr.1.is
          obtain ⟨p1, p2⟩ := p
          simp only at e3 e4
          subst e3 e4
          obtain ⟨x, hxk⟩ : ∃ x, lk[m]'hmt = x := ⟨_, rfl⟩
          simp only [hxk] at a0 a1 a2 a3 a4 a5 HC HNM
          clear hxk hp hlm
          change Hid (∀ w', Gr wr w' → Calls _ _ #[.agg #[.int .i64 x.term, .bool x.shut, .int .i64 x.t.ses, .int .i64 x.t.seq, _, _]] _ _) at HC
          obtain ⟨vA3, vc3, hv3⟩ := HZ.out.is
          generalize List.length _ = m3 at hv3
          subst hv3
          go_wp2_with fail
          refine (HC.out _ ((Gr.refl wr).alloc _)).mono ?_
          rintro e w3 ⟨q, rfl, hq, hg3⟩
          have hg4 := ((Gr.refl wr).alloc _).trans hg3
          obtain ⟨A4, c4, e3⟩ := hq.rd.sl
          obtain ⟨B4, d4, e4⟩ := hq.wr.sl
          obtain ⟨q1, q2⟩ := q
          simp only at e3 e4
          generalize List.length _ = m4 at e3
          generalize List.length _ = m5 at e4
          subst e3 e4
          have HQ := hide (hq.wide (X' := fun j => w.heap.size ≤ j ∧ (Value.slice vA3 m3 vc3).ownBlock ≠ some j) fun j hj => by
            have h1 := HZ.out.lt
            have h2 : wr.heap.size ≤ j := by have := ((Gr.refl wr).alloc (.cells #[.int .i64 x.term, .bool x.shut, .int .i64 x.t.ses, .int .i64 x.t.seq, .slice A2 x.t.reads.length c2, .slice B2 x.t.writes.length d2] 38)).size; omega
            exact ⟨by have := HG.out.size; omega, fun e => by have := (h1 j e).2; omega⟩)
          have HZ3 := hide (HZ.out.gr hg4)
          have HG0 := HG
          have HG4 := hide hg4
          clear a0 a1 a2 a3 a4 a5 HC hq hg3 hg4
          rw [show (entC x (Value.slice A4 m4 c4, Value.slice B4 m5 d4)).toArray = #[.int .i64 x.term, .bool x.shut, .int .i64 x.t.ses, .int .i64 x.t.seq, .slice A4 m4 c4, .slice B4 m5 d4] from rfl]
          go_wp2_with (at_builtin; refine wpList_pushEnt rfl (.tmp 20) (.tmp 23) rfl x (.slice A4 m4 c4, .slice B4 m5 d4) rfl rfl HZ3.out HQ.out (HG0.out.trans HG4.out).size rfl HLM.out ?_; intro v4 w4 ho4 hp4; obtain ⟨vA5, vc5, hv5⟩ := ho4.is; generalize hm7 : List.length _ = m7 at hv5; subst hv5; clear hm7; rw [← HNM.out] at ho4; have HO4 := hide ho4; have HG5 := hide (own_more HG0.out HZ.out (Nat.le_refl _) HG4.out hp4); clear ho4 hp4)
          go_roundw
          case rel => exact ⟨m + 1, by go_num, by omega, HO4, HG5⟩
          case measure => simp [intOf]; omega
        · obtain rfl : m = lk.length := by omega
          rw [List.take_length, HNX.out] at HZ
          go_wp2_with fail
          go_roundw
          case rel => exact ⟨k + 1, by go_num, by omega, HZ, HG.out⟩
          case measure => simp [intOf]; omega
    · obtain rfl : k = n := by omega
      obtain ⟨vA, vc, hvv⟩ := HO.out.is
      generalize List.length _ = sm at hvv
      subst hvv
      go_wp2_with fail
      go_ret
      exact ⟨_, rfl, by have h := HO.out; rw [HFIN.out] at h; exact h, hgr⟩

end Go.Proofs.Ythpaoeiackbdoaa
