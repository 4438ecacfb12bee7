/-
  ulog's comparisons, front, Same, by their contracts.
-/
import Derived.Test.YthpaoeiackbdoaaUlSmall
import Derived.Test.YthpaoeiackbdoaaEntSame
import Derived.Test.YthpaoeiackbdoaaTxEqual
import Derived.StillTailTactics
namespace Go.Proofs.Ythpaoeiackbdoaa
open Go Go.RowKit TxnMath KeyMath MsgMath
set_option maxRecDepth 100000

set_option maxHeartbeats 400000 in
theorem sameTerm_ok (x y : EntT) (p q : Value × Value) (w : World) (hp : RowsX Any w x.t p) (hq : RowsX Any w y.t q) :
    Calls Try.prog 62 #[.agg (entC x p).toArray, .agg (entC y q).toArray] w fun en w' => en = .returned (.bool (sameTm x y)) ∧ Gr w w' := by
  obtain ⟨A, c, e1, _⟩ := hp.rd.1.is
  obtain ⟨B, d, e2, _⟩ := hp.wr.1.is
  obtain ⟨A', c', e3, _⟩ := hq.rd.1.is
  obtain ⟨B', d', e4, _⟩ := hq.wr.1.is
  obtain ⟨p1, p2⟩ := p
  obtain ⟨q1, q2⟩ := q
  simp only at e1 e2 e3 e4
  subst e1 e2 e3 e4
  clear hp hq
  have HS := hide (show (x.term == y.term) = sameTm x y by simp [sameTm, Bool.beq_eq_decide_eq])
  generalize sameTm x y = b at HS ⊢
  show Calls _ _ #[.agg #[.int .i64 x.term, .bool x.shut, .int .i64 x.t.ses, .int .i64 x.t.seq, _, _], .agg #[.int .i64 y.term, .bool y.shut, .int .i64 y.t.ses, .int .i64 y.t.seq, _, _]] _ _
  go_enter Try.func62, Try.ntmps62
  go_wp2_with fail
  go_ret
  exact ⟨by rw [← HS.out]; rfl, ((Gr.refl _).alloc _).alloc _⟩

theorem en_ne_term {x y : EntT} (h : ¬ x.term = y.term) : decide (x = y) = false := decide_eq_false fun e => h (by rw [e])
theorem en_ne_shut {x y : EntT} (h : ¬ x.shut = y.shut) : decide (x = y) = false := decide_eq_false fun e => h (by rw [e])
theorem en_ne_ses {x y : EntT} (h : ¬ x.t.ses = y.t.ses) : decide (x = y) = false := decide_eq_false fun e => h (by rw [e])
theorem en_ne_seq {x y : EntT} (h : ¬ x.t.seq = y.t.seq) : decide (x = y) = false := decide_eq_false fun e => h (by rw [e])
theorem en_ne_rd {x y : EntT} (h : ¬ x.t.reads = y.t.reads) : decide (x = y) = false := decide_eq_false fun e => h (by rw [e])
theorem en_eq {x y : EntT} (h1 : x.term = y.term) (h2 : x.shut = y.shut) (h3 : x.t.ses = y.t.ses) (h4 : x.t.seq = y.t.seq) (h5 : x.t.reads = y.t.reads) : decide (x.t.writes = y.t.writes) = decide (x = y) := by
  obtain ⟨a, b, ⟨c, d, e, f⟩⟩ := x
  obtain ⟨a', b', ⟨c', d', e', f'⟩⟩ := y
  simp only at h1 h2 h3 h4 h5
  subst h1 h2 h3 h4 h5
  simp

set_option maxHeartbeats 1000000 in
theorem same_ok (x y : EntT) (p q : Value × Value) (w : World) (hp : RowsX Any w x.t p) (hq : RowsX Any w y.t q) (hx : EntBnd x) (hy : EntBnd y) :
    Calls Try.prog 47 #[.agg (entC x p).toArray, .agg (entC y q).toArray] w fun en w' => en = .returned (.bool (sameEn x y)) ∧ Gr w w' := by
  have CT := hide (fun w' (h : Gr w w') => sameTerm_ok x y p q w' (hp.gr h) (hq.gr h))
  have CR := hide (fun w' (h : Gr w w') => EqualR_ok p.1 q.1 x.t.reads y.t.reads w' (hp.gr h).rd.1 (hq.gr h).rd.1 hx.1 hy.1)
  have CW := hide (fun w' (h : Gr w w') => EqualW_ok p.2 q.2 x.t.writes y.t.writes w' (hp.gr h).wr.1 (hq.gr h).wr.1 hx.2 hy.2)
  obtain ⟨A, c, e1, _⟩ := hp.rd.1.is
  obtain ⟨B, d, e2, _⟩ := hp.wr.1.is
  obtain ⟨A', c', e3, _⟩ := hq.rd.1.is
  obtain ⟨B', d', e4, _⟩ := hq.wr.1.is
  obtain ⟨p1, p2⟩ := p
  obtain ⟨q1, q2⟩ := q
  simp only at e1 e2 e3 e4 CR CW
  subst e1 e2 e3 e4
  have hg0 : ∀ o o', Gr w ((w.alloc o).alloc o') := fun o o' => ((Gr.refl _).alloc _).alloc _
  have HG := hide hg0
  have F1 := hide (@en_ne_term x y)
  have F2 := hide (@en_ne_shut x y)
  have F3 := hide (@en_ne_ses x y)
  have F4 := hide (@en_ne_seq x y)
  have F5 := hide (@en_ne_rd x y)
  have F6 := hide (@en_eq x y)
  unfold sameEn
  generalize decide (x = y) = b at F1 F2 F3 F4 F5 F6 ⊢
  clear hp hq hx hy hg0
  have HQ := hide (show sameTm x y = decide (x.term = y.term) from rfl)
  rw [HQ.out] at CT
  clear HQ
  obtain ⟨tm, sh, ⟨ss, sq, rd, wt⟩⟩ := x
  obtain ⟨tm', sh', ⟨ss', sq', rd', wt'⟩⟩ := y
  simp only at CT CR CW F1 F2 F3 F4 F5 F6
  generalize hm1 : rd.length = m1 at *
  generalize hm2 : wt.length = m2 at *
  generalize hm3 : rd'.length = m3 at *
  generalize hm4 : wt'.length = m4 at *
  clear hm1 hm2 hm3 hm4
  show Calls _ _ #[.agg #[.int .i64 tm, .bool sh, .int .i64 ss, .int .i64 sq, _, _], .agg #[.int .i64 tm', .bool sh', .int .i64 ss', .int .i64 sq', _, _]] _ _
  change Hid (∀ w', Gr w w' → Calls _ _ #[.agg #[.int .i64 tm, .bool sh, .int .i64 ss, .int .i64 sq, _, _], .agg #[.int .i64 tm', .bool sh', .int .i64 ss', .int .i64 sq', _, _]] _ _) at CT
  by_cases h1 : tm = tm'
  rotate_left
  · obtain rfl := F1.out h1
    rw [decide_eq_false h1] at CT
    clear F2 F3 F4 F5 F6 CR CW h1
    go_enter Try.func47, Try.ntmps47
    go_wp2_with fail
    refine (CT.out _ (HG.out _ _)).mono ?_
    rintro en w1 ⟨rfl, hg1⟩
    go_wp2_with fail
    go_ret
    exact ⟨rfl, (HG.out _ _).trans hg1⟩
  subst h1
  replace F6 := hide (F6.out rfl)
  rw [decide_eq_true rfl] at CT
  clear F1
  by_cases h2 : sh = sh'
  rotate_left
  · obtain rfl := F2.out h2
    clear F3 F4 F5 F6 CR CW
    go_enter Try.func47, Try.ntmps47
    go_wp2_with fail
    refine (CT.out _ (HG.out _ _)).mono ?_
    rintro en w1 ⟨rfl, hg1⟩
    have hbx := boxes2 hg1
    have cA1 : w1.cell? ⟨w.heap.size, 1, none⟩ = some (.bool sh) := hbx.1.cell 1
    have cA2 : w1.cell? ⟨w.heap.size, 2, none⟩ = some (.int .i64 ss) := hbx.1.cell 2
    have cA3 : w1.cell? ⟨w.heap.size, 3, none⟩ = some (.int .i64 sq) := hbx.1.cell 3
    have cA4 : w1.cell? ⟨w.heap.size, 4, none⟩ = some (.slice A m1 c) := hbx.1.cell 4
    have cB1 : w1.cell? ⟨w.heap.size + 1, 1, none⟩ = some (.bool sh') := hbx.2.cell 1
    have cB2 : w1.cell? ⟨w.heap.size + 1, 2, none⟩ = some (.int .i64 ss') := hbx.2.cell 2
    have cB3 : w1.cell? ⟨w.heap.size + 1, 3, none⟩ = some (.int .i64 sq') := hbx.2.cell 3
    have cB4 : w1.cell? ⟨w.heap.size + 1, 4, none⟩ = some (.slice A' m3 c') := hbx.2.cell 4
    clear hbx
    go_wp2_with fail
    go_ret
    exact ⟨rfl, (HG.out _ _).trans hg1⟩
  subst h2
  replace F6 := hide (F6.out rfl)
  clear F2
  by_cases h3 : ss = ss'
  rotate_left
  · obtain rfl := F3.out h3
    clear F4 F5 F6 CR CW
    go_enter Try.func47, Try.ntmps47
    go_wp2_with fail
    refine (CT.out _ (HG.out _ _)).mono ?_
    rintro en w1 ⟨rfl, hg1⟩
    have hbx := boxes2 hg1
    have cA1 : w1.cell? ⟨w.heap.size, 1, none⟩ = some (.bool sh) := hbx.1.cell 1
    have cA2 : w1.cell? ⟨w.heap.size, 2, none⟩ = some (.int .i64 ss) := hbx.1.cell 2
    have cA3 : w1.cell? ⟨w.heap.size, 3, none⟩ = some (.int .i64 sq) := hbx.1.cell 3
    have cA4 : w1.cell? ⟨w.heap.size, 4, none⟩ = some (.slice A m1 c) := hbx.1.cell 4
    have cB1 : w1.cell? ⟨w.heap.size + 1, 1, none⟩ = some (.bool sh) := hbx.2.cell 1
    have cB2 : w1.cell? ⟨w.heap.size + 1, 2, none⟩ = some (.int .i64 ss') := hbx.2.cell 2
    have cB3 : w1.cell? ⟨w.heap.size + 1, 3, none⟩ = some (.int .i64 sq') := hbx.2.cell 3
    have cB4 : w1.cell? ⟨w.heap.size + 1, 4, none⟩ = some (.slice A' m3 c') := hbx.2.cell 4
    clear hbx
    go_wp2_with fail
    go_ret
    exact ⟨rfl, (HG.out _ _).trans hg1⟩
  subst h3
  replace F6 := hide (F6.out rfl)
  clear F3
  by_cases h4 : sq = sq'
  rotate_left
  · obtain rfl := F4.out h4
    clear F5 F6 CR CW
    go_enter Try.func47, Try.ntmps47
    go_wp2_with fail
    refine (CT.out _ (HG.out _ _)).mono ?_
    rintro en w1 ⟨rfl, hg1⟩
    have hbx := boxes2 hg1
    have cA1 : w1.cell? ⟨w.heap.size, 1, none⟩ = some (.bool sh) := hbx.1.cell 1
    have cA2 : w1.cell? ⟨w.heap.size, 2, none⟩ = some (.int .i64 ss) := hbx.1.cell 2
    have cA3 : w1.cell? ⟨w.heap.size, 3, none⟩ = some (.int .i64 sq) := hbx.1.cell 3
    have cA4 : w1.cell? ⟨w.heap.size, 4, none⟩ = some (.slice A m1 c) := hbx.1.cell 4
    have cB1 : w1.cell? ⟨w.heap.size + 1, 1, none⟩ = some (.bool sh) := hbx.2.cell 1
    have cB2 : w1.cell? ⟨w.heap.size + 1, 2, none⟩ = some (.int .i64 ss) := hbx.2.cell 2
    have cB3 : w1.cell? ⟨w.heap.size + 1, 3, none⟩ = some (.int .i64 sq') := hbx.2.cell 3
    have cB4 : w1.cell? ⟨w.heap.size + 1, 4, none⟩ = some (.slice A' m3 c') := hbx.2.cell 4
    clear hbx
    go_wp2_with fail
    go_ret
    exact ⟨rfl, (HG.out _ _).trans hg1⟩
  subst h4
  replace F6 := hide (F6.out rfl)
  clear F4
  by_cases h5 : rd = rd'
  rotate_left
  · obtain rfl := F5.out h5
    rw [decide_eq_false h5] at CR
    clear F6 CW
    go_enter Try.func47, Try.ntmps47
    go_wp2_with fail
    refine (CT.out _ (HG.out _ _)).mono ?_
    rintro en w1 ⟨rfl, hg1⟩
    have hbx := boxes2 hg1
    have cA1 : w1.cell? ⟨w.heap.size, 1, none⟩ = some (.bool sh) := hbx.1.cell 1
    have cA2 : w1.cell? ⟨w.heap.size, 2, none⟩ = some (.int .i64 ss) := hbx.1.cell 2
    have cA3 : w1.cell? ⟨w.heap.size, 3, none⟩ = some (.int .i64 sq) := hbx.1.cell 3
    have cA4 : w1.cell? ⟨w.heap.size, 4, none⟩ = some (.slice A m1 c) := hbx.1.cell 4
    have cB1 : w1.cell? ⟨w.heap.size + 1, 1, none⟩ = some (.bool sh) := hbx.2.cell 1
    have cB2 : w1.cell? ⟨w.heap.size + 1, 2, none⟩ = some (.int .i64 ss) := hbx.2.cell 2
    have cB3 : w1.cell? ⟨w.heap.size + 1, 3, none⟩ = some (.int .i64 sq) := hbx.2.cell 3
    have cB4 : w1.cell? ⟨w.heap.size + 1, 4, none⟩ = some (.slice A' m3 c') := hbx.2.cell 4
    clear hbx
    go_wp2_with fail
    refine (CR.out _ ((HG.out _ _).trans hg1)).mono ?_
    rintro en w2 ⟨rfl, hg2⟩
    have hg3 := hg1.trans hg2
    clear hg1 hg2 cA1 cA2 cA3 cA4 cB1 cB2 cB3 cB4
    go_wp2_with fail
    go_ret
    exact ⟨rfl, (HG.out _ _).trans hg3⟩
  rw [decide_eq_true h5] at CR
  rw [F6.out h5] at CW
  clear F5 F6 h5
  go_enter Try.func47, Try.ntmps47
  go_wp2_with fail
  refine (CT.out _ (HG.out _ _)).mono ?_
  rintro en w1 ⟨rfl, hg1⟩
  have hbx := boxes2 hg1
  have cA1 : w1.cell? ⟨w.heap.size, 1, none⟩ = some (.bool sh) := hbx.1.cell 1
  have cA2 : w1.cell? ⟨w.heap.size, 2, none⟩ = some (.int .i64 ss) := hbx.1.cell 2
  have cA3 : w1.cell? ⟨w.heap.size, 3, none⟩ = some (.int .i64 sq) := hbx.1.cell 3
  have cA4 : w1.cell? ⟨w.heap.size, 4, none⟩ = some (.slice A m1 c) := hbx.1.cell 4
  have cB1 : w1.cell? ⟨w.heap.size + 1, 1, none⟩ = some (.bool sh) := hbx.2.cell 1
  have cB2 : w1.cell? ⟨w.heap.size + 1, 2, none⟩ = some (.int .i64 ss) := hbx.2.cell 2
  have cB3 : w1.cell? ⟨w.heap.size + 1, 3, none⟩ = some (.int .i64 sq) := hbx.2.cell 3
  have cB4 : w1.cell? ⟨w.heap.size + 1, 4, none⟩ = some (.slice A' m3 c') := hbx.2.cell 4
  clear hbx
  go_wp2_with fail
  refine (CR.out _ ((HG.out _ _).trans hg1)).mono ?_
  rintro en w2 ⟨rfl, hg2⟩
  have hg3 := hg1.trans hg2
  have hbx := boxes2 hg3
  have dA5 : w2.cell? ⟨w.heap.size, 5, none⟩ = some (.slice B m2 d) := hbx.1.cell 5
  have dB5 : w2.cell? ⟨w.heap.size + 1, 5, none⟩ = some (.slice B' m4 d') := hbx.2.cell 5
  clear hbx hg1 hg2 cA1 cA2 cA3 cA4 cB1 cB2 cB3 cB4
  go_wp2_with fail
  refine (CW.out _ ((HG.out _ _).trans hg3)).mono ?_
  rintro en w4 ⟨rfl, hg4⟩
  go_wp2_with fail
  go_ret
  exact ⟨rfl, (HG.out _ _).trans (hg3.trans hg4)⟩

set_option maxHeartbeats 1000000 in
theorem frontT_ok (v u : Value) (xs ys : List EntT) (w : World) (hv : EntsX Any w v xs) (hu : EntsX Any w u ys) (hx : xs.length ≤ 1000000000) (hy : ys.length ≤ 1000000000) :
    Calls Try.prog 46 #[v, u, .func (.func 62) #[] #[]] w fun e w' => e = .returned (.int .i64 (frontL sameTm xs ys : Nat)) ∧ Gr w w' := by
  have HA := hide hv
  have HB := hide hu
  obtain ⟨A, c, rfl⟩ := hv.is
  obtain ⟨B, d, rfl⟩ := hu.is
  clear hv hu
  have HF := hide (front_is sameTm xs ys)
  generalize frontL sameTm xs ys = fr at HF ⊢
  by_cases hyl : (ys.length : Int) < (xs.length : Int)
  · go_enter Try.func46, Try.ntmps46
    go_wp2_with fail
    go_loopw [15] (fun i wr => ∃ k : Nat, i = .int .i64 k ∧ k ≤ ys.length ∧ Hid (∀ j (h1 : j < xs.length) (h2 : j < ys.length), j < k → sameTm xs[j] ys[j] = true) ∧ Gr w wr) (fun i _ => ys.length - (intOf i).toNat)
    case atStart => exact ⟨0, rfl, by omega, fun j _ _ hj => absurd hj (by omega), Gr.refl _⟩
    case round =>
      obtain ⟨k, rfl, hk, hso, hgr⟩ := hrel
      by_cases hlt : k < ys.length
      · have hlt' : (k : Int) < (ys.length : Int) := by omega
        have hlx : k < xs.length := by omega
        have hly : k < ys.length := by omega
        have hlx2 : (k : Int) < (xs.length : Int) := by omega
        have hly2 : (k : Int) < (ys.length : Int) := by omega
        obtain ⟨ad, c', p, e1, hp, a0, a1, a2, a3, a4, a5⟩ := (HA.out.gr hgr).ent hlx
        obtain ⟨bd, d', q, e2, hq, b0, b1, b2, b3, b4, b5⟩ := (HB.out.gr hgr).ent hly
        simp only [Value.slice.injEq, true_and] at e1 e2
        obtain ⟨rfl, rfl⟩ := e1
        obtain ⟨rfl, rfl⟩ := e2
        have HC := hide (fun w' (h : Gr wr w') => sameTerm_ok xs[k] ys[k] p q w' (hp.gr h) (hq.gr h))
        obtain ⟨A2, c2, e3, _⟩ := hp.rd.1.is
        obtain ⟨B2, d2, e4, _⟩ := hp.wr.1.is
        obtain ⟨A3, c3, e5, _⟩ := hq.rd.1.is
        obtain ⟨B3, d3, e6, _⟩ := hq.wr.1.is
        obtain ⟨p1, p2⟩ := p
        obtain ⟨q1, q2⟩ := q
        simp only at e3 e4 e5 e6
        subst e3 e4 e5 e6
        have HNO := hide (fun (hR : sameTm xs[k] ys[k] = false) => HF.out k hso.out (by omega) (by omega) (.inr (.inr ⟨hlx, hly, hR⟩)))
        have HYES := hide (fun (hR : sameTm xs[k] ys[k] = true) => (show ∀ j (h1 : j < xs.length) (h2 : j < ys.length), j < k + 1 → sameTm xs[j] ys[j] = true from fun j h1 h2 hj => by
          by_cases hjk : j < k
          · exact hso.out j h1 h2 hjk
          · obtain rfl : j = k := by omega
            exact hR))
        obtain ⟨x, hxk⟩ : ∃ x, xs[k]'hlx = x := ⟨_, rfl⟩
        obtain ⟨y, hyk⟩ : ∃ y, ys[k]'hly = y := ⟨_, rfl⟩
        simp only [hxk, hyk] at a0 a1 a2 a3 a4 a5 b0 b1 b2 b3 b4 b5 HC HNO HYES
        clear hxk hyk hso hp hq
        change Hid (∀ w', Gr wr w' → Calls _ _ #[.agg #[.int .i64 x.term, .bool x.shut, .int .i64 x.t.ses, .int .i64 x.t.seq, _, _], .agg #[.int .i64 y.term, .bool y.shut, .int .i64 y.t.ses, .int .i64 y.t.seq, _, _]] _ _) at HC
        cases hd : sameTm x y
        · have hfr := HNO.out hd
          rw [hd] at HC
          clear hd HYES HNO
          subst hfr
          go_wp2_with fail
          go_still_tail 9, (by kernel_rfl)
          change wpList _ _ _ _ _ wr.drew
          go_wp2_with fail
          refine (HC.out _ (Gr.refl wr).drew).mono ?_
          rintro e w3 ⟨rfl, hg3⟩
          replace hgr := hgr.trans ((Gr.refl wr).drew.trans hg3)
          clear hg3 a0 a1 a2 a3 a4 a5 b0 b1 b2 b3 b4 b5 HC
          go_wp2_with fail
          go_ret
          exact ⟨rfl, hgr⟩
        · have hyes := hide (HYES.out hd)
          rw [hd] at HC
          clear hd HNO HYES
          go_wp2_with fail
          go_still_tail 9, (by kernel_rfl)
          change wpList _ _ _ _ _ wr.drew
          go_wp2_with fail
          refine (HC.out _ (Gr.refl wr).drew).mono ?_
          rintro e w3 ⟨rfl, hg3⟩
          replace hgr := hgr.trans ((Gr.refl wr).drew.trans hg3)
          clear hg3 a0 a1 a2 a3 a4 a5 b0 b1 b2 b3 b4 b5 HC
          go_wp2_with fail
          go_roundw
          case rel => exact ⟨k + 1, by go_num, by omega, hyes, hgr⟩
          case measure => simp [intOf]; omega
      · obtain rfl : k = ys.length := by omega
        have hfr := HF.out _ hso.out (by omega) (by omega) (by omega)
        clear hso
        subst hfr
        go_wp2_with fail
        go_ret
        exact ⟨rfl, hgr⟩
  · go_enter Try.func46, Try.ntmps46
    go_wp2_with fail
    go_loopw [15] (fun i wr => ∃ k : Nat, i = .int .i64 k ∧ k ≤ xs.length ∧ Hid (∀ j (h1 : j < xs.length) (h2 : j < ys.length), j < k → sameTm xs[j] ys[j] = true) ∧ Gr w wr) (fun i _ => xs.length - (intOf i).toNat)
    case atStart => exact ⟨0, rfl, by omega, fun j _ _ hj => absurd hj (by omega), Gr.refl _⟩
    case round =>
      obtain ⟨k, rfl, hk, hso, hgr⟩ := hrel
      by_cases hlt : k < xs.length
      · have hlt' : (k : Int) < (xs.length : Int) := by omega
        have hlx : k < xs.length := by omega
        have hly : k < ys.length := by omega
        have hlx2 : (k : Int) < (xs.length : Int) := by omega
        have hly2 : (k : Int) < (ys.length : Int) := by omega
        obtain ⟨ad, c', p, e1, hp, a0, a1, a2, a3, a4, a5⟩ := (HA.out.gr hgr).ent hlx
        obtain ⟨bd, d', q, e2, hq, b0, b1, b2, b3, b4, b5⟩ := (HB.out.gr hgr).ent hly
        simp only [Value.slice.injEq, true_and] at e1 e2
        obtain ⟨rfl, rfl⟩ := e1
        obtain ⟨rfl, rfl⟩ := e2
        have HC := hide (fun w' (h : Gr wr w') => sameTerm_ok xs[k] ys[k] p q w' (hp.gr h) (hq.gr h))
        obtain ⟨A2, c2, e3, _⟩ := hp.rd.1.is
        obtain ⟨B2, d2, e4, _⟩ := hp.wr.1.is
        obtain ⟨A3, c3, e5, _⟩ := hq.rd.1.is
        obtain ⟨B3, d3, e6, _⟩ := hq.wr.1.is
        obtain ⟨p1, p2⟩ := p
        obtain ⟨q1, q2⟩ := q
        simp only at e3 e4 e5 e6
        subst e3 e4 e5 e6
        have HNO := hide (fun (hR : sameTm xs[k] ys[k] = false) => HF.out k hso.out (by omega) (by omega) (.inr (.inr ⟨hlx, hly, hR⟩)))
        have HYES := hide (fun (hR : sameTm xs[k] ys[k] = true) => (show ∀ j (h1 : j < xs.length) (h2 : j < ys.length), j < k + 1 → sameTm xs[j] ys[j] = true from fun j h1 h2 hj => by
          by_cases hjk : j < k
          · exact hso.out j h1 h2 hjk
          · obtain rfl : j = k := by omega
            exact hR))
        obtain ⟨x, hxk⟩ : ∃ x, xs[k]'hlx = x := ⟨_, rfl⟩
        obtain ⟨y, hyk⟩ : ∃ y, ys[k]'hly = y := ⟨_, rfl⟩
        simp only [hxk, hyk] at a0 a1 a2 a3 a4 a5 b0 b1 b2 b3 b4 b5 HC HNO HYES
        clear hxk hyk hso hp hq
        change Hid (∀ w', Gr wr w' → Calls _ _ #[.agg #[.int .i64 x.term, .bool x.shut, .int .i64 x.t.ses, .int .i64 x.t.seq, _, _], .agg #[.int .i64 y.term, .bool y.shut, .int .i64 y.t.ses, .int .i64 y.t.seq, _, _]] _ _) at HC
        cases hd : sameTm x y
        · have hfr := HNO.out hd
          rw [hd] at HC
          clear hd HYES HNO
          subst hfr
          go_wp2_with fail
          go_still_tail 9, (by kernel_rfl)
          change wpList _ _ _ _ _ wr.drew
          go_wp2_with fail
          refine (HC.out _ (Gr.refl wr).drew).mono ?_
          rintro e w3 ⟨rfl, hg3⟩
          replace hgr := hgr.trans ((Gr.refl wr).drew.trans hg3)
          clear hg3 a0 a1 a2 a3 a4 a5 b0 b1 b2 b3 b4 b5 HC
          go_wp2_with fail
          go_ret
          exact ⟨rfl, hgr⟩
        · have hyes := hide (HYES.out hd)
          rw [hd] at HC
          clear hd HNO HYES
          go_wp2_with fail
          go_still_tail 9, (by kernel_rfl)
          change wpList _ _ _ _ _ wr.drew
          go_wp2_with fail
          refine (HC.out _ (Gr.refl wr).drew).mono ?_
          rintro e w3 ⟨rfl, hg3⟩
          replace hgr := hgr.trans ((Gr.refl wr).drew.trans hg3)
          clear hg3 a0 a1 a2 a3 a4 a5 b0 b1 b2 b3 b4 b5 HC
          go_wp2_with fail
          go_roundw
          case rel => exact ⟨k + 1, by go_num, by omega, hyes, hgr⟩
          case measure => simp [intOf]; omega
      · obtain rfl : k = xs.length := by omega
        have hfr := HF.out _ hso.out (by omega) (by omega) (by omega)
        clear hso
        subst hfr
        go_wp2_with fail
        go_ret
        exact ⟨rfl, hgr⟩

set_option maxHeartbeats 1000000 in
theorem frontE_ok (v u : Value) (xs ys : List EntT) (w : World) (hv : EntsX Any w v xs) (hu : EntsX Any w u ys) (hx : xs.length ≤ 1000000000) (hy : ys.length ≤ 1000000000) (hbx : ∀ e ∈ xs, EntBnd e) (hby : ∀ e ∈ ys, EntBnd e) :
    Calls Try.prog 46 #[v, u, .func (.func 47) #[] #[]] w fun e w' => e = .returned (.int .i64 (frontL sameEn xs ys : Nat)) ∧ Gr w w' := by
  have HA := hide hv
  have HB := hide hu
  obtain ⟨A, c, rfl⟩ := hv.is
  obtain ⟨B, d, rfl⟩ := hu.is
  have HX := hide hbx
  have HY := hide hby
  clear hv hu hbx hby
  have HF := hide (front_is sameEn xs ys)
  generalize frontL sameEn xs ys = fr at HF ⊢
  by_cases hyl : (ys.length : Int) < (xs.length : Int)
  · go_enter Try.func46, Try.ntmps46
    go_wp2_with fail
    go_loopw [15] (fun i wr => ∃ k : Nat, i = .int .i64 k ∧ k ≤ ys.length ∧ Hid (∀ j (h1 : j < xs.length) (h2 : j < ys.length), j < k → sameEn xs[j] ys[j] = true) ∧ Gr w wr) (fun i _ => ys.length - (intOf i).toNat)
    case atStart => exact ⟨0, rfl, by omega, fun j _ _ hj => absurd hj (by omega), Gr.refl _⟩
    case round =>
      obtain ⟨k, rfl, hk, hso, hgr⟩ := hrel
      by_cases hlt : k < ys.length
      · have hlt' : (k : Int) < (ys.length : Int) := by omega
        have hlx : k < xs.length := by omega
        have hly : k < ys.length := by omega
        have hlx2 : (k : Int) < (xs.length : Int) := by omega
        have hly2 : (k : Int) < (ys.length : Int) := by omega
        obtain ⟨ad, c', p, e1, hp, a0, a1, a2, a3, a4, a5⟩ := (HA.out.gr hgr).ent hlx
        obtain ⟨bd, d', q, e2, hq, b0, b1, b2, b3, b4, b5⟩ := (HB.out.gr hgr).ent hly
        simp only [Value.slice.injEq, true_and] at e1 e2
        obtain ⟨rfl, rfl⟩ := e1
        obtain ⟨rfl, rfl⟩ := e2
        have HC := hide (fun w' (h : Gr wr w') => same_ok xs[k] ys[k] p q w' (hp.gr h) (hq.gr h) (HX.out _ (List.getElem_mem hlx)) (HY.out _ (List.getElem_mem hly)))
        obtain ⟨A2, c2, e3, _⟩ := hp.rd.1.is
        obtain ⟨B2, d2, e4, _⟩ := hp.wr.1.is
        obtain ⟨A3, c3, e5, _⟩ := hq.rd.1.is
        obtain ⟨B3, d3, e6, _⟩ := hq.wr.1.is
        obtain ⟨p1, p2⟩ := p
        obtain ⟨q1, q2⟩ := q
        simp only at e3 e4 e5 e6
        subst e3 e4 e5 e6
        have HNO := hide (fun (hR : sameEn xs[k] ys[k] = false) => HF.out k hso.out (by omega) (by omega) (.inr (.inr ⟨hlx, hly, hR⟩)))
        have HYES := hide (fun (hR : sameEn xs[k] ys[k] = true) => (show ∀ j (h1 : j < xs.length) (h2 : j < ys.length), j < k + 1 → sameEn xs[j] ys[j] = true from fun j h1 h2 hj => by
          by_cases hjk : j < k
          · exact hso.out j h1 h2 hjk
          · obtain rfl : j = k := by omega
            exact hR))
        obtain ⟨x, hxk⟩ : ∃ x, xs[k]'hlx = x := ⟨_, rfl⟩
        obtain ⟨y, hyk⟩ : ∃ y, ys[k]'hly = y := ⟨_, rfl⟩
        simp only [hxk, hyk] at a0 a1 a2 a3 a4 a5 b0 b1 b2 b3 b4 b5 HC HNO HYES
        clear hxk hyk hso hp hq
        change Hid (∀ w', Gr wr w' → Calls _ _ #[.agg #[.int .i64 x.term, .bool x.shut, .int .i64 x.t.ses, .int .i64 x.t.seq, _, _], .agg #[.int .i64 y.term, .bool y.shut, .int .i64 y.t.ses, .int .i64 y.t.seq, _, _]] _ _) at HC
        cases hd : sameEn x y
        · have hfr := HNO.out hd
          rw [hd] at HC
          clear hd HYES HNO
          subst hfr
          go_wp2_with fail
          go_still_tail 9, (by kernel_rfl)
          change wpList _ _ _ _ _ wr.drew
          go_wp2_with fail
          refine (HC.out _ (Gr.refl wr).drew).mono ?_
          rintro e w3 ⟨rfl, hg3⟩
          replace hgr := hgr.trans ((Gr.refl wr).drew.trans hg3)
          clear hg3 a0 a1 a2 a3 a4 a5 b0 b1 b2 b3 b4 b5 HC
          go_wp2_with fail
          go_ret
          exact ⟨rfl, hgr⟩
        · have hyes := hide (HYES.out hd)
          rw [hd] at HC
          clear hd HNO HYES
          go_wp2_with fail
          go_still_tail 9, (by kernel_rfl)
          change wpList _ _ _ _ _ wr.drew
          go_wp2_with fail
          refine (HC.out _ (Gr.refl wr).drew).mono ?_
          rintro e w3 ⟨rfl, hg3⟩
          replace hgr := hgr.trans ((Gr.refl wr).drew.trans hg3)
          clear hg3 a0 a1 a2 a3 a4 a5 b0 b1 b2 b3 b4 b5 HC
          go_wp2_with fail
          go_roundw
          case rel => exact ⟨k + 1, by go_num, by omega, hyes, hgr⟩
          case measure => simp [intOf]; omega
      · obtain rfl : k = ys.length := by omega
        have hfr := HF.out _ hso.out (by omega) (by omega) (by omega)
        clear hso
        subst hfr
        go_wp2_with fail
        go_ret
        exact ⟨rfl, hgr⟩
  · go_enter Try.func46, Try.ntmps46
    go_wp2_with fail
    go_loopw [15] (fun i wr => ∃ k : Nat, i = .int .i64 k ∧ k ≤ xs.length ∧ Hid (∀ j (h1 : j < xs.length) (h2 : j < ys.length), j < k → sameEn xs[j] ys[j] = true) ∧ Gr w wr) (fun i _ => xs.length - (intOf i).toNat)
    case atStart => exact ⟨0, rfl, by omega, fun j _ _ hj => absurd hj (by omega), Gr.refl _⟩
    case round =>
      obtain ⟨k, rfl, hk, hso, hgr⟩ := hrel
      by_cases hlt : k < xs.length
      · have hlt' : (k : Int) < (xs.length : Int) := by omega
        have hlx : k < xs.length := by omega
        have hly : k < ys.length := by omega
        have hlx2 : (k : Int) < (xs.length : Int) := by omega
        have hly2 : (k : Int) < (ys.length : Int) := by omega
        obtain ⟨ad, c', p, e1, hp, a0, a1, a2, a3, a4, a5⟩ := (HA.out.gr hgr).ent hlx
        obtain ⟨bd, d', q, e2, hq, b0, b1, b2, b3, b4, b5⟩ := (HB.out.gr hgr).ent hly
        simp only [Value.slice.injEq, true_and] at e1 e2
        obtain ⟨rfl, rfl⟩ := e1
        obtain ⟨rfl, rfl⟩ := e2
        have HC := hide (fun w' (h : Gr wr w') => same_ok xs[k] ys[k] p q w' (hp.gr h) (hq.gr h) (HX.out _ (List.getElem_mem hlx)) (HY.out _ (List.getElem_mem hly)))
        obtain ⟨A2, c2, e3, _⟩ := hp.rd.1.is
        obtain ⟨B2, d2, e4, _⟩ := hp.wr.1.is
        obtain ⟨A3, c3, e5, _⟩ := hq.rd.1.is
        obtain ⟨B3, d3, e6, _⟩ := hq.wr.1.is
        obtain ⟨p1, p2⟩ := p
        obtain ⟨q1, q2⟩ := q
        simp only at e3 e4 e5 e6
        subst e3 e4 e5 e6
        have HNO := hide (fun (hR : sameEn xs[k] ys[k] = false) => HF.out k hso.out (by omega) (by omega) (.inr (.inr ⟨hlx, hly, hR⟩)))
        have HYES := hide (fun (hR : sameEn xs[k] ys[k] = true) => (show ∀ j (h1 : j < xs.length) (h2 : j < ys.length), j < k + 1 → sameEn xs[j] ys[j] = true from fun j h1 h2 hj => by
          by_cases hjk : j < k
          · exact hso.out j h1 h2 hjk
          · obtain rfl : j = k := by omega
            exact hR))
        obtain ⟨x, hxk⟩ : ∃ x, xs[k]'hlx = x := ⟨_, rfl⟩
        obtain ⟨y, hyk⟩ : ∃ y, ys[k]'hly = y := ⟨_, rfl⟩
        simp only [hxk, hyk] at a0 a1 a2 a3 a4 a5 b0 b1 b2 b3 b4 b5 HC HNO HYES
        clear hxk hyk hso hp hq
        change Hid (∀ w', Gr wr w' → Calls _ _ #[.agg #[.int .i64 x.term, .bool x.shut, .int .i64 x.t.ses, .int .i64 x.t.seq, _, _], .agg #[.int .i64 y.term, .bool y.shut, .int .i64 y.t.ses, .int .i64 y.t.seq, _, _]] _ _) at HC
        cases hd : sameEn x y
        · have hfr := HNO.out hd
          rw [hd] at HC
          clear hd HYES HNO
          subst hfr
          go_wp2_with fail
          go_still_tail 9, (by kernel_rfl)
          change wpList _ _ _ _ _ wr.drew
          go_wp2_with fail
          refine (HC.out _ (Gr.refl wr).drew).mono ?_
          rintro e w3 ⟨rfl, hg3⟩
          replace hgr := hgr.trans ((Gr.refl wr).drew.trans hg3)
          clear hg3 a0 a1 a2 a3 a4 a5 b0 b1 b2 b3 b4 b5 HC
          go_wp2_with fail
          go_ret
          exact ⟨rfl, hgr⟩
        · have hyes := hide (HYES.out hd)
          rw [hd] at HC
          clear hd HNO HYES
          go_wp2_with fail
          go_still_tail 9, (by kernel_rfl)
          change wpList _ _ _ _ _ wr.drew
          go_wp2_with fail
          refine (HC.out _ (Gr.refl wr).drew).mono ?_
          rintro e w3 ⟨rfl, hg3⟩
          replace hgr := hgr.trans ((Gr.refl wr).drew.trans hg3)
          clear hg3 a0 a1 a2 a3 a4 a5 b0 b1 b2 b3 b4 b5 HC
          go_wp2_with fail
          go_roundw
          case rel => exact ⟨k + 1, by go_num, by omega, hyes, hgr⟩
          case measure => simp [intOf]; omega
      · obtain rfl : k = xs.length := by omega
        have hfr := HF.out _ hso.out (by omega) (by omega) (by omega)
        clear hso
        subst hfr
        go_wp2_with fail
        go_ret
        exact ⟨rfl, hgr⟩

set_option maxHeartbeats 400000 in
theorem Same_ok (v u : Value) (xs ys : List EntT) (w : World) (hv : EntsX Any w v xs) (hu : EntsX Any w u ys) (hx : xs.length ≤ 1000000000) (hy : ys.length ≤ 1000000000) (hbx : ∀ e ∈ xs, EntBnd e) (hby : ∀ e ∈ ys, EntBnd e) :
    Calls Try.prog 35 #[v, u] w fun e w' => e = .returned (.bool (decide (xs = ys))) ∧ Gr w w' := by
  have HC := hide (frontE_ok v u xs ys w hv hu hx hy hbx hby)
  obtain ⟨A, c, rfl⟩ := hv.is
  obtain ⟨B, d, rfl⟩ := hu.is
  clear hv hu hbx hby
  have HS := hide (same_front xs ys)
  generalize decide (xs = ys) = b at HS ⊢
  generalize frontL sameEn xs ys = fr at HS HC
  by_cases hl : (xs.length : Int) = (ys.length : Int)
  · have E := hide (show decide ((fr : Int) = (xs.length : Int)) = b by rw [← HS.out, decide_eq_true (by omega : xs.length = ys.length), Bool.true_and]; exact decide_eq_decide.2 (by omega))
    clear HS
    go_enter Try.func35, Try.ntmps35
    go_wp2_with fail
    refine HC.out.mono ?_
    rintro e w1 ⟨rfl, hg1⟩
    go_wp2_with fail
    go_ret
    exact ⟨by rw [← E.out]; simp [Bool.beq_eq_decide_eq]; omega, hg1⟩
  · have E := hide (show b = false by rw [← HS.out, decide_eq_false (by omega : ¬ xs.length = ys.length), Bool.false_and])
    clear HS HC
    go_enter Try.func35, Try.ntmps35
    go_wp2_with fail
    go_ret
    exact ⟨by rw [E.out]; rfl, Gr.refl _⟩

end Go.Proofs.Ythpaoeiackbdoaa
