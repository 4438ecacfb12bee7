/-
  Entries held against each other: the document's SameEntry, SameEntries, by their contracts.
-/
import Derived.Test.YthpaoeiackbdoaaEntOwn
import Derived.Test.YthpaoeiackbdoaaTxnSame
import Derived.StillTailTactics
namespace Go.Proofs.Ythpaoeiackbdoaa
open Go Go.RowKit TxnMath KeyMath MsgMath
set_option maxRecDepth 100000


set_option maxHeartbeats 1000000 in
theorem RefSameEntry_ok (x y : EntT) (p q : Value × Value) (w : World) (hp : RowsX Any w x.t p) (hq : RowsX Any w y.t q) (hx : EntBnd x) (hy : EntBnd y) :
    Calls Try.prog 44 #[.agg (entC x p).toArray, .agg (entC y q).toArray] w fun en w' => en = .returned (.bool (decide (x = y))) ∧ Gr w w' := by
  have CS := hide (fun w' (h : Gr w w') => SameTxn_ok (.agg (txC x.t p).toArray) (.agg (txC y.t q).toArray) x.t y.t w' (hp.gr h).txAt (hq.gr h).txAt hx.1 hy.1 hy.2)
  obtain ⟨A, c, e1, _⟩ := hp.rd.1.is
  obtain ⟨B, d, e2, _⟩ := hp.wr.1.is
  obtain ⟨A', c', e3, _⟩ := hq.rd.1.is
  obtain ⟨B', d', e4, _⟩ := hq.wr.1.is
  obtain ⟨p1, p2⟩ := p
  obtain ⟨q1, q2⟩ := q
  simp only at e1 e2 e3 e4
  subst e1 e2 e3 e4
  have hg0 : ∀ o o', Gr w ((w.alloc o).alloc o') := fun o o' => ((Gr.refl _).alloc _).alloc _
  have HG := hide hg0
  have HD := hide (ent_cases x y)
  obtain ⟨b, hb⟩ : ∃ b, decide (x = y) = b := ⟨_, rfl⟩
  have HBB := hide hb
  rw [hb]
  clear hp hq hx hy hg0 hb
  show Calls _ _ #[.agg #[.int .i64 x.term, .bool x.shut, .int .i64 x.t.ses, .int .i64 x.t.seq, _, _], .agg #[.int .i64 y.term, .bool y.shut, .int .i64 y.t.ses, .int .i64 y.t.seq, _, _]] _ _
  change Hid (∀ w', Gr w w' → Calls _ _ #[.agg #[.int .i64 x.t.ses, .int .i64 x.t.seq, _, _], .agg #[.int .i64 y.t.ses, .int .i64 y.t.seq, _, _]] _ _) at CS
  by_cases h1 : x.term = y.term
  rotate_left
  · have E := hide (show b = false by rw [← HBB.out]; exact decide_eq_false (fun e => h1 (by rw [e])))
    clear HBB HD
    go_enter Try.func44, Try.ntmps44
    go_wp2_with fail
    go_ret
    exact ⟨by rw [E.out]; rfl, HG.out _ _⟩
  by_cases h2 : x.shut = y.shut
  rotate_left
  · have E := hide (show b = false by rw [← HBB.out]; exact decide_eq_false (fun e => h2 (by rw [e])))
    clear HBB HD
    go_enter Try.func44, Try.ntmps44
    go_wp2_with fail
    go_ret
    exact ⟨by rw [E.out]; rfl, HG.out _ _⟩
  have E := hide (show decide (x.t = y.t) = b by
    rw [← HBB.out]
    have h1' := h1
    have h2' := h2
    cases x; cases y
    simp only at h1' h2'
    subst h1' h2'
    simp)
  rw [E.out] at CS
  clear HBB HD E
  go_enter Try.func44, Try.ntmps44
  go_wp2_with fail
  refine (CS.out _ (HG.out _ _)).mono ?_
  rintro en w1 ⟨rfl, hg1⟩
  go_wp2_with fail
  go_ret
  exact ⟨rfl, (HG.out _ _).trans hg1⟩

set_option maxHeartbeats 1000000 in
theorem RefSameEntries_ok (v u : Value) (xs ys : List EntT) (w : World) (hv : EntsX Any w v xs) (hu : EntsX Any w u ys) (hx : xs.length ≤ 1000000000) (hbx : ∀ e ∈ xs, EntBnd e) (hby : ∀ e ∈ ys, EntBnd e) :
    Calls Try.prog 26 #[v, u] w fun e w' => e = .returned (.bool (decide (xs = ys))) ∧ Gr w w' := by
  have HA := hide hv
  have HB := hide hu
  obtain ⟨A, c, rfl⟩ := hv.is
  obtain ⟨B, d, rfl⟩ := hu.is
  have HX := hide hbx
  have HY := hide hby
  clear hv hu hbx hby
  by_cases hl : xs.length = ys.length
  · have h : (xs.length : Int) = (ys.length : Int) := by omega
    have HL := hide hl
    clear hl
    go_enter Try.func26, Try.ntmps26
    go_wp2_with fail
    go_loopw [5] (fun i wr => ∃ k : Nat, i = .int .i64 k ∧ k ≤ xs.length ∧ Hid (∀ j, j < k → xs[j]? = ys[j]?) ∧ Gr w wr) (fun i _ => xs.length - (intOf i).toNat)
    case atStart => exact ⟨0, rfl, by omega, fun j hj => absurd hj (by omega), Gr.refl _⟩
    case round =>
      obtain ⟨k, rfl, hk, hso, hgr⟩ := hrel
      by_cases hlt : k < xs.length
      · have hlt' : (k : Int) < (xs.length : Int) := by omega
        have hly : k < ys.length := by have := HL.out; omega
        have hlt2 : (k : Int) < (ys.length : Int) := by omega
        have hno := hide (list_ne hlt hly)
        have hyes := hide (same_more hso.out hlt hly)
        obtain ⟨ad, c', p, e1, hp, a0, a1, a2, a3, a4, a5⟩ := (HA.out.gr hgr).ent hlt
        obtain ⟨bd, d', q, e2, hq, b0, b1, b2, b3, b4, b5⟩ := (HB.out.gr hgr).ent hly
        simp only [Value.slice.injEq, true_and] at e1 e2
        obtain ⟨rfl, rfl⟩ := e1
        obtain ⟨rfl, rfl⟩ := e2
        have HC := hide (fun w' (h : Gr wr w') => RefSameEntry_ok xs[k] ys[k] p q w' (hp.gr h) (hq.gr h) (HX.out _ (List.getElem_mem hlt)) (HY.out _ (List.getElem_mem hly)))
        obtain ⟨A2, c2, e3, _⟩ := hp.rd.1.is
        obtain ⟨B2, d2, e4, _⟩ := hp.wr.1.is
        obtain ⟨A3, c3, e5, _⟩ := hq.rd.1.is
        obtain ⟨B3, d3, e6, _⟩ := hq.wr.1.is
        obtain ⟨p1, p2⟩ := p
        obtain ⟨q1, q2⟩ := q
        simp only at e3 e4 e5 e6
        subst e3 e4 e5 e6
        obtain ⟨x, hxk⟩ : ∃ x, xs[k]'hlt = x := ⟨_, rfl⟩
        obtain ⟨y, hyk⟩ : ∃ y, ys[k]'hly = y := ⟨_, rfl⟩
        simp only [hxk, hyk] at a0 a1 a2 a3 a4 a5 b0 b1 b2 b3 b4 b5 HC hno hyes
        clear hxk hyk hso hp hq
        change Hid (∀ w', Gr wr w' → Calls _ _ #[.agg #[.int .i64 x.term, .bool x.shut, .int .i64 x.t.ses, .int .i64 x.t.seq, _, _], .agg #[.int .i64 y.term, .bool y.shut, .int .i64 y.t.ses, .int .i64 y.t.seq, _, _]] _ _) at HC
        cases hd : decide (x = y)
        · replace hno := hide (hno.out (of_decide_eq_false hd))
          rw [hd] at HC
          clear hd hyes
          go_wp2_with fail
          go_still_tail 8, (by kernel_rfl)
          change wpList _ _ _ _ _ wr.drew
          go_wp2_with fail
          refine (HC.out _ (Gr.refl wr).drew).mono ?_
          rintro e w3 ⟨rfl, hg3⟩
          replace hgr := hgr.trans ((Gr.refl wr).drew.trans hg3)
          clear hg3 a0 a1 a2 a3 a4 a5 b0 b1 b2 b3 b4 b5 HC
          go_wp2_with fail
          go_ret
          exact ⟨by rw [decide_eq_false hno.out]; rfl, hgr⟩
        · replace hyes := hide (hyes.out (of_decide_eq_true hd))
          rw [hd] at HC
          clear hd hno
          go_wp2_with fail
          go_still_tail 8, (by kernel_rfl)
          change wpList _ _ _ _ _ wr.drew
          go_wp2_with fail
          refine (HC.out _ (Gr.refl wr).drew).mono ?_
          rintro e w3 ⟨rfl, hg3⟩
          replace hgr := hgr.trans ((Gr.refl wr).drew.trans hg3)
          clear hg3 a0 a1 a2 a3 a4 a5 b0 b1 b2 b3 b4 b5 HC
          go_wp2_with fail
          go_roundw
          case rel => exact ⟨k + 1, by go_num, by omega, hyes, hgr⟩
          case measure => simp [intOf]; omega
      · obtain rfl : k = xs.length := by omega
        have hs := hide (list_same HL.out hso.out)
        clear hso
        go_wp2_with fail
        go_ret
        exact ⟨by rw [decide_eq_true hs.out]; rfl, hgr⟩
  · have h : ¬ (xs.length : Int) = (ys.length : Int) := by omega
    have hno : xs ≠ ys := fun e => hl (by rw [e])
    rw [decide_eq_false hno]
    go_enter Try.func26, Try.ntmps26
    go_wp2_with fail
    go_ret
    exact ⟨rfl, Gr.refl _⟩

end Go.Proofs.Ythpaoeiackbdoaa
