/-
  The document's SameReads and SameTxn, by their contracts.
-/
import Derived.Test.YthpaoeiackbdoaaTxnArgs
namespace Go.Proofs.Ythpaoeiackbdoaa
open Go Go.RowKit TxnMath
set_option maxRecDepth 100000

set_option maxHeartbeats 400000 in
theorem SameReads_ok (v u : Value) (xs ys : List RdT) (w : World) (hv : RowAt 4 w v (xs.map rdC)) (hu : RowAt 4 w u (ys.map rdC)) (hx : xs.length ≤ 1000000000) (_ : ys.length ≤ 1000000000) :
    Calls Try.prog 73 #[v, u] w fun e w' => e = .returned (.bool (decide (xs = ys))) ∧ Gr w w' := by
  have HA := hide hv
  have HB := hide hu
  obtain ⟨A, c, rfl, hc, _⟩ := hv
  obtain ⟨B, d, rfl, hd, _⟩ := hu
  rw [List.length_map] at HA hc ⊢
  rw [List.length_map] at HB hd ⊢
  by_cases hl : xs.length = ys.length
  · have h : (xs.length : Int) = (ys.length : Int) := by omega
    go_enter Try.func73, Try.ntmps73
    go_wp2_with fail
    go_loopw [5] (fun i wr => ∃ k : Nat, i = .int .i64 k ∧ k ≤ xs.length ∧ Hid (∀ j, j < k → xs[j]? = ys[j]?) ∧ Gr w wr) (fun i _ => xs.length - (intOf i).toNat)
    case atStart => exact ⟨0, rfl, by omega, fun j hj => absurd hj (by omega), Gr.refl _⟩
    case round =>
      obtain ⟨k, rfl, hk, hso, hgr⟩ := hrel
      by_cases hlt : k < xs.length
      · have hlt' : (k : Int) < (xs.length : Int) := by omega
        have hlt2 : (k : Int) < (ys.length : Int) := by omega
        have hno := hide (list_ne hlt (by omega : k < ys.length))
        have hyes := hide (same_more hso.out hlt (by omega : k < ys.length))
        obtain ⟨x, hxk⟩ : ∃ x, xs[k]'hlt = x := ⟨_, rfl⟩
        obtain ⟨y, hyk⟩ : ∃ y, ys[k]'(by omega) = y := ⟨_, rfl⟩
        obtain ⟨ad, c', e1, _, a0, a1⟩ := (HA.out.gr hgr).cell (j := k) (r := rdC x) (by rw [List.getElem?_map, List.getElem?_eq_getElem hlt, hxk]; rfl) (by simp [rdC])
        obtain ⟨bd, d', e2, _, b0, b1⟩ := (HB.out.gr hgr).cell (j := k) (r := rdC y) (by rw [List.getElem?_map, List.getElem?_eq_getElem (by omega), hyk]; rfl) (by simp [rdC])
        rw [hxk, hyk] at hno hyes
        simp only [Value.slice.injEq, List.length_map] at e1 e2
        obtain ⟨rfl, _, rfl⟩ := e1
        obtain ⟨rfl, _, rfl⟩ := e2
        replace a0 := a0 _ rfl
        replace b0 := b0 _ rfl
        have a2 := a1 2 _ (by decide) rfl
        have a3 := a1 3 _ (by decide) rfl
        replace a1 := a1 1 _ (by decide) rfl
        have b2 := b1 2 _ (by decide) rfl
        have b3 := b1 3 _ (by decide) rfl
        replace b1 := b1 1 _ (by decide) rfl
        clear hxk hyk hso
        rcases rd_cases x y with rfl | ⟨q1, hne⟩ | ⟨q1, q2, hne⟩ | ⟨q1, q2, q3, hne⟩ | ⟨q1, q2, q3, q4, hne⟩
        · replace hyes := hide (hyes.out rfl)
          clear hno
          go_wp2_with fail
          go_region
          go_wp2_with fail
          go_roundw
          case rel => exact ⟨k + 1, by go_num, by omega, hyes, hgr.drew⟩
          case measure => simp [intOf]; omega
        all_goals
          replace hno := hide (hno.out hne)
          clear hyes hne
          go_wp2_with fail
          go_region
          go_wp2_with fail
          go_ret
          exact ⟨by rw [decide_eq_false hno.out]; rfl, hgr.drew⟩
      · obtain rfl : k = xs.length := by omega
        have hs := hide (list_same hl hso.out)
        clear hso hl
        go_wp2_with fail
        go_ret
        exact ⟨by rw [decide_eq_true hs.out]; rfl, hgr⟩
  · have h : ¬ (xs.length : Int) = (ys.length : Int) := by omega
    have hno : xs ≠ ys := fun e => hl (by rw [e])
    rw [decide_eq_false hno]
    go_enter Try.func73, Try.ntmps73
    go_wp2_with fail
    go_ret
    exact ⟨rfl, Gr.refl _⟩

set_option maxHeartbeats 400000 in
theorem SameTxn_ok (v u : Value) (t x : TxT) (w : World) (hv : TxAt w v t) (hu : TxAt w u x) (h1 : t.reads.length ≤ 1000000000) (h2 : x.reads.length ≤ 1000000000) (h4 : x.writes.length ≤ 1000000000) :
    Calls Try.prog 53 #[v, u] w fun e w' => e = .returned (.bool (decide (t = x))) ∧ Gr w w' := by
  obtain ⟨rv, wv, rfl, hr, hw⟩ := hv
  obtain ⟨rv', wv', rfl, hr', hw'⟩ := hu
  have HW := hide hw
  have HW' := hide hw'
  have HR := hide hr
  have HR' := hide hr'
  obtain ⟨A, c, rfl, hc, _⟩ := hw
  obtain ⟨B, d, rfl, hd, _⟩ := hw'
  rw [List.length_map] at HW hc ⊢
  rw [List.length_map] at HW' hd ⊢
  obtain ⟨b, hb⟩ : ∃ b, decide (t = x) = b := ⟨_, rfl⟩
  have F1 := hide (fun h : ¬ t.ses = x.ses => hb.symm.trans (decide_eq_false (tx_ne_ses h)))
  have F2 := hide (fun h : ¬ t.seq = x.seq => hb.symm.trans (decide_eq_false (tx_ne_seq h)))
  have F3 := hide (fun h : ¬ t.reads = x.reads => hb.symm.trans (decide_eq_false (tx_ne_rd h)))
  have F4 := hide (fun h : ¬ t.writes = x.writes => hb.symm.trans (decide_eq_false (tx_ne_wr h)))
  have FE := hide (fun h1 h2 h3 h4 => hb.symm.trans (decide_eq_true (@tx_eq t x h1 h2 h3 h4)))
  rw [hb]
  clear hb hr hr'
  by_cases q1 : t.ses = x.ses
  rotate_left
  · obtain rfl := F1.out q1
    clear F1 F2 F3 F4 FE
    go_enter Try.func53, Try.ntmps53
    go_wp2_with fail
    go_ret
    exact ⟨rfl, ((Gr.refl _).alloc _).alloc _⟩
  by_cases q2 : t.seq = x.seq
  rotate_left
  · obtain rfl := F2.out q2
    clear F1 F2 F3 F4 FE
    go_enter Try.func53, Try.ntmps53
    go_wp2_with fail
    go_ret
    exact ⟨rfl, ((Gr.refl _).alloc _).alloc _⟩
  by_cases q3 : (t.writes.length : Int) = (x.writes.length : Int)
  rotate_left
  · obtain rfl := F4.out (fun e => q3 (by rw [e]))
    clear F1 F2 F3 F4 FE
    go_enter Try.func53, Try.ntmps53
    go_wp2_with fail
    go_ret
    exact ⟨rfl, ((Gr.refl _).alloc _).alloc _⟩
  have hg0 : ∀ o o', Gr w ((w.alloc o).alloc o') := fun o o' => ((Gr.refl _).alloc _).alloc _
  have HC := hide (fun o o' => SameReads_ok rv rv' t.reads x.reads ((w.alloc o).alloc o') (HR.out.gr (hg0 o o')) (HR'.out.gr (hg0 o o')) h1 h2)
  by_cases q4 : t.reads = x.reads
  rotate_left
  · obtain rfl := F3.out q4
    rw [decide_eq_false q4] at HC
    clear F1 F2 F3 F4 FE
    go_enter Try.func53, Try.ntmps53
    go_wp2_with fail
    refine (HC.out _ _).mono ?_
    rintro e w1 ⟨rfl, hg1⟩
    go_wp2_with fail
    go_ret
    exact ⟨rfl, (hg0 _ _).trans hg1⟩
  rw [decide_eq_true q4] at HC
  replace FE := hide (FE.out q1 q2 q4)
  have HL := hide (show t.writes.length = x.writes.length by omega)
  clear F1 F2 F3 q4
  go_enter Try.func53, Try.ntmps53
  go_wp2_with fail
  refine (HC.out _ _).mono ?_
  rintro e w1 ⟨rfl, hg1⟩
  have hbx := boxes2 hg1
  have c3 : w1.cell? ⟨w.heap.size, 3, none⟩ = some (.slice A t.writes.length c) := hbx.1.cell 3
  have d3 : w1.cell? ⟨w.heap.size + 1, 3, none⟩ = some (.slice B x.writes.length d) := hbx.2.cell 3
  have hg := (hg0 _ _).trans hg1
  clear hbx hg1 HC
  have HG0 := hide hg0
  clear hg0
  go_wp2_with fail
  go_loopw [5] (fun i wr => ∃ k : Nat, i = .int .i64 k ∧ k ≤ t.writes.length ∧ Hid (∀ j, j < k → t.writes[j]? = x.writes[j]?) ∧ Gr w1 wr) (fun i _ => t.writes.length - (intOf i).toNat)
  case atStart => exact ⟨0, rfl, by omega, fun j hj => absurd hj (by omega), Gr.refl _⟩
  case round =>
    obtain ⟨k, rfl, hk, hso, hgr⟩ := hrel
    replace c3 := gr_cell hgr _ _ c3
    replace d3 := gr_cell hgr _ _ d3
    by_cases hlt : k < t.writes.length
    · have hlx : k < x.writes.length := by have := HL.out; omega
      have hlt' : (k : Int) < (t.writes.length : Int) := by omega
      have hlt2 : (k : Int) < (x.writes.length : Int) := by omega
      have hno := hide (list_ne hlt hlx)
      have hyes := hide (same_more hso.out hlt hlx)
      obtain ⟨y, hyk⟩ : ∃ y, t.writes[k]'hlt = y := ⟨_, rfl⟩
      obtain ⟨z, hzk⟩ : ∃ z, x.writes[k]'hlx = z := ⟨_, rfl⟩
      obtain ⟨ad, c', e1, _, a0, a1⟩ := (HW.out.gr (hg.trans hgr)).cell (j := k) (r := wrC y) (by rw [List.getElem?_map, List.getElem?_eq_getElem hlt, hyk]; rfl) (by simp [wrC])
      obtain ⟨bd, d', e2, _, b0, b1⟩ := (HW'.out.gr (hg.trans hgr)).cell (j := k) (r := wrC z) (by rw [List.getElem?_map, List.getElem?_eq_getElem hlx, hzk]; rfl) (by simp [wrC])
      rw [hyk, hzk] at hno hyes
      simp only [Value.slice.injEq, List.length_map] at e1 e2
      obtain ⟨rfl, _, rfl⟩ := e1
      obtain ⟨rfl, _, rfl⟩ := e2
      replace a0 := a0 _ rfl
      replace b0 := b0 _ rfl
      have a2 := a1 2 _ (by decide) rfl
      replace a1 := a1 1 _ (by decide) rfl
      have b2 := b1 2 _ (by decide) rfl
      replace b1 := b1 1 _ (by decide) rfl
      clear hyk hzk hso
      rcases wr_cases y z with rfl | ⟨p1, hne⟩ | ⟨p1, p2, hne⟩ | ⟨p1, p2, p3, hne⟩
      · replace hyes := hide (hyes.out rfl)
        clear hno
        go_wp2_with fail
        go_region
        go_wp2_with fail
        go_roundw
        case rel => exact ⟨k + 1, by go_num, by omega, hyes, hgr.drew⟩
        case measure => simp [intOf]; omega
      all_goals
        replace hno := hide (F4.out (hno.out hne))
        clear hyes hne
        go_wp2_with fail
        go_region
        go_wp2_with fail
        go_ret
        exact ⟨by rw [hno.out]; rfl, (hg.trans hgr).drew⟩
    · obtain rfl : k = t.writes.length := by omega
      have hs := hide (FE.out (list_same HL.out hso.out))
      clear hso
      go_wp2_with fail
      go_ret
      exact ⟨by rw [hs.out]; rfl, hg.trans hgr⟩

end Go.Proofs.Ythpaoeiackbdoaa
