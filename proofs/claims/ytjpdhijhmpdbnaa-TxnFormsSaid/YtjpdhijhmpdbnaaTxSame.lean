/-
  txn.Same by its contract.
-/
import Derived.Test.YtjpdhijhmpdbnaaTxnWords
namespace Go.Proofs.Ytjpdhijhmpdbnaa
open Go Go.RowKit TxnMath KeyMath
set_option maxRecDepth 100000

set_option maxHeartbeats 400000 in
theorem EqualR_ok (v u : Value) (xs ys : List RdT) (w : World) (hv : RowAt 4 w v (xs.map rdC)) (hu : RowAt 4 w u (ys.map rdC)) (hx : xs.length ≤ 1000000000) (_ : ys.length ≤ 1000000000) :
    Calls Try.prog 31 #[v, u] w fun e w' => e = .returned (.bool (decide (xs = ys))) ∧ Gr w w' := by
  have HA := hide hv
  have HB := hide hu
  obtain ⟨A, c, rfl, hc, _⟩ := hv
  obtain ⟨B, d, rfl, hd, _⟩ := hu
  rw [List.length_map] at HA hc ⊢
  rw [List.length_map] at HB hd ⊢
  by_cases hl : xs.length = ys.length
  · have h : (xs.length : Int) = (ys.length : Int) := by omega
    go_enter Try.func31, Try.ntmps31
    go_wp2_with fail
    go_loopw [13] (fun i wr => ∃ k : Nat, i = .int .i64 k ∧ k ≤ xs.length ∧ Hid (∀ j, j < k → xs[j]? = ys[j]?) ∧ Gr w wr) (fun i _ => xs.length - (intOf i).toNat)
    case atStart => exact ⟨0, rfl, by omega, fun j hj => absurd hj (by omega), Gr.refl _⟩
    case round =>
      obtain ⟨k, rfl, hk, hso, hgr⟩ := hrel
      by_cases hlt : k < xs.length
      · have hlt' : (k : Int) < (xs.length : Int) := by omega
        have hlt2 : (k : Int) < (ys.length : Int) := by omega
        have hno := hide (list_ne hlt (by omega : k < ys.length))
        have hyes := hide (same_more hso.out hlt (by omega : k < ys.length))
        obtain ⟨x, hxk⟩ : ∃ x, xs[k]'hlt = x := ⟨_, rfl⟩
        obtain ⟨y, hyk⟩ : ∃ y, ys[k]'(by omega) = y := ⟨_, rfl⟩
        obtain ⟨ad, c', e1, _, a0, a1⟩ := (HA.out.gr hgr).cell (j := k) (r := rdC x) (by rw [List.getElem?_map, List.getElem?_eq_getElem hlt, hxk]; rfl) (by simp [rdC])
        obtain ⟨bd, d', e2, _, b0, b1⟩ := (HB.out.gr hgr).cell (j := k) (r := rdC y) (by rw [List.getElem?_map, List.getElem?_eq_getElem (by omega), hyk]; rfl) (by simp [rdC])
        rw [hxk, hyk] at hno hyes
        simp only [Value.slice.injEq, List.length_map] at e1 e2
        obtain ⟨rfl, _, rfl⟩ := e1
        obtain ⟨rfl, _, rfl⟩ := e2
        replace a0 := a0 _ rfl
        replace b0 := b0 _ rfl
        have a2 := a1 2 _ (by decide) rfl
        have a3 := a1 3 _ (by decide) rfl
        replace a1 := a1 1 _ (by decide) rfl
        have b2 := b1 2 _ (by decide) rfl
        have b3 := b1 3 _ (by decide) rfl
        replace b1 := b1 1 _ (by decide) rfl
        clear hxk hyk hso
        rcases rd_cases x y with rfl | ⟨q1, hne⟩ | ⟨q1, q2, hne⟩ | ⟨q1, q2, q3, hne⟩ | ⟨q1, q2, q3, q4, hne⟩
        · replace hyes := hide (hyes.out rfl)
          clear hno
          go_wp2_with fail
          go_region
          go_wp2_with fail
          go_roundw
          case rel => exact ⟨k + 1, by go_num, by omega, hyes, hgr.drew⟩
          case measure => simp [intOf]; omega
        all_goals
          replace hno := hide (hno.out hne)
          clear hyes hne
          go_wp2_with fail
          go_region
          go_wp2_with fail
          go_ret
          exact ⟨by rw [decide_eq_false hno.out]; rfl, hgr.drew⟩
      · obtain rfl : k = xs.length := by omega
        have hs := hide (list_same hl hso.out)
        clear hso hl
        go_wp2_with fail
        go_ret
        exact ⟨by rw [decide_eq_true hs.out]; rfl, hgr⟩
  · have h : ¬ (xs.length : Int) = (ys.length : Int) := by omega
    have hno : xs ≠ ys := fun e => hl (by rw [e])
    rw [decide_eq_false hno]
    go_enter Try.func31, Try.ntmps31
    go_wp2_with fail
    go_ret
    exact ⟨rfl, Gr.refl _⟩

set_option maxHeartbeats 400000 in
theorem EqualW_ok (v u : Value) (xs ys : List WrT) (w : World) (hv : RowAt 3 w v (xs.map wrC)) (hu : RowAt 3 w u (ys.map wrC)) (hx : xs.length ≤ 1000000000) (_ : ys.length ≤ 1000000000) :
    Calls Try.prog 32 #[v, u] w fun e w' => e = .returned (.bool (decide (xs = ys))) ∧ Gr w w' := by
  have HA := hide hv
  have HB := hide hu
  obtain ⟨A, c, rfl, hc, _⟩ := hv
  obtain ⟨B, d, rfl, hd, _⟩ := hu
  rw [List.length_map] at HA hc ⊢
  rw [List.length_map] at HB hd ⊢
  by_cases hl : xs.length = ys.length
  · have h : (xs.length : Int) = (ys.length : Int) := by omega
    go_enter Try.func32, Try.ntmps32
    go_wp2_with fail
    go_loopw [13] (fun i wr => ∃ k : Nat, i = .int .i64 k ∧ k ≤ xs.length ∧ Hid (∀ j, j < k → xs[j]? = ys[j]?) ∧ Gr w wr) (fun i _ => xs.length - (intOf i).toNat)
    case atStart => exact ⟨0, rfl, by omega, fun j hj => absurd hj (by omega), Gr.refl _⟩
    case round =>
      obtain ⟨k, rfl, hk, hso, hgr⟩ := hrel
      by_cases hlt : k < xs.length
      · have hlt' : (k : Int) < (xs.length : Int) := by omega
        have hlt2 : (k : Int) < (ys.length : Int) := by omega
        have hno := hide (list_ne hlt (by omega : k < ys.length))
        have hyes := hide (same_more hso.out hlt (by omega : k < ys.length))
        obtain ⟨x, hxk⟩ : ∃ x, xs[k]'hlt = x := ⟨_, rfl⟩
        obtain ⟨y, hyk⟩ : ∃ y, ys[k]'(by omega) = y := ⟨_, rfl⟩
        obtain ⟨ad, c', e1, _, a0, a1⟩ := (HA.out.gr hgr).cell (j := k) (r := wrC x) (by rw [List.getElem?_map, List.getElem?_eq_getElem hlt, hxk]; rfl) (by simp [wrC])
        obtain ⟨bd, d', e2, _, b0, b1⟩ := (HB.out.gr hgr).cell (j := k) (r := wrC y) (by rw [List.getElem?_map, List.getElem?_eq_getElem (by omega), hyk]; rfl) (by simp [wrC])
        rw [hxk, hyk] at hno hyes
        simp only [Value.slice.injEq, List.length_map] at e1 e2
        obtain ⟨rfl, _, rfl⟩ := e1
        obtain ⟨rfl, _, rfl⟩ := e2
        replace a0 := a0 _ rfl
        replace b0 := b0 _ rfl
        have a2 := a1 2 _ (by decide) rfl
        replace a1 := a1 1 _ (by decide) rfl
        have b2 := b1 2 _ (by decide) rfl
        replace b1 := b1 1 _ (by decide) rfl
        clear hxk hyk hso
        rcases wr_cases x y with rfl | ⟨q1, hne⟩ | ⟨q1, q2, hne⟩ | ⟨q1, q2, q3, hne⟩
        · replace hyes := hide (hyes.out rfl)
          clear hno
          go_wp2_with fail
          go_region
          go_wp2_with fail
          go_roundw
          case rel => exact ⟨k + 1, by go_num, by omega, hyes, hgr.drew⟩
          case measure => simp [intOf]; omega
        all_goals
          replace hno := hide (hno.out hne)
          clear hyes hne
          go_wp2_with fail
          go_region
          go_wp2_with fail
          go_ret
          exact ⟨by rw [decide_eq_false hno.out]; rfl, hgr.drew⟩
      · obtain rfl : k = xs.length := by omega
        have hs := hide (list_same hl hso.out)
        clear hso hl
        go_wp2_with fail
        go_ret
        exact ⟨by rw [decide_eq_true hs.out]; rfl, hgr⟩
  · have h : ¬ (xs.length : Int) = (ys.length : Int) := by omega
    have hno : xs ≠ ys := fun e => hl (by rw [e])
    rw [decide_eq_false hno]
    go_enter Try.func32, Try.ntmps32
    go_wp2_with fail
    go_ret
    exact ⟨rfl, Gr.refl _⟩


set_option maxHeartbeats 1000000 in
theorem TxSame_ok (v u : Value) (t x : TxT) (w : World) (hv : TxAt w v t) (hu : TxAt w u x) (ht : TxLim 1000000 t) (hx : TxLim 1000000 x) :
    Calls Try.prog 14 #[v, u] w fun e w' => e = .returned (.bool (decide (t = x))) ∧ Gr w w' := by
  obtain ⟨rv, wv, rfl, hr, hw⟩ := hv
  obtain ⟨rv', wv', rfl, hr', hw'⟩ := hu
  obtain ⟨A, c, rfl, hr⟩ := hr.is
  obtain ⟨B, d, rfl, hw⟩ := hw.is
  obtain ⟨A', c', rfl, hr'⟩ := hr'.is
  obtain ⟨B', d', rfl, hw'⟩ := hw'.is
  have CR := hide (fun w' hg => EqualR_ok _ _ t.reads x.reads w' (hr.gr hg) (hr'.gr hg) (by have := ht.rn; omega) (by have := hx.rn; omega))
  have CW := hide (fun w' hg => EqualW_ok _ _ t.writes x.writes w' (hw.gr hg) (hw'.gr hg) (by have := ht.wn; omega) (by have := hx.wn; omega))
  obtain ⟨b, hb⟩ : ∃ b, decide (t = x) = b := ⟨_, rfl⟩
  have F1 := hide (fun h : ¬ t.ses = x.ses => hb.symm.trans (decide_eq_false (tx_ne_ses h)))
  have F2 := hide (fun h : ¬ t.seq = x.seq => hb.symm.trans (decide_eq_false (tx_ne_seq h)))
  have F3 := hide (fun h : ¬ t.reads = x.reads => hb.symm.trans (decide_eq_false (tx_ne_rd h)))
  have F4 := hide (fun h : ¬ t.writes = x.writes => hb.symm.trans (decide_eq_false (tx_ne_wr h)))
  have FE := hide (fun h1 h2 h3 h4 => hb.symm.trans (decide_eq_true (@tx_eq t x h1 h2 h3 h4)))
  rw [hb]
  have hg0 : ∀ o o', Gr w ((w.alloc o).alloc o') := fun o o' => ((Gr.refl _).alloc _).alloc _
  have HG := hide hg0
  clear hb hr hr' hw hw' ht hx hg0
  by_cases q1 : t.ses = x.ses
  rotate_left
  · obtain rfl := F1.out q1
    clear F1 F2 F3 F4 FE
    go_enter Try.func14, Try.ntmps14
    go_wp2_with fail
    go_ret
    exact ⟨rfl, HG.out _ _⟩
  by_cases q2 : t.seq = x.seq
  rotate_left
  · obtain rfl := F2.out q2
    clear F1 F2 F3 F4 FE
    go_enter Try.func14, Try.ntmps14
    go_wp2_with fail
    go_ret
    exact ⟨rfl, HG.out _ _⟩
  replace FE := hide (FE.out q1 q2)
  by_cases q3 : t.reads = x.reads
  rotate_left
  · obtain rfl := F3.out q3
    rw [decide_eq_false q3] at CR
    clear F1 F2 F3 F4 FE q3
    go_enter Try.func14, Try.ntmps14
    go_wp2_with fail
    refine (CR.out _ (HG.out _ _)).mono ?_
    rintro e w1 ⟨rfl, hg1⟩
    go_wp2_with fail
    go_ret
    exact ⟨rfl, (HG.out _ _).trans hg1⟩
  rw [decide_eq_true q3] at CR
  have FW : Hid (decide (t.writes = x.writes) = b) := by
    by_cases q4 : t.writes = x.writes
    · exact (decide_eq_true q4).trans (FE.out q3 q4).symm
    · exact (decide_eq_false q4).trans (F4.out q4).symm
  rw [FW.out] at CW
  clear F1 F2 F3 F4 FE FW q3
  go_enter Try.func14, Try.ntmps14
  go_wp2_with fail
  refine (CR.out _ (HG.out _ _)).mono ?_
  rintro e w1 ⟨rfl, hg1⟩
  have hbx := boxes2 hg1
  have c3 : w1.cell? ⟨w.heap.size, 3, none⟩ = some (.slice B t.writes.length d) := hbx.1.cell 3
  have d3 : w1.cell? ⟨w.heap.size + 1, 3, none⟩ = some (.slice B' x.writes.length d') := hbx.2.cell 3
  have hg := (HG.out _ _).trans hg1
  clear hbx hg1 CR
  go_wp2_with fail
  refine (CW.out _ hg).mono ?_
  rintro e w2 ⟨rfl, hg2⟩
  go_wp2_with fail
  go_ret
  exact ⟨rfl, hg.trans hg2⟩

end Go.Proofs.Ytjpdhijhmpdbnaa
