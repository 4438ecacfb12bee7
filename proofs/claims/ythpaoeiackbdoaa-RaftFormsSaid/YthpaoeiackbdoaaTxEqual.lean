/-
  slices.Equal of reads, of writes, by their contracts.
-/
import Derived.Test.YthpaoeiackbdoaaTxnRows
namespace Go.Proofs.Ythpaoeiackbdoaa
open Go Go.RowKit TxnMath KeyMath
set_option maxRecDepth 100000

set_option maxHeartbeats 400000 in
theorem EqualR_ok (v u : Value) (xs ys : List RdT) (w : World) (hv : RowAt 4 w v (xs.map rdC)) (hu : RowAt 4 w u (ys.map rdC)) (hx : xs.length ≤ 1000000000) (_ : ys.length ≤ 1000000000) :
    Calls Try.prog 63 #[v, u] w fun e w' => e = .returned (.bool (decide (xs = ys))) ∧ Gr w w' := by
  have HA := hide hv
  have HB := hide hu
  obtain ⟨A, c, rfl, hc, _⟩ := hv
  obtain ⟨B, d, rfl, hd, _⟩ := hu
  rw [List.length_map] at HA hc ⊢
  rw [List.length_map] at HB hd ⊢
  by_cases hl : xs.length = ys.length
  · have h : (xs.length : Int) = (ys.length : Int) := by omega
    go_enter Try.func63, Try.ntmps63
    go_wp2_with fail
    go_loopw [13] (fun i wr => ∃ k : Nat, i = .int .i64 k ∧ k ≤ xs.length ∧ Hid (∀ j, j < k → xs[j]? = ys[j]?) ∧ Gr w wr) (fun i _ => xs.length - (intOf i).toNat)
    case atStart => exact ⟨0, rfl, by omega, fun j hj => absurd hj (by omega), Gr.refl _⟩
    case round =>
      obtain ⟨k, rfl, hk, hso, hgr⟩ := hrel
      by_cases hlt : k < xs.length
      · have hlt' : (k : Int) < (xs.length : Int) := by omega
        have hlt2 : (k : Int) < (ys.length : Int) := by omega
        have hno := hide (list_ne hlt (by omega : k < ys.length))
        have hyes := hide (same_more hso.out hlt (by omega : k < ys.length))
        obtain ⟨x, hxk⟩ : ∃ x, xs[k]'hlt = x := ⟨_, rfl⟩
        obtain ⟨y, hyk⟩ : ∃ y, ys[k]'(by omega) = y := ⟨_, rfl⟩
        obtain ⟨ad, c', e1, _, a0, a1⟩ := (HA.out.gr hgr).cell (j := k) (r := rdC x) (by rw [List.getElem?_map, List.getElem?_eq_getElem hlt, hxk]; rfl) (by simp [rdC])
        obtain ⟨bd, d', e2, _, b0, b1⟩ := (HB.out.gr hgr).cell (j := k) (r := rdC y) (by rw [List.getElem?_map, List.getElem?_eq_getElem (by omega), hyk]; rfl) (by simp [rdC])
        rw [hxk, hyk] at hno hyes
        simp only [Value.slice.injEq, List.length_map] at e1 e2
        obtain ⟨rfl, _, rfl⟩ := e1
        obtain ⟨rfl, _, rfl⟩ := e2
        replace a0 := a0 _ rfl
        replace b0 := b0 _ rfl
        have a2 := a1 2 _ (by decide) rfl
        have a3 := a1 3 _ (by decide) rfl
        replace a1 := a1 1 _ (by decide) rfl
        have b2 := b1 2 _ (by decide) rfl
        have b3 := b1 3 _ (by decide) rfl
        replace b1 := b1 1 _ (by decide) rfl
        clear hxk hyk hso
        rcases rd_cases x y with rfl | ⟨q1, hne⟩ | ⟨q1, q2, hne⟩ | ⟨q1, q2, q3, hne⟩ | ⟨q1, q2, q3, q4, hne⟩
        · replace hyes := hide (hyes.out rfl)
          clear hno
          go_wp2_with fail
          go_region
          go_wp2_with fail
          go_roundw
          case rel => exact ⟨k + 1, by go_num, by omega, hyes, hgr.drew⟩
          case measure => simp [intOf]; omega
        all_goals
          replace hno := hide (hno.out hne)
          clear hyes hne
          go_wp2_with fail
          go_region
          go_wp2_with fail
          go_ret
          exact ⟨by rw [decide_eq_false hno.out]; rfl, hgr.drew⟩
      · obtain rfl : k = xs.length := by omega
        have hs := hide (list_same hl hso.out)
        clear hso hl
        go_wp2_with fail
        go_ret
        exact ⟨by rw [decide_eq_true hs.out]; rfl, hgr⟩
  · have h : ¬ (xs.length : Int) = (ys.length : Int) := by omega
    have hno : xs ≠ ys := fun e => hl (by rw [e])
    rw [decide_eq_false hno]
    go_enter Try.func63, Try.ntmps63
    go_wp2_with fail
    go_ret
    exact ⟨rfl, Gr.refl _⟩

set_option maxHeartbeats 400000 in
theorem EqualW_ok (v u : Value) (xs ys : List WrT) (w : World) (hv : RowAt 3 w v (xs.map wrC)) (hu : RowAt 3 w u (ys.map wrC)) (hx : xs.length ≤ 1000000000) (_ : ys.length ≤ 1000000000) :
    Calls Try.prog 64 #[v, u] w fun e w' => e = .returned (.bool (decide (xs = ys))) ∧ Gr w w' := by
  have HA := hide hv
  have HB := hide hu
  obtain ⟨A, c, rfl, hc, _⟩ := hv
  obtain ⟨B, d, rfl, hd, _⟩ := hu
  rw [List.length_map] at HA hc ⊢
  rw [List.length_map] at HB hd ⊢
  by_cases hl : xs.length = ys.length
  · have h : (xs.length : Int) = (ys.length : Int) := by omega
    go_enter Try.func64, Try.ntmps64
    go_wp2_with fail
    go_loopw [13] (fun i wr => ∃ k : Nat, i = .int .i64 k ∧ k ≤ xs.length ∧ Hid (∀ j, j < k → xs[j]? = ys[j]?) ∧ Gr w wr) (fun i _ => xs.length - (intOf i).toNat)
    case atStart => exact ⟨0, rfl, by omega, fun j hj => absurd hj (by omega), Gr.refl _⟩
    case round =>
      obtain ⟨k, rfl, hk, hso, hgr⟩ := hrel
      by_cases hlt : k < xs.length
      · have hlt' : (k : Int) < (xs.length : Int) := by omega
        have hlt2 : (k : Int) < (ys.length : Int) := by omega
        have hno := hide (list_ne hlt (by omega : k < ys.length))
        have hyes := hide (same_more hso.out hlt (by omega : k < ys.length))
        obtain ⟨x, hxk⟩ : ∃ x, xs[k]'hlt = x := ⟨_, rfl⟩
        obtain ⟨y, hyk⟩ : ∃ y, ys[k]'(by omega) = y := ⟨_, rfl⟩
        obtain ⟨ad, c', e1, _, a0, a1⟩ := (HA.out.gr hgr).cell (j := k) (r := wrC x) (by rw [List.getElem?_map, List.getElem?_eq_getElem hlt, hxk]; rfl) (by simp [wrC])
        obtain ⟨bd, d', e2, _, b0, b1⟩ := (HB.out.gr hgr).cell (j := k) (r := wrC y) (by rw [List.getElem?_map, List.getElem?_eq_getElem (by omega), hyk]; rfl) (by simp [wrC])
        rw [hxk, hyk] at hno hyes
        simp only [Value.slice.injEq, List.length_map] at e1 e2
        obtain ⟨rfl, _, rfl⟩ := e1
        obtain ⟨rfl, _, rfl⟩ := e2
        replace a0 := a0 _ rfl
        replace b0 := b0 _ rfl
        have a2 := a1 2 _ (by decide) rfl
        replace a1 := a1 1 _ (by decide) rfl
        have b2 := b1 2 _ (by decide) rfl
        replace b1 := b1 1 _ (by decide) rfl
        clear hxk hyk hso
        rcases wr_cases x y with rfl | ⟨q1, hne⟩ | ⟨q1, q2, hne⟩ | ⟨q1, q2, q3, hne⟩
        · replace hyes := hide (hyes.out rfl)
          clear hno
          go_wp2_with fail
          go_region
          go_wp2_with fail
          go_roundw
          case rel => exact ⟨k + 1, by go_num, by omega, hyes, hgr.drew⟩
          case measure => simp [intOf]; omega
        all_goals
          replace hno := hide (hno.out hne)
          clear hyes hne
          go_wp2_with fail
          go_region
          go_wp2_with fail
          go_ret
          exact ⟨by rw [decide_eq_false hno.out]; rfl, hgr.drew⟩
      · obtain rfl : k = xs.length := by omega
        have hs := hide (list_same hl hso.out)
        clear hso hl
        go_wp2_with fail
        go_ret
        exact ⟨by rw [decide_eq_true hs.out]; rfl, hgr⟩
  · have h : ¬ (xs.length : Int) = (ys.length : Int) := by omega
    have hno : xs ≠ ys := fun e => hl (by rw [e])
    rw [decide_eq_false hno]
    go_enter Try.func64, Try.ntmps64
    go_wp2_with fail
    go_ret
    exact ⟨rfl, Gr.refl _⟩

end Go.Proofs.Ythpaoeiackbdoaa
