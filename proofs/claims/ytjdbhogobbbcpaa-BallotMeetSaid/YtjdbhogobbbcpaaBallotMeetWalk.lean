/-
  The walk of 'BallotMeet'.
-/
import Derived.Test.YtjdbhogobbbcpaaBallotBegun
import Derived.Test.YtjdbhogobbbcpaaBallotArgs
namespace Go.Proofs.Ytjdbhogobbbcpaa
open Go Go.RowKit BalMath TxnMath KeyMath MsgMath
set_option maxRecDepth 100000

/-- how many are yes in both -/
def bothL (a b : List Bool) (k : Nat) : Nat := ((List.zipWith and a b).take k).countP id
theorem both_more {a b : List Bool} {k : Nat} (ha : k < a.length) (hb : k < b.length) : bothL a b (k + 1) = bothL a b k + (if (a[k] && b[k]) = true then 1 else 0) := by
  unfold bothL
  have hk : k < (List.zipWith and a b).length := by simp; omega
  rw [List.take_succ_eq_append_getElem hk, List.countP_append]
  simp [List.countP_cons]
theorem both_le (a b : List Bool) (k : Nat) : bothL a b k ≤ k := Nat.le_trans List.countP_le_length (by simp; omega)
theorem meet : ∀ (a b : List Bool) (k : Nat), a.length = b.length → manyL (a.take k) + manyL (b.take k) ≤ k + bothL a b k
  | [], b, k, h => by
    have : b = [] := List.eq_nil_of_length_eq_zero h.symm
    subst this
    simp [manyL]
  | a :: l, [], k, h => by simp at h
  | a :: l, b :: r, 0, h => by simp [manyL]
  | a :: l, b :: r, k + 1, h => by
    have ih := meet l r k (by simpa using h)
    unfold manyL bothL at *
    simp only [List.take_succ_cons, List.countP_cons, List.zipWith_cons_cons]
    cases a <;> cases b <;> simp <;> omega

/-- 'a[:k]' of an array of bools -/
theorem BoolsX.arr {w : World} {g n k : Nat} {t : TypeId} {l : List Bool} (hb : Bl w g t (bvals l).toArray) (hl : l.length = n) (hk : k ≤ n) (hn : n ≤ 1000) : BoolsX w (.slice (some ⟨g, 0, none⟩) k n) (l.take k) := by
  refine ⟨some ⟨g, 0, none⟩, n, by rw [bvals_len, List.length_take, Nat.min_eq_left (by omega)], fun j hj => ⟨_, rfl, ?_⟩, by rw [bvals_len, List.length_take]; omega, by unfold maxLen; omega, fun e => by cases e⟩
  rw [bvals_len, List.length_take] at hj
  rw [addr_at, hb.cell]
  simp [bvals, show j < l.length by omega]

set_option maxHeartbeats 2000000 in
theorem walk_BallotMeet (w : World) (a : List Bool) (ha : a.length = 5) (b : List Bool) (hb : b.length = 5) (n : Int) (hn : (Lit.int .u8 n).wf = true) :
    Calls Try.prog 4 #[.agg (bvals a).toArray, .agg (bvals b).toArray, .int .u8 n] w fun e w' => e = .returned (.bool true) ∧ Gr w w' := by
  obtain ⟨nn, rfl, hnn⟩ := nat8 hn
  clear hn
  obtain ⟨r, hr⟩ : ∃ r, nn % 5 = r := ⟨_, rfl⟩
  have e1 : (nn : Int).tmod 5 = (r : Int) := by rw [← hr]; rfl
  have e1b : (nn : Int) % 5 = (r : Int) := by omega
  have hr5 : r < 5 := by omega
  clear hr
  obtain ⟨k, hk⟩ : ∃ k, 1 + r = k := ⟨_, rfl⟩
  have e2 : 1 + (r : Int) = (k : Int) := by omega
  have hk5 : k ≤ 5 := by omega
  have hk1 : 1 ≤ k := by omega
  clear hk
  have b1 := Bl.new w 35 (bvals a).toArray
  have b2 := Bl.new (w.alloc (.cells (bvals a).toArray 35)) 35 (bvals b).toArray
  have g2 := ((Gr.refl w).alloc (.cells (bvals a).toArray 35)).alloc (.cells (bvals b).toArray 35)
  replace b1 := b1.gr ((Gr.refl _).alloc (.cells (bvals b).toArray 35))
  have hs : (w.alloc (.cells (bvals a).toArray 35)).heap.size = w.heap.size + 1 := by simp
  rw [hs] at b2
  clear hs
  go_enter Try.func4, Try.ntmps4
  go_wp2_with fail
  obtain ⟨W, hW⟩ : ∃ W, (w.alloc (.cells (bvals a).toArray 35)).alloc (.cells (bvals b).toArray 35) = W := ⟨_, rfl⟩
  rw [hW] at b1 b2 g2 ⊢
  have hne : w.heap.size ≠ w.heap.size + 1 := by omega
  generalize w.heap.size + 1 = q2 at b2 hne ⊢
  generalize w.heap.size = q1 at b1 hne ⊢
  have HB1 := hide b1
  have HB2 := hide b2
  have HG := hide g2
  clear hW b1 b2 g2
  refine (begun_ok _).mono ?_
  rintro e w1 ⟨rfl, hg1⟩
  replace HB1 := hide (HB1.out.gr hg1)
  replace HB2 := hide (HB2.out.gr hg1)
  replace HG := hide (HG.out.trans hg1)
  clear hg1
  have HA := hide (fun n => Many_ok _ (a.take k) (w1.drewN n) (BoolsX.arr (HB1.out.drewN n) ha hk5 (by decide)) (by rw [List.length_take]; omega))
  have HB := hide (fun n => Many_ok _ (b.take k) (w1.drewN n) (BoolsX.arr (HB2.out.drewN n) hb hk5 (by decide)) (by rw [List.length_take]; omega))
  have HM := hide (meet a b k (by omega))
  have hx5 : manyL (a.take k) ≤ 5 := Nat.le_trans (many_le _) (by rw [List.length_take]; omega)
  have hy5 : manyL (b.take k) ≤ 5 := Nat.le_trans (many_le _) (by rw [List.length_take]; omega)
  generalize manyL (a.take k) = x at HA HM hx5
  generalize manyL (b.take k) = y at HB HM hy5
  have hk0 : (0 : Int) ≤ (k : Int) := by omega
  have hk5' : (k : Int) ≤ 5 := by omega
  go_wp2_with fail
  go_quiet (first | (with_reducible refine Calls.quiet_of_same (HA.out _)) | (with_reducible refine Calls.quiet_of_same (HB.out _)))
  clear HA HB
  go_wp2_with fail
  have hgq : Gr w1 (w1.drewN nq) := (Gr.refl w1).drewN nq
  generalize w1.drewN nq = w2 at hgq ⊢
  go_loopw [10, 11] (fun u v wr => ∃ j : Nat, v = .int .i64 j ∧ j ≤ k ∧ u = .int .i64 (bothL a b j) ∧ Gr w1 wr) (fun _ v _ => k - (intOf v).toNat)
  case atStart => exact ⟨0, rfl, by omega, rfl, hgq⟩
  case round =>
    clear hgq
    obtain ⟨j, rfl, hj, rfl, hgr⟩ := hrel
    have hbl := both_le a b j
    by_cases hlt : j < k
    · have hlt' : (j : Int) < (k : Int) := by omega
      have hlt5 : (j : Int) < 5 := by omega
      have c1 : wr.cell? ⟨q1, j, none⟩ = some (.bool (a[j]'(by omega))) := by
        rw [(HB1.out.gr hgr).cell]; simp [bvals, show j < a.length by omega]
      have c2 : wr.cell? ⟨q2, j, none⟩ = some (.bool (b[j]'(by omega))) := by
        rw [(HB2.out.gr hgr).cell]; simp [bvals, show j < b.length by omega]
      have HBM := hide (both_more (a := a) (b := b) (k := j) (by omega) (by omega))
      have hj6 : (bothL a b j : Int) ≤ 5 := by omega
      generalize a[j]'(by omega) = s at c1 HBM
      generalize b[j]'(by omega) = t at c2 HBM
      generalize bothL a b j = z at HBM hbl hj6 ⊢
      cases s
      · go_wp2_with fail
        go_roundw
        case rel => exact ⟨j + 1, by go_num, by omega, by rw [HBM.out]; simp, hgr⟩
        case measure => simp [intOf]; omega
      · cases t
        · go_wp2_with fail
          go_roundw
          case rel => exact ⟨j + 1, by go_num, by omega, by rw [HBM.out]; simp, hgr⟩
          case measure => simp [intOf]; omega
        · go_wp2_with fail
          go_roundw
          case rel => exact ⟨j + 1, by go_num, by omega, by rw [HBM.out]; simp, hgr⟩
          case measure => simp [intOf]; omega
    · obtain rfl : j = k := by omega
      have hm := HM.out
      generalize bothL a b j = z at hm hbl ⊢
      have HC := hide (fun w => Majority_ok j w (by omega))
      have m1 : 2 * majN j > j := by unfold majN; omega
      have m2 : 2 * (majN j - 1) ≤ j := by unfold majN; omega
      have m3 : 1 ≤ majN j := by unfold majN; omega
      generalize majN j = m at HC m1 m2 m3
      have n1 : (j : Int) < 2 * (m : Int) := by omega
      have n2 : 2 * ((m : Int) - 1) ≤ (j : Int) := by omega
      have n3 : (m : Int) ≤ 4 := by omega
      have HR := hide (HG.out.trans hgr)
      clear HG HB1 HB2 hgr
      by_cases hxm : x < m
      · have hxm' : (x : Int) < (m : Int) := by omega
        go_wp2_with fail
        refine HC.out _ |>.mono ?_
        rintro e w3 ⟨rfl, hw3⟩
        subst hw3
        go_wp2_with fail
        go_ret
        exact ⟨rfl, HR.out⟩
      · have hxm' : (m : Int) ≤ (x : Int) := by omega
        by_cases hym : y < m
        · have hym' : (y : Int) < (m : Int) := by omega
          go_wp2_with fail
          refine HC.out _ |>.mono ?_
          rintro e w3 ⟨rfl, hw3⟩
          subst hw3
          go_wp2_with fail
          go_ret
          exact ⟨rfl, HR.out⟩
        · have hym' : (m : Int) ≤ (y : Int) := by omega
          have hz : (0 : Int) < (z : Int) := by omega
          go_wp2_with fail
          refine HC.out _ |>.mono ?_
          rintro e w3 ⟨rfl, hw3⟩
          subst hw3
          go_wp2_with fail
          go_ret
          exact ⟨rfl, HR.out⟩

end Go.Proofs.Ytjdbhogobbbcpaa
