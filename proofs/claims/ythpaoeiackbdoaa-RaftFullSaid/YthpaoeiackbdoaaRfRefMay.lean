/-
  The document's May of a state that may be.
-/
import Derived.Test.YthpaoeiackbdoaaRfSmall
import Derived.StillTailTactics
import Derived.Deep.Cut
namespace Go.Proofs.Ythpaoeiackbdoaa
open Go Go.RowKit TxnMath KeyMath MsgMath BalMath RfMath
set_option maxRecDepth 100000

theorem mayFrom_at {t : Int} : ∀ {l : List EntT} {p : Int}, mayFrom t p l = true → ∀ {k : Nat} (hk : k < l.length), p ≤ l[k].term ∧ l[k].term ≤ t ∧ ∀ h2 : k + 1 < l.length, l[k].term ≤ l[k + 1].term
  | [], _, _, k, hk => by simp at hk
  | e :: l, p, h, k, hk => by
    simp only [mayFrom, withinB, Bool.and_eq_true, decide_eq_true_eq] at h
    obtain ⟨⟨h1, h2⟩, h3⟩ := h
    rcases k with _ | k
    · refine ⟨h1, h2, fun h4 => ?_⟩
      exact (mayFrom_at h3 (k := 0) (by simpa using h4)).1
    · obtain ⟨q1, q2, q3⟩ := mayFrom_at h3 (k := k) (by simpa using hk)
      exact ⟨Int.le_trans h1 q1, q2, fun h4 => q3 (by simpa using h4)⟩

set_option maxHeartbeats 4000000 in
theorem RefMayYes (w : World) (r : RaftT) (R : RowsM) (h : RaftR Any w r R) (hm : mayR r = true) :
    Calls Try.prog 16 #[.agg (rfC r R).toArray] w fun e w' => e = .returned (.bool true) ∧ Gr w w' := by
  have hl4 : r.log.length ≤ 1000000000 := by
    simp only [mayR, mayLogB, Bool.and_eq_true, decide_eq_true_eq] at hm
    omega
  have HENT := hide h.l
  have HLT := hide (show ∀ (k : Nat) (hk : k < r.log.length), 1 ≤ r.log[k].term ∧ r.log[k].term ≤ r.term ∧ ∀ h2 : k + 1 < r.log.length, r.log[k].term ≤ r.log[k + 1].term from fun k hk => mayFrom_at (by
    simp only [mayR, mayLogB, Bool.and_eq_true, decide_eq_true_eq] at hm
    exact hm.1.1.1.1.1.1.2.2) hk)
  simp only [mayR, withinB, mayLogB, Bool.and_eq_true, decide_eq_true_eq] at hm
  obtain ⟨⟨⟨⟨⟨⟨⟨⟨⟨⟨⟨⟨h1, h2⟩, h3⟩, h4⟩, h5⟩, h6⟩, ⟨h7, _⟩⟩, h8⟩, h9⟩, h10⟩, h11⟩, h12⟩, h13⟩ := hm
  obtain ⟨A1, c1, e1⟩ := h.l.is
  obtain ⟨A2, c2, e2, _⟩ := BoolsX.is' h.v
  obtain ⟨A3, c3, e3, _⟩ := IntsX.is' h.n
  obtain ⟨A4, c4, e4, _⟩ := IntsX.is' h.m
  obtain ⟨vl, vv, vn, vm, vq, vlo⟩ := R
  simp only at e1 e2 e3 e4 HENT
  subst e1 e2 e3 e4
  obtain ⟨me, nodes, wait, term, vote, log, commit, role, leader, votes, next, mtch, clock⟩ := r
  simp only at h1 h2 h3 h4 h5 h6 h7 h8 h9 h10 h11 h12 h13 hl4 HENT HLT
  obtain ⟨h1, h1'⟩ := h1
  obtain ⟨h2, h2'⟩ := h2
  obtain ⟨h3, h3'⟩ := h3
  obtain ⟨h5, h5'⟩ := h5
  obtain ⟨h6, h6'⟩ := h6
  obtain ⟨h8, h8'⟩ := h8
  obtain ⟨h9, h9'⟩ := h9
  have h7' : (log.length : Int) ≤ 200 := by omega
  simp only [rfC]
  clear h h7
  go_enter Try.func16, Try.ntmps16
  go_upto_region 1 with (fail)
  obtain ⟨W1, hW1⟩ : ∃ W1, w.alloc (.cells #[.int .i64 me, .int .i64 nodes, .int .i64 wait, .int .i64 term, .int .i64 vote, .slice A1 log.length c1, .int .i64 commit, .int .i64 role, .int .i64 leader, .slice A2 votes.length c2, .slice A3 next.length c3, .slice A4 mtch.length c4, .int .i64 clock] 28) = W1 := ⟨_, rfl⟩
  have hg1 : Gr w W1 := by rw [← hW1]; exact (Gr.refl _).alloc _
  have hb1 : Bl W1 w.heap.size 28 #[.int .i64 me, .int .i64 nodes, .int .i64 wait, .int .i64 term, .int .i64 vote, .slice A1 log.length c1, .int .i64 commit, .int .i64 role, .int .i64 leader, .slice A2 votes.length c2, .slice A3 next.length c3, .slice A4 mtch.length c4, .int .i64 clock] := by rw [← hW1]; exact Bl.new _ _ _
  rw [hW1]
  have HB := hide hb1
  have HE1 := hide (HENT.out.gr hg1)
  have HG := hide hg1
  obtain ⟨b, hbe⟩ : ∃ b, w.heap.size = b := ⟨_, rfl⟩
  rw [hbe] at HB hb1 ⊢
  have k0 : W1.cell? ⟨b, 0, none⟩ = some (.int .i64 me) := hb1.cell 0
  have k1 : W1.cell? ⟨b, 1, none⟩ = some (.int .i64 nodes) := hb1.cell 1
  have k2 : W1.cell? ⟨b, 2, none⟩ = some (.int .i64 wait) := hb1.cell 2
  have k3 : W1.cell? ⟨b, 3, none⟩ = some (.int .i64 term) := hb1.cell 3
  have k4 : W1.cell? ⟨b, 4, none⟩ = some (.int .i64 vote) := hb1.cell 4
  have k5 : W1.cell? ⟨b, 5, none⟩ = some (.slice A1 log.length c1) := hb1.cell 5
  have k6 : W1.cell? ⟨b, 6, none⟩ = some (.int .i64 commit) := hb1.cell 6
  have k7 : W1.cell? ⟨b, 7, none⟩ = some (.int .i64 role) := hb1.cell 7
  have k8 : W1.cell? ⟨b, 8, none⟩ = some (.int .i64 leader) := hb1.cell 8
  have k9 : W1.cell? ⟨b, 9, none⟩ = some (.slice A2 votes.length c2) := hb1.cell 9
  have k10 : W1.cell? ⟨b, 10, none⟩ = some (.slice A3 next.length c3) := hb1.cell 10
  have k11 : W1.cell? ⟨b, 11, none⟩ = some (.slice A4 mtch.length c4) := hb1.cell 11
  have k12 : W1.cell? ⟨b, 12, none⟩ = some (.int .i64 clock) := hb1.cell 12
  clear hW1 hg1 hb1 hbe HENT
  have n1 : ¬ nodes < 1 := by omega
  have n2 : ¬ 5 < nodes := by omega
  have n3 : ¬ me < 1 := by omega
  have n4 : ¬ nodes < me := by omega
  have n5 : ¬ wait < 1 := by omega
  have n6 : ¬ 60 < wait := by omega
  have n7 : ¬ term < 0 := by omega
  have n8 : ¬ vote < 0 := by omega
  have n9 : ¬ nodes < vote := by omega
  have n10 : ¬ leader < 0 := by omega
  have n11 : ¬ nodes < leader := by omega
  have n12 : ¬ (200 : Int) < (log.length : Int) := by omega
  have n13 : ¬ commit < 0 := by omega
  have n14 : ¬ (log.length : Int) < commit := by omega
  have n15 : ¬ role < 0 := by omega
  have n16 : ¬ 2 < role := by omega
  have n17 : ¬ clock < 0 := by omega
  go_wp2_with fail
  go_loopw [3] (fun i wr => ∃ k : Nat, i = .int .i64 k ∧ k ≤ log.length ∧ Hid (Gr W1 wr)) (fun i _ => log.length - (intOf i).toNat)
  case atStart => exact ⟨0, rfl, Nat.zero_le _, hide (Gr.refl _)⟩
  case round =>
    obtain ⟨k, rfl, hk, HR⟩ := hrel
    have b3 : wr.cell? ⟨b, 3, none⟩ = some (.int .i64 term) := (HB.out.gr HR.out).cell 3
    have b5 : wr.cell? ⟨b, 5, none⟩ = some (.slice A1 log.length c1) := (HB.out.gr HR.out).cell 5
    by_cases hlt : k < log.length
    · have hlt' : (k : Int) < (log.length : Int) := by omega
      obtain ⟨q1, q2, q3⟩ := HLT.out k hlt
      obtain ⟨ad, c', p, e1, _, a0, _⟩ := (HE1.out.gr HR.out).ent hlt
      simp only [Value.slice.injEq, true_and] at e1
      obtain ⟨rfl, rfl⟩ := e1
      rcases k with _ | j
      · generalize log[0].term = t0 at a0 q1 q2
        rw [Nat.zero_mul, add_zero_] at a0
        have m1 : decide (t0 < 1) = false := decide_eq_false (by omega)
        have m2 : decide (term < t0) = false := decide_eq_false (by omega)
        clear q3 k0 k1 k2 k3 k4 k5 k6 k7 k8 k9 k10 k11 k12
        go_wp2_with fail
        go_quiet (fail)
        go_wp2_with fail
        go_roundw
        case rel => exact ⟨1, by go_num, by omega, Gr.drewN HR.out _⟩
        case measure => simp [intOf]; omega
      · have hlj : j < log.length := by omega
        obtain ⟨_, _, p3⟩ := HLT.out j hlj
        have p3 := p3 hlt
        obtain ⟨ad2, c2', p', e2, _, d0, _⟩ := (HE1.out.gr HR.out).ent hlj
        simp only [Value.slice.injEq, Option.some.injEq, true_and] at e2
        obtain ⟨rfl, _⟩ := e2
        generalize log[j + 1].term = t0 at a0 q1 q2 p3
        generalize log[j].term = t1 at d0 p3
        have m1 : decide (t0 < 1) = false := decide_eq_false (by omega)
        have m2 : decide (term < t0) = false := decide_eq_false (by omega)
        have m3 : decide (t0 < t1) = false := decide_eq_false (by omega)
        have m4 : decide ((0 : Int) < (j : Int) + 1) = true := decide_eq_true (by omega)
        have m5 : (j : Int) < (log.length : Int) := by omega
        clear q3 k0 k1 k2 k3 k4 k5 k6 k7 k8 k9 k10 k11 k12
        go_wp2_with fail
        go_quiet (fail)
        go_wp2_with fail
        go_roundw
        case rel => exact ⟨j + 1 + 1, by go_num, by omega, Gr.drewN HR.out _⟩
        case measure => simp [intOf]; omega
    · obtain rfl : k = log.length := by omega
      go_wp2_with fail
      go_ret
      exact ⟨rfl, HG.out.trans HR.out⟩

end Go.Proofs.Ythpaoeiackbdoaa
