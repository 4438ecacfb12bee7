/-
  A member's votes, cleared; stand, wait, count, turn.
-/
import Derived.Test.YthpaoeiackbdoaaRfAdd
import Derived.Lib.SliceRun
import Derived.Deep.Cut
import Derived.Deep.CutRange
import Derived.Test.YthpaoeiackbdoaaUlMath
namespace Go.Proofs.Ythpaoeiackbdoaa
open Go Go.RowKit TxnMath KeyMath MsgMath BalMath RfMath
set_option maxRecDepth 100000

theorem OwnV.sets {e : TypeId} {v : Value} {b c n : Nat} (hv : v = .slice (some ⟨b, 0, none⟩) n c) : ∀ (l : List Value) (k : Nat) (w : World) (xs : List Value), xs.length = n → k + l.length ≤ n → OwnV e w 0 v xs →
    OwnV e (w.setCells b k l) 0 v (xs.take k ++ (l ++ xs.drop (k + l.length))) ∧ But w (w.setCells b k l) b
  | [], k, w, xs, hn, hk, h => by
    refine ⟨?_, But.refl w b⟩
    show OwnV e w 0 v _
    simpa using h
  | x :: l, k, w, xs, hn, hk, h => by
    simp only [List.length_cons] at hk
    obtain ⟨b', c', h1, _, _, _, h5, h6⟩ := OwnV.put h (k := k) (by omega) x
    rw [hv] at h1
    simp only [Value.slice.injEq, Option.some.injEq, Addr.mk.injEq, and_true] at h1
    obtain ⟨rfl, _, _⟩ := h1
    obtain ⟨q1, q2⟩ := OwnV.sets hv l (k + 1) (w.setCell ⟨b, k, none⟩ x) (xs.set k x) (by rw [List.length_set]; exact hn) (by omega) h5
    have hw : w.setCells b k (x :: l) = (w.setCell ⟨b, k, none⟩ x).setCells b (k + 1) l := rfl
    rw [hw]
    refine ⟨?_, ⟨q2.os.trans h6.os, q2.tape.trans h6.tape, q2.output.trans h6.output, Nat.le_trans h6.size q2.size, fun j hj hne => (q2.block j (Nat.lt_of_lt_of_le hj h6.size) hne).trans (h6.block j hj hne)⟩⟩
    have e1 : (xs.set k x).take (k + 1) ++ (l ++ (xs.set k x).drop (k + 1 + l.length)) = xs.take k ++ ((x :: l) ++ xs.drop (k + (x :: l).length)) := by
      rw [List.take_succ_eq_append_getElem (by rw [List.length_set]; omega), List.getElem_set_self, List.take_set_of_le (by omega), List.drop_set_of_lt (by omega)]
      simp only [List.append_assoc, List.cons_append, List.length_cons, List.nil_append]
      rw [show k + 1 + l.length = k + (l.length + 1) by omega]
    rw [← e1]
    exact q1
theorem MemR.clear_v {w : World} {g : Nat} {s : StT} {R : RowsM} (h : MemR w g s R) {L : Nat} (hL : s.r.votes.length = L) (h0 : 0 < L) (s' : StT) (hs : s' = { s with r := { s.r with votes := List.replicate L false } }) :
    ∃ b c, R.v = .slice (some ⟨b, 0, none⟩) L c ∧ (∀ ty, (Builtin.clear_ #[25] ty #[.slice (some ⟨b, 0, none⟩) L c]).run Try.prog w = .ok (.tuple #[]) (w.setCells b 0 (List.replicate L (.bool false)))) ∧
      b ≠ g ∧ R.v.ownBlock = some b ∧ MemR (w.setCells b 0 (List.replicate L (.bool false))) g s' R ∧ Stp w (w.setCells b 0 (List.replicate L (.bool false))) g R R := by
  subst hL hs
  have hvl : (bvals s.r.votes).length = s.r.votes.length := bvals_len _
  obtain ⟨b, c, h1, h2, _, _, _, _⟩ := OwnV.put h.votes (k := 0) (by rw [hvl]; exact h0) (.bool false)
  rw [hvl] at h1
  have hb : R.v.ownBlock = some b := by rw [h1]; rfl
  have hg : b ≠ g := fun e => h.nv (by rw [hb, e])
  obtain ⟨q1, q2⟩ := OwnV.sets h1 (List.replicate s.r.votes.length (.bool false)) 0 w (bvals s.r.votes) hvl (by simp) h.votes
  have q1' : OwnB (w.setCells b 0 (List.replicate s.r.votes.length (.bool false))) R.v (List.replicate s.r.votes.length false) := by
    unfold OwnB
    have : bvals (List.replicate s.r.votes.length false) = (bvals s.r.votes).take 0 ++ (List.replicate s.r.votes.length (.bool false) ++ (bvals s.r.votes).drop (0 + (List.replicate s.r.votes.length (Value.bool false)).length)) := by
      simp [bvals]
    rw [this]
    exact q1
  refine ⟨b, c, h1, fun ty => Lib.run_clear_slice w _ _ ty (.bool false) Try.underlying25 (fun w => by kernel_rfl) rfl rfl b 0 _ _ h0 (fun j hj => ?_) (fun j hj => ?_), hg, hb, ?_⟩
  · obtain ⟨b', c', g1, _, g3, _⟩ := OwnV.put h.votes (k := j) (by rw [hvl]; exact hj) (.bool false)
    rw [h1] at g1
    simp only [Value.slice.injEq, Option.some.injEq, Addr.mk.injEq, and_true] at g1
    obtain ⟨rfl, _⟩ := g1
    rw [Nat.zero_add, g3]
    rfl
  · obtain ⟨b', c', g1, _, _, g4, _⟩ := OwnV.put h.votes (k := j) (by rw [hvl]; exact hj) (.bool false)
    rw [h1] at g1
    simp only [Value.slice.injEq, Option.some.injEq, Addr.mk.injEq, and_true] at g1
    obtain ⟨rfl, _⟩ := g1
    rw [Nat.zero_add]
    exact g4
  · exact h.row (s' := { s with r := { s.r with votes := List.replicate s.r.votes.length false } }) q2 (.inr (.inl hb)) hg rfl rfl (.inl q1') (.inr ⟨fun e => h.vn b hb e, rfl⟩) (.inr ⟨fun e => h.vm b hb e, rfl⟩) (fun e => h.vq b hb e) rfl

theorem RfMath.Rk.stand {r : RaftT} (h : Rk r) (ht : r.term < 1152921504606846976) : Rk (standR r) := by
  unfold standR
  refine ⟨h.nodes, h.me, h.wait, ⟨by have := h.term; show 0 ≤ r.term + 1; omega, by show r.term + 1 ≤ _; omega⟩, h.len, h.bnd, h.commit, ?_, h.next, h.mtch, h.nexts, h.mtchs, by simp⟩
  have := h.votes
  simpa using this

set_option maxHeartbeats 2000000 in
theorem stand_ok (w : World) (g : Nat) (s : StT) (R : RowsM) (h : MemR w g s R) (hk : Rk s.r) (ht : s.r.term < 1152921504606846976) (hn : s.out.length ≤ 380) :
    Calls Try.prog 78 #[.pointer (some ⟨g, 0, none⟩)] w (MbPost w g R (standS s)) := by
  obtain ⟨m, hme⟩ : ∃ m : Nat, s.r.me = (m : Int) + 1 := ⟨(s.r.me - 1).toNat, by have := hk.me; omega⟩
  obtain ⟨n, hnn⟩ : ∃ n : Nat, s.r.nodes = n := ⟨s.r.nodes.toNat, by have := hk.nodes; omega⟩
  have hn5 : n ≤ 5 := by have := hk.nodes; omega
  have hmn : m < n := by have := hk.me; omega
  have hvx : s.r.votes.length = n := by have := hk.votes; omega
  obtain ⟨tm, htm⟩ : ∃ tm, s.r.term = tm := ⟨_, rfl⟩
  have htb : 0 ≤ tm ∧ tm < 1152921504606846976 := by rw [← htm]; exact ⟨hk.term.1, ht⟩
  have c0 : w.cell? ⟨g, 0, none⟩ = some (.int .i64 ((m : Int) + 1)) := by rw [← hme]; exact h.cell 0
  have c3 : w.cell? ⟨g, 3, none⟩ = some (.int .i64 tm) := by rw [← htm]; exact h.cell 3
  have c4 : w.cell? ⟨g, 4, none⟩ = some (.int .i64 s.r.vote) := h.cell 4
  have c7 : w.cell? ⟨g, 7, none⟩ = some (.int .i64 s.r.role) := h.cell 7
  have c8 : w.cell? ⟨g, 8, none⟩ = some (.int .i64 s.r.leader) := h.cell 8
  have c12 : w.cell? ⟨g, 12, none⟩ = some (.int .i64 s.r.clock) := h.cell 12
  have c9 : w.cell? ⟨g, 9, none⟩ = some R.v := h.cell 9
  have f3 := h.bl.frozen 3
  have f4 := h.bl.frozen 4
  have f7 := h.bl.frozen 7
  have f8 := h.bl.frozen 8
  have f12 := h.bl.frozen 12
  obtain ⟨W1, hW1⟩ : ∃ W1, ((((w.setCell ⟨g, 3, none⟩ (.int .i64 (tm + 1))).setCell ⟨g, 7, none⟩ (.int .i64 1)).setCell ⟨g, 4, none⟩ (.int .i64 ((m : Int) + 1))).setCell ⟨g, 8, none⟩ (.int .i64 0)).setCell ⟨g, 12, none⟩ (.int .i64 0) = W1 := ⟨_, rfl⟩
  obtain ⟨S1, hS1⟩ : ∃ S1 : StT, S1 = { s with r := { s.r with term := s.r.term + 1, role := 1, vote := s.r.me, leader := 0, clock := 0 } } := ⟨_, rfl⟩
  obtain ⟨S2, hS2⟩ : ∃ S2 : StT, S2 = { S1 with r := { S1.r with votes := List.replicate n false } } := ⟨_, rfl⟩
  obtain ⟨S3, hS3⟩ : ∃ S3 : StT, S3 = { S2 with r := { S2.r with votes := S2.r.votes.set m true } } := ⟨_, rfl⟩
  have hE3 : S3 = { s with r := standR s.r } := by
    rw [hS3, hS2, hS1]
    unfold standR
    simp only [hme, hvx]
    congr 2
    congr 1
    omega
  have HQ := hide (h.poke_s (s' := S1) (w' := W1) (by rw [← hW1]; exact (((((But.refl _ _).set 3 _).set 7 _).set 4 _).set 8 _).set 12 _) (by rw [← hW1, hS1, htm, hme]; have hb := ((((h.bl.put 3 (.int .i64 (tm + 1))).put 7 (.int .i64 1)).put 4 (.int .i64 ((m : Int) + 1))).put 8 (.int .i64 0)).put 12 (.int .i64 0); simp only [mbC, hme] at hb ⊢; exact hb) (by rw [hS1]) (by rw [hS1]) (by rw [hS1]) (by rw [hS1]) (by rw [hS1]))
  obtain ⟨b, c, hRv, hcl, hbg, hbf, hM2, hT2⟩ := HQ.out.1.clear_v (L := n) (by rw [hS1]; exact hvx) (by omega) S2 hS2
  obtain ⟨W2, hW2⟩ : ∃ W2, W1.setCells b 0 (List.replicate n (.bool false)) = W2 := ⟨_, rfl⟩
  rw [hW2] at hcl hM2 hT2
  obtain ⟨b', c', x0, hRv', d, fd, _, _, hbf', hM3, hT3⟩ := hM2.set_v (k := m) (L := n) (by rw [hS2]; simp) hmn true S3 hS3
  have k9 : W1.cell? ⟨g, 9, none⟩ = some (.slice (some ⟨b, 0, none⟩) n c) := by rw [← hRv]; exact HQ.out.1.cell 9
  rw [hRv] at hRv'
  simp only [Value.slice.injEq, Option.some.injEq, Addr.mk.injEq, and_true, true_and] at hRv'
  obtain ⟨rfl, rfl⟩ := hRv'
  have e0 : W2.cell? ⟨g, 0, none⟩ = some (.int .i64 ((m : Int) + 1)) := by rw [← hme, show s.r.me = S2.r.me by rw [hS2, hS1]]; exact hM2.cell 0
  have e9 : W2.cell? ⟨g, 9, none⟩ = some (.slice (some ⟨b, 0, none⟩) n c) := by rw [← hRv]; exact hM2.cell 9
  have HM3 := hide hM3
  have HT3 := hide (HQ.out.2.trans (hT2.trans hT3))
  have HK3 := hide (hk.stand ht)
  have HE3 := hide hE3
  have HO := hide (show (S3 : StT).out = s.out by rw [hE3])
  have HD : Hid (standS s = if electedR S3.r = true then leadS S3 else toAllS askS S3) := by unfold Hid standS; rw [hE3]
  have ew : IntKind.i64.wrap (m : Int) = m := IntWalk.i64_in _ (by omega)
  have hmn' : (m : Int) < (n : Int) := by omega
  clear h hk ht hS1 hS2 hS3 hE3 hM2 hM3 hT2 hT3 HQ hRv hvx
  go_enter Try.func78, Try.ntmps78
  go_upto_region 2 with (fail)
  clear c0 c3 c4 c7 c8 c9 c12 f3 f4 f7 f8 f12 hW1 hW2
  go_wp2_with fail
  go_region
  have HM4 := hide (HM3.out.gr ((Gr.refl _).drewN 1))
  have HT4 := hide (HT3.out.trans (Stp.of_gr ((Gr.refl _).drewN 1)))
  have hR3 : Rk S3.r := by rw [HE3.out]; exact HK3.out
  have HR3 := hide hR3
  have HEL := hide (elected_ok _ g S3 R HM4.out hR3.nodes (by have := hR3.votes; have := hR3.nodes; omega))
  have HLD := hide (fun W (hW : MemR W g S3 R) => lead_ok W g S3 R hW HR3.out (by rw [HO.out]; omega))
  have HAS := hide (fun W (hW : MemR W g S3 R) => toAll_ask W g S3 R hW HR3.out (by rw [HO.out]; omega))
  clear k9 hcl hbg d fd e0 e9 hmn' ew HM3 HT3 hR3
  generalize electedR S3.r = eb at HEL HD
  cases eb
  · go_wp2_with fail
    refine HEL.out.mono ?_
    rintro e w5 ⟨rfl, nd, hw5⟩
    have HM5 : Hid (MemR w5 g S3 R) := by rw [hw5]; exact HM4.out.gr ((Gr.refl _).drewN nd)
    have HT5 : Hid (Stp w w5 g R R) := by rw [hw5]; exact HT4.out.trans (Stp.of_gr ((Gr.refl _).drewN nd))
    clear hw5 HM4 HT4
    go_wp2_with fail
    refine (HAS.out w5 HM5.out).mono ?_
    rintro e w6 ⟨rfl, R6, q1, q2⟩
    have Q1 := hide q1
    have Q2 := hide (HT5.out.trans q2)
    clear q1 q2 HEL HLD HAS
    go_wp2_with fail
    go_end0
    exact ⟨rfl, R6, by rw [HD.out, if_neg (by simp)]; exact Q1.out, Q2.out⟩
  · go_wp2_with fail
    refine HEL.out.mono ?_
    rintro e w5 ⟨rfl, nd, hw5⟩
    have HM5 : Hid (MemR w5 g S3 R) := by rw [hw5]; exact HM4.out.gr ((Gr.refl _).drewN nd)
    have HT5 : Hid (Stp w w5 g R R) := by rw [hw5]; exact HT4.out.trans (Stp.of_gr ((Gr.refl _).drewN nd))
    clear hw5 HM4 HT4
    go_wp2_with fail
    refine (HLD.out w5 HM5.out).mono ?_
    rintro e w6 ⟨rfl, R6, q1, q2⟩
    have Q1 := hide q1
    have Q2 := hide (HT5.out.trans q2)
    clear q1 q2 HEL HLD HAS
    go_wp2_with fail
    go_end0
    exact ⟨rfl, R6, by rw [HD.out, if_pos (by simp)]; exact Q1.out, Q2.out⟩

theorem wait_ok (w : World) (g : Nat) (s : StT) (R : RowsM) (h : MemR w g s R) (hk : Rk s.r) (ht : s.r.term < 1152921504606846976) (hn : s.out.length ≤ 380) :
    Calls Try.prog 58 #[.pointer (some ⟨g, 0, none⟩)] w (MbPost w g R (waitS s)) := by
  have HS := hide (fun n => stand_ok (w.drewN n) g s R (h.gr ((Gr.refl w).drewN n)) hk ht hn)
  have HM := hide h
  have c2 : w.cell? ⟨g, 2, none⟩ = some (.int .i64 s.r.wait) := h.cell 2
  have c12 : w.cell? ⟨g, 12, none⟩ = some (.int .i64 s.r.clock) := h.cell 12
  have f12 := h.bl.frozen 12
  have hwt := hk.wait
  have hc0 := hk.clock
  have HA : Hid (s.r.clock < s.r.wait - 1 → waitS s = { s with r := { s.r with clock := s.r.clock + 1 } }) := fun hh => if_pos hh
  have HB : Hid (¬ s.r.clock < s.r.wait - 1 → waitS s = standS s) := fun hh => if_neg hh
  have HP := hide (fun n => (h.gr ((Gr.refl w).drewN n)).poke_s (s' := { s with r := { s.r with clock := s.r.clock + 1 } }) (w' := (w.drewN n).setCell ⟨g, 12, none⟩ (.int .i64 (s.r.clock + 1))) ((But.refl _ _).set 12 _) ((h.bl.drewN n).put 12 _) rfl rfl rfl rfl rfl)
  generalize s.r.wait = wt at *
  generalize s.r.clock = ck at *
  clear h hk ht hn
  have e1 : IntKind.i64.wrap (wt - 1) = wt - 1 := IntWalk.i64_in _ (by omega)
  go_enter Try.func58, Try.ntmps58
  by_cases hlt : ck < wt - 1
  · have e2 : IntKind.i64.wrap (ck + 1) = ck + 1 := IntWalk.i64_in _ (by omega)
    go_wp2_with fail
    go_quiet (fail)
    go_wp2_with fail
    go_end0
    exact ⟨rfl, R, by rw [HA.out hlt]; exact (HP.out nq).1, (Stp.of_gr ((Gr.refl w).drewN _)).trans (HP.out nq).2⟩
  · go_wp2_with fail
    go_quiet (fail)
    go_wp2_with fail
    refine (HS.out _).mono ?_
    rintro e w2 ⟨rfl, R', h1, h2⟩
    have H1 := hide h1
    have H2 := hide h2
    clear h1 h2
    go_wp2_with fail
    go_end0
    exact ⟨rfl, R', by rw [HB.out (by omega)]; exact H1.out, (Stp.of_gr ((Gr.refl w).drewN _)).trans H2.out⟩
end Go.Proofs.Ythpaoeiackbdoaa

/-
  count, turn, denials, judge.
-/
namespace Go.Proofs.Ythpaoeiackbdoaa
open Go Go.RowKit TxnMath KeyMath MsgMath BalMath RfMath
set_option maxRecDepth 100000

set_option maxHeartbeats 2000000 in
theorem count_ok (w : World) (g : Nat) (s : StT) (R : RowsM) (h : MemR w g s R) (hk : Rk s.r) (v : Value) (l : MsgT) (hl : MsgX (Free g R) w v l) (hf : 1 ≤ l.frm ∧ l.frm ≤ s.r.nodes) (hn : s.out.length ≤ 380) :
    Calls Try.prog 59 #[.pointer (some ⟨g, 0, none⟩), v] w (MbPost w g R (countS l s)) := by
  obtain ⟨r, rfl, _⟩ := hl
  obtain ⟨m, hme⟩ : ∃ m : Nat, l.frm = (m : Int) + 1 := ⟨(l.frm - 1).toNat, by omega⟩
  obtain ⟨n, hnn⟩ : ∃ n : Nat, s.r.nodes = n := ⟨s.r.nodes.toNat, by have := hk.nodes; omega⟩
  have hn5 : n ≤ 5 := by have := hk.nodes; omega
  have hmn : m < n := by omega
  have hvx : s.r.votes.length = n := by have := hk.votes; omega
  cases hok : l.ok
  · have HC : Hid (countS l s = s) := by unfold Hid countS; rw [hok, if_neg (by simp)]
    have HM := hide h
    clear h hk
    simp only [cellsM, hok]
    go_enter Try.func59, Try.ntmps59
    go_wp2_with fail
    go_end0
    exact ⟨rfl, R, by rw [HC.out]; exact HM.out.gr ((Gr.refl w).alloc _), Stp.of_gr ((Gr.refl w).alloc _)⟩
  · obtain ⟨W1, hW1⟩ : ∃ W1, w.alloc (.cells (cellsM l r).toArray 47) = W1 := ⟨_, rfl⟩
    have hg1 : Gr w W1 := by rw [← hW1]; exact (Gr.refl _).alloc _
    have hb1 : Bl W1 w.heap.size 47 (cellsM l r).toArray := by rw [← hW1]; exact Bl.new _ _ _
    obtain ⟨S1, hS1⟩ : ∃ S1 : StT, S1 = { s with r := { s.r with votes := s.r.votes.set m true } } := ⟨_, rfl⟩
    have b1 : W1.cell? ⟨w.heap.size, 1, none⟩ = some (.int .i64 ((m : Int) + 1)) := by rw [← hme]; exact hb1.cell 1
    have b8 : W1.cell? ⟨w.heap.size, 8, none⟩ = some (.bool true) := by rw [← hok]; exact hb1.cell 8
    obtain ⟨b, c, x0, hRv, d, fd, hbg, hbl, hbf, hM3, hT3⟩ := (h.gr hg1).set_v (k := m) hvx hmn true S1 hS1
    have c9 : W1.cell? ⟨g, 9, none⟩ = some (.slice (some ⟨b, 0, none⟩) n c) := by rw [← hRv]; exact (h.gr hg1).cell 9
    have hR3 : Rk S1.r := by
      rw [hS1]
      exact ⟨hk.nodes, hk.me, hk.wait, hk.term, hk.len, hk.bnd, hk.commit, by simp only [List.length_set]; exact hk.votes, hk.next, hk.mtch, hk.nexts, hk.mtchs, hk.clock⟩
    have HC : Hid (countS l s = if electedR S1.r = true then leadS S1 else S1) := by
      unfold Hid countS electS
      rw [hok, if_pos rfl, hS1, show (l.frm - 1).toNat = m by omega]
    have HO := hide (show S1.out = s.out by rw [hS1])
    have ew : IntKind.i64.wrap (m : Int) = m := IntWalk.i64_in _ (by omega)
    have hmn' : (m : Int) < (n : Int) := by omega
    have HM3 := hide hM3
    have HT3 := hide ((Stp.of_gr hg1).trans hT3)
    have HR3 := hide hR3
    simp only [cellsM, hme, hok] at hW1
    clear h hk hRv hM3 hT3 hS1 hb1 hg1
    simp only [cellsM, hme, hok]
    go_enter Try.func59, Try.ntmps59
    go_upto_region 1 with (fail)
    clear hW1
    go_wp2_with fail
    go_region
    have HM4 := hide (HM3.out.gr ((Gr.refl _).drewN 1))
    have HT4 := hide (HT3.out.trans (Stp.of_gr ((Gr.refl _).drewN 1)))
    have HEL := hide (elected_ok _ g S1 R HM4.out hR3.nodes (by have := hR3.votes; have := hR3.nodes; omega))
    have HLD := hide (fun W (hW : MemR W g S1 R) => lead_ok W g S1 R hW HR3.out (by rw [HO.out]; omega))
    clear b1 b8 hbg d fd c9 hmn' ew HM3 HT3 hR3
    generalize electedR S1.r = eb at HEL HC
    cases eb
    · go_wp2_with fail
      refine HEL.out.mono ?_
      rintro e w5 ⟨rfl, nd, hw5⟩
      have HM5 : Hid (MemR w5 g S1 R) := by rw [hw5]; exact HM4.out.gr ((Gr.refl _).drewN nd)
      have HT5 : Hid (Stp w w5 g R R) := by rw [hw5]; exact HT4.out.trans (Stp.of_gr ((Gr.refl _).drewN nd))
      clear hw5 HM4 HT4
      go_wp2_with fail
      go_end0
      exact ⟨rfl, R, by rw [HC.out, if_neg (by simp)]; exact HM5.out, HT5.out⟩
    · go_wp2_with fail
      refine HEL.out.mono ?_
      rintro e w5 ⟨rfl, nd, hw5⟩
      have HM5 : Hid (MemR w5 g S1 R) := by rw [hw5]; exact HM4.out.gr ((Gr.refl _).drewN nd)
      have HT5 : Hid (Stp w w5 g R R) := by rw [hw5]; exact HT4.out.trans (Stp.of_gr ((Gr.refl _).drewN nd))
      clear hw5 HM4 HT4
      go_wp2_with fail
      refine (HLD.out w5 HM5.out).mono ?_
      rintro e w6 ⟨rfl, R6, q1, q2⟩
      have Q1 := hide q1
      have Q2 := hide (HT5.out.trans q2)
      clear q1 q2 HEL HLD
      go_wp2_with fail
      go_end0
      exact ⟨rfl, R6, by rw [HC.out, if_pos (by simp)]; exact Q1.out, Q2.out⟩

set_option maxHeartbeats 2000000 in
theorem turn_ok (w : World) (g : Nat) (s : StT) (R : RowsM) (h : MemR w g s R) (hk : Rk s.r) (t : Int) :
    Calls Try.prog 49 #[.pointer (some ⟨g, 0, none⟩), .int .i64 t] w fun e w' => e = .returned (.tuple #[]) ∧ MemR w' g { s with r := turnR t s.r } R ∧ Stp w w' g R R := by
  obtain ⟨n, hnn⟩ : ∃ n : Nat, s.r.nodes = n := ⟨s.r.nodes.toNat, by have := hk.nodes; omega⟩
  have hn1 : 1 ≤ n := by have := hk.nodes; omega
  have hvx : s.r.votes.length = n := by have := hk.votes; omega
  have c3 : w.cell? ⟨g, 3, none⟩ = some (.int .i64 s.r.term) := h.cell 3
  have c4 : w.cell? ⟨g, 4, none⟩ = some (.int .i64 s.r.vote) := h.cell 4
  have c7 : w.cell? ⟨g, 7, none⟩ = some (.int .i64 s.r.role) := h.cell 7
  have c8 : w.cell? ⟨g, 8, none⟩ = some (.int .i64 s.r.leader) := h.cell 8
  have f3 := h.bl.frozen 3
  have f4 := h.bl.frozen 4
  have f7 := h.bl.frozen 7
  have f8 := h.bl.frozen 8
  obtain ⟨W1, hW1⟩ : ∃ W1, (((w.setCell ⟨g, 7, none⟩ (.int .i64 0)).setCell ⟨g, 3, none⟩ (.int .i64 t)).setCell ⟨g, 4, none⟩ (.int .i64 0)).setCell ⟨g, 8, none⟩ (.int .i64 0) = W1 := ⟨_, rfl⟩
  obtain ⟨S1, hS1⟩ : ∃ S1 : StT, S1 = { s with r := { s.r with role := 0, term := t, vote := 0, leader := 0 } } := ⟨_, rfl⟩
  obtain ⟨S2, hS2⟩ : ∃ S2 : StT, S2 = { S1 with r := { S1.r with votes := List.replicate n false } } := ⟨_, rfl⟩
  have HE := hide (show S2 = { s with r := turnR t s.r } by rw [hS2, hS1]; unfold turnR; rw [hvx])
  have HQ := hide (h.poke_s (s' := S1) (w' := W1) (by rw [← hW1]; exact ((((But.refl _ _).set 7 _).set 3 _).set 4 _).set 8 _) (by rw [← hW1, hS1]; exact (((h.bl.put 7 (.int .i64 0)).put 3 (.int .i64 t)).put 4 (.int .i64 0)).put 8 (.int .i64 0)) (by rw [hS1]) (by rw [hS1]) (by rw [hS1]) (by rw [hS1]) (by rw [hS1]))
  obtain ⟨b, c, hRv, hcl, hbg, hbf, hM2, hT2⟩ := HQ.out.1.clear_v (L := n) (by rw [hS1]; exact hvx) (by omega) S2 hS2
  have k9 : W1.cell? ⟨g, 9, none⟩ = some (.slice (some ⟨b, 0, none⟩) n c) := by rw [← hRv]; exact HQ.out.1.cell 9
  obtain ⟨W2, hW2⟩ : ∃ W2, W1.setCells b 0 (List.replicate n (.bool false)) = W2 := ⟨_, rfl⟩
  rw [hW2] at hcl hM2 hT2
  have HM2 := hide hM2
  have HT2 := hide (HQ.out.2.trans hT2)
  clear h hk hS1 hS2 hM2 hT2 HQ hRv hvx
  go_enter Try.func49, Try.ntmps49
  go_upto_region 1 with (fail)
  clear c3 c4 c7 c8 f3 f4 f7 f8 hW1 hW2
  go_wp2_with fail
  go_end0
  exact ⟨rfl, by rw [← HE.out]; exact HM2.out, HT2.out⟩

end Go.Proofs.Ythpaoeiackbdoaa

/-
  Denials, judge.
-/
namespace Go.Proofs.Ythpaoeiackbdoaa
open Go Go.RowKit TxnMath KeyMath MsgMath BalMath RfMath
set_option maxRecDepth 100000

/-- a box of a letter's, made beside a member -/
theorem MemR.box {w : World} {g : Nat} {s : StT} {R : RowsM} (h : MemR w g s R) (cs : Array Value) (t : TypeId) : MemR (w.alloc (.cells cs t)) g s R ∧ Stp w (w.alloc (.cells cs t)) g R R ∧ Free g R w.heap.size :=
  ⟨h.gr ((Gr.refl w).alloc _), Stp.of_gr ((Gr.refl w).alloc _), h.free_new⟩

theorem denyVote_ok (w : World) (g : Nat) (s : StT) (R : RowsM) (h : MemR w g s R) (v : Value) (l : MsgT) (hl : MsgX (Free g R) w v l) (hn : s.out.length ≤ 380) :
    Calls Try.prog 66 #[.pointer (some ⟨g, 0, none⟩), v] w (MbPost w g R (sendS l.frm { noMsg with kind := 2 } s)) := by
  obtain ⟨r, rfl, _⟩ := hl
  have HB := hide (h.box (cellsM l r).toArray 47)
  have HS := hide (fun S1 (hS : sendS l.frm { noMsg with kind := 2 } s = S1) => show Calls Try.prog 82 #[.pointer (some ⟨g, 0, none⟩), .int .i64 l.frm, .agg (cellsM { noMsg with kind := 2 } rows0).toArray] (w.alloc (.cells (cellsM l r).toArray 47)) (MbPost (w.alloc (.cells (cellsM l r).toArray 47)) g R S1) by rw [← hS]; exact send_plain _ g s R HB.out.1 l.frm { noMsg with kind := 2 } rfl rfl rfl rfl (by omega))
  obtain ⟨S1, hS1⟩ : ∃ S1, sendS l.frm { noMsg with kind := 2 } s = S1 := ⟨_, rfl⟩
  replace HS := hide (HS.out S1 hS1)
  rw [hS1]
  have HST := hide HB.out.2.1
  clear h HB
  simp only [cellsM, noMsg, noTxn, rows0] at HS HST ⊢
  go_enter Try.func66, Try.ntmps66
  go_wp2_with fail
  refine HS.out.mono ?_
  rintro e w2 ⟨rfl, R', h1, h2⟩
  have H1 := hide h1
  have H2 := hide (HST.out.trans h2)
  clear h1 h2
  go_wp2_with fail
  go_end0
  exact ⟨rfl, R', H1.out, H2.out⟩

theorem denyEntries_ok (w : World) (g : Nat) (s : StT) (R : RowsM) (h : MemR w g s R) (v : Value) (l : MsgT) (hl : MsgX (Free g R) w v l) (hn : s.out.length ≤ 380) :
    Calls Try.prog 69 #[.pointer (some ⟨g, 0, none⟩), v] w (MbPost w g R (sendS l.frm { noMsg with kind := 4 } s)) := by
  obtain ⟨r, rfl, _⟩ := hl
  have HB := hide (h.box (cellsM l r).toArray 47)
  have HS := hide (fun S1 (hS : sendS l.frm { noMsg with kind := 4 } s = S1) => show Calls Try.prog 82 #[.pointer (some ⟨g, 0, none⟩), .int .i64 l.frm, .agg (cellsM { noMsg with kind := 4 } rows0).toArray] (w.alloc (.cells (cellsM l r).toArray 47)) (MbPost (w.alloc (.cells (cellsM l r).toArray 47)) g R S1) by rw [← hS]; exact send_plain _ g s R HB.out.1 l.frm { noMsg with kind := 4 } rfl rfl rfl rfl (by omega))
  obtain ⟨S1, hS1⟩ : ∃ S1, sendS l.frm { noMsg with kind := 4 } s = S1 := ⟨_, rfl⟩
  replace HS := hide (HS.out S1 hS1)
  rw [hS1]
  have HST := hide HB.out.2.1
  clear h HB
  simp only [cellsM, noMsg, noTxn, rows0] at HS HST ⊢
  go_enter Try.func69, Try.ntmps69
  go_wp2_with fail
  refine HS.out.mono ?_
  rintro e w2 ⟨rfl, R', h1, h2⟩
  have H1 := hide h1
  have H2 := hide (HST.out.trans h2)
  clear h1 h2
  go_wp2_with fail
  go_end0
  exact ⟨rfl, R', H1.out, H2.out⟩

theorem passOver_ok (w : World) (g : Nat) (v : Value) (l : MsgT) (r : Rows5) (hv : v = .agg (cellsM l r).toArray) :
    Calls Try.prog 55 #[.pointer (some ⟨g, 0, none⟩), v] w fun e w' => e = .returned (.tuple #[]) ∧ Gr w w' := by
  subst hv
  have HG := hide ((Gr.refl w).alloc (.cells (cellsM l r).toArray 47))
  simp only [cellsM] at HG ⊢
  go_enter Try.func55, Try.ntmps55
  go_wp2_with fail
  go_end0
  exact ⟨rfl, HG.out⟩

set_option maxHeartbeats 2000000 in
theorem judge_ok (w : World) (g : Nat) (s : StT) (R : RowsM) (h : MemR w g s R) (hk : Rk s.r) (v : Value) (l : MsgT) (hl : MsgX (Free g R) w v l) (hn : s.out.length ≤ 380) :
    Calls Try.prog 67 #[.pointer (some ⟨g, 0, none⟩), v] w (MbPost w g R (judgeS l s)) := by
  obtain ⟨r, rfl, _⟩ := hl
  obtain ⟨W1, hW1⟩ : ∃ W1, w.alloc (.cells (cellsM l r).toArray 47) = W1 := ⟨_, rfl⟩
  have hB := h.box (cellsM l r).toArray 47
  have hb1 : Bl W1 w.heap.size 47 (cellsM l r).toArray := by rw [← hW1]; exact Bl.new _ _ _
  rw [hW1] at hB
  have b1 : W1.cell? ⟨w.heap.size, 1, none⟩ = some (.int .i64 l.frm) := hb1.cell 1
  have b5 : W1.cell? ⟨w.heap.size, 5, none⟩ = some (.int .i64 l.index) := hb1.cell 5
  have b6 : W1.cell? ⟨w.heap.size, 6, none⟩ = some (.int .i64 l.logTerm) := hb1.cell 6
  obtain ⟨A, c, hA⟩ := h.log.is
  have c4 : W1.cell? ⟨g, 4, none⟩ = some (.int .i64 s.r.vote) := hB.1.cell 4
  have c5 : W1.cell? ⟨g, 5, none⟩ = some (.slice A s.r.log.length c) := by rw [← hA]; exact hB.1.cell 5
  have c12 : W1.cell? ⟨g, 12, none⟩ = some (.int .i64 s.r.clock) := hB.1.cell 12
  have f4 := hB.1.bl.frozen 4
  have f12 := hB.1.bl.frozen 12
  have HN := hide (fun n => Newer_ok R.l s.r.log l.index l.logTerm (W1.drewN n) (hB.1.log.any.gr ((Gr.refl W1).drewN n)) (by have := hk.len; omega))
  rw [hA] at HN
  have HJ : Hid (judgeB l s.r = ((decide (s.r.vote = 0) || decide (s.r.vote = l.frm)) && newerL s.r.log l.index l.logTerm)) := rfl
  have HY : Hid (judgeS l s = if judgeB l s.r = true then sendS l.frm { noMsg with kind := 2, ok := true } { s with r := { s.r with vote := l.frm, clock := 0 } } else sendS l.frm { noMsg with kind := 2 } s) := rfl
  obtain ⟨b, hb⟩ : ∃ b, w.heap.size = b := ⟨_, rfl⟩
  rw [hb] at b1 b5 b6
  have hbg : ¬ b = g := by rw [← hb]; intro e; exact h.free_new (.inl e)
  have HPo := hide (fun n => (hB.1.gr ((Gr.refl W1).drewN n)).poke_s (s' := { s with r := { s.r with vote := l.frm, clock := 0 } }) (w' := ((W1.drewN n).setCell ⟨g, 4, none⟩ (.int .i64 l.frm)).setCell ⟨g, 12, none⟩ (.int .i64 0)) (((But.refl _ _).set 4 _).set 12 _) (((hB.1.bl.drewN n).put 4 _).put 12 _) rfl rfl rfl rfl rfl)
  have HB := hide hB
  simp only [cellsM] at hW1
  generalize judgeB l s.r = jb at HJ HY
  generalize newerL s.r.log l.index l.logTerm = nb at HN HJ
  obtain ⟨vt, hvt⟩ : ∃ vt, s.r.vote = vt := ⟨_, rfl⟩
  rw [hvt] at HJ c4
  obtain ⟨fr, hfr⟩ : ∃ fr, l.frm = fr := ⟨_, rfl⟩
  rw [hfr] at HJ b1
  clear h hk hb1 hB
  simp only [cellsM, hfr] at hW1 ⊢
  go_enter Try.func67, Try.ntmps67
  go_upto_region 1 with (fail)
  go_cut [4] from 5 to 32 (fun v4 wx => v4 = .bool jb ∧ ∃ n, wx = W1.drewN n)
  case first =>
    by_cases h0 : vt = 0
    · subst h0
      have hj : Hid (jb = nb) := by unfold Hid; rw [HJ.out]; simp
      go_quiet (refine Calls.quiet_of_same (HN.out _))
      go_wp2_with fail
      go_meet
      exact ⟨by rw [hj.out], _, rfl⟩
    · have h0' : (vt == 0) = false := by rw [beq_eq_false_iff_ne]; exact h0
      by_cases h1 : vt = fr
      · subst h1
        have hj : Hid (jb = nb) := by unfold Hid; rw [HJ.out]; simp
        go_quiet (refine Calls.quiet_of_same (HN.out _))
        go_wp2_with fail
        go_meet
        exact ⟨by rw [hj.out], _, rfl⟩
      · have h1' : (vt == fr) = false := by rw [beq_eq_false_iff_ne]; exact h1
        have hj : Hid (jb = false) := by unfold Hid; rw [HJ.out]; simp [h0, h1]
        go_quiet (fail)
        go_wp2_with fail
        go_meet
        exact ⟨by rw [hj.out], _, rfl⟩
  case rest =>
    obtain ⟨rfl, nd, rfl⟩ := hcut
    have d1 : (W1.drewN nd).cell? ⟨b, 1, none⟩ = some (.int .i64 fr) := b1
    have d4 : (W1.drewN nd).cell? ⟨g, 4, none⟩ = some (.int .i64 vt) := c4
    have d12 : (W1.drewN nd).cell? ⟨g, 12, none⟩ = some (.int .i64 s.r.clock) := c12
    have e4 : (W1.drewN nd).frozen? ⟨g, 4, none⟩ = false := f4
    have e12 : (W1.drewN nd).frozen? ⟨g, 12, none⟩ = false := f12
    have HM1 := hide (HB.out.1.gr ((Gr.refl W1).drewN nd))
    have HT1 := hide (HB.out.2.1.trans (Stp.of_gr ((Gr.refl W1).drewN nd)))
    replace HPo := hide (HPo.out nd)
    rw [hfr] at HPo HY
    clear b1 b5 b6 c4 c5 c12 f4 f12 HN HB HJ hW1
    generalize W1.drewN nd = W2 at *
    cases jb
    · have hS : judgeS l s = sendS fr { noMsg with kind := 2 } s := by rw [HY.out, if_neg (by simp)]
      have HS := hide (send_plain W2 g s R HM1.out fr { noMsg with kind := 2 } rfl rfl rfl rfl (by omega))
      rw [← hS] at HS
      simp only [cellsM, noMsg, noTxn, rows0] at HS
      clear hS d4 d12 e4 e12 HPo HY
      go_wp2_with fail
      refine HS.out.mono ?_
      rintro e w2 ⟨rfl, R', h1, h2⟩
      have H1 := hide h1
      have H2 := hide (HT1.out.trans h2)
      clear h1 h2
      go_wp2_with fail
      go_end0
      exact ⟨rfl, R', H1.out, H2.out⟩
    · have hS : judgeS l s = sendS fr { noMsg with kind := 2, ok := true } { s with r := { s.r with vote := fr, clock := 0 } } := by rw [HY.out, if_pos rfl]
      have HS := hide (send_plain _ g _ R HPo.out.1 fr { noMsg with kind := 2, ok := true } rfl rfl rfl rfl (show s.out.length ≤ 1000 by omega))
      rw [← hS] at HS
      simp only [cellsM, noMsg, noTxn, rows0] at HS
      have HT2 := hide (HT1.out.trans HPo.out.2)
      clear hS HPo HY HT1
      go_wp2_with fail
      refine HS.out.mono ?_
      rintro e w2 ⟨rfl, R', h1, h2⟩
      have H1 := hide h1
      have H2 := hide (HT2.out.trans h2)
      clear h1 h2
      go_wp2_with fail
      go_end0
      exact ⟨rfl, R', H1.out, H2.out⟩

end Go.Proofs.Ythpaoeiackbdoaa
