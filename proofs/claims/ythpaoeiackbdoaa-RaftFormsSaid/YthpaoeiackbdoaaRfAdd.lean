/-
  A member's rows, written; add.
-/
import Derived.Test.YthpaoeiackbdoaaRfEnt
namespace Go.Proofs.Ythpaoeiackbdoaa
open Go Go.RowKit TxnMath KeyMath MsgMath BalMath RfMath
set_option maxRecDepth 100000

/-- an element of a row of the call's own is stored -/
theorem OwnV.put {e : TypeId} {w : World} {v : Value} {xs : List Value} (h : OwnV e w 0 v xs) {k : Nat} (hk : k < xs.length) (x : Value) :
    ∃ b c, v = .slice (some ⟨b, 0, none⟩) xs.length c ∧ b < w.heap.size ∧ w.cell? ⟨b, k, none⟩ = some xs[k] ∧ w.frozen? ⟨b, k, none⟩ = false ∧ OwnV e (w.setCell ⟨b, k, none⟩ x) 0 v (xs.set k x) ∧ But w (w.setCell ⟨b, k, none⟩ x) b := by
  have h0 := h
  rcases h.2 with ⟨rfl, hn⟩ | ⟨b, cap, cur, rfl, hb, hg, hnc, hm, hs, ht⟩
  · omega
  · refine ⟨b, cap, rfl, (World.ownsRow.lt h0 b rfl).2, ?_, World.ownsRow.frozenAt h0 k, ?_, (But.refl w b).set k x⟩
    · rw [World.ownsRow.cellAt h0 k (by omega), List.getElem?_eq_getElem hk]
    · obtain ⟨o1, _⟩ := World.ownsRow.stored h0 k x
      unfold OwnV
      rw [List.length_set]
      exact o1
theorem MemR.put_m {w : World} {g : Nat} {s : StT} {R : RowsM} (h : MemR w g s R) {k : Nat} (hk : k < s.r.mtch.length) (x : Int) :
    ∃ b c, R.m = .slice (some ⟨b, 0, none⟩) s.r.mtch.length c ∧ w.cell? ⟨b, k, none⟩ = some (.int .i64 s.r.mtch[k]) ∧ w.frozen? ⟨b, k, none⟩ = false ∧ b ≠ g ∧ b < w.heap.size ∧ Foot g R b ∧
      MemR (w.setCell ⟨b, k, none⟩ (.int .i64 x)) g { s with r := { s.r with mtch := s.r.mtch.set k x } } R ∧ Stp w (w.setCell ⟨b, k, none⟩ (.int .i64 x)) g R R := by
  obtain ⟨b, c, h1, h2, h3, h4, h5, h6⟩ := OwnV.put h.mtch (k := k) (by rw [ivs_len]; exact hk) (.int .i64 x)
  rw [ivs_len] at h1
  have hb : R.m.ownBlock = some b := by rw [h1]; rfl
  have hg : b ≠ g := fun e => h.nm (by rw [hb, e])
  have hf : Foot g R b := .inr (.inr (.inr (.inl hb)))
  refine ⟨b, c, h1, by rw [h3]; simp [ivs, iv], h4, hg, h2, hf, ?_⟩
  exact h.row (s' := { s with r := { s.r with mtch := s.r.mtch.set k x } }) h6 hf hg rfl rfl (.inr ⟨fun e => h.vm b e hb, rfl⟩) (.inr ⟨fun e => h.nmm b e hb, rfl⟩) (.inl (by unfold OwnI; rw [ivs_set]; exact h5)) (fun e => h.mq b hb e) rfl
theorem MemR.put_n {w : World} {g : Nat} {s : StT} {R : RowsM} (h : MemR w g s R) {k : Nat} (hk : k < s.r.next.length) (x : Int) :
    ∃ b c, R.n = .slice (some ⟨b, 0, none⟩) s.r.next.length c ∧ w.cell? ⟨b, k, none⟩ = some (.int .i64 s.r.next[k]) ∧ w.frozen? ⟨b, k, none⟩ = false ∧ b ≠ g ∧ b < w.heap.size ∧ Foot g R b ∧
      MemR (w.setCell ⟨b, k, none⟩ (.int .i64 x)) g { s with r := { s.r with next := s.r.next.set k x } } R ∧ Stp w (w.setCell ⟨b, k, none⟩ (.int .i64 x)) g R R := by
  obtain ⟨b, c, h1, h2, h3, h4, h5, h6⟩ := OwnV.put h.next (k := k) (by rw [ivs_len]; exact hk) (.int .i64 x)
  rw [ivs_len] at h1
  have hb : R.n.ownBlock = some b := by rw [h1]; rfl
  have hg : b ≠ g := fun e => h.nn (by rw [hb, e])
  have hf : Foot g R b := .inr (.inr (.inl hb))
  refine ⟨b, c, h1, by rw [h3]; simp [ivs, iv], h4, hg, h2, hf, ?_⟩
  exact h.row (s' := { s with r := { s.r with next := s.r.next.set k x } }) h6 hf hg rfl rfl (.inr ⟨fun e => h.vn b e hb, rfl⟩) (.inl (by unfold OwnI; rw [ivs_set]; exact h5)) (.inr ⟨fun e => h.nmm b hb e, rfl⟩) (fun e => h.nqq b hb e) rfl
theorem MemR.put_v {w : World} {g : Nat} {s : StT} {R : RowsM} (h : MemR w g s R) {k : Nat} (hk : k < s.r.votes.length) (x : Bool) :
    ∃ b c, R.v = .slice (some ⟨b, 0, none⟩) s.r.votes.length c ∧ w.cell? ⟨b, k, none⟩ = some (.bool s.r.votes[k]) ∧ w.frozen? ⟨b, k, none⟩ = false ∧ b ≠ g ∧ b < w.heap.size ∧ Foot g R b ∧
      MemR (w.setCell ⟨b, k, none⟩ (.bool x)) g { s with r := { s.r with votes := s.r.votes.set k x } } R ∧ Stp w (w.setCell ⟨b, k, none⟩ (.bool x)) g R R := by
  obtain ⟨b, c, h1, h2, h3, h4, h5, h6⟩ := OwnV.put h.votes (k := k) (by rw [bvals_len]; exact hk) (.bool x)
  rw [bvals_len] at h1
  have hb : R.v.ownBlock = some b := by rw [h1]; rfl
  have hg : b ≠ g := fun e => h.nv (by rw [hb, e])
  have hf : Foot g R b := .inr (.inl hb)
  refine ⟨b, c, h1, by rw [h3]; simp [bvals], h4, hg, h2, hf, ?_⟩
  exact h.row (s' := { s with r := { s.r with votes := s.r.votes.set k x } }) h6 hf hg rfl rfl (.inl (by unfold OwnB bvals; rw [List.map_set]; exact h5)) (.inr ⟨fun e => h.vn b hb e, rfl⟩) (.inr ⟨fun e => h.vm b hb e, rfl⟩) (fun e => h.vq b hb e) rfl

theorem join_end (l : List EntT) (x : EntT) : joinL l l.length [x] = l ++ [x] := by
  unfold joinL
  rw [if_neg (by omega)]
  simp [frontL]
theorem next_nonneg {mt : List Int} {es : List EntT} {t c : Int} (hc : 0 ≤ c) : 0 ≤ nextL mt es t c := by
  unfold nextL
  split
  · next h => omega
  · exact hc
theorem RfMath.Rk.add {r : RaftT} (h : Rk r) (e : EntT) (he : EntBnd e) (hf : r.log.length < 200) : Rk (addR e r) := by
  unfold addR commitR
  refine ⟨h.nodes, h.me, h.wait, h.term, by simp; omega, fun x hx => ?_, next_nonneg h.commit, h.votes, h.next, by simp only [put_len]; exact h.mtch, h.nexts, fun x hx => ?_, h.clock⟩
  · rcases List.mem_append.1 hx with h1 | h1
    · exact h.bnd x h1
    · simp at h1; subst h1; exact he
  · rcases put_mem hx with h1 | h1
    · exact h.mtchs x h1
    · subst h1; omega

namespace Mine
section
variable {ops : Array Oper} {w0 : World} {n0 : Nat} {Q : (Tmp → Known) → Tmp → Known → Prop} {o : Oper} {rest : List Oper} {K : Tmp → Known} {c : Tmp} {C : Known} {I : World → Option Nat → Prop}
/-- entries in memory that is not the row's, in a world of which this is known -/
abbrev Ei (I : World → Option Nat → Prop) (B : Nat) (l : List EntT) : Known := fun v w o => Ex B l v w o ∧ I w o
theorem Ei.stays {I : World → Option Nat → Prop} (hI : PayR I) (B : Nat) (l : List EntT) : Stays (Ei I B l) := fun v w o w' o' ⟨h1, h2⟩ hwf hr => ⟨Ex.stays B l v w o w' o' h1 hwf hr, hI w o w' o' h2 hr⟩
/-- '[]api.Entry{x}' -/
theorem lit_ent {x : Operand} {e : EntT} {p : Value × Value} (hI : PayR I) (ho : o.op = .buildSlice 24 1 #[(0, x)]) (hg : o.guard = none) (hd : o.dst ≠ some c) (hx : Kn K x (Wk I (.agg (entC e p).toArray))) (hp : ∀ w ob, I w ob → RowsX (fun j => some j ≠ ob) w e.t p)
    (h : wpMine Try.prog ops w0 n0 Q rest (upd K o.dst (Ei I 0 [e])) c C) : wpMine Try.prog ops w0 n0 Q (o :: rest) K c C := by
  refine step hg hd (Ei.stays hI 0 [e]) (fun a w ob hwf hl => ?_) h
  obtain ⟨h1, h2⟩ : Wk I (.agg (entC e p).toArray) (a.eval x) w ob := looks_op (Ψ := Wk I (.agg (entC e p).toArray)) (by simp [ho, Op.operands]) hx hl
  have hrw := hp w ob h2
  obtain ⟨A1, c1, e1⟩ := hrw.rd.sl
  obtain ⟨A2, c2, e2⟩ := hrw.wr.sl
  obtain ⟨p1, p2⟩ := p
  simp only at e1 e2
  subst e1 e2
  have hr : ∀ n m, (Instr.buildSlice 24 1 #[(0, .agg (entC e (.slice A1 n c1, .slice A2 m c2)).toArray)]).run Try.prog w = .ok (.slice (some ⟨w.heap.size, 0, none⟩) 1 1) (w.alloc (.cells (entC e (.slice A1 n c1, .slice A2 m c2)).toArray 38)) := fun n m => by kernel_rfl
  have hgr : Gr w (w.alloc (.cells (entC e (.slice A1 (e.t.reads.map rdC).length c1, .slice A2 (e.t.writes.map wrC).length c2)).toArray 38)) := (Gr.refl w).alloc _
  unfold does execOp
  simp only [ho, List.map_toArray, List.map_cons, List.map_nil, h1]
  rw [Sem.run_bind, hr]
  refine ⟨hgr, ⟨fun _ => (.slice A1 (e.t.reads.map rdC).length c1, .slice A2 (e.t.writes.map wrC).length c2), ⟨⟨some ⟨w.heap.size, 0, none⟩, 1, rfl, Nat.le_refl _, fun j i r u hj hi => ?_⟩, fun ad n k e3 _ => ?_⟩, fun j e' hj => ?_⟩, hI _ _ _ _ h2 (RS.of_gr hgr)⟩
  · obtain rfl : j = 0 := by have := (List.getElem?_eq_some_iff.1 hj).1; simp at this; omega
    simp only [List.mapIdx_cons, List.mapIdx_nil, List.getElem?_cons_zero, Option.some.injEq] at hj
    subst hj
    refine ⟨_, rfl, ?_⟩
    rw [addr_at, (Bl.new w _ _).cell, Nat.zero_mul, Nat.zero_add]
    simpa using hi
  · simp only [Value.slice.injEq, Option.some.injEq] at e3
    rw [← e3.1]
    refine ⟨fun e4 => ?_, Nat.zero_le _⟩
    have := hwf _ e4.symm
    simp only at this
    omega
  · obtain rfl : j = 0 := by have := (List.getElem?_eq_some_iff.1 hj).1; simp at this; omega
    simp only [List.getElem?_cons_zero, Option.some.injEq] at hj
    subst hj
    exact (hrw.gr hgr).wide fun j hj => ⟨hj, Nat.zero_le _⟩
end
end Mine

end Go.Proofs.Ythpaoeiackbdoaa

/-
  add.
-/
namespace Go.Proofs.Ythpaoeiackbdoaa
open Go Go.RowKit TxnMath KeyMath MsgMath BalMath RfMath
set_option maxRecDepth 100000

/-- a member beside a box of the call's own, and what lies in it -/
structure MemE (g : Nat) (s : StT) (R : RowsM) (b : Nat) (e : EntT) (p : Value × Value) (w : World) (ob : Option Nat) : Prop where
  m : MemP g s R w ob
  bx : Bl w b 38 (entC e p).toArray
  ne : some b ≠ ob
  rows : RowsX (fun j => Free g R j ∧ some j ≠ ob) w e.t p
end Go.Proofs.Ythpaoeiackbdoaa
namespace Go.Proofs.Ythpaoeiackbdoaa.Mine
open Go Go.RowKit Go.Proofs.Ythpaoeiackbdoaa
theorem wk_box {P : Program} {ops : Array Oper} {w0 : World} {n0 : Nat} {Q : (Tmp → Known) → Tmp → Known → Prop} {o : Oper} {rest : List Oper} {K : Tmp → Known} {c : Tmp} {C : Known} {I : World → Option Nat → Prop} {x : Operand} {ty t : TypeId} {g : Nat} {d : TypeDesc} (cs : Array Value) (hI : PayR I) (ho : o.op = .load ty x) (hg : o.guard = none) (hd : o.dst ≠ some c) (hx : Kn K x (Wk I (.pointer (some ⟨g, 0, none⟩)))) (hc : ∀ w ob, I w ob → Bl w g t cs)
    (hu : P.underlying ty = some d) (hd' : (match d with | .struct _ | .array _ _ => true | _ => false) = true) (hi : (P.info? ty).map (·.size) = some cs.size) (h : wpMine P ops w0 n0 Q rest (upd K o.dst (Wk I (.agg cs))) c C) : wpMine P ops w0 n0 Q (o :: rest) K c C :=
  wk1 _ hI hg hd (by simp [ho, Op.operands]) hx (fun a w ob h1 h2 => by
    unfold execOp
    simp only [ho, h1, Instr.loadAt, Instr.sureAddr, Sem.run_bind, Sem.run_pure, Result.andThen_ok, run_loadVar_row w g t ty cs (0, 0) d (hc w ob h2) hu hd' hi]) h
end Go.Proofs.Ythpaoeiackbdoaa.Mine
namespace Go.Proofs.Ythpaoeiackbdoaa
open Go Go.RowKit TxnMath KeyMath MsgMath BalMath RfMath
set_option maxRecDepth 100000
theorem MemE.pay (g : Nat) (s : StT) (R : RowsM) (b : Nat) (e : EntT) (p : Value × Value) : PayR (MemE g s R b e p) := fun w ob w' ob' h hr => by
  have hne : ∀ j, j < w.heap.size → some j ≠ ob → some j ≠ ob' := fun j hj hx => by
    rcases hr.at_ with e | ⟨k, e, hk⟩
    · rw [e]; exact hx
    · rw [e]; intro e2; injection e2 with e2; omega
  exact ⟨MemP.pay g s R _ _ _ _ h.m hr, (hr.gb.block b h.bx.lt h.ne).trans h.bx, hne b h.bx.lt h.ne, h.rows.move fun j hj hx => ⟨hr.gb.block j hj hx.2, hx.1, hne j hj hx.2⟩⟩

set_option maxHeartbeats 2000000 in
theorem add_ok (w : World) (g : Nat) (s : StT) (R : RowsM) (h : MemR w g s R) (hk : Rk s.r) (e : EntT) (p : Value × Value) (hp : RowsX (Free g R) w e.t p) (he : EntBnd e) (hn : s.out.length ≤ 400) :
    Calls Try.prog 57 #[.pointer (some ⟨g, 0, none⟩), .agg (entC e p).toArray] w fun en w' => en = .returned (.bool (!fullR s.r)) ∧ ∃ R', MemR w' g (addS e s) R' ∧ Stp w w' g R R' := by
  have HM := hide h
  have HK := hide hk
  have HP := hide hp
  obtain ⟨A, c, hA⟩ := h.log.is
  have c5 : w.cell? ⟨g, 5, none⟩ = some (.slice A s.r.log.length c) := by rw [← hA]; exact h.cell 5
  have c3 : w.cell? ⟨g, 3, none⟩ = some (.int .i64 s.r.term) := h.cell 3
  have hlt := h.bl.lt
  have hfr := h.free_new
  have hlen := hk.len
  by_cases hf : 200 ≤ s.r.log.length
  · have HF : Hid (fullR s.r = true) := by unfold Hid fullR; simp [hf]
    have HS : Hid (addS e s = s) := by unfold Hid addS; rw [HF.out, if_pos rfl]
    have hf' : (200 : Int) ≤ (s.r.log.length : Int) := by omega
    clear h hA c3
    simp only [entC]
    go_enter Try.func57, Try.ntmps57
    go_wp2_with fail
    go_ret
    exact ⟨by rw [HF.out]; rfl, R, by rw [HS.out]; exact HM.out.gr ((Gr.refl w).alloc _), Stp.of_gr ((Gr.refl w).alloc _)⟩
  · have HF : Hid (fullR s.r = false) := by unfold Hid fullR; simp [hf]
    have HS : Hid (addS e s = allS { s with r := addR e s.r }) := by unfold Hid addS; rw [HF.out, if_neg (by simp)]
    have hf' : ¬ (200 : Int) ≤ (s.r.log.length : Int) := by omega
    obtain ⟨tm, htm⟩ : ∃ tm, s.r.term = tm := ⟨_, rfl⟩
    rw [htm] at c3
    obtain ⟨m, hme⟩ : ∃ m : Nat, s.r.me = (m : Int) + 1 := ⟨(s.r.me - 1).toNat, by have := hk.me; omega⟩
    have hmn : m < s.r.mtch.length := by have := hk.me; have := hk.mtch; omega
    simp only [entC]
    go_enter Try.func57, Try.ntmps57
    go_wp2_with fail
    obtain ⟨W1, hW1⟩ : ∃ W1, w.alloc (.cells (entC { e with term := tm } p).toArray 38) = W1 := ⟨_, rfl⟩
    simp only [entC] at hW1
    rw [hW1]
    have hg1 : Gr w W1 := by rw [← hW1]; exact (Gr.refl _).alloc _
    have hb1 : Bl W1 w.heap.size 38 (entC { e with term := tm } p).toArray := by rw [← hW1]; exact Bl.new _ _ _
    obtain ⟨e1, he1⟩ : ∃ e1 : EntT, ({ e with term := tm } : EntT) = e1 := ⟨_, rfl⟩
    rw [he1] at hb1
    have HE1 : Hid (e1.t = e.t) := by rw [← he1]; rfl
    have hbe1 : EntBnd e1 := by unfold EntBnd; rw [HE1.out]; exact he
    obtain ⟨b, hb⟩ : ∃ b, w.heap.size = b := ⟨_, rfl⟩
    rw [hb] at hb1 ⊢
    have hI := MemE.pay g s R b e1 p
    have hW : MemE g s R b e1 p W1 none := ⟨MemP.none_ (h.gr hg1), hb1, by simp, by rw [HE1.out]; exact (hp.gr hg1).wide fun j hj => ⟨hj, by simp⟩⟩
    have HJ := hide (fun v u W (hv : EntsX Any W v s.r.log) (hu : EntsX Any W u [e1]) => Join_ok v u s.r.log [e1] s.r.log.length W hv hu (by omega) (by simp) hk.bnd (by intro x hx; simp at hx; subst hx; exact hbe1))
    clear h hp c3 c5 hb1 hW1 he
    refine Mine.wp_region_mine_tail 18 58 [18, 19, 20, 21, 22, 23, 24, 25, 26, 27, 28, 29, 30, 31, 32, 33, 34, 35] rfl (by kernel_rfl) (by kernel_rfl) (by kernel_rfl) (by kernel_rfl) (ob0 := none)
      (Mine.Ahead.more (Mine.Ahead.more (Mine.Ahead.none_ _ _ _) 0 (Mine.Wk.stays hI (.pointer (some ⟨g, 0, none⟩))) ⟨rfl, hI _ _ _ _ hW (Mine.RS.of_gr ((Gr.refl W1).drewN 1))⟩) 3 (Mine.Wk.stays hI (.pointer (some ⟨b, 0, none⟩))) ⟨rfl, hI _ _ _ _ hW (Mine.RS.of_gr ((Gr.refl W1).drewN 1))⟩)
      59 (C0 := fun _ _ o => o = none) (fun _ _ _ _ h _ => h) (fun k hk => by cases hk) rfl ?_
    clear hW
    refine Mine.wk_move hI (x := .tmp 0) (.inl rfl) rfl (by decide) rfl ?_
    refine Mine.wk_move hI (x := .tmp 0) (.inl rfl) rfl (by decide) rfl ?_
    refine Mine.wk_nil hI rfl rfl (by decide) rfl ?_
    refine Mine.wk_field 0 hI rfl rfl (by decide) rfl (fun w => by rfl) ?_
    refine Mine.wk_field 5 hI rfl rfl (by decide) rfl (fun w => by rfl) ?_
    refine Mine.wk_load (.slice A s.r.log.length c) hI rfl rfl (by decide) (fun w => by kernel_rfl) rfl (fun w ob h => by rw [← hA]; exact h.m.m.cell 5) ?_
    refine Mine.wk_move hI (x := .tmp 0) (.inl rfl) rfl (by decide) rfl ?_
    refine Mine.wk_nil hI rfl rfl (by decide) rfl ?_
    refine Mine.wk_field 0 hI rfl rfl (by decide) rfl (fun w => by rfl) ?_
    refine Mine.wk_field 5 hI rfl rfl (by decide) rfl (fun w => by rfl) ?_
    refine Mine.wk_load (.slice A s.r.log.length c) hI rfl rfl (by decide) (fun w => by kernel_rfl) rfl (fun w ob h => by rw [← hA]; exact h.m.m.cell 5) ?_
    refine Mine.wk_len hI rfl rfl (by decide) Try.underlying24 rfl ?_
    refine Mine.wk_box (t := 38) (entC e1 p).toArray hI rfl rfl (by decide) rfl (fun w ob h => h.bx) Try.underlying38 rfl (by kernel_rfl) ?_
    refine Mine.lit_ent hI rfl rfl (by decide) rfl (fun w ob h => h.rows.wide fun j hj => hj.2) ?_
    refine Mine.call3 (Φ := Mine.Ei (MemE g s R b e1 p) W1.heap.size (s.r.log ++ [e1])) rfl rfl (by decide) Try.func65 (by kernel_rfl) (by kernel_rfl) (Mine.Ei.stays hI _ _) (Ψ := Mine.Wk (MemE g s R b e1 p) (.slice A s.r.log.length c)) (Ψ' := Mine.Wk (MemE g s R b e1 p) (.int .i64 s.r.log.length)) (Ψ'' := Mine.Ei (MemE g s R b e1 p) 0 [e1]) rfl rfl rfl
      (fun v u z W ob hwf hsz h1 h2 h3 => by
        obtain ⟨rfl, hq⟩ := h1
        obtain ⟨rfl, _⟩ := h2
        refine (HJ.out _ _ W (by rw [← hA]; exact hq.m.m.log.any) h3.1.any).mono fun e w' ⟨r, he, ho, hg⟩ => ⟨r, he, hg, (show EntsX (fun j => W.heap.size ≤ j) w' r (s.r.log ++ [e1]) by rw [← join_end]; exact ho.entsIn).wide fun j hj => ⟨fun e2 => ?_, Nat.le_trans hsz hj⟩, hI _ _ _ _ hq (Mine.RS.of_gr hg)⟩
        have := hwf j e2.symm
        omega) ?_
    refine Mine.wk_nil hI rfl rfl (by decide) rfl ?_
    refine Mine.wk_field 0 hI rfl rfl (by decide) rfl (fun w => by rfl) ?_
    refine Mine.wk_field 5 hI rfl rfl (by decide) rfl (fun w => by rfl) ?_
    intro a1 w1 ob hr hwf hsz hdf hun hkn hat
    have h35 : a1.tmps.getD 35 undef = .pointer (some ⟨g, 5, none⟩) := (hkn 35).1
    have h32 : Mine.Ei (MemE g s R b e1 p) W1.heap.size (s.r.log ++ [e1]) (a1.tmps.getD 32 undef) w1 ob := hkn 32
    change ob = none at hat
    subst hat
    have hm1 : MemR w1 g s R := h32.2.m.m
    obtain ⟨X, hX, hlay⟩ := Grow.lay_kept_by _ a1 58 _ hsz hdf hun
    rw [hX] at h35 h32
    clear hX hun hdf hsz hkn hwf
    subst hlay
    simp only [List.range, List.range.loop, List.map_cons, List.map_nil, List.contains_cons, List.contains_nil, Nat.reduceBEq, Bool.or_false, Bool.or_true, cond_false, cond_true, Array.getD_eq_getD_getElem?, List.getElem?_toArray, List.getElem?_cons_zero, List.getElem?_cons_succ, Option.getD_some, h35, List.drop_succ_cons, List.drop_zero]
    have hg : Gr w w1 := hg1.trans (RS_gr ((Mine.RS.of_gr (o := none) ((Gr.refl W1).drewN 1)).trans hr))
    obtain ⟨A2, c2, hu⟩ := EntsX.is h32.1
    rw [hu] at h32 ⊢
    have hle := hg1.size
    have HQ := hide (hm1.poke (s' := { s with r := { s.r with log := s.r.log ++ [e1] } }) (l := .slice A2 (s.r.log ++ [e1]).length c2) (w' := w1.setCell ⟨g, 5, none⟩ (.slice A2 (s.r.log ++ [e1]).length c2)) ((But.refl _ _).set 5 _) (hm1.bl.put 5 _) (h32.1.wide fun j hj => ⟨fun hf => by have := HM.out.lt j hf; have := hj.2; omega, Nat.le_trans (Nat.le_trans HM.out.low hle) hj.2⟩) rfl rfl rfl rfl)
    have HST := hide (Stp.of_gr (g := g) (R := R) hg)
    have k5 : w1.cell? ⟨g, 5, none⟩ = some R.l := hm1.cell 5
    rw [hA] at k5
    have f5 := hm1.bl.frozen 5
    clear h32 hm1 hr hg hu hg1
    obtain ⟨n2, hn2⟩ : ∃ n2, (s.r.log ++ [e1]).length = n2 := ⟨_, rfl⟩
    have HN2 := hide (show n2 = s.r.log.length + 1 by rw [← hn2]; simp)
    rw [hn2] at HQ ⊢
    clear hn2
    go_wp2_with fail
    obtain ⟨W2, hW2⟩ : ∃ W2, w1.setCell ⟨g, 5, none⟩ (.slice A2 n2 c2) = W2 := ⟨_, rfl⟩
    rw [hW2] at HQ ⊢
    clear hW2 k5 f5
    obtain ⟨s2, hs2⟩ : ∃ s2 : StT, ({ s with r := { s.r with log := s.r.log ++ [e1] } } : StT) = s2 := ⟨_, rfl⟩
    obtain ⟨R2, hR2⟩ : ∃ R2 : RowsM, ({ R with l := .slice A2 n2 c2 } : RowsM) = R2 := ⟨_, rfl⟩
    rw [hs2, hR2] at HQ
    have hmm : s2.r.mtch = s.r.mtch := by rw [← hs2]
    have hq1 := HQ.out.1
    have d0 : W2.cell? ⟨g, 0, none⟩ = some (.int .i64 ((m : Int) + 1)) := by rw [← hme, show s.r.me = s2.r.me by rw [← hs2]]; exact hq1.cell 0
    have d5 : W2.cell? ⟨g, 5, none⟩ = some (.slice A2 n2 c2) := by rw [show Value.slice A2 n2 c2 = R2.l by rw [← hR2]]; exact hq1.cell 5
    obtain ⟨bm, cm, hRm, dm, fm, hbg, hbl, _, hM3⟩ := hq1.put_m (k := m) (by rw [hmm]; exact hmn) n2
    have d11 : W2.cell? ⟨g, 11, none⟩ = some (.slice (some ⟨bm, 0, none⟩) s2.r.mtch.length cm) := by rw [← hRm]; exact hq1.cell 11
    have hmn2 : (m : Int) < (s2.r.mtch.length : Int) := by rw [hmm]; omega
    have ew : IntKind.i64.wrap (m : Int) = m := IntWalk.i64_in _ (by have := hk.mtch; have := hk.nodes; omega)
    generalize s2.r.mtch[m] = x0 at dm
    have HM3 := hide hM3
    obtain ⟨s3, hs3⟩ : ∃ s3 : StT, ({ s2 with r := { s2.r with mtch := s2.r.mtch.set m n2 } } : StT) = s3 := ⟨_, rfl⟩
    rw [hs3] at HM3
    have HEQ : Hid (({ s3 with r := commitR s3.r } : StT) = { s with r := addR e s.r }) := by
      unfold Hid
      rw [← hs3, ← hs2]
      simp only [addR, putI, hme, htm, he1, HN2.out]
      congr 3
      simp
    have hK3 : Rk (commitR s3.r) := by
      have := hk.add e (by unfold EntBnd; rw [← HE1.out]; exact hbe1) (by omega)
      rw [show addR e s.r = commitR s3.r from (congrArg StT.r HEQ.out).symm] at this
      exact this
    have HK3 := hide hK3
    clear hq1 hRm hM3 hK3 hmm hR2
    go_region
    have HM4 := hide (HM3.out.1.gr ((Gr.refl _).drewN 1))
    have HS4 := hide (((HST.out.trans HQ.out.2).trans HM3.out.2).trans (Stp.of_gr ((Gr.refl _).drewN 1)))
    clear d0 d5 d11 dm fm hbg hbl hmn2 ew HM3 HQ HST
    have HC := hide (commit_ok _ g s3 R2 HM4.out (by have h7 : (s3.r.mtch.length : Int) = s3.r.nodes := HK3.out.mtch; have h8 : 1 ≤ s3.r.nodes ∧ s3.r.nodes ≤ 5 := HK3.out.nodes; omega) (fun x hx => (HK3.out.mtchs x hx).1) (by have h7 : s3.r.log.length ≤ 200 := HK3.out.len; omega) (by rw [← hs3, ← hs2]; exact hk.commit))
    go_wp2_with fail
    refine HC.out.mono ?_
    rintro e w5 ⟨rfl, R5, q1, q2⟩
    have HA := hide (sendAll_ok w5 g _ R5 q1 HK3.out (by rw [HEQ.out]; show s.out.length ≤ 500; omega))
    rw [HEQ.out] at HA
    have Q2 := hide (HS4.out.trans q2)
    clear q1 q2 HC HM4 HS4
    go_wp2_with fail
    refine HA.out.mono ?_
    rintro e w6 ⟨rfl, R6, q1, q2⟩
    have Q3 := hide q1
    have Q4 := hide (Q2.out.trans q2)
    clear q1 q2 HA Q2
    go_wp2_with fail
    go_ret
    exact ⟨by rw [HF.out]; rfl, R6, by rw [HS.out]; exact Q3.out, Q4.out⟩

end Go.Proofs.Ythpaoeiackbdoaa

/-
  lead.
-/
namespace Go.Proofs.Ythpaoeiackbdoaa
open Go Go.RowKit TxnMath KeyMath MsgMath BalMath RfMath
set_option maxRecDepth 100000

theorem MemR.set_m {w : World} {g : Nat} {s : StT} {R : RowsM} (h : MemR w g s R) {k L : Nat} (hL : s.r.mtch.length = L) (hk : k < L) (x : Int) (s' : StT) (hs : s' = { s with r := { s.r with mtch := s.r.mtch.set k x } }) :
    ∃ b c x0, R.m = .slice (some ⟨b, 0, none⟩) L c ∧ w.cell? ⟨b, k, none⟩ = some (.int .i64 x0) ∧ w.frozen? ⟨b, k, none⟩ = false ∧ b ≠ g ∧ b < w.heap.size ∧ R.m.ownBlock = some b ∧ MemR (w.setCell ⟨b, k, none⟩ (.int .i64 x)) g s' R ∧ Stp w (w.setCell ⟨b, k, none⟩ (.int .i64 x)) g R R := by
  subst hL hs
  obtain ⟨b, c, h1, h2, h3, h4, h5, h6, h7⟩ := h.put_m hk x
  exact ⟨b, c, _, h1, h2, h3, h4, h5, by rw [h1]; rfl, h7⟩
theorem MemR.set_n {w : World} {g : Nat} {s : StT} {R : RowsM} (h : MemR w g s R) {k L : Nat} (hL : s.r.next.length = L) (hk : k < L) (x : Int) (s' : StT) (hs : s' = { s with r := { s.r with next := s.r.next.set k x } }) :
    ∃ b c x0, R.n = .slice (some ⟨b, 0, none⟩) L c ∧ w.cell? ⟨b, k, none⟩ = some (.int .i64 x0) ∧ w.frozen? ⟨b, k, none⟩ = false ∧ b ≠ g ∧ b < w.heap.size ∧ R.n.ownBlock = some b ∧ MemR (w.setCell ⟨b, k, none⟩ (.int .i64 x)) g s' R ∧ Stp w (w.setCell ⟨b, k, none⟩ (.int .i64 x)) g R R := by
  subst hL hs
  obtain ⟨b, c, h1, h2, h3, h4, h5, h6, h7⟩ := h.put_n hk x
  exact ⟨b, c, _, h1, h2, h3, h4, h5, by rw [h1]; rfl, h7⟩
theorem MemR.set_v {w : World} {g : Nat} {s : StT} {R : RowsM} (h : MemR w g s R) {k L : Nat} (hL : s.r.votes.length = L) (hk : k < L) (x : Bool) (s' : StT) (hs : s' = { s with r := { s.r with votes := s.r.votes.set k x } }) :
    ∃ b c x0, R.v = .slice (some ⟨b, 0, none⟩) L c ∧ w.cell? ⟨b, k, none⟩ = some (.bool x0) ∧ w.frozen? ⟨b, k, none⟩ = false ∧ b ≠ g ∧ b < w.heap.size ∧ R.v.ownBlock = some b ∧ MemR (w.setCell ⟨b, k, none⟩ (.bool x)) g s' R ∧ Stp w (w.setCell ⟨b, k, none⟩ (.bool x)) g R R := by
  subst hL hs
  obtain ⟨b, c, h1, h2, h3, h4, h5, h6, h7⟩ := h.put_v hk x
  exact ⟨b, c, _, h1, h2, h3, h4, h5, by rw [h1]; rfl, h7⟩
def fillTo (x : Int) (l : List Int) (k : Nat) : List Int := List.replicate k x ++ l.drop k
theorem fill_len {x : Int} {l : List Int} {k : Nat} (h : k ≤ l.length) : (fillTo x l k).length = l.length := by simp [fillTo]; omega
theorem fill_set {x : Int} {l : List Int} {k : Nat} (h : k < l.length) : (fillTo x l k).set k x = fillTo x l (k + 1) := by
  unfold fillTo
  rw [List.set_append_right _ _ (by simp), List.length_replicate, Nat.sub_self, List.drop_eq_getElem_cons h, List.set_cons_zero, List.replicate_succ', List.append_assoc]
  rfl
theorem fill_all (x : Int) (l : List Int) : fillTo x l l.length = List.replicate l.length x := by simp [fillTo]
/-- a member that begins to lead, k places filled -/
def ldR (r : RaftT) (k : Nat) : RaftT := { r with role := 2, leader := r.me, clock := 0, next := fillTo (r.log.length + 1) r.next k, mtch := fillTo 0 r.mtch k }
theorem RfMath.Rk.lead {r : RaftT} (h : Rk r) : Rk (leadR r) := by
  unfold leadR
  refine ⟨h.nodes, h.me, h.wait, h.term, h.len, h.bnd, h.commit, h.votes, ?_, ?_, fun x hx => ?_, fun x hx => ?_, by simp⟩
  · have := h.nodes; simp; omega
  · have := h.nodes; simp [put_len]; omega
  · have := List.eq_of_mem_replicate hx
    have := h.len
    omega
  · rcases put_mem hx with h1 | h1
    · have := List.eq_of_mem_replicate h1
      omega
    · have := h.len
      omega

set_option maxHeartbeats 2000000 in
theorem lead_ok (w : World) (g : Nat) (s : StT) (R : RowsM) (h : MemR w g s R) (hk : Rk s.r) (hn : s.out.length ≤ 390) :
    Calls Try.prog 80 #[.pointer (some ⟨g, 0, none⟩)] w (MbPost w g R (leadS s)) := by
  have HK := hide hk
  obtain ⟨A, c, hA⟩ := h.log.is
  obtain ⟨m, hme⟩ : ∃ m : Nat, s.r.me = (m : Int) + 1 := ⟨(s.r.me - 1).toNat, by have := hk.me; omega⟩
  obtain ⟨n, hnn⟩ : ∃ n : Nat, s.r.nodes = n := ⟨s.r.nodes.toNat, by have := hk.nodes; omega⟩
  have hn5 : n ≤ 5 := by have := hk.nodes; omega
  have hmn : m < n := by have := hk.me; omega
  have hnx : s.r.next.length = n := by have := hk.next; omega
  have hmx : s.r.mtch.length = n := by have := hk.mtch; omega
  have HL := hide hk.len
  have c0 : w.cell? ⟨g, 0, none⟩ = some (.int .i64 ((m : Int) + 1)) := by rw [← hme]; exact h.cell 0
  have c1 : w.cell? ⟨g, 1, none⟩ = some (.int .i64 n) := by rw [← hnn]; exact h.cell 1
  have c7 : w.cell? ⟨g, 7, none⟩ = some (.int .i64 s.r.role) := h.cell 7
  have c8 : w.cell? ⟨g, 8, none⟩ = some (.int .i64 s.r.leader) := h.cell 8
  have c12 : w.cell? ⟨g, 12, none⟩ = some (.int .i64 s.r.clock) := h.cell 12
  have f7 := h.bl.frozen 7
  have f8 := h.bl.frozen 8
  have f12 := h.bl.frozen 12
  have HM := hide h
  clear h
  go_enter Try.func80, Try.ntmps80
  go_wp2_with fail
  obtain ⟨W1, hW1⟩ : ∃ W1, ((w.setCell ⟨g, 7, none⟩ (.int .i64 2)).setCell ⟨g, 8, none⟩ (.int .i64 ((m : Int) + 1))).setCell ⟨g, 12, none⟩ (.int .i64 0) = W1 := ⟨_, rfl⟩
  rw [hW1]
  have HQ := hide (HM.out.poke_s (s' := { s with r := ldR s.r 0 }) (w' := W1) (by rw [← hW1]; exact (((But.refl _ _).set 7 _).set 8 _).set 12 _) (by rw [← hW1, ← hme]; exact ((HM.out.bl.put 7 _).put 8 _).put 12 _) rfl rfl rfl rfl rfl)
  clear hW1 c0 c1 c7 c8 c12 f7 f8 f12
  go_loopw [25] (fun v wr => ∃ k : Nat, v = .int .i64 k ∧ k ≤ n ∧ Hid (MemR wr g { s with r := ldR s.r k } R) ∧ Hid (Stp w wr g R R)) (fun v _ => n - (intOf v).toNat)
  case atStart => exact ⟨0, rfl, by omega, HQ.out.1, HQ.out.2⟩
  case round =>
    obtain ⟨k, rfl, hkn, HM', HST⟩ := hrel
    have c5 : wr.cell? ⟨g, 5, none⟩ = some (.slice A s.r.log.length c) := by rw [← hA]; exact HM'.out.cell 5
    have c0 : wr.cell? ⟨g, 0, none⟩ = some (.int .i64 ((m : Int) + 1)) := by rw [← hme]; exact HM'.out.cell 0
    have hlen := HL.out
    by_cases hlt : k < n
    · have hlt' : (k : Int) < (n : Int) := by omega
      obtain ⟨S0, hS0⟩ : ∃ S0 : StT, ({ s with r := ldR s.r k } : StT) = S0 := ⟨_, rfl⟩
      obtain ⟨S1, hS1⟩ : ∃ S1 : StT, S1 = { S0 with r := { S0.r with next := S0.r.next.set k (s.r.log.length + 1) } } := ⟨_, rfl⟩
      obtain ⟨S2, hS2⟩ : ∃ S2 : StT, S2 = { S1 with r := { S1.r with mtch := S1.r.mtch.set k 0 } } := ⟨_, rfl⟩
      have hn0 : S0.r.next.length = n := by rw [← hS0]; show (fillTo _ _ _).length = n; rw [fill_len (by omega)]; exact hnx
      have hm0 : S1.r.mtch.length = n := by rw [hS1, ← hS0]; show (fillTo _ _ _).length = n; rw [fill_len (by omega)]; exact hmx
      have HN : Hid (S2 = { s with r := ldR s.r (k + 1) }) := by
        unfold Hid
        rw [hS2, hS1, ← hS0]
        simp only [ldR, fill_set (show k < s.r.next.length by omega), fill_set (show k < s.r.mtch.length by omega)]
      rw [hS0] at HM'
      obtain ⟨bn, cn, x0, hRn, dn, fn, hbg, hbl, hbf, hM1, hT1⟩ := HM'.out.set_n hn0 hlt (s.r.log.length + 1) S1 hS1
      obtain ⟨bm, cm, y0, hRm, dm, fm, hbg2, _, hbf2, hM2, hT2⟩ := hM1.set_m hm0 hlt 0 S2 hS2
      have hbb : bn ≠ bm := fun e => HM'.out.nmm bn hbf (by rw [e]; exact hbf2)
      have hbb2 : bm ≠ bn := fun e => hbb e.symm
      have em : wr.cell? ⟨bm, k, none⟩ = some (.int .i64 y0) := by
        rw [← dm]
        exact (World.cell?_of_block (Below.heap_setCell wr ⟨bn, k, none⟩ _ bm hbb2)).symm
      have c10 : wr.cell? ⟨g, 10, none⟩ = some (.slice (some ⟨bn, 0, none⟩) n cn) := by rw [← hRn]; exact HM'.out.cell 10
      have c11 : wr.cell? ⟨g, 11, none⟩ = some (.slice (some ⟨bm, 0, none⟩) n cm) := by rw [← hRm]; exact HM'.out.cell 11
      have HM2 := hide hM2
      have HT2 := hide (HST.out.trans (hT1.trans hT2))
      clear hM1 hM2 hT1 hT2 hS0 hS1 hS2 hRn hRm hn0 hm0 HST HQ HM dm
      go_wp2_with fail
      go_region
      go_wp2_with fail
      go_roundw
      case rel => exact ⟨k + 1, by go_num, by omega, by rw [← HN.out]; exact HM2.out.gr ((Gr.refl _).drewN 1), HT2.out.trans (Stp.of_gr ((Gr.refl _).drewN 1))⟩
      case measure => simp [intOf]; omega
    · obtain rfl : k = n := by omega
      have hlr : Hid (({ ldR s.r k with mtch := (ldR s.r k).mtch.set m s.r.log.length } : RaftT) = leadR s.r) := by
        unfold Hid leadR ldR putI
        have e1 : fillTo (s.r.log.length + 1) s.r.next k = List.replicate k ((s.r.log.length : Int) + 1) := by rw [← hnx]; exact fill_all _ _
        have e2 : fillTo 0 s.r.mtch k = List.replicate k 0 := by rw [← hmx]; exact fill_all _ _
        simp only [e1, e2, hnn, hme, Int.toNat_natCast]
        congr 2
        omega
      obtain ⟨S0, hS0⟩ : ∃ S0 : StT, ({ s with r := ldR s.r k } : StT) = S0 := ⟨_, rfl⟩
      have hm0 : S0.r.mtch.length = k := by rw [← hS0]; show (fillTo _ _ _).length = k; rw [fill_len (by omega)]; exact hmx
      have hS1 : ({ s with r := leadR s.r } : StT) = { S0 with r := { S0.r with mtch := S0.r.mtch.set m s.r.log.length } } := by rw [← hS0, ← hlr.out]
      have HO0 : Hid (S0.out = s.out) := by rw [← hS0]; rfl
      rw [hS0] at HM'
      obtain ⟨bm, cm, y0, hRm, dm, fm, hbg2, hbl2, hbf2, hM2, hT2⟩ := HM'.out.set_m hm0 hmn s.r.log.length _ hS1
      have c11 : wr.cell? ⟨g, 11, none⟩ = some (.slice (some ⟨bm, 0, none⟩) k cm) := by rw [← hRm]; exact HM'.out.cell 11
      have HM2 := hide hM2
      have HT2 := hide (HST.out.trans hT2)
      have ew : IntKind.i64.wrap (m : Int) = m := IntWalk.i64_in _ (by omega)
      have hmn' : (m : Int) < (k : Int) := by omega
      have HKL := hide hk.lead
      clear hM2 hT2 hS0 hS1 hRm hm0 HST HQ HM
      go_wp2_with fail
      go_region
      have HM3 := hide (HM2.out.gr ((Gr.refl _).drewN 1))
      have HT3 := hide (HT2.out.trans (Stp.of_gr ((Gr.refl _).drewN 1)))
      obtain ⟨S5, hS5⟩ : ∃ S5, addS sealE { s with r := leadR s.r } = S5 := ⟨_, rfl⟩
      obtain ⟨fb, hfb⟩ : ∃ fb, fullR (leadR s.r) = fb := ⟨_, rfl⟩
      have hL : leadS s = if fb = true then allS { s with r := leadR s.r } else S5 := by rw [← hS5, ← hfb]; rfl
      have hF5 : fb = true → S5 = { s with r := leadR s.r } := fun e => by rw [← hS5]; unfold addS; rw [show fullR ({ s with r := leadR s.r } : StT).r = true by rw [← e, ← hfb]]; rfl
      have HA := add_ok _ g _ R HM3.out HKL.out sealE (.slice none 0 0, .slice none 0 0) (RowsX.none_ _ _) ⟨by simp [sealE, noTxn], by simp [sealE, noTxn]⟩ (show s.out.length ≤ 400 by omega)
      rw [hS5, hfb] at HA
      replace HA := hide HA
      simp only [entC, sealE, noTxn] at HA
      have HL' := hide hL
      have HF5 := hide hF5
      clear dm fm c11 c5 c0 hbg2 hbl2 hbf2 HM' HM2 HT2 HM3 hS5 hfb hL hF5
      cases fb
      · go_wp2_with fail
        refine HA.out.mono ?_
        rintro e w5 ⟨rfl, R5, q1, q2⟩
        have Q1 := hide q1
        have Q2 := hide (HT3.out.trans q2)
        clear q1 q2 HA HT3
        go_wp2_with fail
        go_end0
        exact ⟨rfl, R5, by rw [HL'.out]; exact Q1.out, Q2.out⟩
      · go_wp2_with fail
        refine HA.out.mono ?_
        rintro e w5 ⟨rfl, R5, q1, q2⟩
        rw [HF5.out (by simp)] at q1
        have HB := hide (sendAll_ok w5 g _ R5 q1 HKL.out (show s.out.length ≤ 500 by omega))
        have Q2 := hide (HT3.out.trans q2)
        clear q1 q2 HA HT3
        go_wp2_with fail
        refine HB.out.mono ?_
        rintro e w6 ⟨rfl, R6, q1, q2⟩
        have Q3 := hide q1
        have Q4 := hide (Q2.out.trans q2)
        clear q1 q2 HB Q2
        go_wp2_with fail
        go_end0
        exact ⟨rfl, R6, by rw [HL'.out]; exact Q3.out, Q4.out⟩

end Go.Proofs.Ythpaoeiackbdoaa
