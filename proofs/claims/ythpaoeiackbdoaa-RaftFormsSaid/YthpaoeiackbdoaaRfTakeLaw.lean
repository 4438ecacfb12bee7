/-
  'r, l = raft.Take(r, l[0])' in a region whose order is open; two members in boxes side by side. No function of the program but the call's.
-/
import Derived.Test.YthpaoeiackbdoaaRfBegun
namespace Go.Proofs.Ythpaoeiackbdoaa
open Go Go.RowKit TxnMath KeyMath MsgMath BalMath RfMath
set_option maxRecDepth 100000

theorem rs_grew {w w' : World} {o : Option Nat} (h : Mine.RS w none w' o) : Gr w w' := ⟨h.gb.os, h.gb.tape, h.gb.output, h.gb.size, fun k hk => h.gb.block k hk (by simp)⟩
/-- the world has grown from W, and the row's block is none of W's -/
abbrev Far (W : World) : World → Option Nat → Prop := fun w ob => Gr W w ∧ ∀ k, ob = some k → W.heap.size ≤ k
theorem far_pay (W : World) : PayR (Far W) := fun w ob w' ob' ⟨h1, h2⟩ hr => by
  have hs := h1.size
  refine ⟨⟨hr.gb.os.trans h1.os, hr.gb.tape.trans h1.tape, hr.gb.output.trans h1.output, Nat.le_trans hs hr.gb.size, fun k hk => ?_⟩, fun k hk => ?_⟩
  · exact (hr.gb.block k (by omega) (fun e => by have := h2 k e.symm; omega)).trans (h1.block k hk)
  · rcases hr.at_ with e | ⟨j, e, hj⟩
    · exact h2 k (by rw [← e]; exact hk)
    · rw [e] at hk; injection hk with hk; omega
theorem size_msg (w : World) : (sizeOf (Try.prog.elem 43)).run Try.prog w = .ok 24 w := by kernel_rfl
theorem agg_msg : ∀ w, (isAgg 47).run Try.prog w = .ok true w := fun w => by kernel_rfl
theorem exec_idxMsg {ev : Operand → Value} {o : Oper} {x y : Operand} {g n c k : Nat} (ho : o.op = .indexAddr 43 x y) (hx : ev x = .slice (some ⟨g, 0, none⟩) n c) (hy : ev y = .int .i64 (k : Int)) (hk : k < n) (w : World) :
    (execOp ev o).run Try.prog w = .ok (.value (.pointer (some ⟨g, k * 24, none⟩))) w := by
  have e : (⟨g, 0, none⟩ : Addr).add (k * 24) = ⟨g, k * 24, none⟩ := by unfold Addr.add; split <;> simp_all
  unfold execOp
  simp only [ho, hx, hy, Sem.run_bind, run_indexAt_slice w 43 _ _ _ _ _ (show Try.prog.underlying 43 = some (.slice (Try.prog.elem 43)) by kernel_rfl)]
  rw [if_pos (by omega), size_msg w]
  simp only [Result.andThen_ok, Int.toNat_natCast, e]
  rfl
theorem exec_ldMsg {ev : Operand → Value} {o : Oper} {x : Operand} {g s : Nat} {m : MsgT} {p : Rows5} {w : World} (ho : o.op = .load 47 x) (hx : ev x = .pointer (some ⟨g, s, none⟩)) (hc : ∀ i v, (cellsM m p)[i]? = some v → w.cell? ⟨g, s + i, none⟩ = some v) :
    (execOp ev o).run Try.prog w = .ok (.value (.agg (cellsM m p).toArray)) w := by
  obtain ⟨i, hi, hsz⟩ : ∃ i, Try.prog.info? 47 = some i ∧ i.size = 24 := by
    have h : (Try.prog.info? 47).map (·.size) = some 24 := by kernel_rfl
    obtain ⟨i, h1, h2⟩ := Option.map_eq_some_iff.1 h
    exact ⟨i, h1, h2⟩
  have hr : (Instr.loadAt 47 (.pointer (some ⟨g, s, none⟩))).run Try.prog w = .ok (.agg (cellsM m p).toArray) w := by
    simp [Instr.loadAt, Instr.sureAddr, Lib.rl_loadVar_cells (P := Try.prog) 47 i hi agg_msg g s (cellsM m p) (by rw [hsz]; rfl) w hc]
  unfold execOp
  simp only [ho, hx]
  rw [Sem.run_bind, hr]
  rfl

/-- two members in boxes: each one's rows are in neither -/
structure Box2 (w : World) (g o : Nat) (r : RaftT) (R : RowsM) : Prop where
  bl : Bl w g 28 (rfC r R).toArray
  ins : ∃ lo hi, RfIn w lo hi r R ∧ (g < lo ∧ o < lo ∨ hi ≤ g ∧ hi ≤ o)
theorem Box2.gr {w w' : World} {g o : Nat} {r : RaftT} {R : RowsM} (h : Box2 w g o r R) (hg : Gr w w') : Box2 w' g o r R := by
  obtain ⟨lo, hi, h1, h2⟩ := h.ins
  exact ⟨h.bl.gr hg, lo, hi, h1.gr hg, h2⟩
theorem Box2.but {w w' : World} {g o : Nat} {r : RaftT} {R : RowsM} (h : Box2 w g o r R) (hb : But w w' o) (hne : g ≠ o) : Box2 w' g o r R := by
  obtain ⟨lo, hi, h1, h2⟩ := h.ins
  exact ⟨(hb.block g h.bl.lt (fun e => hne (by injection e))).trans h.bl, lo, hi, h1.but hb (by omega), h2⟩
theorem Box2.x {w : World} {g o : Nat} {r : RaftT} {R : RowsM} (h : Box2 w g o r R) : RaftR Any w r R := by
  obtain ⟨lo, hi, h1, _⟩ := h.ins
  exact h1.x
/-- two new boxes -/
theorem wpList_twoBoxes {ops : Array Oper} {rest : List Oper} {o1 o2 o3 o4 : Oper} {a : Act} {w : World} {Q : Exit → Act → World → Prop} {d e : Tmp} {y z : Operand} {r q : RaftT} {R S : RowsM} (g1 : o1.guard = none) (g2 : o2.guard = none) (g3 : o3.guard = none) (g4 : o4.guard = none)
    (h1 : o1.op = .alloc 28) (hd1 : o1.dst = some d) (h2 : o2.op = .alloc 28) (hd2 : o2.dst = some e) (h3 : o3.op = .store 28 (.tmp d) y) (hd3 : o3.dst = none) (h4 : o4.op = .store 28 (.tmp e) z) (hd4 : o4.dst = none)
    (hx : ∀ v u, ((a.put (some d) v).put (some e) u).eval (.tmp d) = v) (hx2 : ∀ v u, ((a.put (some d) v).put (some e) u).eval (.tmp e) = u) (hy : ∀ v u, ((a.put (some d) v).put (some e) u).eval y = .agg (rfC r R).toArray) (hz : ∀ v u, ((a.put (some d) v).put (some e) u).eval z = .agg (rfC q S).toArray)
    (hone : ∀ v ∈ rfC r R, v.oneCell' = true) (hone2 : ∀ v ∈ rfC q S, v.oneCell' = true)
    (h : ∀ w', Bl w' w.heap.size 28 (rfC r R).toArray → Bl w' (w.heap.size + 1) 28 (rfC q S).toArray → Gr w w' → wpList Try.prog ops Q rest ((a.put (some d) (.pointer (some ⟨w.heap.size, 0, none⟩))).put (some e) (.pointer (some ⟨w.heap.size + 1, 0, none⟩))) w') : wpList Try.prog ops Q (o1 :: o2 :: o3 :: o4 :: rest) a w := by
  obtain ⟨Z, hZ⟩ : ∃ Z : Array Value, Z = #[.int .i64 0, .int .i64 0, .int .i64 0, .int .i64 0, .int .i64 0, .slice none 0 0, .int .i64 0, .int .i64 0, .int .i64 0, .slice none 0 0, .slice none 0 0, .slice none 0 0, .int .i64 0] := ⟨_, rfl⟩
  have hZs : Z.size = 13 := by rw [hZ]; rfl
  have hal : ∀ (ev : Operand → Value) (o : Oper) (W : World), o.op = .alloc 28 → (execOp ev o).run Try.prog W = .ok (.value (.pointer (some ⟨W.heap.size, 0, none⟩))) (W.alloc (.cells Z 28)) := fun ev o W ho => by
    rw [hZ]
    unfold execOp
    simp only [ho]
    kernel_rfl
  clear hZ
  refine wpList_valW _ g1 (hal _ _ _ h1) ?_
  rw [hd1]
  refine wpList_valW _ g2 (hal _ _ _ h2) ?_
  rw [hd2]
  have hsz : (w.alloc (.cells Z 28)).heap.size = w.heap.size + 1 := by simp
  rw [hsz]
  have b1 : Bl ((w.alloc (.cells Z 28)).alloc (.cells Z 28)) w.heap.size 28 Z := (Bl.new _ _ _).gr ((Gr.refl _).alloc _)
  have b2 : Bl ((w.alloc (.cells Z 28)).alloc (.cells Z 28)) (w.heap.size + 1) 28 Z := by have := Bl.new (w.alloc (.cells Z 28)) 28 Z; rwa [hsz] at this
  refine wpList_setBox g3 h3 hd3 (hx _ _) (hy _ _) b1 hZs hone fun w3 c1 u1 => ?_
  refine wpList_setBox g4 h4 hd4 (hx2 _ _) (hz _ _) (b2.but_ u1 (by omega)) hZs hone2 fun w4 c2 u2 => ?_
  have hg : Gr w w4 := ((((Gr.refl w).alloc _).alloc _).fresh_ u1 (Nat.le_refl _)).fresh_ u2 (Nat.le_succ _)
  exact h w4 (c1.but_ u2 (by omega)) c2 hg

namespace Mine
section
variable {P : Program} {ops : Array Oper} {w0 : World} {n0 : Nat} {Q : (Tmp → Known) → Tmp → Known → Prop} {o : Oper} {rest : List Oper} {K : Tmp → Known} {c : Tmp} {C : Known}
/-- an operation of one operand that changes nothing -/
theorem look1 {x : Operand} {Ψ Φ : Known} (hg : o.guard = none) (hd : o.dst ≠ some c) (hxo : x ∈ o.op.operands) (hx : Kn K x Ψ) (hst : Stays Φ) (hr : ∀ (a : Act) (w : World) (ob : Option Nat), Ψ (a.eval x) w ob → ∃ z, (execOp a.eval o).run P w = .ok (.value z) w ∧ Φ z w ob)
    (h : wpMine P ops w0 n0 Q rest (upd K o.dst Φ) c C) : wpMine P ops w0 n0 Q (o :: rest) K c C := by
  refine step hg hd hst (fun a w ob _ hl => ?_) h
  obtain ⟨z, h1, h2⟩ := hr a w ob (looks_op (Ψ := Ψ) hxo hx hl)
  unfold does
  rw [h1]
  exact ⟨Gr.refl w, h2⟩
/-- apart from the row that is being built -/
abbrev Apr (lo hi : Nat) (ob : Option Nat) : Prop := ∀ k, ob = some k → k < lo ∨ hi ≤ k
theorem Apr.next {lo hi : Nat} {w w' : World} {ob ob' : Option Nat} (h : Apr lo hi ob) (hw : hi ≤ w.heap.size) (hr : RS w ob w' ob') : Apr lo hi ob' := fun k hk => by
  rcases hr.at_ with e | ⟨j, e, hj⟩
  · exact h k (by rw [← e]; exact hk)
  · rw [e] at hk; injection hk with hk; omega
/-- a state that a call tells, in new memory -/
abbrev RfK (W : World) (r : RaftT) : Known := fun v w ob => ∃ R lo hi, v = .agg (rfC r R).toArray ∧ W.heap.size ≤ lo ∧ RfIn w lo hi r R ∧ Apr lo hi ob
abbrev OuK (W : World) (ms : List MsgT) : Known := fun v w ob => ∃ lo hi, W.heap.size ≤ lo ∧ OutIn w lo hi v ms ∧ Apr lo hi ob
abbrev TkK (W : World) (s : StT) : Known := fun v w ob => ∃ x u, v = .tuple #[x, u] ∧ RfK W s.r x w ob ∧ OuK W s.out u w ob
theorem RfK.stays (W : World) (r : RaftT) : Stays (RfK W r) := fun v w ob w' ob' ⟨R, lo, hi, h1, h2, h3, h4⟩ _ hr => by
  have hn := h4.next h3.top hr
  exact ⟨R, lo, hi, h1, h2, ⟨Nat.le_trans h3.top hr.gb.size, fun w'' hw => h3.rd w'' fun j q1 q2 => (hw j q1 q2).trans (hr.gb.block j (Nat.lt_of_lt_of_le q2 h3.top) (fun e => by have := h4 j e.symm; omega))⟩, hn⟩
theorem OuK.stays (W : World) (ms : List MsgT) : Stays (OuK W ms) := fun v w ob w' ob' ⟨lo, hi, h2, h3, h4⟩ _ hr => by
  have hn := h4.next h3.top hr
  exact ⟨lo, hi, h2, ⟨Nat.le_trans h3.top hr.gb.size, fun w'' hw => h3.rd w'' fun j q1 q2 => (hw j q1 q2).trans (hr.gb.block j (Nat.lt_of_lt_of_le q2 h3.top) (fun e => by have := h4 j e.symm; omega))⟩, hn⟩
theorem TkK.stays (W : World) (s : StT) : Stays (TkK W s) := fun _ _ _ _ _ ⟨x, u, h1, h2, h3⟩ hwf hr => ⟨x, u, h1, RfK.stays W s.r _ _ _ _ _ h2 hwf hr, OuK.stays W s.out _ _ _ _ _ h3 hwf hr⟩
theorem callT {f : FuncId} {x y : Operand} {ats : Array TypeId} {W : World} {p q : Value} {s : StT} {fn : Func} (ho : o.op = .call { callee := .value (.func f), args := #[x, y], argTypes := ats }) (hg : o.guard = none) (hd : o.dst ≠ some c) (hf : P.funcs[f]? = some fn) (hn : (fn.name == "runtime.NumGoroutine") = false) (hb : fn.body.isNone = false)
    (hx : Kn K x (Is p)) (hy : Kn K y (Wk (Far W) q)) (hc : ∀ w, Gr W w → Calls P f #[p, q] w fun en w' => ∃ v u, en = .returned (.tuple #[v, u]) ∧ TurnX w w' s v u) (h : wpMine P ops w0 n0 Q rest (upd K o.dst (TkK W s)) c C) : wpMine P ops w0 n0 Q (o :: rest) K c C := by
  refine step hg hd (TkK.stays W s) (fun a w ob hwf hl => ?_) h
  have h1 : a.eval x = p := looks_op (Ψ := Is p) (by simp [ho, Op.operands, Call.operands]) hx hl
  obtain ⟨h2, h3⟩ : Wk (Far W) q (a.eval y) w ob := looks_op (Ψ := Wk (Far W) q) (by simp [ho, Op.operands, Call.operands]) hy hl
  obtain ⟨dst, op, ty, pos, after, guard⟩ := o
  simp only at ho
  subst ho
  unfold does
  rw [execOp_call_go, Grow.enters hf hn hb]
  refine ⟨Gr.refl w, ?_⟩
  simp only [List.map_toArray, List.map_cons, List.map_nil, h1, h2]
  refine (hc w h3.1).mono fun en w' ⟨v, u, e1, ht⟩ => ?_
  obtain ⟨R, rfl, hin, hout⟩ := ht.ins
  exact ⟨_, e1, ht.gr, _, u, rfl, ⟨R, _, _, rfl, h3.1.size, hin, fun k hk => .inl (hwf k hk)⟩, _, _, h3.1.size, hout, fun k hk => .inl (hwf k hk)⟩
end
end Mine

end Go.Proofs.Ythpaoeiackbdoaa
