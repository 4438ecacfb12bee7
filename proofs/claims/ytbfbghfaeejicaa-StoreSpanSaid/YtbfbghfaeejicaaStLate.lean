/-
  'x, e := f(..)' in a region whose order is open: a call whose results are parted, the first one stored in a new block. No function of the program.
-/
import Derived.Test.YtbfbghfaeejicaaStRefTrim
import Derived.Test.YtbfbghfaeejicaaBaseE
namespace Go.Proofs.Ytbfbghfaeejicaa.Mine
open Go Go.RowKit Go.Proofs.Ytbfbghfaeejicaa

/-- the world has grown from W, and the row's block is none of W's -/
abbrev Far (W : World) : World → Option Nat → Prop := fun w ob => Gr W w ∧ ∀ k, ob = some k → W.heap.size ≤ k
theorem far_pay (W : World) : PayOk (Far W) := fun w ob w' ob' ⟨h1, h2⟩ hr => by
  have hs := h1.size
  refine ⟨⟨hr.gb.os.trans h1.os, hr.gb.tape.trans h1.tape, hr.gb.output.trans h1.output, Nat.le_trans hs hr.gb.size, fun k hk => ?_⟩, fun k hk => ?_⟩
  · exact (hr.gb.block k (by omega) (fun e => by have := h2 k e.symm; omega)).trans (h1.block k hk)
  · rcases hr.at_ with e | ⟨j, e, hj⟩
    · exact h2 k (by rw [← e]; exact hk)
    · rw [e] at hk; injection hk with hk; omega
section
variable {P : Program} {ops : Array Oper} {w0 : World} {n0 : Nat} {Q : (Tmp → Known) → Tmp → Known → Prop} {o : Oper} {rest : List Oper} {K : Tmp → Known} {c : Tmp} {C : Known}
/-- a call of plain values, one of which tells that the world has grown -/
theorem callF3 {f : FuncId} {x y z : Operand} {ats : Array TypeId} {W : World} {p q r res : Value} {fn : Func} (ho : o.op = .call { callee := .value (.func f), args := #[x, y, z], argTypes := ats }) (hg : o.guard = none) (hd : o.dst ≠ some c) (hf : P.funcs[f]? = some fn) (hn : (fn.name == "runtime.NumGoroutine") = false) (hb : fn.body.isNone = false)
    (hx : Kn K x (Is p)) (hy : Kn K y (Is q)) (hz : Kn K z (Wi (Far W) r)) (hc : ∀ w, Gr W w → Calls P f #[p, q, r] w fun en w' => en = .returned res ∧ Gr w w') (h : wpMine P ops w0 n0 Q rest (upd K o.dst (Is res)) c C) : wpMine P ops w0 n0 Q (o :: rest) K c C := by
  refine step hg hd (Is.stays res) (fun a w ob hwf hl => ?_) h
  have h1 : a.eval x = p := looks_op (Ψ := Is p) (by simp [ho, Op.operands, Call.operands]) hx hl
  have h2 : a.eval y = q := looks_op (Ψ := Is q) (by simp [ho, Op.operands, Call.operands]) hy hl
  obtain ⟨h3, h4⟩ : Wi (Far W) r (a.eval z) w ob := looks_op (Ψ := Wi (Far W) r) (by simp [ho, Op.operands, Call.operands]) hz hl
  obtain ⟨dst, op, ty, pos, after, guard⟩ := o
  simp only at ho
  subst ho
  unfold does
  rw [execOp_call_go, Grow.enters hf hn hb]
  refine ⟨Gr.refl w, ?_⟩
  have := hc w h4.1
  simp only [List.map_toArray, List.map_cons, List.map_nil, h1, h2, h3]
  exact this.mono fun en w' ⟨e1, e2⟩ => ⟨res, e1, e2, rfl⟩
/-- a part of what came back -/
theorem part {x : Operand} {i : Nat} {vs : Array Value} {u : Value} (ho : o.op = .extract x i) (hg : o.guard = none) (hd : o.dst ≠ some c) (hx : Kn K x (Is (.tuple vs))) (hu : vs[i]? = some u) (h : wpMine P ops w0 n0 Q rest (upd K o.dst (Is u)) c C) : wpMine P ops w0 n0 Q (o :: rest) K c C :=
  look1 (x := x) (Ψ := Is (.tuple vs)) hg hd (by simp [ho, Op.operands]) hx (Is.stays u) (fun a w ob h1 => ⟨u, by
    unfold execOp
    simp only [ho]
    rw [show a.eval x = .tuple vs from h1]
    unfold Instr.extract
    simp only [hu]
    rfl, rfl⟩) h
end
/-- none of a row's block: it has only grown -/
theorem RS.none {w w' : World} (h : RS w none w' none) : Gr w w' := ⟨h.gb.os, h.gb.tape, h.gb.output, h.gb.size, fun k hk => h.gb.block k hk (by simp)⟩
end Go.Proofs.Ytbfbghfaeejicaa.Mine
