/-
  'x, e := f(..)' in a region whose order is open: a call whose results are parted, the first one stored in a new block. No function of the program.
-/
import Derived.Test.YtbfbghfaeejicaaStRefTrim
import Derived.Test.YtbfbghfaeejicaaBaseE
import Derived.Test.YtbfbghfaeejicaaStGet
import Derived.Test.YtbfbghfaeejicaaPlayTxn
import Derived.Test.YtbfbghfaeejicaaStFacts
import Derived.Test.YtbfbghfaeejicaaStRef
import Derived.Test.YtbfbghfaeejicaaStOwn
namespace Go.Proofs.Ytbfbghfaeejicaa.Mine
open Go Go.RowKit Go.Proofs.Ytbfbghfaeejicaa

/-- the world has grown from W, and the row's block is none of W's -/
abbrev Far (W : World) : World → Option Nat → Prop := fun w ob => Gr W w ∧ ∀ k, ob = some k → W.heap.size ≤ k
theorem far_pay (W : World) : PayOk (Far W) := fun w ob w' ob' ⟨h1, h2⟩ hr => by
  have hs := h1.size
  refine ⟨⟨hr.gb.os.trans h1.os, hr.gb.tape.trans h1.tape, hr.gb.output.trans h1.output, Nat.le_trans hs hr.gb.size, fun k hk => ?_⟩, fun k hk => ?_⟩
  · exact (hr.gb.block k (by omega) (fun e => by have := h2 k e.symm; omega)).trans (h1.block k hk)
  · rcases hr.at_ with e | ⟨j, e, hj⟩
    · exact h2 k (by rw [← e]; exact hk)
    · rw [e] at hk; injection hk with hk; omega
section
variable {P : Program} {ops : Array Oper} {w0 : World} {n0 : Nat} {Q : (Tmp → Known) → Tmp → Known → Prop} {o : Oper} {rest : List Oper} {K : Tmp → Known} {c : Tmp} {C : Known}
/-- a call of plain values, one of which tells that the world has grown -/
theorem callF3 {f : FuncId} {x y z : Operand} {ats : Array TypeId} {W : World} {p q r res : Value} {fn : Func} (ho : o.op = .call { callee := .value (.func f), args := #[x, y, z], argTypes := ats }) (hg : o.guard = none) (hd : o.dst ≠ some c) (hf : P.funcs[f]? = some fn) (hn : (fn.name == "runtime.NumGoroutine") = false) (hb : fn.body.isNone = false)
    (hx : Kn K x (Is p)) (hy : Kn K y (Is q)) (hz : Kn K z (Wi (Far W) r)) (hc : ∀ w, Gr W w → Calls P f #[p, q, r] w fun en w' => en = .returned res ∧ Gr w w') (h : wpMine P ops w0 n0 Q rest (upd K o.dst (Is res)) c C) : wpMine P ops w0 n0 Q (o :: rest) K c C := by
  refine step hg hd (Is.stays res) (fun a w ob hwf hl => ?_) h
  have h1 : a.eval x = p := looks_op (Ψ := Is p) (by simp [ho, Op.operands, Call.operands]) hx hl
  have h2 : a.eval y = q := looks_op (Ψ := Is q) (by simp [ho, Op.operands, Call.operands]) hy hl
  obtain ⟨h3, h4⟩ : Wi (Far W) r (a.eval z) w ob := looks_op (Ψ := Wi (Far W) r) (by simp [ho, Op.operands, Call.operands]) hz hl
  obtain ⟨dst, op, ty, pos, after, guard⟩ := o
  simp only at ho
  subst ho
  unfold does
  rw [execOp_call_go, Grow.enters hf hn hb]
  refine ⟨Gr.refl w, ?_⟩
  have := hc w h4.1
  simp only [List.map_toArray, List.map_cons, List.map_nil, h1, h2, h3]
  exact this.mono fun en w' ⟨e1, e2⟩ => ⟨res, e1, e2, rfl⟩
/-- a part of what came back -/
theorem part {x : Operand} {i : Nat} {vs : Array Value} {u : Value} (ho : o.op = .extract x i) (hg : o.guard = none) (hd : o.dst ≠ some c) (hx : Kn K x (Is (.tuple vs))) (hu : vs[i]? = some u) (h : wpMine P ops w0 n0 Q rest (upd K o.dst (Is u)) c C) : wpMine P ops w0 n0 Q (o :: rest) K c C :=
  look1 (x := x) (Ψ := Is (.tuple vs)) hg hd (by simp [ho, Op.operands]) hx (Is.stays u) (fun a w ob h1 => ⟨u, by
    unfold execOp
    simp only [ho]
    rw [show a.eval x = .tuple vs from h1]
    unfold Instr.extract
    simp only [hu]
    rfl, rfl⟩) h
end
/-- what a chain of calls on a block of their own hands back -/
abbrev MkF (W : World) (Ψ : Nat → World → Prop) : Known := fun v w o => ∃ g, v = .pointer (some ⟨g, 0, none⟩) ∧ o = some g ∧ W.heap.size ≤ g ∧ Gr W w ∧ Ψ g w
abbrev PeF (W : World) (Φ : Value → World → Prop) : Known := fun v w o => (∃ g, o = some g ∧ W.heap.size ≤ g) ∧ Gr W w ∧ Φ v w
theorem MkF.keeps (W : World) {Ψ : Nat → World → Prop} (h : ∀ g w w', Ψ g w → Gr w w' → Ψ g w') : Keeps (MkF W Ψ) := fun _ _ _ _ ⟨g, h1, h2, h3, h4, h5⟩ hg => ⟨g, h1, h2, h3, h4.trans hg, h g _ _ h5 hg⟩
theorem PeF.keeps (W : World) {Φ : Value → World → Prop} (h : ∀ v w w', Φ v w → Gr w w' → Φ v w') : Keeps (PeF W Φ) := fun _ _ _ _ ⟨h1, h2, h3⟩ hg => ⟨h1, h2.trans hg, h _ _ _ h3 hg⟩
section
variable {P : Program} {ops : Array Oper} {w0 : World} {n0 : Nat} {Q : (Tmp → Known) → Tmp → Known → Prop} {o : Oper} {rest : List Oper} {K : Tmp → Known} {c : Tmp} {C : Known}
theorem chain_newF {d : Tmp} {f : FuncId} {x : Operand} {ats : Array TypeId} {W : World} {p : Value} {fn : Func} {Ψ : Nat → World → Prop} (ho : o.op = .call { callee := .value (.func f), args := #[x], argTypes := ats }) (hd : o.dst = some d) (hg : o.guard = none) (hk : n0 ≤ c) (hf : P.funcs[f]? = some fn) (hn : (fn.name == "runtime.NumGoroutine") = false) (hb : fn.body.isNone = false)
    (hx : Kn K x (Wi (Far W) p)) (hI : ∀ g w w', Ψ g w → Gr w w' → Ψ g w') (hc : ∀ w, Gr W w → Calls P f #[p] w fun en w' => ∃ g, en = .returned (.pointer (some ⟨g, 0, none⟩)) ∧ Gr w w' ∧ w.heap.size ≤ g ∧ g < w'.heap.size ∧ Ψ g w')
    (h : wpMine P ops w0 n0 Q rest (upd K (some d) top) d (MkF W Ψ)) : wpMine P ops w0 n0 Q (o :: rest) K c C := by
  refine chain hd hg (.inr hk) (MkF.keeps W hI) (fun a w ob ob0 hrs hwf hl hC => ?_) h
  obtain ⟨h1, h2, _⟩ : Wi (Far W) p (a.eval x) w ob := looks_op (Ψ := Wi (Far W) p) (by simp [ho, Op.operands, Call.operands]) hx hl
  obtain ⟨dst, op, ty, pos, after, guard⟩ := o
  simp only at ho
  subst ho
  unfold doesC
  rw [execOp_call_go, Grow.enters hf hn hb]
  show Calls _ _ _ _ _
  simp only [List.map_toArray, List.map_cons, List.map_nil, h1]
  have hs := h2.size
  refine (hc w h2).mono fun en w' ⟨g, he, hgr, hge, hlt, hI'⟩ => ⟨_, some g, he, ⟨(RS.of_gr hgr).gb, .inr ⟨g, rfl, hge⟩⟩, fun k hk2 => (by injection hk2 with hk2; omega), g, rfl, rfl, (by omega), h2.trans hgr, hI'⟩
theorem chain_useF {d : Tmp} {f : FuncId} {y : Operand} {ats : Array TypeId} {W : World} {q : Value} {fn : Func} {Ψ : Nat → World → Prop} {Φ : Value → World → Prop} (ho : o.op = .call { callee := .value (.func f), args := #[.tmp c, y], argTypes := ats }) (hd : o.dst = some d) (hg : o.guard = none) (hf : P.funcs[f]? = some fn) (hn : (fn.name == "runtime.NumGoroutine") = false) (hb : fn.body.isNone = false)
    (hy : Kn K y (Is q)) (hI : ∀ v w w', Φ v w → Gr w w' → Φ v w') (hc : ∀ g w, Gr W w → W.heap.size ≤ g → Ψ g w → Calls P f #[.pointer (some ⟨g, 0, none⟩), q] w fun en w' => ∃ z, en = .returned z ∧ But w w' g ∧ Φ z w')
    (h : wpMine P ops w0 n0 Q rest (upd K (some d) top) d (PeF W Φ)) : wpMine P ops w0 n0 Q (o :: rest) K c (MkF W Ψ) := by
  refine chain hd hg (.inl (looks_tmp (by simp [ho, Op.operands, Call.operands]))) (PeF.keeps W hI) (fun a w ob ob0 hrs hwf hl hC => ?_) h
  obtain ⟨g, h1, rfl, h3, h4, h5⟩ := hC
  have h2 : a.eval y = q := looks_op (Ψ := Is q) (by simp [ho, Op.operands, Call.operands]) hy hl
  have h1' : a.eval (.tmp c) = .pointer (some ⟨g, 0, none⟩) := h1
  obtain ⟨dst, op, ty, pos, after, guard⟩ := o
  simp only at ho
  subst ho
  unfold doesC
  rw [execOp_call_go, Grow.enters hf hn hb]
  show Calls _ _ _ _ _
  simp only [List.map_toArray, List.map_cons, List.map_nil, h1', h2]
  exact (hc g w h4 h3 h5).mono fun en w' ⟨z, he, hbt, hI'⟩ => ⟨z, some g, he, RS.of_but hbt, fun k hk2 => Nat.lt_of_lt_of_le (hwf k hk2) hbt.size, ⟨g, rfl, h3⟩, h4.fresh_ hbt h3, hI'⟩
theorem chain_fieldF {d : Tmp} {ty : TypeId} {i : Nat} {W : World} {Φ Φ' : Value → World → Prop} (ho : o.op = .field ty (.tmp c) i) (hd : o.dst = some d) (hg : o.guard = none) (hI : ∀ v w w', Φ' v w → Gr w w' → Φ' v w') (hr : ∀ v w, Φ v w → ∃ z, (Instr.field ty v i).run P w = .ok z w ∧ Φ' z w)
    (h : wpMine P ops w0 n0 Q rest (upd K (some d) top) d (PeF W Φ')) : wpMine P ops w0 n0 Q (o :: rest) K c (PeF W Φ) := by
  refine chain hd hg (.inl (looks_tmp (by simp [ho, Op.operands]))) (PeF.keeps W hI) (fun a w ob ob0 _ hwf _ hC => ?_) h
  obtain ⟨h1, h2, h5⟩ := hC
  obtain ⟨z, h3, h4⟩ := hr _ w h5
  unfold doesC execOp
  simp only [ho, show a.eval (.tmp c) = a.tmps.getD c undef from rfl]
  rw [Sem.run_bind, h3]
  exact ⟨ob, RS.refl w _, hwf, h1, h2, h4⟩
theorem chain_callF {d : Tmp} {f : FuncId} {x y : Operand} {ats : Array TypeId} {W : World} {p q : Value} {fn : Func} {Φ Φ' : Value → World → Prop} (ho : o.op = .call { callee := .value (.func f), args := #[x, y, .tmp c], argTypes := ats }) (hd : o.dst = some d) (hg : o.guard = none) (hf : P.funcs[f]? = some fn) (hn : (fn.name == "runtime.NumGoroutine") = false) (hb : fn.body.isNone = false)
    (hx : Kn K x (Is p)) (hy : Kn K y (Is q)) (hI : ∀ v w w', Φ' v w → Gr w w' → Φ' v w') (hc : ∀ v w, Gr W w → Φ v w → Calls P f #[p, q, v] w fun en w' => ∃ z, en = .returned z ∧ Gr w w' ∧ Φ' z w')
    (h : wpMine P ops w0 n0 Q rest (upd K (some d) top) d (PeF W Φ')) : wpMine P ops w0 n0 Q (o :: rest) K c (PeF W Φ) := by
  refine chain hd hg (.inl (looks_tmp (by simp [ho, Op.operands, Call.operands]))) (PeF.keeps W hI) (fun a w ob ob0 hrs hwf hl hC => ?_) h
  obtain ⟨⟨g, rfl, h3⟩, h4, h5⟩ := hC
  have h1 : a.eval x = p := looks_op (Ψ := Is p) (by simp [ho, Op.operands, Call.operands]) hx hl
  have h2 : a.eval y = q := looks_op (Ψ := Is q) (by simp [ho, Op.operands, Call.operands]) hy hl
  have h6 : a.eval (.tmp c) = a.tmps.getD c undef := rfl
  obtain ⟨dst, op, ty, pos, after, guard⟩ := o
  simp only at ho
  subst ho
  unfold doesC
  rw [execOp_call_go, Grow.enters hf hn hb]
  show Calls _ _ _ _ _
  simp only [List.map_toArray, List.map_cons, List.map_nil, h1, h2, h6]
  exact (hc _ w h4 h5).mono fun en w' ⟨z, he, hgr, hI'⟩ => ⟨z, some g, he, RS.of_gr hgr, hwf.gr hgr, ⟨g, rfl, h3⟩, h4.trans hgr, hI'⟩
end
/-- none of a row's block: it has only grown -/
theorem RS.none {w w' : World} (h : RS w none w' none) : Gr w w' := ⟨h.gb.os, h.gb.tape, h.gb.output, h.gb.size, fun k hk => h.gb.block k hk (by simp)⟩
end Go.Proofs.Ytbfbghfaeejicaa.Mine

/-! In a growing region: an operation that reads. -/
namespace Go.Proofs.Ytbfbghfaeejicaa.Grow
open Go Go.RowKit Go.Proofs.Ytbfbghfaeejicaa
section
variable {P : Program} {ops : Array Oper} {w0 : World} {n0 : Nat} {Q : (Tmp → Known) → Prop} {o : Oper} {rest : List Oper} {K : Tmp → Known}
theorem grow_see1 {x : Operand} {u z : Value} (hw : Wanted ops K n0 o true) (hxo : x ∈ o.op.operands) (hx : Kn K x (Is u)) (hr : ∀ (a : Act) (w : World), Gr w0 w → a.eval x = u → (execOp a.eval o).run P w = .ok (.value z) w) (h : wpGrow P ops w0 n0 Q rest (upd K o.dst (Is z))) : wpGrow P ops w0 n0 Q (o :: rest) K := by
  refine grow_step hw (fun _ => Is.stays _) (fun a w hg _ hl => ?_) h
  have h1 : a.eval x = u := looks_op (Ψ := Is u) hxo hx hl
  unfold does
  rw [hr a w hg h1]
  exact ⟨Gr.refl w, rfl⟩
theorem grow_see2 {x y : Operand} {u v z : Value} (hw : Wanted ops K n0 o true) (hxo : x ∈ o.op.operands) (hyo : y ∈ o.op.operands) (hx : Kn K x (Is u)) (hy : Kn K y (Is v)) (hr : ∀ (a : Act) (w : World), Gr w0 w → a.eval x = u → a.eval y = v → (execOp a.eval o).run P w = .ok (.value z) w) (h : wpGrow P ops w0 n0 Q rest (upd K o.dst (Is z))) : wpGrow P ops w0 n0 Q (o :: rest) K := by
  refine grow_step hw (fun _ => Is.stays _) (fun a w hg _ hl => ?_) h
  have h1 : a.eval x = u := looks_op (Ψ := Is u) hxo hx hl
  have h2 : a.eval y = v := looks_op (Ψ := Is v) hyo hy hl
  unfold does
  rw [hr a w hg h1 h2]
  exact ⟨Gr.refl w, rfl⟩
end
end Go.Proofs.Ytbfbghfaeejicaa.Grow

/-
  Rows of api.Read, an operation at a time. No function of the program.
-/
namespace Go.Proofs.Ytbfbghfaeejicaa
open Go Go.RowKit ChMath KeyMath StMath TxnMath
set_option maxRecDepth 100000

theorem size_rd (w : World) : (sizeOf (Try.prog.elem 28)).run Try.prog w = .ok 4 w := by kernel_rfl
theorem exec_idxRd {ev : Operand → Value} {o : Oper} {x y : Operand} {ad : Addr} {n c k : Nat} (ho : o.op = .indexAddr 28 x y) (hx : ev x = .slice (some ad) n c) (hy : ev y = .int .i64 (k : Int)) (hk : k < n) (w : World) :
    (execOp ev o).run Try.prog w = .ok (.value (.pointer (some (ad.add (k * 4))))) w := by
  unfold execOp
  simp only [ho, hx, hy, Sem.run_bind, run_indexAt_slice w 28 _ _ _ _ _ (show Try.prog.underlying 28 = some (.slice (Try.prog.elem 28)) by kernel_rfl)]
  rw [if_pos (by omega), size_rd w]
  simp only [Result.andThen_ok, Int.toNat_natCast]
  rfl
theorem exec_fldRd {ev : Operand → Value} {o : Oper} {x : Operand} {p : Addr} (ho : o.op = .fieldAddr 40 x 0) (hx : ev x = .pointer (some p)) (w : World) :
    (execOp ev o).run Try.prog w = .ok (.value (.pointer (some p))) w := by
  unfold execOp
  simp only [ho, hx]
  simp [go_sem]
theorem exec_loadStr {ev : Operand → Value} {o : Oper} {x : Operand} {p : Addr} {s : ByteArray} (ho : o.op = .load 9 x) (hx : ev x = .pointer (some p)) {w : World} (hc : w.cell? p = some (.string s)) :
    (execOp ev o).run Try.prog w = .ok (.value (.string s)) w := by
  unfold execOp
  simp only [ho, hx]
  simp [go_sem, hc]
theorem exec_loadRd {ev : Operand → Value} {o : Oper} {x : Operand} {p : Addr} {r : RdT} (ho : o.op = .load 40 x) (hx : ev x = .pointer (some p)) {w : World} (h0 : w.cell? p = some (.string r.key)) (h1 : w.cell? ⟨p.block, p.off + 1, none⟩ = some (.int .i64 r.ver)) (h2 : w.cell? ⟨p.block, p.off + 2, none⟩ = some (.string r.val)) (h3 : w.cell? ⟨p.block, p.off + 3, none⟩ = some (.bool r.there)) :
    (execOp ev o).run Try.prog w = .ok (.value (rdA r)) w := by
  unfold execOp rdA
  simp only [ho, hx]
  simp [go_sem, h0, h1, h2, h3]
theorem exec_neqRd {ev : Operand → Value} {o : Oper} {x y : Operand} {r : RdT} {t : TypeId} (ho : o.op = .binOp .neq 40 x y t) (hx : ev x = rdA r) (hy : ev y = rdA r) (w : World) :
    (execOp ev o).run Try.prog w = .ok (.value (.bool false)) w := by
  unfold execOp
  simp only [ho, hx, hy]
  unfold rdA
  simp [go_sem]
end Go.Proofs.Ytbfbghfaeejicaa

/-
  More steps of a growing region: calls of four operands, what is read of what is known; single cells by index. No function of the program.
-/
namespace Go.Proofs.Ytbfbghfaeejicaa.Grow
open Go Go.RowKit Go.Proofs.Ytbfbghfaeejicaa StMath
section
variable {P : Program} {ops : Array Oper} {w0 : World} {n0 : Nat} {Q : (Tmp → Known) → Prop} {o : Oper} {rest : List Oper} {K : Tmp → Known} {Φ : Known}
theorem grow_call4 {f : FuncId} {x y z q : Operand} {ats : Array TypeId} {Ψ Ψ' Ψ'' Ψ3 : Known} {fn : Func} (ho : o.op = .call { callee := .value (.func f), args := #[x, y, z, q], argTypes := ats }) (hw : Wanted ops K n0 o true) (hf : P.funcs[f]? = some fn) (hn : (fn.name == "runtime.NumGoroutine") = false) (hb : fn.body.isNone = false)
    (hx : Kn K x Ψ) (hy : Kn K y Ψ') (hz : Kn K z Ψ'') (hq : Kn K q Ψ3) (hst : Stays Φ) (hc : ∀ v u t s w, Gr w0 w → Ψ v w → Ψ' u w → Ψ'' t w → Ψ3 s w → Calls P f #[v, u, t, s] w fun e w' => ∃ u, e = .returned u ∧ Gr w w' ∧ Φ u w') (h : wpGrow P ops w0 n0 Q rest (upd K o.dst Φ)) : wpGrow P ops w0 n0 Q (o :: rest) K := by
  refine grow_step hw (fun _ => hst) (fun a w hg _ hl => ?_) h
  have h1 : Ψ (a.eval x) w := looks_op (by simp [ho, Op.operands, Call.operands]) hx hl
  have h2 : Ψ' (a.eval y) w := looks_op (by simp [ho, Op.operands, Call.operands]) hy hl
  have h3 : Ψ'' (a.eval z) w := looks_op (by simp [ho, Op.operands, Call.operands]) hz hl
  have h4 : Ψ3 (a.eval q) w := looks_op (by simp [ho, Op.operands, Call.operands]) hq hl
  obtain ⟨dst, op, ty, pos, after, guard⟩ := o
  simp only at ho
  subst ho
  unfold does
  rw [execOp_call_go, enters hf hn hb]
  exact ⟨Gr.refl w, by simpa using hc _ _ _ _ w hg h1 h2 h3 h4⟩
theorem grow_partK {x : Operand} {i : Nat} {Ψ : Known} (ho : o.op = .extract x i) (hw : Wanted ops K n0 o true) (hx : Kn K x Ψ) (hst : Stays Φ) (hr : ∀ v w, Ψ v w → ∃ z, (Instr.extract v i).run P w = .ok z w ∧ Φ z w) (h : wpGrow P ops w0 n0 Q rest (upd K o.dst Φ)) : wpGrow P ops w0 n0 Q (o :: rest) K := by
  refine grow_step hw (fun _ => hst) (fun a w hg _ hl => ?_) h
  have h1 : Ψ (a.eval x) w := looks_op (Ψ := Ψ) (by simp [ho, Op.operands]) hx hl
  obtain ⟨z, h2, h3⟩ := hr _ w h1
  unfold does execOp
  simp only [ho]
  rw [Sem.run_bind, h2]
  exact ⟨Gr.refl w, h3⟩
end
/-- a store, as it comes back -/
abbrev SvK (cs : List ChT) (m : Int) : Known := fun v w => ∃ u, v = .agg #[u, .int .i64 m] ∧ ChnsX w u cs
theorem SvK.stays (cs : List ChT) (m : Int) : Stays (SvK cs m) := fun _ _ _ ⟨u, h1, h2⟩ hg => ⟨u, h1, h2.gr hg⟩
/-- a row of this length -/
abbrev RwK (k n : Nat) (rs : List (List Value)) : Known := fun v w => ∃ A c, v = .slice A n c ∧ RowAt k w (.slice A n c) rs
theorem RwK.stays (k n : Nat) (rs : List (List Value)) : Stays (RwK k n rs) := fun _ _ _ ⟨A, c, h1, h2⟩ hg => ⟨A, c, h1, h2.gr hg⟩
abbrev TwK (k n : Nat) (rs : List (List Value)) (e : Int) : Known := fun v w => ∃ A c, v = .tuple #[.slice A n c, .int .i64 e] ∧ RowAt k w (.slice A n c) rs
theorem TwK.stays (k n : Nat) (rs : List (List Value)) (e : Int) : Stays (TwK k n rs e) := fun _ _ _ ⟨A, c, h1, h2⟩ hg => ⟨A, c, h1, h2.gr hg⟩
end Go.Proofs.Ytbfbghfaeejicaa.Grow

namespace Go.Proofs.Ytbfbghfaeejicaa
open Go Go.RowKit ChMath KeyMath StMath TxnMath
set_option maxRecDepth 100000
theorem exec_idx1 {P : Program} {ev : Operand → Value} {o : Oper} {t : TypeId} {x y : Operand} {ad : Addr} {n c k : Nat} (ho : o.op = .indexAddr t x y) (ht : P.underlying t = some (.slice (P.elem t))) (hsz : ∀ w, (sizeOf (P.elem t)).run P w = .ok 1 w) (hx : ev x = .slice (some ad) n c) (hy : ev y = .int .i64 (k : Int)) (hk : k < n) (w : World) :
    (execOp ev o).run P w = .ok (.value (.pointer (some (ad.add k)))) w := by
  unfold execOp
  simp only [ho, hx, hy, Sem.run_bind, run_indexAt_slice w t _ _ _ _ _ ht]
  rw [if_pos (by omega), hsz w]
  simp only [Result.andThen_ok, Int.toNat_natCast, Nat.mul_one]
  rfl
theorem spanRS_eq {K : ByteArray → Prop} {M : Int} {s : StT} (h : CsOk K M s.chains) (f t : ByteArray) (p : Int) : spanRS s f t p = spanS s f t p := by
  unfold spanRS spanS
  rw [span_ref h.rise (fun c hc => hc)]
theorem spanS_len {N P : Nat} {s : StT} (h : Good P N s) (f t : ByteArray) (p : Int) : (spanS s f t p).1.length ≤ N := by
  unfold spanS
  split
  · exact Nat.zero_le _
  · exact Nat.le_trans (span_len f t p s.chains) h.bnd.1
theorem Good.wr {P N : Nat} {s : StT} (h : Good P N s) {p : Int} (hp : 1 ≤ p) {ws : List WrT} (hw : ∀ x ∈ ws, WrOk KeyIn x) : writeR p ws s.chains = writeC p ws s.chains :=
  (write_adds (K := KeyIn) (M := max p P) hp (by omega) (h.ok.wide (by omega)) hw).2
end Go.Proofs.Ytbfbghfaeejicaa

/-
  A store in which something is turned. No function of the program.
-/
namespace Go.Proofs.Ytbfbghfaeejicaa
open Go Go.RowKit ChMath KeyMath StMath
set_option maxRecDepth 100000

theorem flat_set0 {α : Type} {b : α} : ∀ {rs : List (List α)}, (∀ r ∈ rs, r.length = 2) → ∀ {j : Nat} {a : α} {r : List α}, rs[j]? = some r → r[1]? = some a → rs.flatten.set (j * 2) b = (rs.set j [b, a]).flatten
  | [], _, j, _, _, h, _ => by simp at h
  | r :: rs, hr, j, a, q, h, ha => by
    have h3 := hr r (by simp)
    match r, h3 with
    | [x, y], _ =>
      rcases j with _ | j
      · simp at h
        subst h
        simp at ha
        simp [ha]
      · have ih := flat_set0 (b := b) (rs := rs) (fun r h => hr r (by simp [h])) (j := j) (by simpa using h) ha
        simp only [List.set_cons_succ, List.flatten_cons, ← ih]
        rw [show (j + 1) * 2 = j * 2 + 1 + 1 by omega]
        simp
theorem itsKeyed {w : World} {B g n c : Nat} {is : List It} (h : ItsO w B (.slice (some ⟨g, 0, none⟩) n c) is) (hn : n = is.length) {k : Nat} (hk : k < is.length) (key : ByteArray) :
    ItsO (w.setCell ⟨g, k * 2, none⟩ (.string key)) B (.slice (some ⟨g, 0, none⟩) n c) (is.set k (⟨key, is[k].1.l⟩, is[k].2)) ∧ But w (w.setCell ⟨g, k * 2, none⟩ (.string key)) g := by
  subst hn
  have h1 := h.1.2
  rw [List.length_map] at h1
  obtain ⟨o1, g1⟩ := h1.stored (k * 2) (.string key)
  rw [flat_set0 (itC_two is) (j := k) (a := is[k].2) (r := itC is[k]) (by rw [List.getElem?_map, List.getElem?_eq_getElem hk]; rfl) rfl] at o1
  have e : (is.map itC).set k [.string key, is[k].2] = (is.set k (⟨key, is[k].1.l⟩, is[k].2)).map itC := by rw [List.map_set]; rfl
  rw [e] at o1
  have hv : ∀ i ∈ is, VersX (w.setCell ⟨g, k * 2, none⟩ (.string key)) i.2 i.1.l ∧ NotIn (Value.slice (some ⟨g, 0, none⟩) is.length c).ownBlock i.2 := itsKept h.2 ⟨g1, .inl rfl⟩
  refine ⟨⟨⟨itC_two _, by rw [List.length_map, List.length_set]; exact o1⟩, fun i hi => ?_⟩, g1⟩
  rcases List.mem_or_eq_of_mem_set hi with hi | hi
  · exact hv i hi
  · rw [hi]; exact hv is[k] (List.getElem_mem hk)
theorem itsBox {w w' : World} {B g : Nat} {v : Value} {is : List It} {t : TypeId} {bs : Array Value} (h : ItsO w B v is) (hbl : Bl w g t bs) (hs : bs.size ≤ 2) (hb : But w w' g) (hne : v.ownBlock ≠ some g) : ItsO w' B v is :=
  ⟨⟨h.1.1, World.ownsRow.kept h.1.2 hb (.inr hne)⟩, fun i hi => ⟨(h.2 i hi).1.kept ((h.2 i hi).1.notBox hbl hs) hb, (h.2 i hi).2⟩⟩
end Go.Proofs.Ytbfbghfaeejicaa
