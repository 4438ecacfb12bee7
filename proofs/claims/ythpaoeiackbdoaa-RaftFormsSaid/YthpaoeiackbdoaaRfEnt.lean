/-
  sendEntries.
-/
import Derived.Test.YthpaoeiackbdoaaRfMem
import Derived.Test.YthpaoeiackbdoaaEntGrow
namespace Go.Proofs.Ythpaoeiackbdoaa.Mine
open Go Go.RowKit Go.Proofs.Ythpaoeiackbdoaa TxnMath KeyMath MsgMath
set_option maxRecDepth 100000
section
variable {P : Program} {ops : Array Oper} {w0 : World} {n0 : Nat} {Q : (Tmp → Known) → Tmp → Known → Prop} {o : Oper} {rest : List Oper} {K : Tmp → Known} {Φ : Known} {c : Tmp} {C : Known}
/-- entries that lie neither in the row's block nor below B -/
abbrev Ex (B : Nat) (l : List EntT) : Known := fun v w o => EntsX (fun j => some j ≠ o ∧ B ≤ j) w v l
theorem ex_moves {B : Nat} {w w' : World} {o o' : Option Nat} (hr : RS w o w' o') : Moves (fun j => some j ≠ o ∧ B ≤ j) (fun j => some j ≠ o' ∧ B ≤ j) w w' := fun j hj hx => ⟨hr.gb.block j hj hx.1, by
  rcases hr.at_ with e | ⟨k, e, hk⟩
  · rw [e]; exact hx.1
  · rw [e]; intro e2; injection e2 with e2; omega, hx.2⟩
theorem Ex.stays (B : Nat) (l : List EntT) : Stays (Ex B l) := fun _ _ _ _ _ h _ hr => h.move (ex_moves hr)
/-- a pointer to a cell that holds such entries -/
abbrev Pe (B : Nat) (ad : Addr) (vl : Value) (l : List EntT) : Known := fun v w o => v = .pointer (some ad) ∧ w.cell? ad = some vl ∧ some ad.block ≠ o ∧ Ex B l vl w o
theorem Pe.stays (B : Nat) (ad : Addr) (vl : Value) (l : List EntT) : Stays (Pe B ad vl l) := fun v w o w' o' ⟨h1, h2, h3, h4⟩ hwf hr => by
  obtain ⟨a, h5, h6, h7⟩ := Ce.stays vl v w o w' o' ⟨ad, h1, h2, h3⟩ hwf hr
  rw [h1] at h5
  injection h5 with h5
  injection h5 with h5
  subst h5
  exact ⟨h1, h6, h7, Ex.stays B l _ _ _ _ _ h4 hwf hr⟩
/-- a block, and entries that one of its cells holds -/
abbrev Be (B g : Nat) (e : TypeId) (cs : Array Value) (vl : Value) (l : List EntT) : Known := fun v w o => Bx g e cs v w o ∧ Ex B l vl w o
theorem Be.stays (B g : Nat) (e : TypeId) (cs : Array Value) (vl : Value) (l : List EntT) : Stays (Be B g e cs vl l) := fun _ _ _ _ _ ⟨h1, h2⟩ hwf hr => ⟨Bx.stays g e cs _ _ _ _ _ h1 hwf hr, Ex.stays B l _ _ _ _ _ h2 hwf hr⟩
theorem step1 {x : Operand} {Ψ : Known} (hg : o.guard = none) (hd : o.dst ≠ some c) (hst : Stays Φ) (hxo : x ∈ o.op.operands) (hx : Kn K x Ψ) (hr : ∀ (a : Act) (w : World) (ob : Option Nat), Ψ (a.eval x) w ob → ∃ u, (execOp a.eval o).run P w = .ok (.value u) w ∧ Φ u w ob)
    (h : wpMine P ops w0 n0 Q rest (upd K o.dst Φ) c C) : wpMine P ops w0 n0 Q (o :: rest) K c C := by
  refine step hg hd hst (fun a w ob _ hl => ?_) h
  obtain ⟨u, h1, h2⟩ := hr a w ob (looks_op (Ψ := Ψ) hxo hx hl)
  unfold does
  rw [h1]
  exact ⟨Gr.refl w, h2⟩
theorem nil_be {x : Operand} {B g : Nat} {e : TypeId} {cs : Array Value} {vl : Value} {l : List EntT} (ho : o.op = .nilCheck x) (hg : o.guard = none) (hd : o.dst ≠ some c) (hx : Kn K x (Be B g e cs vl l)) (h : wpMine P ops w0 n0 Q rest (upd K o.dst (Be B g e cs vl l)) c C) : wpMine P ops w0 n0 Q (o :: rest) K c C := by
  refine step1 (x := x) hg hd (Be.stays B g e cs vl l) (by simp [ho, Op.operands]) hx (fun a w ob hh => ⟨_, ?_, hh⟩) h
  unfold execOp
  simp only [ho, hh.1.1]
  rfl
/-- 'x.F' where it lies, the first field -/
theorem first_be {t : TypeId} {x : Operand} {B g : Nat} {e : TypeId} {cs : Array Value} {vl : Value} {l : List EntT} (ho : o.op = .fieldAddr t x 0) (hg : o.guard = none) (hd : o.dst ≠ some c) (hx : Kn K x (Be B g e cs vl l)) (hr : ∀ w, (Instr.fieldAt t (.pointer (some ⟨g, 0, none⟩)) 0).run P w = .ok (.pointer (some ⟨g, 0, none⟩)) w)
    (h : wpMine P ops w0 n0 Q rest (upd K o.dst (Be B g e cs vl l)) c C) : wpMine P ops w0 n0 Q (o :: rest) K c C := by
  refine step1 (x := x) hg hd (Be.stays B g e cs vl l) (by simp [ho, Op.operands]) hx (fun a w ob hh => ⟨_, ?_, hh⟩) h
  unfold execOp
  simp only [ho, hh.1.1]
  rw [Sem.run_bind, hr w]
  rfl
theorem field_ce {t : TypeId} {x : Operand} {i B g j : Nat} {e : TypeId} {cs : Array Value} {vl u : Value} {l : List EntT} (ho : o.op = .fieldAddr t x i) (hg : o.guard = none) (hd : o.dst ≠ some c) (hx : Kn K x (Be B g e cs vl l)) (hr : ∀ w, (Instr.fieldAt t (.pointer (some ⟨g, 0, none⟩)) i).run P w = .ok (.pointer (some ⟨g, j, none⟩)) w)
    (hu : cs[j]? = some u) (h : wpMine P ops w0 n0 Q rest (upd K o.dst (Ce u)) c C) : wpMine P ops w0 n0 Q (o :: rest) K c C := by
  refine step1 (x := x) hg hd (Ce.stays u) (by simp [ho, Op.operands]) hx (fun a w ob hh => ⟨.pointer (some ⟨g, j, none⟩), ?_, _, rfl, by rw [hh.1.2.1.cell]; exact hu, hh.1.2.2⟩) h
  unfold execOp
  simp only [ho, hh.1.1]
  rw [Sem.run_bind, hr w]
  rfl
theorem field_pe {t : TypeId} {x : Operand} {i B g j : Nat} {e : TypeId} {cs : Array Value} {vl : Value} {l : List EntT} (ho : o.op = .fieldAddr t x i) (hg : o.guard = none) (hd : o.dst ≠ some c) (hx : Kn K x (Be B g e cs vl l)) (hr : ∀ w, (Instr.fieldAt t (.pointer (some ⟨g, 0, none⟩)) i).run P w = .ok (.pointer (some ⟨g, j, none⟩)) w)
    (hu : cs[j]? = some vl) (h : wpMine P ops w0 n0 Q rest (upd K o.dst (Pe B ⟨g, j, none⟩ vl l)) c C) : wpMine P ops w0 n0 Q (o :: rest) K c C := by
  refine step1 (x := x) hg hd (Pe.stays B _ vl l) (by simp [ho, Op.operands]) hx (fun a w ob hh => ⟨.pointer (some ⟨g, j, none⟩), ?_, rfl, by rw [hh.1.2.1.cell]; exact hu, hh.1.2.2, hh.2⟩) h
  unfold execOp
  simp only [ho, hh.1.1]
  rw [Sem.run_bind, hr w]
  rfl
theorem load_pe {t : TypeId} {x : Operand} {B : Nat} {ad : Addr} {vl : Value} {l : List EntT} (ho : o.op = .load t x) (hg : o.guard = none) (hd : o.dst ≠ some c) (ha : ∀ w, (isAgg t).run P w = .ok false w) (hx : Kn K x (Pe B ad vl l))
    (h : wpMine P ops w0 n0 Q rest (upd K o.dst (Ex B l)) c C) : wpMine P ops w0 n0 Q (o :: rest) K c C := by
  refine step1 (x := x) hg hd (Ex.stays B l) (by simp [ho, Op.operands]) hx (fun a w ob hh => ⟨vl, ?_, hh.2.2.2⟩) h
  have hr : (Instr.loadAt t (.pointer (some ad))).run P w = .ok vl w := by simp [Instr.loadAt, Instr.sureAddr, loadVar, ha w, hh.2.1]
  unfold execOp
  simp only [ho, hh.1]
  rw [Sem.run_bind, hr]
  rfl
theorem mid_ex {P : Program} {x y z : Operand} {t : TypeId} {B i j : Nat} {l : List EntT} (ho : o.op = .slice t x (some y) (some z) none) (hg : o.guard = none) (hd : o.dst ≠ some c) (ht : P.underlying t = some (.slice (P.elem t))) (hsz : ∀ w, (sizeOf (P.elem t)).run P w = .ok 6 w)
    (hx : Kn K x (Ex B l)) (hy : Kn K y (Is (.int .i64 (i : Int)))) (hz : Kn K z (Is (.int .i64 (j : Int)))) (hij : i ≤ j) (hj : j ≤ l.length) (h : wpMine P ops w0 n0 Q rest (upd K o.dst (Ex B ((l.take j).drop i))) c C) : wpMine P ops w0 n0 Q (o :: rest) K c C := by
  refine step hg hd (Ex.stays B _) (fun a w ob _ hl => ?_) h
  have hb : Ex B l (a.eval x) w ob := looks_op (Ψ := Ex B l) (by simp [ho, Op.operands]) hx hl
  have h2 : a.eval y = .int .i64 (i : Int) := looks_op (Ψ := Is (.int .i64 (i : Int))) (by simp [ho, Op.operands]) hy hl
  have h3 : a.eval z = .int .i64 (j : Int) := looks_op (Ψ := Is (.int .i64 (j : Int))) (by simp [ho, Op.operands]) hz hl
  obtain ⟨A, cp, h1⟩ := hb.is
  rw [h1] at hb
  have hle := EntsX.le hb
  have hr := exec_mid (w := w) ho h1 h2 h3 hij (by omega) ht hsz
  unfold does
  rw [hr]
  exact ⟨Gr.refl w, (hb.take j hj).drop i hij⟩
theorem call1 {f : FuncId} {x : Operand} {ats : Array TypeId} {fn : Func} {Ψ : Known} (ho : o.op = .call { callee := .value (.func f), args := #[x], argTypes := ats }) (hg : o.guard = none) (hd : o.dst ≠ some c) (hf : P.funcs[f]? = some fn) (hn : (fn.name == "runtime.NumGoroutine") = false) (hb : fn.body.isNone = false)
    (hst : Stays Φ) (hx : Kn K x Ψ) (hc : ∀ v w ob, Wf w ob → w0.heap.size ≤ w.heap.size → Ψ v w ob → Calls P f #[v] w fun en w' => ∃ u, en = .returned u ∧ Gr w w' ∧ Φ u w' ob) (h : wpMine P ops w0 n0 Q rest (upd K o.dst Φ) c C) : wpMine P ops w0 n0 Q (o :: rest) K c C := by
  refine .inl ⟨Φ, fun _ => hst, hd, fun a w ob ob0 hrs hwf _ hl => ?_, h⟩
  have hw : Region.wanted o (yielded ops a.tmps) = true := by simp [Region.wanted, hg]
  rw [if_pos hw]
  have h1 : Ψ (a.eval x) w ob := looks_op (Ψ := Ψ) (by simp [ho, Op.operands, Call.operands]) hx hl
  obtain ⟨dst, op, ty, pos, after, guard⟩ := o
  simp only at ho
  subst ho
  unfold does
  rw [execOp_call_go, Grow.enters hf hn hb]
  refine ⟨Gr.refl w, ?_⟩
  simp only [List.map_toArray, List.map_cons, List.map_nil]
  exact hc _ w ob hwf hrs.gb.size h1
theorem call2 {f : FuncId} {x y : Operand} {ats : Array TypeId} {fn : Func} {Ψ Ψ' : Known} (ho : o.op = .call { callee := .value (.func f), args := #[x, y], argTypes := ats }) (hg : o.guard = none) (hd : o.dst ≠ some c) (hf : P.funcs[f]? = some fn) (hn : (fn.name == "runtime.NumGoroutine") = false) (hb : fn.body.isNone = false)
    (hst : Stays Φ) (hx : Kn K x Ψ) (hy : Kn K y Ψ') (hc : ∀ v u w ob, Wf w ob → w0.heap.size ≤ w.heap.size → Ψ v w ob → Ψ' u w ob → Calls P f #[v, u] w fun en w' => ∃ u, en = .returned u ∧ Gr w w' ∧ Φ u w' ob) (h : wpMine P ops w0 n0 Q rest (upd K o.dst Φ) c C) : wpMine P ops w0 n0 Q (o :: rest) K c C := by
  refine .inl ⟨Φ, fun _ => hst, hd, fun a w ob ob0 hrs hwf _ hl => ?_, h⟩
  have hw : Region.wanted o (yielded ops a.tmps) = true := by simp [Region.wanted, hg]
  rw [if_pos hw]
  have h1 : Ψ (a.eval x) w ob := looks_op (Ψ := Ψ) (by simp [ho, Op.operands, Call.operands]) hx hl
  have h2 : Ψ' (a.eval y) w ob := looks_op (Ψ := Ψ') (by simp [ho, Op.operands, Call.operands]) hy hl
  obtain ⟨dst, op, ty, pos, after, guard⟩ := o
  simp only at ho
  subst ho
  unfold does
  rw [execOp_call_go, Grow.enters hf hn hb]
  refine ⟨Gr.refl w, ?_⟩
  simp only [List.map_toArray, List.map_cons, List.map_nil]
  exact hc _ _ w ob hwf hrs.gb.size h1 h2
theorem call3 {f : FuncId} {x y z : Operand} {ats : Array TypeId} {fn : Func} {Ψ Ψ' Ψ'' : Known} (ho : o.op = .call { callee := .value (.func f), args := #[x, y, z], argTypes := ats }) (hg : o.guard = none) (hd : o.dst ≠ some c) (hf : P.funcs[f]? = some fn) (hn : (fn.name == "runtime.NumGoroutine") = false) (hb : fn.body.isNone = false)
    (hst : Stays Φ) (hx : Kn K x Ψ) (hy : Kn K y Ψ') (hz : Kn K z Ψ'') (hc : ∀ v u s w ob, Wf w ob → w0.heap.size ≤ w.heap.size → Ψ v w ob → Ψ' u w ob → Ψ'' s w ob → Calls P f #[v, u, s] w fun en w' => ∃ u, en = .returned u ∧ Gr w w' ∧ Φ u w' ob) (h : wpMine P ops w0 n0 Q rest (upd K o.dst Φ) c C) : wpMine P ops w0 n0 Q (o :: rest) K c C := by
  refine .inl ⟨Φ, fun _ => hst, hd, fun a w ob ob0 hrs hwf _ hl => ?_, h⟩
  have hw : Region.wanted o (yielded ops a.tmps) = true := by simp [Region.wanted, hg]
  rw [if_pos hw]
  have h1 : Ψ (a.eval x) w ob := looks_op (Ψ := Ψ) (by simp [ho, Op.operands, Call.operands]) hx hl
  have h2 : Ψ' (a.eval y) w ob := looks_op (Ψ := Ψ') (by simp [ho, Op.operands, Call.operands]) hy hl
  have h3 : Ψ'' (a.eval z) w ob := looks_op (Ψ := Ψ'') (by simp [ho, Op.operands, Call.operands]) hz hl
  obtain ⟨dst, op, ty, pos, after, guard⟩ := o
  simp only at ho
  subst ho
  unfold does
  rw [execOp_call_go, Grow.enters hf hn hb]
  refine ⟨Gr.refl w, ?_⟩
  simp only [List.map_toArray, List.map_cons, List.map_nil]
  exact hc _ _ _ w ob hwf hrs.gb.size h1 h2 h3
/-- a load of a cell of which more is known than its value -/
theorem load_k {t : TypeId} {x : Operand} {Ψ : Known} (ho : o.op = .load t x) (hg : o.guard = none) (hd : o.dst ≠ some c) (ha : ∀ w, (isAgg t).run P w = .ok false w) (hst : Stays Φ) (hx : Kn K x Ψ) (hp : ∀ v w ob, Ψ v w ob → ∃ ad u, v = .pointer (some ad) ∧ w.cell? ad = some u ∧ Φ u w ob)
    (h : wpMine P ops w0 n0 Q rest (upd K o.dst Φ) c C) : wpMine P ops w0 n0 Q (o :: rest) K c C := by
  refine step hg hd hst (fun a w ob _ hl => ?_) h
  obtain ⟨ad, u, h1, hc, h2⟩ := hp _ _ _ (looks_op (Ψ := Ψ) (by simp [ho, Op.operands]) hx hl)
  unfold does execOp
  have hr : (Instr.loadAt t (.pointer (some ad))).run P w = .ok u w := by simp [Instr.loadAt, Instr.sureAddr, loadVar, ha w, hc]
  simp only [ho, h1]
  rw [Sem.run_bind, hr]
  exact ⟨Gr.refl w, h2⟩
end
end Go.Proofs.Ythpaoeiackbdoaa.Mine

namespace Go.Proofs.Ythpaoeiackbdoaa
open Go Go.RowKit TxnMath KeyMath MsgMath BalMath RfMath
set_option maxRecDepth 100000

namespace Mine
/-- a letter that lies neither in the row's block nor below B -/
abbrev Lx (B : Nat) (m : MsgT) : Known := fun v w o => MsgX (fun j => some j ≠ o ∧ B ≤ j) w v m
theorem Lx.stays (B : Nat) (m : MsgT) : Stays (Lx B m) := fun _ _ _ _ _ ⟨r, h1, h2⟩ _ hr => ⟨r, h1, h2.move (ex_moves hr)⟩
theorem build_ent {ops : Array Oper} {w0 : World} {n0 : Nat} {Q : (Tmp → Known) → Tmp → Known → Prop} {o : Oper} {rest : List Oper} {K : Tmp → Known} {c : Tmp} {C : Known} {x y z u : Operand} {B : Nat} {a t m : Int} {l : List EntT}
    (ho : o.op = .build 47 #[(0, .const (.int .i64 3)), (5, x), (6, y), (7, z), (9, u)]) (hg : o.guard = none) (hd : o.dst ≠ some c) (hx : Kn K x (Is (.int .i64 a))) (hy : Kn K y (Is (.int .i64 t))) (hz : Kn K z (Is (.int .i64 m))) (hu : Kn K u (Ex B l))
    (h : wpMine Try.prog ops w0 n0 Q rest (upd K o.dst (Lx B { noMsg with kind := 3, index := a, logTerm := t, commit := m, entries := l })) c C) : wpMine Try.prog ops w0 n0 Q (o :: rest) K c C := by
  refine step hg hd (Lx.stays B _) (fun ac w ob _ hl => ?_) h
  have h1 : ac.eval x = .int .i64 a := looks_op (Ψ := Is (.int .i64 a)) (by simp [ho, Op.operands]) hx hl
  have h2 : ac.eval y = .int .i64 t := looks_op (Ψ := Is (.int .i64 t)) (by simp [ho, Op.operands]) hy hl
  have h3 : ac.eval z = .int .i64 m := looks_op (Ψ := Is (.int .i64 m)) (by simp [ho, Op.operands]) hz hl
  have h4 : Ex B l (ac.eval u) w ob := looks_op (Ψ := Ex B l) (by simp [ho, Op.operands]) hu hl
  obtain ⟨A, cp, h5⟩ := EntsX.is h4
  rw [h5] at h4
  have hr : ∀ (A : Option Addr) (n k : Nat), (Instr.build 47 #[(0, .int .i64 3), (5, .int .i64 a), (6, .int .i64 t), (7, .int .i64 m), (9, .slice A n k)]).run Try.prog w = .ok (.agg (cellsM { noMsg with kind := 3, index := a, logTerm := t, commit := m, entries := l } { rows0 with e := .slice A n k }).toArray) w := fun A n k => by kernel_rfl
  unfold does execOp
  have h0 : ac.eval (.const (.int .i64 3)) = .int .i64 3 := rfl
  simp only [ho, List.map_toArray, List.map_cons, List.map_nil, h0, h1, h2, h3, h5]
  rw [Sem.run_bind, hr]
  exact ⟨Gr.refl w, _, rfl, ⟨h4, RowsX.none_ _ w, RowX.nil _ 1 w, RowX.nil _ 4 w⟩⟩
end Mine

set_option maxHeartbeats 1000000 in
theorem sendEntries_ok (w : World) (g : Nat) (s : StT) (R : RowsM) (h : MemR w g s R) (to : Nat) (h1 : 1 ≤ to) (h2 : to ≤ s.r.next.length) (h3 : s.r.next.length ≤ 1000) (hx : ∀ x ∈ s.r.next, 0 ≤ x ∧ x ≤ 1152921504606846976) (hl : s.r.log.length ≤ 200) (hb : ∀ e ∈ s.r.log, EntBnd e) (hn : s.out.length ≤ 1000) :
    Calls Try.prog 75 #[.pointer (some ⟨g, 0, none⟩), .int .i64 to] w (MbPost w g R (entS to s)) := by
  have HM := hide h
  obtain ⟨k, rfl⟩ : ∃ k, to = k + 1 := ⟨to - 1, by omega⟩
  have hk : k < s.r.next.length := by omega
  obtain ⟨A, c, hA⟩ := h.log.is
  have c5 : w.cell? ⟨g, 5, none⟩ = some (.slice A s.r.log.length c) := by rw [← hA]; exact h.cell 5
  have c6 : w.cell? ⟨g, 6, none⟩ = some (.int .i64 s.r.commit) := h.cell 6
  obtain ⟨gn, cn, hN, _, _, _, _, hrow⟩ := h.next.block_ (by omega)
  have c10 : w.cell? ⟨g, 10, none⟩ = some (.slice (some ⟨gn, 0, none⟩) s.r.next.length cn) := by rw [← hN]; exact h.cell 10
  have cx : w.cell? ⟨gn, k, none⟩ = some (.int .i64 s.r.next[k]) := by rw [hrow.cellAt k (by omega), ivs_at hk]; rfl
  have hxk := hx s.r.next[k] (List.getElem_mem hk)
  have hah : Hid (aheadR s.r ((k + 1 : Nat) : Int) = min (max s.r.next[k] 1) (s.r.log.length + 1) - 1) := by
    unfold Hid aheadR nthI
    rw [List.getD_eq_getElem?_getD, show (((k + 1 : Nat) : Int) - 1).toNat = k by omega, List.getElem?_eq_getElem hk]
    rfl
  generalize s.r.next[k] = x at *
  have e0 : ((k + 1 : Nat) : Int) - 1 = k := by omega
  have e1 : IntKind.i64.wrap (k : Int) = k := IntWalk.i64_in _ (by omega)
  have hk' : (k : Int) < (s.r.next.length : Int) := by omega
  have e2 : IntKind.i64.wrap ((s.r.log.length : Int) + 1) = (s.r.log.length : Int) + 1 := IntWalk.i64_in _ (by omega)
  obtain ⟨m1, hm1⟩ : ∃ m1, (if x < 1 then 1 else x) = m1 := ⟨_, rfl⟩
  obtain ⟨m2, hm2⟩ : ∃ m2, (if (s.r.log.length : Int) + 1 < m1 then (s.r.log.length : Int) + 1 else m1) = m2 := ⟨_, rfl⟩
  obtain ⟨m3, hm3⟩ : ∃ m3, (if (s.r.log.length : Int) < m2 - 1 + 4 then (s.r.log.length : Int) else m2 - 1 + 4) = m3 := ⟨_, rfl⟩
  have hb2 : 1 ≤ m2 ∧ m2 ≤ s.r.log.length + 1 := by rw [← hm2]; rw [← hm1] at *; split <;> split <;> omega
  clear h hA hN hrow hx
  go_enter Try.func75, Try.ntmps75
  go_wp2_with fail
  go_quiet (fail)
  go_wp2_with fail
  obtain ⟨ah, hah2⟩ : ∃ ah : Nat, m2 - 1 = ah := ⟨(m2 - 1).toNat, by omega⟩
  obtain ⟨en, hen⟩ : ∃ en : Nat, m3 = en := ⟨m3.toNat, by rw [← hm3]; split <;> omega⟩
  have hen2 : ah ≤ en ∧ en ≤ s.r.log.length := by rw [hen] at hm3; split at hm3 <;> omega
  have HE : Hid ({ noMsg with kind := 3, index := (ah : Int), logTerm := termL s.r.log ah, commit := s.r.commit, entries := (s.r.log.take en).drop ah } = entM s.r ((k + 1 : Nat) : Int)) := by
    have ea : aheadR s.r ((k + 1 : Nat) : Int) = ah := by
      rw [hah.out, ← hah2, ← hm2, ← hm1]
      congr 1
      rw [Int.min_def, Int.max_def]
      split <;> split <;> split <;> split <;> omega
    have ee : (min ((ah : Int) + 4) s.r.log.length).toNat = en := by
      rw [hah2, hen] at hm3
      rw [Int.min_def]
      split at hm3 <;> split <;> omega
    unfold Hid entM
    rw [ea, ee]
    rfl
  rw [hah2, hen]
  have hML := HM.out.log
  have hMB := HM.out.bl
  have HT := hide (fun v W (hv : EntsX Any W v s.r.log) => Term_ok v s.r.log ah W hv (by omega))
  have HC := hide (fun v W (hv : EntsX Any W v ((s.r.log.take en).drop ah)) => copied_ok_ v _ W hv (by rw [List.length_drop, List.length_take]; omega) (fun e he => hb e (List.mem_of_mem_take (List.mem_of_mem_drop he))))
  clear hm1 hm2 hm3 hah c5 c6 c10 cx e0 e1 e2 hb2 hxk hb
  refine Mine.wp_region_mine_tail 25 60 [34, 35, 36, 37, 38, 39, 40, 41, 42, 43, 44, 45, 46, 47, 48, 49, 50, 51, 52, 53, 54, 55, 56, 57, 58, 59] rfl (by kernel_rfl) (by kernel_rfl) (by kernel_rfl) (by kernel_rfl) (ob0 := none)
    (Mine.Ahead.more (Mine.Ahead.more (Mine.Ahead.more (Mine.Ahead.more (Mine.Ahead.none_ _ _ _) 0 (Mine.Be.stays 0 g 81 (mbC s.r R) R.l s.r.log) ⟨⟨rfl, hMB.drewN _, by simp⟩, (hML.gr ((Gr.refl w).drewN (nq + 1))).wide fun j _ => ⟨by simp, Nat.zero_le _⟩⟩) 1 (Mine.Is.stays _) rfl) 4 (Mine.Is.stays _) rfl) 5 (Mine.Is.stays _) rfl)
    61 (C0 := fun _ _ o => o = none) (fun _ _ _ _ h _ => h) (fun k hk => by cases hk) rfl ?_
  refine Mine.move (.tmp 0) (.inl rfl) rfl (by decide) rfl (Mine.Be.stays _ _ _ _ _ _) ?_
  refine Mine.move (.tmp 1) (.inl rfl) rfl (by decide) rfl (Mine.Is.stays _) ?_
  refine Mine.move (.tmp 4) (.inl rfl) rfl (by decide) rfl (Mine.Is.stays _) ?_
  refine Mine.move (.tmp 0) (.inl rfl) rfl (by decide) rfl (Mine.Be.stays _ _ _ _ _ _) ?_
  refine Mine.nil_be rfl rfl (by decide) rfl ?_
  refine Mine.first_be rfl rfl (by decide) rfl (fun w => by rfl) ?_
  refine Mine.field_pe (j := 5) rfl rfl (by decide) rfl (fun w => by rfl) rfl ?_
  refine Mine.load_pe rfl rfl (by decide) (fun w => by kernel_rfl) rfl ?_
  refine Mine.move (.tmp 4) (.inl rfl) rfl (by decide) rfl (Mine.Is.stays _) ?_
  refine Mine.call2 (Φ := Mine.Is (.int .i64 (termL s.r.log ah))) rfl rfl (by decide) Try.func85 (by kernel_rfl) (by kernel_rfl) (Mine.Is.stays _) (Ψ := Mine.Ex 0 s.r.log) (Ψ' := Mine.Is (.int .i64 (ah : Int))) rfl rfl (fun v u W ob _ _ hv hu => by
    subst hu
    exact (HT.out v W hv.any).mono fun e w' ⟨he, hw⟩ => ⟨_, he, hw ▸ Gr.refl _, rfl⟩) ?_
  refine Mine.move (.tmp 0) (.inl rfl) rfl (by decide) rfl (Mine.Be.stays _ _ _ _ _ _) ?_
  refine Mine.nil_be rfl rfl (by decide) rfl ?_
  refine Mine.first_be rfl rfl (by decide) rfl (fun w => by rfl) ?_
  refine Mine.field_ce (u := .int .i64 s.r.commit) (j := 6) rfl rfl (by decide) rfl (fun w => by rfl) rfl ?_
  refine Mine.load rfl rfl (by decide) (fun w => by kernel_rfl) rfl ?_
  refine Mine.move (.tmp 0) (.inl rfl) rfl (by decide) rfl (Mine.Be.stays _ _ _ _ _ _) ?_
  refine Mine.nil_be rfl rfl (by decide) rfl ?_
  refine Mine.first_be rfl rfl (by decide) rfl (fun w => by rfl) ?_
  refine Mine.field_pe (j := 5) rfl rfl (by decide) rfl (fun w => by rfl) rfl ?_
  refine Mine.load_pe rfl rfl (by decide) (fun w => by kernel_rfl) rfl ?_
  refine Mine.move (.tmp 4) (.inl rfl) rfl (by decide) rfl (Mine.Is.stays _) ?_
  refine Mine.move (.tmp 5) (.inl rfl) rfl (by decide) rfl (Mine.Is.stays _) ?_
  refine Mine.mid_ex rfl rfl (by decide) Try.underlying24 size_ent rfl rfl rfl hen2.1 hen2.2 ?_
  refine Mine.call1 (Φ := Mine.Ex w.heap.size ((s.r.log.take en).drop ah)) rfl rfl (by decide) Try.func48 (by kernel_rfl) (by kernel_rfl) (Mine.Ex.stays _ _) (Ψ := Mine.Ex 0 ((s.r.log.take en).drop ah)) rfl (fun v W ob hwf hsz hv => (HC.out v W hv.any).mono fun e w' ⟨u, he, hu, hg⟩ => ⟨u, he, hg, hu.wide fun j hj => ⟨fun e2 => by
    have := hwf j e2.symm
    omega, Nat.le_trans hsz hj⟩⟩) ?_
  refine Mine.build_ent rfl rfl (by decide) rfl rfl rfl rfl ?_
  intro a1 w1 ob hr hwf hsz hdf hun hk hat
  have h34 : a1.tmps.getD 34 undef = .pointer (some ⟨g, 0, none⟩) := (hk 34).1.1
  have h35 : a1.tmps.getD 35 undef = .int .i64 ((k : Int) + 1) := hk 35
  have h58 : Mine.Lx w.heap.size { noMsg with kind := 3, index := (ah : Int), logTerm := termL s.r.log ah, commit := s.r.commit, entries := (s.r.log.take en).drop ah } (a1.tmps.getD 58 undef) w1 ob := hk 58
  change ob = none at hat
  subst hat
  obtain ⟨X, hX, hlay⟩ := Grow.lay_kept_by _ a1 60 _ hsz hdf hun
  rw [hX] at h34 h35 h58
  clear hX hun hdf hsz hk hwf
  subst hlay
  simp only [List.range, List.range.loop, List.map_cons, List.map_nil, List.contains_cons, List.contains_nil, Nat.reduceBEq, Bool.or_false, Bool.or_true, cond_false, cond_true, Array.getD_eq_getD_getElem?, List.getElem?_toArray, List.getElem?_cons_zero, List.getElem?_cons_succ, Option.getD_some, h34, h35, List.drop_succ_cons, List.drop_zero]
  have hg : Gr w w1 := by
    have := (Mine.RS.of_gr (o := none) ((Gr.refl w).drewN (nq + 1))).trans hr
    exact ⟨this.gb.os, this.gb.tape, this.gb.output, this.gb.size, fun k hk => this.gb.block k hk (by simp)⟩
  rw [HE.out] at h58
  obtain ⟨r58, hv58, hr58⟩ := h58
  have HS := hide (send_ok w1 g s R (HM.out.gr hg) ((k : Int) + 1) _ (entM s.r ((k + 1 : Nat) : Int)) ⟨r58, rfl, hr58.wide fun j hj => ⟨fun hf => by have := HM.out.lt j hf; omega, Nat.le_trans HM.out.low hj.2⟩⟩ hn)
  have HST := hide (Stp.of_gr (g := g) (R := R) hg)
  rw [hv58]
  clear hv58 hr58 hr hg hML hMB
  go_wp2_with fail
  refine HS.out.mono ?_
  rintro e w2 ⟨rfl, R', q1, q2⟩
  have Q1 := hide q1
  have Q2 := hide (HST.out.trans q2)
  clear q1 q2
  go_wp2_with fail
  go_end0
  exact ⟨rfl, R', Q1.out, Q2.out⟩

end Go.Proofs.Ythpaoeiackbdoaa

/-
  toAll, sendAll, commit.
-/
namespace Go.Proofs.Ythpaoeiackbdoaa
open Go Go.RowKit TxnMath KeyMath MsgMath BalMath RfMath
set_option maxRecDepth 100000

set_option maxHeartbeats 1000000 in
theorem toAll_ask (w : World) (g : Nat) (s : StT) (R : RowsM) (h : MemR w g s R) (hk : Rk s.r) (hn : s.out.length ≤ 500) :
    Calls Try.prog 74 #[.pointer (some ⟨g, 0, none⟩), .func (.func 87) #[.pointer (some ⟨g, 0, none⟩)] #[]] w (MbPost w g R (toAllS askS s)) := by
  have HM := hide h
  obtain ⟨n, hnn⟩ : ∃ n : Nat, s.r.nodes = n := ⟨s.r.nodes.toNat, by have := hk.nodes; omega⟩
  have hn5 : n ≤ 5 := by have := hk.nodes; omega
  obtain ⟨me, hme⟩ : ∃ me, s.r.me = me := ⟨_, rfl⟩
  have HF := hide (fun (k : Nat) (hk1 : k < n) (w' : World) (R' : RowsM) (s' : StT) (hr : s'.r = s.r) (ho : s'.out.length ≤ s.out.length + n) (h' : MemR w' g s' R') => show Calls Try.prog 87 #[.pointer (some ⟨g, 0, none⟩), .int .i64 ((k : Int) + 1)] w' (MbPost w' g R' (askS ((k : Int) + 1) s')) from askVote_ok w' g s' R' h' _ (by rw [hr]; exact hk.len) (by omega))
  have HO := hide (fun k => upTo_out (f := askS) (fun i s => send_out _ _ _) s k)
  have HR := hide (fun k => upTo_r (f := askS) (fun i s => rfl) s k)
  have HU : Hid (∀ k, upTo askS s (k + 1) = if (k : Int) + 1 = me then upTo askS s k else askS (k + 1) (upTo askS s k)) := by
    intro k
    rw [← hme]
    rfl
  have HE : Hid (toAllS askS s = upTo askS s n) := by
    unfold Hid toAllS
    rw [hnn]
    rfl
  clear h hk
  go_enter Try.func74, Try.ntmps74
  go_wp2_with fail
  go_loopw [4] (fun v wr => ∃ (k : Nat) (R' : RowsM), v = .int .i64 ((k : Int) + 1) ∧ k ≤ n ∧ Hid (MemR wr g (upTo askS s k) R') ∧ Hid (Stp w wr g R R')) (fun v _ => n + 1 - (intOf v).toNat)
  case atStart => exact ⟨0, R, by go_num, by omega, HM, Stp.refl _ _ _⟩
  case round =>
    obtain ⟨k, R', rfl, hkn, HM', HST⟩ := hrel
    have c0 : wr.cell? ⟨g, 0, none⟩ = some (.int .i64 me) := by rw [← hme, ← HR.out k]; exact HM'.out.cell 0
    have c1 : wr.cell? ⟨g, 1, none⟩ = some (.int .i64 n) := by rw [← hnn, ← HR.out k]; exact HM'.out.cell 1
    by_cases hlt : k < n
    · have hlt' : (k : Int) + 1 ≤ (n : Int) := by omega
      by_cases hm : (k : Int) + 1 = me
      · have HN := hide ((HU.out k).trans (if_pos hm))
        go_wp2_with fail
        go_roundw
        case rel => exact ⟨k + 1, R', by go_num, by omega, by rw [HN.out]; exact HM', HST⟩
        case measure => simp [intOf]; omega
      · have HN := hide ((HU.out k).trans (if_neg hm))
        have HC := hide (HF.out k hlt wr R' (upTo askS s k) (HR.out k) (by have := HO.out k; omega) HM'.out)
        have hm' : ((k : Int) + 1 == me) = false := by rw [beq_eq_false_iff_ne]; exact hm
        go_wp2_with fail
        refine HC.out.mono ?_
        rintro e w2 ⟨rfl, R2, q1, q2⟩
        have Q1 := hide q1
        have Q2 := hide (HST.out.trans q2)
        clear q1 q2 HC c0 c1
        go_wp2_with fail
        go_roundw
        case rel => exact ⟨k + 1, R2, by go_num, by omega, by rw [HN.out]; exact Q1, Q2⟩
        case measure => simp [intOf]; omega
    · obtain rfl : k = n := by omega
      go_wp2_with fail
      go_end0
      exact ⟨rfl, R', by rw [HE.out]; exact HM'.out, HST.out⟩

set_option maxHeartbeats 1000000 in
theorem toAll_ent (w : World) (g : Nat) (s : StT) (R : RowsM) (h : MemR w g s R) (hk : Rk s.r) (hn : s.out.length ≤ 500) :
    Calls Try.prog 74 #[.pointer (some ⟨g, 0, none⟩), .func (.func 75) #[.pointer (some ⟨g, 0, none⟩)] #[]] w (MbPost w g R (toAllS entS s)) := by
  have HM := hide h
  obtain ⟨n, hnn⟩ : ∃ n : Nat, s.r.nodes = n := ⟨s.r.nodes.toNat, by have := hk.nodes; omega⟩
  have hn5 : n ≤ 5 := by have := hk.nodes; omega
  obtain ⟨me, hme⟩ : ∃ me, s.r.me = me := ⟨_, rfl⟩
  have HF := hide (fun (k : Nat) (hk1 : k < n) (w' : World) (R' : RowsM) (s' : StT) (hr : s'.r = s.r) (ho : s'.out.length ≤ s.out.length + n) (h' : MemR w' g s' R') => show Calls Try.prog 75 #[.pointer (some ⟨g, 0, none⟩), .int .i64 ((k : Int) + 1)] w' (MbPost w' g R' (entS ((k : Int) + 1) s')) from sendEntries_ok w' g s' R' h' (k + 1) (by omega) (by rw [hr]; have := hk.next; omega) (by rw [hr]; have := hk.next; omega) (by rw [hr]; exact hk.nexts) (by rw [hr]; exact hk.len) (by rw [hr]; exact hk.bnd) (by omega))
  have HO := hide (fun k => upTo_out (f := entS) (fun i s => send_out _ _ _) s k)
  have HR := hide (fun k => upTo_r (f := entS) (fun i s => rfl) s k)
  have HU : Hid (∀ k, upTo entS s (k + 1) = if (k : Int) + 1 = me then upTo entS s k else entS (k + 1) (upTo entS s k)) := by
    intro k
    rw [← hme]
    rfl
  have HE : Hid (toAllS entS s = upTo entS s n) := by
    unfold Hid toAllS
    rw [hnn]
    rfl
  clear h hk
  go_enter Try.func74, Try.ntmps74
  go_wp2_with fail
  go_loopw [4] (fun v wr => ∃ (k : Nat) (R' : RowsM), v = .int .i64 ((k : Int) + 1) ∧ k ≤ n ∧ Hid (MemR wr g (upTo entS s k) R') ∧ Hid (Stp w wr g R R')) (fun v _ => n + 1 - (intOf v).toNat)
  case atStart => exact ⟨0, R, by go_num, by omega, HM, Stp.refl _ _ _⟩
  case round =>
    obtain ⟨k, R', rfl, hkn, HM', HST⟩ := hrel
    have c0 : wr.cell? ⟨g, 0, none⟩ = some (.int .i64 me) := by rw [← hme, ← HR.out k]; exact HM'.out.cell 0
    have c1 : wr.cell? ⟨g, 1, none⟩ = some (.int .i64 n) := by rw [← hnn, ← HR.out k]; exact HM'.out.cell 1
    by_cases hlt : k < n
    · have hlt' : (k : Int) + 1 ≤ (n : Int) := by omega
      by_cases hm : (k : Int) + 1 = me
      · have HN := hide ((HU.out k).trans (if_pos hm))
        go_wp2_with fail
        go_roundw
        case rel => exact ⟨k + 1, R', by go_num, by omega, by rw [HN.out]; exact HM', HST⟩
        case measure => simp [intOf]; omega
      · have HN := hide ((HU.out k).trans (if_neg hm))
        have HC := hide (HF.out k hlt wr R' (upTo entS s k) (HR.out k) (by have := HO.out k; omega) HM'.out)
        have hm' : ((k : Int) + 1 == me) = false := by rw [beq_eq_false_iff_ne]; exact hm
        go_wp2_with fail
        refine HC.out.mono ?_
        rintro e w2 ⟨rfl, R2, q1, q2⟩
        have Q1 := hide q1
        have Q2 := hide (HST.out.trans q2)
        clear q1 q2 HC c0 c1
        go_wp2_with fail
        go_roundw
        case rel => exact ⟨k + 1, R2, by go_num, by omega, by rw [HN.out]; exact Q1, Q2⟩
        case measure => simp [intOf]; omega
    · obtain rfl : k = n := by omega
      go_wp2_with fail
      go_end0
      exact ⟨rfl, R', by rw [HE.out]; exact HM'.out, HST.out⟩

theorem sendAll_ok (w : World) (g : Nat) (s : StT) (R : RowsM) (h : MemR w g s R) (hk : Rk s.r) (hn : s.out.length ≤ 500) :
    Calls Try.prog 54 #[.pointer (some ⟨g, 0, none⟩)] w (MbPost w g R (allS s)) := by
  have HC := hide (toAll_ent w g s R h hk hn)
  go_enter Try.func54, Try.ntmps54
  go_wp2_with fail
  refine HC.out.mono ?_
  rintro e w2 ⟨rfl, R2, q1, q2⟩
  have Q1 := hide q1
  have Q2 := hide q2
  clear q1 q2 HC
  go_wp2_with fail
  go_end0
  exact ⟨rfl, R2, Q1.out, Q2.out⟩

end Go.Proofs.Ythpaoeiackbdoaa

/-
  Open regions of a member's functions that make memory: the member stays as it is until the last store. commit.
-/
namespace Go.Proofs.Ythpaoeiackbdoaa
open Go Go.RowKit TxnMath KeyMath MsgMath BalMath RfMath
set_option maxRecDepth 100000

/-- a member, apart from a row that is being built -/
structure MemP (g : Nat) (s : StT) (R : RowsM) (w : World) (ob : Option Nat) : Prop where
  m : MemR w g s R
  foot : ∀ j, Foot g R j → some j ≠ ob
  log : EntsX (fun j => Home g R j ∧ some j ≠ ob) w R.l s.r.log
  out : OutX (fun j => Home g R j ∧ some j ≠ ob) w R.q s.out
theorem OutX.wide {X X' : Nat → Prop} {w : World} {v : Value} {ls : List MsgT} (h : OutX X w v ls) (hx : ∀ j, X j → X' j) : OutX X' w v ls := by
  obtain ⟨f, h1, h2⟩ := h
  exact ⟨f, h1, fun j m hj => (h2 j m hj).wide hx⟩
theorem MemP.none_ {g : Nat} {s : StT} {R : RowsM} {w : World} (h : MemR w g s R) : MemP g s R w none := ⟨h, by simp, h.log.wide fun j hj => ⟨hj, by simp⟩, h.out.wide fun j hj => ⟨hj, by simp⟩⟩
/-- what stays when a row is built on -/
def PayR (I : World → Option Nat → Prop) : Prop := ∀ w ob w' ob', I w ob → Mine.RS w ob w' ob' → I w' ob'
theorem MemP.pay (g : Nat) (s : StT) (R : RowsM) : PayR (MemP g s R) := fun w ob w' ob' h hr => by
  have hne : ∀ j, j < w.heap.size → some j ≠ ob → some j ≠ ob' := fun j hj hx => by
    rcases hr.at_ with e | ⟨k, e, hk⟩
    · rw [e]; exact hx
    · rw [e]; intro e2; injection e2 with e2; omega
  have hm : Moves (fun j => Home g R j ∧ some j ≠ ob) (fun j => Home g R j ∧ some j ≠ ob') w w' := fun j hj hx => ⟨hr.gb.block j hj hx.2, hx.1, hne j hj hx.2⟩
  have hk : ∀ j, Foot g R j → w'.heap[j]? = w.heap[j]? := fun j hj => hr.gb.block j (h.m.lt j hj) (h.foot j hj)
  have hl := h.log.move hm
  have ho := h.out.move hm fun b hb => hk b (.inr (.inr (.inr (.inr hb))))
  exact ⟨⟨(hk g (.inl rfl)).trans h.m.bl, hl.wide fun j hj => hj.1, OwnV.keep h.m.votes fun b hb => hk b (.inr (.inl hb)), OwnV.keep h.m.next fun b hb => hk b (.inr (.inr (.inl hb))), OwnV.keep h.m.mtch fun b hb => hk b (.inr (.inr (.inr (.inl hb)))),
    ho.wide fun j hj => hj.1, Nat.le_trans h.m.low hr.gb.size, h.m.nv, h.m.nn, h.m.nm, h.m.nq, h.m.vn, h.m.vm, h.m.vq, h.m.nmm, h.m.nqq, h.m.mq⟩, fun j hj => hne j (h.m.lt j hj) (h.foot j hj), hl, ho⟩

namespace Mine
section
variable {P : Program} {ops : Array Oper} {w0 : World} {n0 : Nat} {Q : (Tmp → Known) → Tmp → Known → Prop} {o : Oper} {rest : List Oper} {K : Tmp → Known} {Φ : Known} {c : Tmp} {C : Known} {I : World → Option Nat → Prop}
/-- this value, in a world of which this is known -/
abbrev Wk (I : World → Option Nat → Prop) (z : Value) : Known := fun v w ob => v = z ∧ I w ob
theorem Wk.stays {I : World → Option Nat → Prop} (h : PayR I) (z : Value) : Stays (Wk I z) := fun _ w o w' o' ⟨h1, h2⟩ _ hr => ⟨h1, h w o w' o' h2 hr⟩
/-- an operation of one operand, by its run -/
theorem wk1 {x : Operand} {z : Value} (z' : Value) (hI : PayR I) (hg : o.guard = none) (hd : o.dst ≠ some c) (hxo : x ∈ o.op.operands) (hx : Kn K x (Wk I z)) (hr : ∀ (a : Act) (w : World) (ob : Option Nat), a.eval x = z → I w ob → (execOp a.eval o).run P w = .ok (.value z') w)
    (h : wpMine P ops w0 n0 Q rest (upd K o.dst (Wk I z')) c C) : wpMine P ops w0 n0 Q (o :: rest) K c C := by
  refine step hg hd (Wk.stays hI z') (fun a w ob _ hl => ?_) h
  have h1 : a.eval x = z ∧ I w ob := looks_op (Ψ := Wk I z) hxo hx hl
  unfold does
  rw [hr a w ob h1.1 h1.2]
  exact ⟨Gr.refl w, rfl, h1.2⟩
theorem wk2 {x y : Operand} {z u : Value} (z' : Value) (hI : PayR I) (hg : o.guard = none) (hd : o.dst ≠ some c) (hxo : x ∈ o.op.operands) (hyo : y ∈ o.op.operands) (hx : Kn K x (Wk I z)) (hy : Kn K y (Wk I u)) (hr : ∀ (a : Act) (w : World) (ob : Option Nat), a.eval x = z → a.eval y = u → I w ob → (execOp a.eval o).run P w = .ok (.value z') w)
    (h : wpMine P ops w0 n0 Q rest (upd K o.dst (Wk I z')) c C) : wpMine P ops w0 n0 Q (o :: rest) K c C := by
  refine step hg hd (Wk.stays hI z') (fun a w ob _ hl => ?_) h
  have h1 : a.eval x = z ∧ I w ob := looks_op (Ψ := Wk I z) hxo hx hl
  have h2 : a.eval y = u ∧ I w ob := looks_op (Ψ := Wk I u) hyo hy hl
  unfold does
  rw [hr a w ob h1.1 h2.1 h1.2]
  exact ⟨Gr.refl w, rfl, h1.2⟩
theorem wk_move {x : Operand} {z : Value} (hI : PayR I) (ho : o.op = .move x ∨ o.op = .assign x) (hg : o.guard = none) (hd : o.dst ≠ some c) (hx : Kn K x (Wk I z)) (h : wpMine P ops w0 n0 Q rest (upd K o.dst (Wk I z)) c C) : wpMine P ops w0 n0 Q (o :: rest) K c C :=
  move x ho hg hd hx (Wk.stays hI z) h
theorem wk_nil {x : Operand} {ad : Addr} (hI : PayR I) (ho : o.op = .nilCheck x) (hg : o.guard = none) (hd : o.dst ≠ some c) (hx : Kn K x (Wk I (.pointer (some ad)))) (h : wpMine P ops w0 n0 Q rest (upd K o.dst (Wk I (.pointer (some ad)))) c C) : wpMine P ops w0 n0 Q (o :: rest) K c C :=
  wk1 _ hI hg hd (by simp [ho, Op.operands]) hx (fun a w ob h1 _ => by unfold execOp; simp only [ho, h1]; rfl) h
theorem wk_field {x : Operand} {t : TypeId} {i g k : Nat} (j : Nat) (hI : PayR I) (ho : o.op = .fieldAddr t x i) (hg : o.guard = none) (hd : o.dst ≠ some c) (hx : Kn K x (Wk I (.pointer (some ⟨g, k, none⟩)))) (hr : ∀ w, (Instr.fieldAt t (.pointer (some ⟨g, k, none⟩)) i).run P w = .ok (.pointer (some ⟨g, j, none⟩)) w)
    (h : wpMine P ops w0 n0 Q rest (upd K o.dst (Wk I (.pointer (some ⟨g, j, none⟩)))) c C) : wpMine P ops w0 n0 Q (o :: rest) K c C :=
  wk1 _ hI hg hd (by simp [ho, Op.operands]) hx (fun a w ob h1 _ => by unfold execOp; simp only [ho, h1]; rw [Sem.run_bind, hr w]; rfl) h
theorem wk_load {x : Operand} {t : TypeId} {ad : Addr} (u : Value) (hI : PayR I) (ho : o.op = .load t x) (hg : o.guard = none) (hd : o.dst ≠ some c) (ha : ∀ w, (isAgg t).run P w = .ok false w) (hx : Kn K x (Wk I (.pointer (some ad)))) (hc : ∀ w ob, I w ob → w.cell? ad = some u)
    (h : wpMine P ops w0 n0 Q rest (upd K o.dst (Wk I u)) c C) : wpMine P ops w0 n0 Q (o :: rest) K c C :=
  wk1 _ hI hg hd (by simp [ho, Op.operands]) hx (fun a w ob h1 h2 => by
    have hr : (Instr.loadAt t (.pointer (some ad))).run P w = .ok u w := by simp [Instr.loadAt, Instr.sureAddr, loadVar, ha w, hc w ob h2]
    unfold execOp
    simp only [ho, h1]
    rw [Sem.run_bind, hr]
    rfl) h
theorem wk_len {x : Operand} {t : TypeId} {A : Option Addr} {n m : Nat} (hI : PayR I) (ho : o.op = .call { callee := .builtin .len, args := #[x], argTypes := #[t] }) (hg : o.guard = none) (hd : o.dst ≠ some c) (ht : P.underlying t = some (.slice (P.elem t))) (hx : Kn K x (Wk I (.slice A n m)))
    (h : wpMine P ops w0 n0 Q rest (upd K o.dst (Wk I (.int .i64 (n : Int)))) c C) : wpMine P ops w0 n0 Q (o :: rest) K c C :=
  wk1 _ hI hg hd (look_bi ho) hx (fun a w ob h1 _ => by
    unfold execOp
    simp only [ho, resolve, invoke, builtin, Sem.run_bind, Sem.run_pure, Result.andThen_ok, List.map_toArray, List.map_cons, List.map_nil, h1, run_len_slice w t _ _ _ _ ht]
    rfl) h
theorem call4 {f : FuncId} {x y z u : Operand} {ats : Array TypeId} {fn : Func} {Ψ1 Ψ2 Ψ3 Ψ4 : Known} (ho : o.op = .call { callee := .value (.func f), args := #[x, y, z, u], argTypes := ats }) (hg : o.guard = none) (hd : o.dst ≠ some c) (hf : P.funcs[f]? = some fn) (hn : (fn.name == "runtime.NumGoroutine") = false) (hb : fn.body.isNone = false)
    (hst : Stays Φ) (hx : Kn K x Ψ1) (hy : Kn K y Ψ2) (hz : Kn K z Ψ3) (hu : Kn K u Ψ4) (hc : ∀ v1 v2 v3 v4 w ob, Wf w ob → w0.heap.size ≤ w.heap.size → Ψ1 v1 w ob → Ψ2 v2 w ob → Ψ3 v3 w ob → Ψ4 v4 w ob → Calls P f #[v1, v2, v3, v4] w fun en w' => ∃ u, en = .returned u ∧ Gr w w' ∧ Φ u w' ob) (h : wpMine P ops w0 n0 Q rest (upd K o.dst Φ) c C) : wpMine P ops w0 n0 Q (o :: rest) K c C := by
  refine .inl ⟨Φ, fun _ => hst, hd, fun a w ob ob0 hrs hwf _ hl => ?_, h⟩
  have hw : Region.wanted o (yielded ops a.tmps) = true := by simp [Region.wanted, hg]
  rw [if_pos hw]
  have h1 : Ψ1 (a.eval x) w ob := looks_op (Ψ := Ψ1) (by simp [ho, Op.operands, Call.operands]) hx hl
  have h2 : Ψ2 (a.eval y) w ob := looks_op (Ψ := Ψ2) (by simp [ho, Op.operands, Call.operands]) hy hl
  have h3 : Ψ3 (a.eval z) w ob := looks_op (Ψ := Ψ3) (by simp [ho, Op.operands, Call.operands]) hz hl
  have h4 : Ψ4 (a.eval u) w ob := looks_op (Ψ := Ψ4) (by simp [ho, Op.operands, Call.operands]) hu hl
  obtain ⟨dst, op, ty, pos, after, guard⟩ := o
  simp only at ho
  subst ho
  unfold does
  rw [execOp_call_go, Grow.enters hf hn hb]
  refine ⟨Gr.refl w, ?_⟩
  simp only [List.map_toArray, List.map_cons, List.map_nil]
  exact hc _ _ _ _ w ob hwf hrs.gb.size h1 h2 h3 h4
end
end Mine

theorem RS_gr {w w' : World} (h : Mine.RS w none w' none) : Gr w w' := ⟨h.gb.os, h.gb.tape, h.gb.output, h.gb.size, fun k hk => h.gb.block k hk (by simp)⟩
theorem mb_put6 (r : RaftT) (R : RowsM) (x : Int) : (mbC r R).setIfInBounds 6 (.int .i64 x) = mbC { r with commit := x } R := rfl

set_option maxHeartbeats 1000000 in
theorem commit_ok (w : World) (g : Nat) (s : StT) (R : RowsM) (h : MemR w g s R) (hm : s.r.mtch.length ≤ 1000) (hx : ∀ x ∈ s.r.mtch, 0 ≤ x) (hl : s.r.log.length ≤ 1000) (hc : 0 ≤ s.r.commit) :
    Calls Try.prog 77 #[.pointer (some ⟨g, 0, none⟩)] w (MbPost w g R { s with r := commitR s.r }) := by
  have HM := hide h
  have HN := hide (fun W (hW : MemR W g s R) => Next_ok R.m R.l s.r.mtch s.r.log s.r.term s.r.commit W hW.mtch.ints hW.log.any (by omega) hx (by omega) hc)
  obtain ⟨z, hz⟩ : ∃ z, nextL s.r.mtch s.r.log s.r.term s.r.commit = z := ⟨_, rfl⟩
  rw [hz] at HN
  have HZ : Hid (commitR s.r = { s.r with commit := z }) := by unfold Hid commitR; rw [hz]
  clear hz hm hx hl hc
  have hI := MemP.pay g s R
  go_enter Try.func77, Try.ntmps77
  go_wp2_with fail
  refine Mine.wp_region_mine_tail 25 27 [2, 3, 4, 5, 6, 7, 8, 9, 10, 11, 12, 13, 14, 15, 16, 17, 18, 19, 20, 21, 22, 23, 24, 25, 26] rfl (by kernel_rfl) (by kernel_rfl) (by kernel_rfl) (by kernel_rfl) (ob0 := none)
    (Mine.Ahead.more (Mine.Ahead.none_ _ _ _) 0 (Mine.Wk.stays hI (.pointer (some ⟨g, 0, none⟩))) ⟨rfl, MemP.none_ (h.gr ((Gr.refl w).drewN 1))⟩)
    28 (C0 := fun _ _ o => o = none) (fun _ _ _ _ h _ => h) (fun k hk => by cases hk) rfl ?_
  clear h
  refine Mine.wk_move hI (x := .tmp 0) (.inl rfl) rfl (by decide) rfl ?_
  refine Mine.wk_move hI (x := .tmp 0) (.inl rfl) rfl (by decide) rfl ?_
  refine Mine.wk_nil hI rfl rfl (by decide) rfl ?_
  refine Mine.wk_field 0 hI rfl rfl (by decide) rfl (fun w => by rfl) ?_
  refine Mine.wk_field 11 hI rfl rfl (by decide) rfl (fun w => by rfl) ?_
  refine Mine.wk_load R.m hI rfl rfl (by decide) (fun w => by kernel_rfl) rfl (fun w ob h => h.m.cell 11) ?_
  refine Mine.wk_move hI (x := .tmp 0) (.inl rfl) rfl (by decide) rfl ?_
  refine Mine.wk_nil hI rfl rfl (by decide) rfl ?_
  refine Mine.wk_field 0 hI rfl rfl (by decide) rfl (fun w => by rfl) ?_
  refine Mine.wk_field 5 hI rfl rfl (by decide) rfl (fun w => by rfl) ?_
  refine Mine.wk_load R.l hI rfl rfl (by decide) (fun w => by kernel_rfl) rfl (fun w ob h => h.m.cell 5) ?_
  refine Mine.wk_move hI (x := .tmp 0) (.inl rfl) rfl (by decide) rfl ?_
  refine Mine.wk_nil hI rfl rfl (by decide) rfl ?_
  refine Mine.wk_field 0 hI rfl rfl (by decide) rfl (fun w => by rfl) ?_
  refine Mine.wk_field 3 hI rfl rfl (by decide) rfl (fun w => by rfl) ?_
  refine Mine.wk_load (.int .i64 s.r.term) hI rfl rfl (by decide) (fun w => by kernel_rfl) rfl (fun w ob h => h.m.cell 3) ?_
  refine Mine.wk_move hI (x := .tmp 0) (.inl rfl) rfl (by decide) rfl ?_
  refine Mine.wk_nil hI rfl rfl (by decide) rfl ?_
  refine Mine.wk_field 0 hI rfl rfl (by decide) rfl (fun w => by rfl) ?_
  refine Mine.wk_field 6 hI rfl rfl (by decide) rfl (fun w => by rfl) ?_
  refine Mine.wk_load (.int .i64 s.r.commit) hI rfl rfl (by decide) (fun w => by kernel_rfl) rfl (fun w ob h => h.m.cell 6) ?_
  refine Mine.call4 (Φ := Mine.Wk (MemP g s R) (.int .i64 z)) rfl rfl (by decide) Try.func86 (by kernel_rfl) (by kernel_rfl) (Mine.Wk.stays hI _) (Ψ1 := Mine.Wk (MemP g s R) R.m) (Ψ2 := Mine.Wk (MemP g s R) R.l) (Ψ3 := Mine.Wk (MemP g s R) (.int .i64 s.r.term)) (Ψ4 := Mine.Wk (MemP g s R) (.int .i64 s.r.commit)) rfl rfl rfl rfl
    (fun v1 v2 v3 v4 W ob hwf _ h1 h2 h3 h4 => by
      obtain ⟨rfl, hp⟩ := h1
      obtain ⟨rfl, _⟩ := h2
      obtain ⟨rfl, _⟩ := h3
      obtain ⟨rfl, _⟩ := h4
      exact (HN.out W hp.m).mono fun e w' ⟨he, hg, _⟩ => ⟨_, he, hg, rfl, hI _ _ _ _ hp (Mine.RS.of_gr hg)⟩) ?_
  refine Mine.wk_nil hI rfl rfl (by decide) rfl ?_
  refine Mine.wk_field 0 hI rfl rfl (by decide) rfl (fun w => by rfl) ?_
  refine Mine.wk_field 6 hI rfl rfl (by decide) rfl (fun w => by rfl) ?_
  intro a1 w1 ob hr hwf hsz hdf hun hk hat
  have h26 : a1.tmps.getD 26 undef = .pointer (some ⟨g, 6, none⟩) := (hk 26).1
  have h23 : a1.tmps.getD 23 undef = .int .i64 z := (hk 23).1
  have hm1 : MemR w1 g s R := (hk 0).2.m
  change ob = none at hat
  subst hat
  obtain ⟨X, hX, hlay⟩ := Grow.lay_kept_by _ a1 27 _ hsz hdf hun
  rw [hX] at h23 h26
  clear hX hun hdf hsz hk hwf
  subst hlay
  simp only [List.range, List.range.loop, List.map_cons, List.map_nil, List.contains_cons, List.contains_nil, Nat.reduceBEq, Bool.or_false, Bool.or_true, cond_false, cond_true, Array.getD_eq_getD_getElem?, List.getElem?_toArray, List.getElem?_cons_zero, List.getElem?_cons_succ, Option.getD_some, h23, h26, List.drop_succ_cons, List.drop_zero]
  have hg : Gr w w1 := RS_gr ((Mine.RS.of_gr (o := none) ((Gr.refl w).drewN 1)).trans hr)
  have c6 : w1.cell? ⟨g, 6, none⟩ = some (.int .i64 s.r.commit) := hm1.cell 6
  have f6 := hm1.bl.frozen 6
  have HE := hide (hm1.poke_s (s' := { s with r := commitR s.r }) (w' := w1.setCell ⟨g, 6, none⟩ (.int .i64 z)) ((But.refl _ _).set 6 _) (by rw [HZ.out]; exact hm1.bl.put 6 _) (by rw [HZ.out]) (by rw [HZ.out]) (by rw [HZ.out]) (by rw [HZ.out]) rfl)
  have HST := hide (Stp.of_gr (g := g) (R := R) hg)
  clear hm1 hr hg
  go_wp2_with fail
  go_end0
  exact ⟨rfl, R, HE.out.1, HST.out.trans HE.out.2⟩

end Go.Proofs.Ythpaoeiackbdoaa
