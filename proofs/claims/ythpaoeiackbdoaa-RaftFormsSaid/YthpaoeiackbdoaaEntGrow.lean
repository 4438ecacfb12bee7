/-
  Entries in an open region whose calls make memory: the steps. No function of the program.
-/
import Derived.Test.YthpaoeiackbdoaaEntOwn
namespace Go.Proofs.Ythpaoeiackbdoaa
open Go Go.RowKit TxnMath KeyMath MsgMath
set_option maxRecDepth 100000
theorem fieldE (ad : Addr) : ∀ w, (Instr.fieldAt 38 (.pointer (some ad)) 0).run Try.prog w = .ok (.pointer (some (ad.add 0))) w := fun w => by kernel_rfl
theorem size_ent : ∀ w, (sizeOf 38).run Try.prog w = .ok 6 w := fun w => by kernel_rfl
theorem exec_mid {P : Program} {ev : Operand → Value} {o : Oper} {t : TypeId} {x y z : Operand} {A : Option Addr} {n c i j s : Nat} {w : World} (ho : o.op = .slice t x (some y) (some z) none) (hx : ev x = .slice A n c) (hy : ev y = .int .i64 (i : Int)) (hz : ev z = .int .i64 (j : Int)) (hij : i ≤ j) (hj : j ≤ c)
    (ht : P.underlying t = some (.slice (P.elem t))) (hsz : ∀ w, (sizeOf (P.elem t)).run P w = .ok s w) : (execOp ev o).run P w = .ok (.value (.slice (if c = i then A else A.map (·.add (i * s))) (j - i) (c - i))) w := by
  have hrun : (Instr.slice t (.slice A n c) (some (.int .i64 (i : Int))) (some (.int .i64 (j : Int))) none).run P w = .ok (.slice (if c = i then A else A.map (·.add (i * s))) (j - i) (c - i)) w := by
    simp [Instr.slice, run_underlying ht, Instr.sliceBounds, Instr.sliceBound, asIntOf, hj, hij, hsz, Result.andThen]
  unfold execOp
  simp only [ho, Option.map_none, Option.map_some, hx, hy, hz]
  rw [Sem.run_bind, run_sliceAt_slice _ _ _ _ _ _ ht, hrun]
  rfl
theorem EntsX.le {X : Nat → Prop} {w : World} {A : Option Addr} {n c : Nat} {es : List EntT} (h : EntsX X w (.slice A n c) es) : n ≤ c := by
  obtain ⟨f, ⟨⟨A', c', e, hc, _⟩, _⟩, _⟩ := h
  simp only [Value.slice.injEq] at e
  obtain ⟨rfl, rfl, rfl⟩ := e
  exact hc
end Go.Proofs.Ythpaoeiackbdoaa
namespace Go.Proofs.Ythpaoeiackbdoaa.Grow
open Go Go.RowKit TxnMath KeyMath MsgMath Go.Proofs.Ythpaoeiackbdoaa
set_option maxRecDepth 100000

/-- entries that read so -/
abbrev En (l : List EntT) : Known := fun v w => EntsX Any w v l
theorem En.stays (l : List EntT) : Stays (En l) := fun _ _ _ h hg => h.gr hg
theorem En.nil {K : Tmp → Known} : Kn K (.const (.slice none 0 0)) (En []) := fun w => EntsX.nil Any w
/-- a pointer to an entry of such a term -/
abbrev Er (t : Int) : Known := fun v w => ∃ ad, v = .pointer (some ad) ∧ w.cell? ad = some (.int .i64 t)
theorem Er.stays (t : Int) : Stays (Er t) := fun _ _ _ ⟨a, h1, h2⟩ hg => ⟨a, h1, gr_cell hg _ _ h2⟩

section
variable {ops : Array Oper} {w0 : World} {n0 : Nat} {Q : (Tmp → Known) → Prop} {o : Oper} {rest : List Oper} {K : Tmp → Known} {Φ : Known}
theorem grow_len_en {x : Operand} {l : List EntT} {n : Int} (hn : (l.length : Int) = n) (ho : o.op = .call { callee := .builtin .len, args := #[x], argTypes := #[24] }) (hw : Wanted ops K n0 o true) (hx : Kn K x (En l))
    (h : wpGrow Try.prog ops w0 n0 Q rest (upd K o.dst (Is (.int .i64 n)))) : wpGrow Try.prog ops w0 n0 Q (o :: rest) K := by
  refine grow_step hw (fun _ => Is.stays _) (fun a w _ _ hl => ?_) h
  have hb : EntsX Any w (a.eval x) l := looks_op (Ψ := En l) (look_bi ho) hx hl
  obtain ⟨A, c, h1⟩ := hb.is
  unfold does execOp
  simp only [ho, resolve, invoke, builtin, Sem.run_bind, Sem.run_pure, Result.andThen_ok, List.map_toArray, List.map_cons, List.map_nil, h1, run_len_slice w 24 _ _ _ _ Try.underlying24]
  subst hn
  exact ⟨Gr.refl w, rfl⟩
theorem grow_take_en {x y : Operand} {l : List EntT} {n : Int} (j : Nat) (hn : n = (j : Int)) (hj : j ≤ l.length) (ho : o.op = .slice 24 x none (some y) none) (hw : Wanted ops K n0 o true) (hx : Kn K x (En l)) (hy : Kn K y (Is (.int .i64 n)))
    (h : wpGrow Try.prog ops w0 n0 Q rest (upd K o.dst (En (l.take j)))) : wpGrow Try.prog ops w0 n0 Q (o :: rest) K := by
  subst hn
  refine grow_step hw (fun _ => En.stays _) (fun a w _ _ hl => ?_) h
  have hb : EntsX Any w (a.eval x) l := looks_op (Ψ := En l) (by simp [ho, Op.operands]) hx hl
  have h2 : a.eval y = .int .i64 (j : Int) := looks_op (Ψ := Is (.int .i64 (j : Int))) (by simp [ho, Op.operands]) hy hl
  obtain ⟨A, c, h1⟩ := hb.is
  rw [h1] at hb
  have hle := hb.le
  have hr := exec_take (w := w) ho h1 h2 (by omega) Try.underlying24 size_ent
  unfold does
  rw [hr]
  exact ⟨Gr.refl w, hb.take j hj⟩
theorem grow_drop_en {x y : Operand} {l : List EntT} {n : Int} (j : Nat) (hn : n = (j : Int)) (hj : j ≤ l.length) (ho : o.op = .slice 24 x (some y) none none) (hw : Wanted ops K n0 o true) (hx : Kn K x (En l)) (hy : Kn K y (Is (.int .i64 n)))
    (h : wpGrow Try.prog ops w0 n0 Q rest (upd K o.dst (En (l.drop j)))) : wpGrow Try.prog ops w0 n0 Q (o :: rest) K := by
  subst hn
  refine grow_step hw (fun _ => En.stays _) (fun a w _ _ hl => ?_) h
  have hb : EntsX Any w (a.eval x) l := looks_op (Ψ := En l) (by simp [ho, Op.operands]) hx hl
  have h2 : a.eval y = .int .i64 (j : Int) := looks_op (Ψ := Is (.int .i64 (j : Int))) (by simp [ho, Op.operands]) hy hl
  obtain ⟨A, c, h1⟩ := hb.is
  rw [h1] at hb
  have hr := exec_drop (w := w) ho h1 h2 hj Try.underlying24 size_ent
  unfold does
  rw [hr]
  exact ⟨Gr.refl w, hb.drop j hj⟩
theorem grow_mid_en {x y z : Operand} {l : List EntT} {n m : Int} (i j : Nat) (hn : n = (i : Int)) (hm : m = (j : Int)) (hij : i ≤ j) (hj : j ≤ l.length) (ho : o.op = .slice 24 x (some y) (some z) none) (hw : Wanted ops K n0 o true) (hx : Kn K x (En l)) (hy : Kn K y (Is (.int .i64 n))) (hz : Kn K z (Is (.int .i64 m)))
    (h : wpGrow Try.prog ops w0 n0 Q rest (upd K o.dst (En ((l.take j).drop i)))) : wpGrow Try.prog ops w0 n0 Q (o :: rest) K := by
  subst hn hm
  refine grow_step hw (fun _ => En.stays _) (fun a w _ _ hl => ?_) h
  have hb : EntsX Any w (a.eval x) l := looks_op (Ψ := En l) (by simp [ho, Op.operands]) hx hl
  have h2 : a.eval y = .int .i64 (i : Int) := looks_op (Ψ := Is (.int .i64 (i : Int))) (by simp [ho, Op.operands]) hy hl
  have h3 : a.eval z = .int .i64 (j : Int) := looks_op (Ψ := Is (.int .i64 (j : Int))) (by simp [ho, Op.operands]) hz hl
  obtain ⟨A, c, h1⟩ := hb.is
  rw [h1] at hb
  have hle := hb.le
  have hr := exec_mid (w := w) ho h1 h2 h3 hij (by omega) Try.underlying24 size_ent
  unfold does
  rw [hr]
  exact ⟨Gr.refl w, (hb.take j hj).drop i hij⟩
theorem grow_at_en {x y : Operand} {l : List EntT} {n : Int} (j : Nat) (hn : n = (j : Int)) {t : Int} (ht : (l[j]?).map EntT.term = some t) (ho : o.op = .indexAddr 24 x y) (hw : Wanted ops K n0 o true) (hx : Kn K x (En l)) (hy : Kn K y (Is (.int .i64 n)))
    (h : wpGrow Try.prog ops w0 n0 Q rest (upd K o.dst (Er t))) : wpGrow Try.prog ops w0 n0 Q (o :: rest) K := by
  subst hn
  refine grow_step hw (fun _ => Er.stays _) (fun a w _ _ hl => ?_) h
  have hb : EntsX Any w (a.eval x) l := looks_op (Ψ := En l) (by simp [ho, Op.operands]) hx hl
  have h2 : a.eval y = .int .i64 (j : Int) := looks_op (Ψ := Is (.int .i64 (j : Int))) (by simp [ho, Op.operands]) hy hl
  have hj : j < l.length := by
    cases hg : l[j]? with
    | none => rw [hg] at ht; cases ht
    | some e => exact (List.getElem?_eq_some_iff.1 hg).1
  rw [List.getElem?_eq_getElem hj] at ht
  obtain ⟨ad, c, p, h1, _, a0, _⟩ := hb.ent hj
  have ht' : l[j].term = t := by simpa using ht
  rw [ht'] at a0
  unfold does execOp
  simp only [ho, h1, h2, Sem.run_bind, run_indexAt_slice w 24 _ _ _ _ _ Try.underlying24]
  rw [if_pos (by omega)]
  have hs : ∀ w, (sizeOf (Try.prog.elem 24)).run Try.prog w = .ok 6 w := size_ent
  rw [hs w]
  simp only [Result.andThen_ok, Int.toNat_natCast]
  exact ⟨Gr.refl w, _, rfl, a0⟩
theorem grow_term {x : Operand} {t : Int} (ho : o.op = .fieldAddr 38 x 0) (hw : Wanted ops K n0 o true) (hx : Kn K x (Er t)) (h : wpGrow Try.prog ops w0 n0 Q rest (upd K o.dst (Pt (.int .i64 t)))) : wpGrow Try.prog ops w0 n0 Q (o :: rest) K := by
  refine grow_step hw (fun _ => Pt.stays _) (fun a w _ _ hl => ?_) h
  obtain ⟨ad, h1, h2⟩ : ∃ ad, a.eval x = .pointer (some ad) ∧ w.cell? ad = some (.int .i64 t) := looks_op (Ψ := Er t) (by simp [ho, Op.operands]) hx hl
  unfold does execOp
  simp only [ho, h1, Sem.run_bind, fieldE ad w]
  exact ⟨Gr.refl w, _, rfl, by simpa [Addr.add] using h2⟩
end
end Go.Proofs.Ythpaoeiackbdoaa.Grow
