/-
  Open regions that end in a call that writes: what the operations ahead of it know, the table of the library's among it.
-/
import Derived.Test.YtkcfieoflkhdpaaDoorWalMath0
import Derived.Test.YtkcfieoflkhdpaaDoorBaseM
namespace Go.Proofs.YtkcfieoflkhdpaaDoor.Mine
open Go Go.RowKit MapS WalName
set_option maxRecDepth 100000

/-- the table is there, and not in the row's block -/
abbrev TabK (w : World) (o : Option Nat) : Prop := TabW w ∧ some tabG ≠ o
theorem tab_keeps {w w' : World} {o o' : Option Nat} (h : TabK w o) (hr : RS w o w' o') : TabK w' o' := by
  have hl := h.1.lt
  refine ⟨?_, ?_⟩
  · have h1 := h.1
    unfold TabW Lib.TabIs World.var? at h1 ⊢
    rw [tabG_is] at h1 ⊢
    simp only [Option.bind_some] at h1 ⊢
    rw [hr.gb.block _ hl h.2]
    exact h1
  · rcases hr.at_ with e | ⟨k, e, hk⟩
    · rw [e]; exact h.2
    · rw [e]
      intro e2
      injection e2 with e2
      omega
abbrev Tb (Φ : Known) : Known := fun v w o => Φ v w o ∧ TabK w o
theorem Tb.stays {Φ : Known} (h : Stays Φ) : Stays (Tb Φ) := fun v w o w' o' ⟨h1, h2⟩ hw hr => ⟨h v w o w' o' h1 hw hr, tab_keeps h2 hr⟩

section
variable {P : Program} {ops : Array Oper} {w0 : World} {n0 : Nat} {Q : (Tmp → Known) → Tmp → Known → Prop} {o : Oper} {rest : List Oper} {K : Tmp → Known} {Φ : Known} {c : Tmp} {C : Known}
theorem nilT {x : Operand} {g : Nat} {e : TypeId} {cs : Array Value} (ho : o.op = .nilCheck x) (hg : o.guard = none) (hd : o.dst ≠ some c) (hx : Kn K x (Tb (Bx g e cs))) (h : wpMine P ops w0 n0 Q rest (upd K o.dst (Tb (Bx g e cs))) c C) : wpMine P ops w0 n0 Q (o :: rest) K c C := by
  refine step hg hd (Tb.stays (Bx.stays g e cs)) (fun a w ob _ hl => ?_) h
  obtain ⟨⟨h1, h2, h3⟩, ht⟩ : Tb (Bx g e cs) (a.eval x) w ob := looks_op (Ψ := Tb (Bx g e cs)) (by simp [ho, Op.operands]) hx hl
  unfold does execOp
  simp only [ho, h1]
  exact ⟨Gr.refl w, ⟨rfl, h2, h3⟩, ht⟩
theorem fieldT {t : TypeId} {x : Operand} {i g j : Nat} {e : TypeId} {cs : Array Value} {u : Value} (ho : o.op = .fieldAddr t x i) (hg : o.guard = none) (hd : o.dst ≠ some c) (hx : Kn K x (Tb (Bx g e cs))) (hr : ∀ w, (Instr.fieldAt t (.pointer (some ⟨g, 0, none⟩)) i).run P w = .ok (.pointer (some ⟨g, j, none⟩)) w)
    (hu : cs[j]? = some u) (h : wpMine P ops w0 n0 Q rest (upd K o.dst (Tb (Ce u))) c C) : wpMine P ops w0 n0 Q (o :: rest) K c C := by
  refine step hg hd (Tb.stays (Ce.stays u)) (fun a w ob _ hl => ?_) h
  obtain ⟨⟨h1, h2, h3⟩, ht⟩ : Tb (Bx g e cs) (a.eval x) w ob := looks_op (Ψ := Tb (Bx g e cs)) (by simp [ho, Op.operands]) hx hl
  unfold does execOp
  simp only [ho, h1]
  rw [Sem.run_bind, hr w]
  exact ⟨Gr.refl w, ⟨_, rfl, by rw [h2.cell]; exact hu, h3⟩, ht⟩
theorem loadT {t : TypeId} {x : Operand} {u : Value} (ho : o.op = .load t x) (hg : o.guard = none) (hd : o.dst ≠ some c) (ha : ∀ w, (isAgg t).run P w = .ok false w) (hx : Kn K x (Tb (Ce u))) (h : wpMine P ops w0 n0 Q rest (upd K o.dst (Tb (Is u))) c C) : wpMine P ops w0 n0 Q (o :: rest) K c C := by
  refine step hg hd (Tb.stays (Is.stays u)) (fun a w ob _ hl => ?_) h
  obtain ⟨⟨ad, h1, hc, _⟩, ht⟩ : Tb (Ce u) (a.eval x) w ob := looks_op (Ψ := Tb (Ce u)) (by simp [ho, Op.operands]) hx hl
  unfold does execOp
  have hr : (Instr.loadAt t (.pointer (some ad))).run P w = .ok u w := by simp [Instr.loadAt, Instr.sureAddr, loadVar, ha w, hc]
  simp only [ho, h1]
  rw [Sem.run_bind, hr]
  exact ⟨Gr.refl w, rfl, ht⟩
/-- 'x + 1', x a number -/
theorem binT {b : BinOp} {xt rt : TypeId} {x : Operand} {k : IntKind} {m n : Int} {u : Value} (ho : o.op = .binOp b xt x (.const (.int k n)) rt) (hg : o.guard = none) (hd : o.dst ≠ some c) (hx : Kn K x (Tb (Is (.int k m))))
    (hr : binOp b xt (.int k m) (.int k n) = pure u) (h : wpMine P ops w0 n0 Q rest (upd K o.dst (Tb (Is u))) c C) : wpMine P ops w0 n0 Q (o :: rest) K c C := by
  refine step hg hd (Tb.stays (Is.stays u)) (fun a w ob _ hl => ?_) h
  obtain ⟨h1, ht⟩ : Tb (Is (.int k m)) (a.eval x) w ob := looks_op (Ψ := Tb (Is (.int k m))) (by simp [ho, Op.operands]) hx hl
  have h2 : a.eval x = .int k m := h1
  unfold does execOp
  simp only [ho, h2]
  rw [Sem.run_bind, show a.eval (.const (.int k n)) = .int k n from rfl, Grow.run_with_guard (by simp) (by simp) (by rw [hr]; rfl)]
  exact ⟨Gr.refl w, rfl, ht⟩
/-- a method of what lies in the block -/
theorem callB {f : FuncId} {x : Operand} {ats : Array TypeId} {g : Nat} {e : TypeId} {cs : Array Value} {z : Value} {fn : Func} (ho : o.op = .call { callee := .value (.func f), args := #[x], argTypes := ats }) (hg : o.guard = none) (hd : o.dst ≠ some c) (hf : P.funcs[f]? = some fn) (hn : (fn.name == "runtime.NumGoroutine") = false) (hb : fn.body.isNone = false)
    (hx : Kn K x (Tb (Bx g e cs))) (hc : ∀ w, Bl w g e cs → TabW w → Calls P f #[.pointer (some ⟨g, 0, none⟩)] w fun en w' => en = .returned z ∧ Gr w w') (h : wpMine P ops w0 n0 Q rest (upd K o.dst (Is z)) c C) : wpMine P ops w0 n0 Q (o :: rest) K c C := by
  refine step hg hd (Is.stays z) (fun a w ob _ hl => ?_) h
  obtain ⟨⟨h1, h2, h3⟩, ht⟩ : Tb (Bx g e cs) (a.eval x) w ob := looks_op (Ψ := Tb (Bx g e cs)) (by simp [ho, Op.operands, Call.operands]) hx hl
  obtain ⟨dst, op, ty, pos, after, guard⟩ := o
  simp only at ho
  subst ho
  unfold does
  rw [execOp_call_go, Grow.enters hf hn hb]
  refine ⟨Gr.refl w, ?_⟩
  simp only [List.map_toArray, List.map_cons, List.map_nil, h1]
  exact (hc w h2 ht.1).mono fun en w' ⟨he, hgr⟩ => ⟨_, he, hgr, rfl⟩
theorem call2T {f : FuncId} {x y : Operand} {ats : Array TypeId} {u v z : Value} {fn : Func} (ho : o.op = .call { callee := .value (.func f), args := #[x, y], argTypes := ats }) (hg : o.guard = none) (hd : o.dst ≠ some c) (hf : P.funcs[f]? = some fn) (hn : (fn.name == "runtime.NumGoroutine") = false) (hb : fn.body.isNone = false)
    (hx : Kn K x (Tb (Is u))) (hy : Kn K y (Tb (Is v))) (hc : ∀ w, TabW w → Calls P f #[u, v] w fun en w' => en = .returned z ∧ Gr w w') (h : wpMine P ops w0 n0 Q rest (upd K o.dst (Is z)) c C) : wpMine P ops w0 n0 Q (o :: rest) K c C := by
  refine step hg hd (Is.stays z) (fun a w ob _ hl => ?_) h
  obtain ⟨h1, ht⟩ : Tb (Is u) (a.eval x) w ob := looks_op (Ψ := Tb (Is u)) (by simp [ho, Op.operands, Call.operands]) hx hl
  obtain ⟨h2, _⟩ : Tb (Is v) (a.eval y) w ob := looks_op (Ψ := Tb (Is v)) (by simp [ho, Op.operands, Call.operands]) hy hl
  have e1 : a.eval x = u := h1
  have e2 : a.eval y = v := h2
  obtain ⟨dst, op, ty, pos, after, guard⟩ := o
  simp only at ho
  subst ho
  unfold does
  rw [execOp_call_go, Grow.enters hf hn hb]
  refine ⟨Gr.refl w, ?_⟩
  simp only [List.map_toArray, List.map_cons, List.map_nil, e1, e2]
  exact (hc w ht.1).mono fun en w' ⟨he, hgr⟩ => ⟨_, he, hgr, rfl⟩
end
end Go.Proofs.YtkcfieoflkhdpaaDoor.Mine
