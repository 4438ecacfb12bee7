/-
  What comes in: a slice of pairs of bytes; and what an operation reads of it.
-/
import Derived.Test.YtgocapmclhimdaaSeDo
import Derived.Test.YtgocapmclhimdaaSeSame
import Derived.Test.YtgocapmclhimdaaSeRef
import Derived.SizedLaws
namespace Go.Proofs.Ytgocapmclhimdaa
open Go Go.ChangeShapes Go.WideShapes Go.ChangeAt Go.RowKit Go.Deep SeMath
set_option maxRecDepth 100000

/-- a pair of bytes -/
abbrev PrT : Type := Nat × Nat
def prC (p : PrT) : List Value := [.int .u8 (p.1 : Int), .int .u8 (p.2 : Int)]
def PrOk (p : PrT) : Prop := p.1 < 256 ∧ p.2 < 256
theorem nat8 {a : Int} (h : (Lit.int .u8 a).wf = true) : ∃ k : Nat, a = (k : Int) ∧ k < 256 := by
  have h0 : 0 ≤ a ∧ a ≤ 255 := by simpa [Lit.wf, IntKind.min, IntKind.max, IntKind.signed, IntKind.bits] using h
  exact ⟨a.toNat, by omega, by omega⟩
section
variable {H : Type} {enc : TypeId × Value → H} {W : World} {base : Nat} {held : Bool}
theorem pair_of (fuel : Nat) (cs : List Value) (x : DataW H × List MemPlace) (h : DataW.trod enc Try.prog W base (fun _ => true) held fuel 27 cs = some x) (_ : Weighs Try.prog reachBytes 27 x.1) : ∃ a : PrT, cs = prC a ∧ PrOk a := by
  obtain ⟨xs, m, _, _, hl, hxl, hx⟩ := DataW.trod_array Try.underlying27 h
  have hE : Try.prog.cellsOf 5 = 1 := by kernel_rfl
  have hT : Try.prog.cellsOf 27 = 2 := by kernel_rfl
  rw [hT] at hl
  have h0 := hx 0 (by decide)
  have h1 := hx 1 (by decide)
  rw [hE, List.getElem?_eq_getElem (by omega)] at h0 h1
  obtain ⟨a, ea, _, wa⟩ := DataW.trod_int Try.underlying5 h0
  obtain ⟨b, eb, _, wb⟩ := DataW.trod_int Try.underlying5 h1
  match cs, hl with
  | [c0, c1], _ =>
    simp at ea eb
    subst ea eb
    obtain ⟨k, rfl, hk⟩ := nat8 wa
    obtain ⟨j, rfl, hj⟩ := nat8 wb
    exact ⟨(k, j), rfl, hk, hj⟩
theorem arg_pairs {r : Reach} {b0 : Nat} {v : Value} {d : DataW H} {p : List MemPlace} (hv : Value.okWide Try.prog W r b0 22 v) (h : DataW.Trod enc Try.prog W base (fun _ => true) held 22 v d p) (hw : Weighs Try.prog reachBytes 22 d) :
    ∃ ls : List PrT, RowAt 2 W v (ls.map prC) ∧ (∀ x ∈ ls, PrOk x) ∧ ls.length ≤ reachBytes := by
  obtain ⟨A, n, c, rfl⟩ := okWide_slice Try.underlying22 hv
  obtain ⟨fuel, hf⟩ := h
  have hf' : DataW.trod enc Try.prog W base (fun _ => true) held fuel 22 [.slice A n c] = some (d, p) := by simpa [Value.cells] using hf
  exact rows_of prC PrOk Try.underlying22 (k := 2) (by kernel_rfl) (by decide +kernel) pair_of hf' hw
end

theorem pr_is {w : World} {v : Value} {l : List PrT} (h : RowAt 2 w v (l.map prC)) : ∃ A c, v = .slice A l.length c := by
  obtain ⟨A, c, h1, _, _⟩ := h
  rw [List.length_map] at h1
  exact ⟨A, c, h1⟩
theorem pr_at {w : World} {v : Value} {l : List PrT} (h : RowAt 2 w v (l.map prC)) {k : Nat} (hk : k < l.length) :
    ∃ ad c, v = .slice (some ad) l.length c ∧ w.cell? (ad.add (k * 2)) = some (.int .u8 (l[k].1 : Int)) ∧ w.cell? ⟨(ad.add (k * 2)).block, (ad.add (k * 2)).off + 1, none⟩ = some (.int .u8 (l[k].2 : Int)) := by
  obtain ⟨ad, c, h1, _, h3, h4⟩ := RowAt.cell h (j := k) (r := prC l[k]) (by rw [List.getElem?_map, List.getElem?_eq_getElem hk]; rfl) (by simp [prC])
  rw [List.length_map] at h1
  exact ⟨ad, c, h1, h3 _ rfl, h4 1 _ (by decide) rfl⟩

theorem size_pr (w : World) : (sizeOf (Try.prog.elem 22)).run Try.prog w = .ok 2 w := by kernel_rfl
theorem size_u8 (w : World) : (sizeOf (Try.prog.elem 27)).run Try.prog w = .ok 1 w := by kernel_rfl
theorem exec_idxPr {ev : Operand → Value} {o : Oper} {x y : Operand} {ad : Addr} {n c k : Nat} (ho : o.op = .indexAddr 22 x y) (hx : ev x = .slice (some ad) n c) (hy : ev y = .int .i64 (k : Int)) (hk : k < n) (w : World) :
    (execOp ev o).run Try.prog w = .ok (.value (.pointer (some (ad.add (k * 2))))) w := by
  unfold execOp
  simp only [ho, hx, hy, Sem.run_bind, run_indexAt_slice w 22 _ _ _ _ _ (show Try.prog.underlying 22 = some (.slice (Try.prog.elem 22)) by kernel_rfl)]
  rw [if_pos (by omega), size_pr w]
  simp only [Result.andThen_ok, Int.toNat_natCast]
  rfl
theorem len_pr : Try.prog.arrayLen 27 = 2 := by kernel_rfl
theorem exec_arr {ev : Operand → Value} {o : Oper} {x y : Operand} {p : Addr} {j : Nat} (ho : o.op = .indexAddr 27 x y) (hx : ev x = .pointer (some p)) (hy : ev y = .int .i64 (j : Int)) (hj : j < 2) (w : World) :
    (execOp ev o).run Try.prog w = .ok (.value (.pointer (some (p.add j)))) w := by
  unfold execOp
  simp only [ho, hx, hy, Sem.run_bind, run_indexAt_array w 27 _ _ _ (show Try.prog.underlying 27 = some (.array (Try.prog.arrayLen 27) (Try.prog.elem 27)) by kernel_rfl)]
  rw [if_pos (by rw [len_pr]; omega), size_u8 w]
  simp only [Result.andThen_ok, Int.toNat_natCast, Nat.mul_one]
  rfl
theorem exec_ldU8 {ev : Operand → Value} {o : Oper} {x : Operand} {p : Addr} {a : Int} (ho : o.op = .load 5 x) (hx : ev x = .pointer (some p)) {w : World} (hc : w.cell? p = some (.int .u8 a)) :
    (execOp ev o).run Try.prog w = .ok (.value (.int .u8 a)) w := by
  unfold execOp
  simp only [ho, hx]
  simp [go_sem, hc]
theorem exec_rem {ev : Operand → Value} {o : Oper} {x y : Operand} {t : TypeId} {a m : Nat} (ho : o.op = .binOp .rem 5 x y t) (hx : ev x = .int .u8 (a : Int)) (hy : ev y = .int .u8 (m : Int)) (hm : 0 < m) (hm2 : m < 256) (w : World) :
    (execOp ev o).run Try.prog w = .ok (.value (.int .u8 ((a % m : Nat) : Int))) w := by
  have hlt := Nat.mod_lt a hm
  have h0 : ¬ m = 0 := by omega
  have e : Int.tmod (a : Int) (m : Int) = ((a % m : Nat) : Int) := by rw [← Int.ofNat_tmod]
  unfold execOp
  simp only [ho, hx, hy]
  simp [go_sem, h0, e]
theorem exec_conv {ev : Operand → Value} {o : Oper} {x : Operand} {a : Nat} (ho : o.op = .convert 5 3 x) (hx : ev x = .int .u8 (a : Int)) (ha : a < 256) (w : World) :
    (execOp ev o).run Try.prog w = .ok (.value (.int .i64 (a : Int))) w := by
  have hw : IntKind.i64.wrap (a : Int) = (a : Int) := by rw [IntKind.wrap_i64]; omega
  unfold execOp
  simp only [ho, hx]
  simp [go_sem, hw]
theorem exec_add {ev : Operand → Value} {o : Oper} {x y : Operand} {t : TypeId} {a b : Nat} (ho : o.op = .binOp .add 3 x y t) (hx : ev x = .int .i64 (a : Int)) (hy : ev y = .int .i64 (b : Int)) (ha : a < 1000000) (hb : b < 1000000) (w : World) :
    (execOp ev o).run Try.prog w = .ok (.value (.int .i64 ((a + b : Nat) : Int))) w := by
  have hw : IntKind.i64.wrap ((a : Int) + (b : Int)) = (a : Int) + (b : Int) := by rw [IntKind.wrap_i64]; omega
  unfold execOp
  simp only [ho, hx, hy]
  simp [go_sem, hw]
end Go.Proofs.Ytgocapmclhimdaa

/-! In a growing region: an operation that reads, a call of four. -/
namespace Go.Proofs.Ytgocapmclhimdaa.Grow
open Go Go.RowKit Go.Proofs.Ytgocapmclhimdaa SeMath
section
variable {P : Program} {ops : Array Oper} {w0 : World} {n0 : Nat} {Q : (Tmp → Known) → Prop} {o : Oper} {rest : List Oper} {K : Tmp → Known} {Φ : Known}
theorem grow_see1 {x : Operand} {u z : Value} (hw : Wanted ops K n0 o true) (hxo : x ∈ o.op.operands) (hx : Kn K x (Is u)) (hr : ∀ (a : Act) (w : World), Gr w0 w → a.eval x = u → (execOp a.eval o).run P w = .ok (.value z) w) (h : wpGrow P ops w0 n0 Q rest (upd K o.dst (Is z))) : wpGrow P ops w0 n0 Q (o :: rest) K := by
  refine grow_step hw (fun _ => Is.stays _) (fun a w hg _ hl => ?_) h
  have h1 : a.eval x = u := looks_op (Ψ := Is u) hxo hx hl
  unfold does
  rw [hr a w hg h1]
  exact ⟨Gr.refl w, rfl⟩
theorem grow_see2 {x y : Operand} {u v z : Value} (hw : Wanted ops K n0 o true) (hxo : x ∈ o.op.operands) (hyo : y ∈ o.op.operands) (hx : Kn K x (Is u)) (hy : Kn K y (Is v)) (hr : ∀ (a : Act) (w : World), Gr w0 w → a.eval x = u → a.eval y = v → (execOp a.eval o).run P w = .ok (.value z) w) (h : wpGrow P ops w0 n0 Q rest (upd K o.dst (Is z))) : wpGrow P ops w0 n0 Q (o :: rest) K := by
  refine grow_step hw (fun _ => Is.stays _) (fun a w hg _ hl => ?_) h
  have h1 : a.eval x = u := looks_op (Ψ := Is u) hxo hx hl
  have h2 : a.eval y = v := looks_op (Ψ := Is v) hyo hy hl
  unfold does
  rw [hr a w hg h1 h2]
  exact ⟨Gr.refl w, rfl⟩
theorem grow_call4 {f : FuncId} {x y z q : Operand} {ats : Array TypeId} {Ψ Ψ' Ψ'' Ψ3 : Known} {fn : Func} (ho : o.op = .call { callee := .value (.func f), args := #[x, y, z, q], argTypes := ats }) (hw : Wanted ops K n0 o true) (hf : P.funcs[f]? = some fn) (hn : (fn.name == "runtime.NumGoroutine") = false) (hb : fn.body.isNone = false)
    (hx : Kn K x Ψ) (hy : Kn K y Ψ') (hz : Kn K z Ψ'') (hq : Kn K q Ψ3) (hst : Stays Φ) (hc : ∀ v u t s w, Gr w0 w → Ψ v w → Ψ' u w → Ψ'' t w → Ψ3 s w → Calls P f #[v, u, t, s] w fun e w' => ∃ u, e = .returned u ∧ Gr w w' ∧ Φ u w') (h : wpGrow P ops w0 n0 Q rest (upd K o.dst Φ)) : wpGrow P ops w0 n0 Q (o :: rest) K := by
  refine grow_step hw (fun _ => hst) (fun a w hg _ hl => ?_) h
  have h1 : Ψ (a.eval x) w := looks_op (by simp [ho, Op.operands, Call.operands]) hx hl
  have h2 : Ψ' (a.eval y) w := looks_op (by simp [ho, Op.operands, Call.operands]) hy hl
  have h3 : Ψ'' (a.eval z) w := looks_op (by simp [ho, Op.operands, Call.operands]) hz hl
  have h4 : Ψ3 (a.eval q) w := looks_op (by simp [ho, Op.operands, Call.operands]) hq hl
  obtain ⟨dst, op, ty, pos, after, guard⟩ := o
  simp only at ho
  subst ho
  unfold does
  rw [execOp_call_go, enters hf hn hb]
  exact ⟨Gr.refl w, by simpa using hc _ _ _ _ w hg h1 h2 h3 h4⟩
theorem grow_partK {x : Operand} {i : Nat} {Ψ : Known} (ho : o.op = .extract x i) (hw : Wanted ops K n0 o true) (hx : Kn K x Ψ) (hst : Stays Φ) (hr : ∀ v w, Ψ v w → ∃ z, (Instr.extract v i).run P w = .ok z w ∧ Φ z w) (h : wpGrow P ops w0 n0 Q rest (upd K o.dst Φ)) : wpGrow P ops w0 n0 Q (o :: rest) K := by
  refine grow_step hw (fun _ => hst) (fun a w hg _ hl => ?_) h
  have h1 : Ψ (a.eval x) w := looks_op (Ψ := Ψ) (by simp [ho, Op.operands]) hx hl
  obtain ⟨z, h2, h3⟩ := hr _ w h1
  unfold does execOp
  simp only [ho]
  rw [Sem.run_bind, h2]
  exact ⟨Gr.refl w, h3⟩
end
/-- seats and whether, as they come back -/
abbrev TuK (l : List SeT) (b : Bool) : Known := fun v w => ∃ A c, v = .tuple #[.slice A l.length c, .bool b] ∧ SeX w (.slice A l.length c) l
theorem TuK.stays (l : List SeT) (b : Bool) : Stays (TuK l b) := fun _ _ _ ⟨A, c, h1, h2⟩ hg => ⟨A, c, h1, h2.gr hg⟩
/-- a slice that reads as these seats -/
abbrev SlK (l : List SeT) : Known := fun v w => ∃ A c, v = .slice A l.length c ∧ SeX w (.slice A l.length c) l
theorem SlK.stays (l : List SeT) : Stays (SlK l) := fun _ _ _ ⟨A, c, h1, h2⟩ hg => ⟨A, c, h1, h2.gr hg⟩
end Go.Proofs.Ytgocapmclhimdaa.Grow
