/-
  Steps of an open region that builds on a row: numbers, an array's element, a slice's front.
-/
import Derived.Test.YtncdmecppfmmgaaMgMem
import Derived.Test.YtncdmecppfmmgaaMineV
import Derived.Test.YtncdmecppfmmgaaRowCut
namespace Go.Proofs.Ytncdmecppfmmgaa.Mine
open Go Go.RowKit Go.Proofs.Ytncdmecppfmmgaa
section
variable {ops : Array Oper} {w0 : World} {n0 : Nat} {Q : (Tmp → Known) → Tmp → Known → Prop} {o : Oper} {rest : List Oper} {K : Tmp → Known} {c : Tmp} {C : Known}

/-- two numbers -/
theorem bin_int {b : BinOp} {xt rt : TypeId} {x y : Operand} {k : IntKind} {m n : Int} {z : Value} (ho : o.op = .binOp b xt x y rt) (hg : o.guard = none) (hd : o.dst ≠ some c) (hx : Kn K x (Is (.int k m))) (hy : Kn K y (Is (.int k n)))
    (hr : binOp b xt (.int k m) (.int k n) = pure z) (h : wpMine Try.prog ops w0 n0 Q rest (upd K o.dst (Is z)) c C) : wpMine Try.prog ops w0 n0 Q (o :: rest) K c C :=
  is2 z hg hd (by simp [ho, Op.operands]) (by simp [ho, Op.operands]) hx hy (fun a w h1 h2 => by
    unfold execOp
    simp only [ho, h1, h2]
    rw [Sem.run_bind, Grow.run_with_guard (by simp) (by simp) (by rw [hr]; rfl)]
    rfl) h
/-- a byte as an int -/
theorem conv8 {x : Operand} {n : Nat} (ho : o.op = .convert 5 3 x) (hg : o.guard = none) (hd : o.dst ≠ some c) (hn : n < 256) (hx : Kn K x (Is (.int .u8 (n : Int))))
    (h : wpMine Try.prog ops w0 n0 Q rest (upd K o.dst (Is (.int .i64 (n : Int)))) c C) : wpMine Try.prog ops w0 n0 Q (o :: rest) K c C := by
  refine step hg hd (Is.stays _) (fun a w ob _ hl => ?_) h
  have h1 : a.eval x = .int .u8 (n : Int) := looks_op (Ψ := Is (.int .u8 (n : Int))) (by simp [ho, Op.operands]) hx hl
  have hr : (convert 5 3 (.int .u8 (n : Int))).run Try.prog w = .ok (.int .i64 (n : Int)) w := by
    simp [go_sem]
    simp [IntKind.wrap, IntKind.bits, IntKind.signed]
    omega
  unfold does execOp
  simp only [ho, h1]
  rw [Sem.run_bind, hr]
  exact ⟨Gr.refl w, rfl⟩
/-- 'x[:j]' of a known slice -/
theorem take_is {t : TypeId} {x y : Operand} {A : Option Addr} {n d j s : Nat} (ho : o.op = .slice t x none (some y) none) (hg : o.guard = none) (hd : o.dst ≠ some c) (hx : Kn K x (Is (.slice A n d))) (hy : Kn K y (Is (.int .i64 (j : Int)))) (hj : j ≤ d)
    (ht : Try.prog.underlying t = some (.slice (Try.prog.elem t))) (hsz : ∀ w, (sizeOf (Try.prog.elem t)).run Try.prog w = .ok s w) (h : wpMine Try.prog ops w0 n0 Q rest (upd K o.dst (Is (.slice A j d))) c C) : wpMine Try.prog ops w0 n0 Q (o :: rest) K c C :=
  is2 (.slice A j d) hg hd (by simp [ho, Op.operands]) (by simp [ho, Op.operands]) hx hy (fun _ _ h1 h2 => exec_take ho h1 h2 hj ht hsz) h
/-- an array's element -/
theorem index_arr {t e : TypeId} {x y : Operand} {g : Nat} {cs : Array Value} {n : Int} {u : Value} (j : Nat) (ho : o.op = .indexAddr t x y) (hg : o.guard = none) (hd : o.dst ≠ some c) (ht : Try.prog.underlying t = some (.array (Try.prog.arrayLen t) (Try.prog.elem t))) (hjl : j < Try.prog.arrayLen t)
    (hsz : ∀ w, (sizeOf (Try.prog.elem t)).run Try.prog w = .ok 1 w) (hx : Kn K x (Bx g e cs)) (hy : Kn K y (Is (.int .i64 n))) (hn : n = (j : Int)) (hu : cs[j]? = some u) (h : wpMine Try.prog ops w0 n0 Q rest (upd K o.dst (Ce u)) c C) : wpMine Try.prog ops w0 n0 Q (o :: rest) K c C := by
  subst hn
  refine step hg hd (Ce.stays _) (fun a w ob _ hl => ?_) h
  obtain ⟨h1, hb, hne⟩ : Bx g e cs (a.eval x) w ob := looks_op (Ψ := Bx g e cs) (by simp [ho, Op.operands]) hx hl
  have h2 : a.eval y = .int .i64 (j : Int) := looks_op (Ψ := Is (.int .i64 (j : Int))) (by simp [ho, Op.operands]) hy hl
  unfold does execOp
  simp only [ho, h1, h2, Sem.run_bind, run_indexAt_array w t _ _ _ ht]
  rw [if_pos (by omega), hsz w]
  simp only [Result.andThen_ok, Int.toNat_natCast, Nat.mul_one]
  exact ⟨Gr.refl w, _, rfl, by rw [addr_at, hb.cell]; exact hu, by rw [add_block]; exact hne⟩
end
end Go.Proofs.Ytncdmecppfmmgaa.Mine
namespace Go.Proofs.Ytncdmecppfmmgaa
open Go Go.RowKit
theorem rem_i (n m : Nat) (hm : 0 < m) : binOp .rem 3 (.int .i64 (n : Int)) (.int .i64 (m : Int)) = pure (.int .i64 ((n % m : Nat) : Int)) := by
  have e : (n : Int).tmod (m : Int) = ((n % m : Nat) : Int) := rfl
  rw [binOp_rem]
  simp [Op.intDiv, e]
  omega
theorem add_i (n m : Int) (h : -1000000000 ≤ n + m ∧ n + m ≤ 1000000000) : binOp .add 3 (.int .i64 n) (.int .i64 m) = pure (.int .i64 (n + m)) := by
  rw [binOp_add]
  unfold Op.intArith
  have hw : IntKind.i64.wrap (n + m) = n + m := IntWalk.i64_in _ (by omega)
  simp only [hw]
end Go.Proofs.Ytncdmecppfmmgaa
