/-
  Rows of rows of numbers in an open region. No function of the program.
-/
import Derived.Test.YtiinidkofonidaaIntRows
import Derived.Test.YtiinidkofonidaaBaseG
namespace Go.Proofs.Ytiinidkofonidaa.Grow
open Go Go.RowKit Go.Proofs.Ytiinidkofonidaa
set_option maxRecDepth 100000

/-- rows of numbers of the call's own -/
abbrev Rw (ls : List (List Int)) : Known := fun v w => ∃ B, RowsI w B v ls
theorem Rw.stays (ls : List (List Int)) : Stays (Rw ls) := fun _ _ _ ⟨B, h⟩ hg => ⟨B, h.gr hg⟩
theorem Rw.is {ls : List (List Int)} : ∀ v w, Rw ls v w → ∃ A c, v = .slice A ls.length c := fun _ _ ⟨_, h⟩ => h.is
/-- a slice of these numbers -/
abbrev Ii (l : List Int) : Known := fun v w => IntsX w v l
theorem Ii.stays (l : List Int) : Stays (Ii l) := fun _ _ _ h hg => h.gr hg
theorem Ii.is {l : List Int} : ∀ v w, Ii l v w → ∃ A c, v = .slice A l.length c := fun _ _ h => by
  obtain ⟨A, c, h1, _⟩ := IntsX.is h
  exact ⟨A, c, h1⟩
theorem size_row : ∀ w, (sizeOf 32).run Try.prog w = .ok 1 w := fun w => by kernel_rfl

section
variable {ops : Array Oper} {w0 : World} {n0 : Nat} {Q : (Tmp → Known) → Prop} {o : Oper} {rest : List Oper} {K : Tmp → Known} {Φ : Known}
/-- 'rows[j]', where it lies -/
theorem grow_at_rw {x y : Operand} {ls : List (List Int)} {l : List Int} {n : Int} (j : Nat) (hn : n = (j : Int)) (hl : ls[j]? = some l) (ho : o.op = .indexAddr 28 x y) (hw : Wanted ops K n0 o true) (hx : Kn K x (Rw ls)) (hy : Kn K y (Is (.int .i64 n)))
    (h : wpGrow Try.prog ops w0 n0 Q rest (upd K o.dst (Pk (Ii l)))) : wpGrow Try.prog ops w0 n0 Q (o :: rest) K := by
  subst hn
  refine grow_step hw (fun _ => Pk.stays (Ii.stays l)) (fun a w _ _ hk => ?_) h
  obtain ⟨B, hb⟩ : Rw ls (a.eval x) w := looks_op (Ψ := Rw ls) (by simp [ho, Op.operands]) hx hk
  have h2 : a.eval y = .int .i64 (j : Int) := looks_op (Ψ := Is (.int .i64 (j : Int))) (by simp [ho, Op.operands]) hy hk
  obtain ⟨hj, rfl⟩ := List.getElem?_eq_some_iff.1 hl
  obtain ⟨g, c, h1, hc⟩ := hb.at_ (by omega)
  obtain ⟨A, c', a0, i0, _⟩ := hc j hj
  unfold does execOp
  simp only [ho, h1, h2, Sem.run_bind, run_indexAt_slice w 28 _ _ _ _ _ Try.underlying28]
  rw [if_pos (by omega)]
  have hs : ∀ w, (sizeOf (Try.prog.elem 28)).run Try.prog w = .ok 1 w := size_row
  rw [hs w]
  simp only [Result.andThen_ok, Int.toNat_natCast, Nat.mul_one]
  exact ⟨Gr.refl w, ⟨g, j, none⟩, _, by rw [addr_at], a0, i0⟩
/-- 'row[j]', where it lies -/
theorem grow_at_ii {x y : Operand} {l : List Int} {n z : Int} (j : Nat) (hn : n = (j : Int)) (hz : l[j]? = some z) (ho : o.op = .indexAddr 32 x y) (hw : Wanted ops K n0 o true) (hx : Kn K x (Ii l)) (hy : Kn K y (Is (.int .i64 n)))
    (h : wpGrow Try.prog ops w0 n0 Q rest (upd K o.dst (Pt (.int .i64 z)))) : wpGrow Try.prog ops w0 n0 Q (o :: rest) K := by
  subst hn
  refine grow_step hw (fun _ => Pt.stays _) (fun a w _ _ hk => ?_) h
  have hb : Ii l (a.eval x) w := looks_op (Ψ := Ii l) (by simp [ho, Op.operands]) hx hk
  have h2 : a.eval y = .int .i64 (j : Int) := looks_op (Ψ := Is (.int .i64 (j : Int))) (by simp [ho, Op.operands]) hy hk
  obtain ⟨hj, rfl⟩ := List.getElem?_eq_some_iff.1 hz
  obtain ⟨A, c, h1, _, hc⟩ := IntsX.is hb
  obtain ⟨ad, rfl, a0⟩ := hc j hj
  unfold does execOp
  simp only [ho, h1, h2, Sem.run_bind, run_indexAt_slice w 32 _ _ _ _ _ Try.underlying32]
  rw [if_pos (by omega)]
  have hs : ∀ w, (sizeOf (Try.prog.elem 32)).run Try.prog w = .ok 1 w := size_int
  rw [hs w]
  simp only [Result.andThen_ok, Int.toNat_natCast, Nat.mul_one]
  exact ⟨Gr.refl w, _, rfl, a0⟩
end
end Go.Proofs.Ytiinidkofonidaa.Grow
