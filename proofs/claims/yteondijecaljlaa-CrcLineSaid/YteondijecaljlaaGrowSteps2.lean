/-
  More steps of a growing region's walk: indexes, loads. No program.
-/
import Derived.Test.YteondijecaljlaaGrowSteps
import Derived.Test.YteondijecaljlaaWords2
namespace Go.Proofs.Yteondijecaljlaa.Grow
open Go Go.RowKit Go.Proofs.Yteondijecaljlaa

/-- this slice, which reads as these cells -/
abbrev Cl (ad : Addr) (n c : Nat) (xs : List Value) : Known := fun v w => v = .slice (some ad) n c ∧ n = xs.length ∧ ∀ j u, xs[j]? = some u → w.cell? (ad.add j) = some u
theorem Cl.stays (ad : Addr) (n c : Nat) (xs : List Value) : Stays (Cl ad n c xs) := fun _ _ _ ⟨h1, hn, h2⟩ hg => ⟨h1, hn, fun j u hu => gr_cell hg _ _ (h2 j u hu)⟩
/-- a pointer to a cell that holds this -/
abbrev Pt (u : Value) : Known := fun v w => ∃ a, v = .pointer (some a) ∧ w.cell? a = some u
theorem Pt.stays (u : Value) : Stays (Pt u) := fun _ _ _ ⟨a, h1, h2⟩ hg => ⟨a, h1, gr_cell hg _ _ h2⟩

/-- a pointer to a block of just these bytes -/
abbrev Pb (g : Nat) (e : TypeId) (l : List UInt8) : Known := fun v w => v = .pointer (some ⟨g, 0, none⟩) ∧ Bl w g e (bvs l).toArray
theorem Pb.stays (g : Nat) (e : TypeId) (l : List UInt8) : Stays (Pb g e l) := fun _ _ _ ⟨h1, h2⟩ hg => ⟨h1, h2.gr hg⟩

section
variable {P : Program} {ops : Array Oper} {w0 : World} {n0 : Nat} {Q : (Tmp → Known) → Prop} {o : Oper} {rest : List Oper} {K : Tmp → Known} {Φ : Known}

theorem grow_index {t : TypeId} {x y : Operand} {k : IntKind} {ad : Addr} {m c : Nat} {xs : List Value} {n : Int} {u : Value} (j : Nat) (ho : o.op = .indexAddr t x y) (ht : P.underlying t = some (.slice (P.elem t))) (hsz : ∀ w, (sizeOf (P.elem t)).run P w = .ok 1 w) (hw : Wanted ops K n0 o true)
    (hx : Kn K x (Cl ad m c xs)) (hy : Kn K y (Is (.int k n))) (hn : n = (j : Int)) (hu : xs[j]? = some u) (h : wpGrow P ops w0 n0 Q rest (upd K o.dst (Pt u))) : wpGrow P ops w0 n0 Q (o :: rest) K := by
  subst hn
  refine grow_step hw (fun _ => Pt.stays _) (fun a w _ _ hl => ?_) h
  obtain ⟨h1, hm, hc⟩ : a.eval x = .slice (some ad) m c ∧ m = xs.length ∧ ∀ j u, xs[j]? = some u → w.cell? (ad.add j) = some u := looks_op (Ψ := Cl ad m c xs) (by simp [ho, Op.operands]) hx hl
  have h2 : a.eval y = .int k (j : Int) := looks_op (Ψ := Is (.int k (j : Int))) (by simp [ho, Op.operands]) hy hl
  have hj : j < xs.length := (List.getElem?_eq_some_iff.1 hu).1
  unfold does execOp
  simp only [ho, h1, h2, Sem.run_bind, run_indexAt_slice w t _ _ _ _ _ ht]
  rw [if_pos (by omega), hsz w]
  simp only [Result.andThen_ok, Int.toNat_natCast, Nat.mul_one]
  exact ⟨Gr.refl w, _, rfl, hc j u hu⟩

theorem grow_load {t : TypeId} {x : Operand} {u : Value} (ho : o.op = .load t x) (ha : ∀ w, (isAgg t).run P w = .ok false w) (hw : Wanted ops K n0 o true) (hx : Kn K x (Pt u)) (h : wpGrow P ops w0 n0 Q rest (upd K o.dst (Is u))) : wpGrow P ops w0 n0 Q (o :: rest) K := by
  refine grow_step hw (fun _ => Is.stays _) (fun a w _ _ hl => ?_) h
  obtain ⟨ad, h1, hc⟩ : ∃ ad, a.eval x = .pointer (some ad) ∧ w.cell? ad = some u := looks_op (Ψ := Pt u) (by simp [ho, Op.operands]) hx hl
  unfold does execOp
  have hr : (Instr.loadAt t (.pointer (some ad))).run P w = .ok u w := by
    simp [Instr.loadAt, Instr.sureAddr, loadVar, ha w, hc]
  simp only [ho, h1]
  rw [Sem.run_bind, hr]
  exact ⟨Gr.refl w, rfl⟩

/-- 'x[:]' of an array of bytes that lies in memory -/
theorem grow_arr {t : TypeId} {x : Operand} {g : Nat} {e : TypeId} {n : Nat} {l : List UInt8} (ho : o.op = .slice t x none none none) (hw : Wanted ops K n0 o true) (hn : n = l.length) (hm : n ≤ maxLen) (hr : ∀ w, (Instr.sliceAt t (.pointer (some ⟨g, 0, none⟩)) none none none).run P w = .ok (.slice (some ⟨g, 0, none⟩) n n) w)
    (hx : Kn K x (Pb g e l)) (h : wpGrow P ops w0 n0 Q rest (upd K o.dst (Sl l))) : wpGrow P ops w0 n0 Q (o :: rest) K := by
  subst hn
  refine grow_step hw (fun _ => Sl.stays _) (fun a w _ _ hl => ?_) h
  obtain ⟨h1, hb⟩ : a.eval x = .pointer (some ⟨g, 0, none⟩) ∧ Bl w g e (bvs l).toArray := looks_op (Ψ := Pb g e l) (by simp [ho, Op.operands]) hx hl
  unfold does execOp
  simp only [ho, h1, Option.map_none, Sem.run_bind, hr w]
  refine ⟨Gr.refl w, some ⟨g, 0, none⟩, l.length, rfl, fun j hj => ⟨_, rfl, ?_⟩, Nat.le_refl _, hm, fun h => by cases h⟩
  have e2 : (⟨g, 0, none⟩ : Addr).add j = ⟨g, j, none⟩ := by unfold Addr.add; split <;> simp_all
  rw [e2, hb.cell j]
  simp [bvs, hj]

theorem grow_mvc {x : Operand} {ad : Addr} {n c : Nat} {xs : List Value} (ho : o.op = .move x ∨ o.op = .assign x) (hw : Wanted ops K n0 o true) (hk : Kn K x (Cl ad n c xs)) (h : wpGrow P ops w0 n0 Q rest (upd K o.dst (Cl ad n c xs))) : wpGrow P ops w0 n0 Q (o :: rest) K :=
  grow_move x ho hw hk (Cl.stays ad n c xs) h
end

end Go.Proofs.Yteondijecaljlaa.Grow
