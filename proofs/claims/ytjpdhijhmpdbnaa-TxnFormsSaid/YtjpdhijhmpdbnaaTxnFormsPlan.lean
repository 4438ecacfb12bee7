/-
  Regions of 'TxnForms' that store constants into single cells.
-/
import Derived.Test.YtjpdhijhmpdbnaaTxnFormsRuns
namespace Go.Proofs.Ytjpdhijhmpdbnaa.Grow
open Go Go.RowKit Go.Proofs.Ytjpdhijhmpdbnaa
section
variable {P : Program} {ops : Array Oper} {w0 : World} {n0 : Nat} {Q : (Tmp → Known) → Prop} {o : Oper} {rest : List Oper} {K : Tmp → Known} {Φ : Known}
/-- a plain value out of one, in whatever grown world -/
theorem grow_val1 {x : Operand} {u : Value} (z : Value) (hw : Wanted ops K n0 o true) (hxo : x ∈ o.op.operands) (hx : Kn K x (Is u)) (hr : ∀ (a : Act) (w : World), Gr w0 w → a.eval x = u → (execOp a.eval o).run P w = .ok (.value z) w)
    (h : wpGrow P ops w0 n0 Q rest (upd K o.dst (Is z))) : wpGrow P ops w0 n0 Q (o :: rest) K := by
  refine grow_step hw (fun _ => Is.stays z) (fun a w hg _ hl => ?_) h
  have h1 : a.eval x = u := looks_op (Ψ := Is u) hxo hx hl
  unfold does
  rw [hr a w hg h1]
  exact ⟨Gr.refl w, rfl⟩
/-- .. out of two -/
theorem grow_val2 {x y : Operand} {u v : Value} (z : Value) (hw : Wanted ops K n0 o true) (hxo : x ∈ o.op.operands) (hyo : y ∈ o.op.operands) (hx : Kn K x (Is u)) (hy : Kn K y (Is v)) (hr : ∀ (a : Act) (w : World), Gr w0 w → a.eval x = u → a.eval y = v → (execOp a.eval o).run P w = .ok (.value z) w)
    (h : wpGrow P ops w0 n0 Q rest (upd K o.dst (Is z))) : wpGrow P ops w0 n0 Q (o :: rest) K := by
  refine grow_step hw (fun _ => Is.stays z) (fun a w hg _ hl => ?_) h
  have h1 : a.eval x = u := looks_op (Ψ := Is u) hxo hx hl
  have h2 : a.eval y = v := looks_op (Ψ := Is v) hyo hy hl
  unfold does
  rw [hr a w hg h1 h2]
  exact ⟨Gr.refl w, rfl⟩
end

end Go.Proofs.Ytjpdhijhmpdbnaa.Grow
namespace Go.Proofs.Ytjpdhijhmpdbnaa
open Go Go.RowKit TxnMath KeyMath
open Go.Proofs.Ytjpdhijhmpdbnaa.Flow (HitG Sees LaidG RowN)
set_option maxRecDepth 100000

abbrev Vals := List (Nat × Nat × Nat × Value)
/-- these constants, as a plan -/
def PL (L : Vals) : Plan := L.map fun x => (x.1, x.2.1, x.2.2.1, Grow.Is x.2.2.2)
def sameB (κ z j : Nat) (x : Nat × Nat × Nat × Value) : Bool := Nat.beq x.1 κ && (Nat.beq x.2.1 z && Nat.beq x.2.2.1 j)
/-- what is stored by a plan of constants -/
def RelP (gb : Nat) (R W : Nat → Nat) (L : Vals) : World → World → Prop := HitG (HL gb R W (PL L)) (GL gb R W (PL L))
theorem sameB_of {κ z j : Nat} {x : Nat × Nat × Nat × Value} (h1 : x.1 = κ) (h2 : x.2.1 = z) (h3 : x.2.2.1 = j) : sameB κ z j x = true := by
  unfold sameB
  rw [h1, h2, h3]
  simp
theorem PL.stays {gb : Nat} {R W : Nat → Nat} (L : Vals) : ∀ k i, Flow.Stays (HitG (HL gb R W (PL L)) (GL gb R W (PL L))) (GL gb R W (PL L) k i) :=
  GL.stays (fun x hx => by
    obtain ⟨y, _, rfl⟩ := List.mem_map.1 hx
    exact fun _ _ _ h _ => h)
theorem RelP.refl {gb : Nat} {R W : Nat → Nat} {L : Vals} : ∀ a, RelP gb R W L a a := HitG.refl
theorem RelP.trans {gb : Nat} {R W : Nat → Nat} {L : Vals} : ∀ a b c, RelP gb R W L a b → RelP gb R W L b c → RelP gb R W L a c := HitG.trans (PL.stays L)
def fitsB (L : Vals) (n : Nat) : Bool := L.all fun x => decide (x.1 < 3) && decide (x.2.1 < n) && decide (x.2.2.1 < wd x.1)
theorem PL.fits {L : Vals} {n : Nat} (h : fitsB L n = true) : Fits (PL L) n := fun x hx => by
  obtain ⟨y, hy, rfl⟩ := List.mem_map.1 hx
  have := List.all_eq_true.1 h y hy
  simp only [Bool.and_eq_true, decide_eq_true_eq] at this
  exact ⟨this.1.1, this.1.2, this.2⟩
/-- a cell that is not stored into -/
theorem Mem.stillP {w w' : World} {n gb : Nat} {R W : Nat → Nat} {val : Nat → Nat → Nat → Value} (h : Mem w n gb R W val) {L : Vals} (hL : fitsB L n = true) (hh : RelP gb R W L w w') (κ z j : Nat) (h1 : κ < 3) (h2 : z < n) (h3 : j < wd κ) (hno : (L.any (sameB κ z j)) = false) : Sees w' (bk gb R W κ z) (ix κ z j) (ty κ) (val κ z j) :=
  h.still (PL.fits hL) hh h1 h2 h3 (fun x hx e1 e2 e3 => by
    obtain ⟨y, hy, rfl⟩ := List.mem_map.1 hx
    have : L.any (sameB κ z j) = true := List.any_eq_true.2 ⟨y, hy, sameB_of e1 e2 e3⟩
    rw [hno] at this
    cases this)
/-- a cell that is: it holds what is laid -/
def LaidP (gb : Nat) (R W : Nat → Nat) (κ z j : Nat) (v : Value) : Grow.Known := LaidG (bk gb R W κ z) (ix κ z j) (ty κ) (Grow.Is v)
theorem Mem.laidP {w : World} {n gb : Nat} {R W : Nat → Nat} {val : Nat → Nat → Nat → Value} (h : Mem w n gb R W val) {L : Vals} (hL : fitsB L n = true) {κ z j : Nat} {v : Value} (h1 : κ < 3) (h2 : z < n) (h3 : j < wd κ) (ho : L.filter (sameB κ z j) = [(κ, z, j, v)]) : Flow.Stays (RelP gb R W L) (LaidP gb R W κ z j v) :=
  LaidG.stays (fun _ _ _ h _ => h) (fun u w' hg => h.only (PL.fits hL) h1 h2 h3 (fun x hx e1 e2 e3 => by
    obtain ⟨y, hy, rfl⟩ := List.mem_map.1 hx
    have hm : y ∈ L.filter (sameB κ z j) := List.mem_filter.2 ⟨hy, sameB_of e1 e2 e3⟩
    rw [ho, List.mem_singleton] at hm
    rw [hm]) u w' hg)
theorem Mem.storeP {w w0 : World} {n gb : Nat} {R W : Nat → Nat} {val : Nat → Nat → Nat → Value} (h : Mem w0 n gb R W val) {L : Vals} (hh : RelP gb R W L w0 w) {tt : TypeId} (hsz : ∀ w, (sizeOf tt).run Try.prog w = .ok 1 w) {κ z j : Nat} {v : Value} (h1 : κ < 3) (h2 : z < n) (h3 : j < wd κ) (hv : plainV v = true) (ho : L.filter (sameB κ z j) = [(κ, z, j, v)]) :
    ∃ w', (Instr.storeAt tt (.pointer (some ⟨bk gb R W κ z, ix κ z j, none⟩)) v).run Try.prog w = .ok () w' ∧ RelP gb R W L w w' ∧ LaidP gb R W κ z j v undef w' :=
  h.store_ hh hsz h1 h2 h3 hv (Ψ := Grow.Is v) (List.mem_map.2 ⟨(κ, z, j, v), (List.mem_filter.1 (by rw [ho]; exact List.mem_singleton.2 rfl)).1, rfl⟩) rfl
theorem LaidP.sees {gb : Nat} {R W : Nat → Nat} {κ z j : Nat} {v u : Value} {w : World} (h : LaidP gb R W κ z j v u w) : Sees w (bk gb R W κ z) (ix κ z j) (ty κ) v := by
  obtain ⟨x, h1, h2⟩ := h
  have : x = v := h2
  rw [← this]
  exact h1
/-- behind the region -/
theorem Mem.putP {w w' : World} {n gb : Nat} {R W : Nat → Nat} {val : Nat → Nat → Nat → Value} (h : Mem w n gb R W val) {L : Vals} (hL : fitsB L n = true) (hh : RelP gb R W L w w') (hS : ∀ x ∈ L, ∃ u, LaidP gb R W x.1 x.2.1 x.2.2.1 x.2.2.2 u w') : Mem w' n gb R W (over L val) :=
  h.put (PL.fits hL) hh L (by unfold PL; rw [List.map_map]; rfl) (fun x hx => by
    obtain ⟨u, hu⟩ := hS x hx
    exact ⟨_, hu.sees⟩)
theorem four_all {P : Nat × Nat × Nat × Value → Prop} {a b c d : Nat × Nat × Nat × Value} (h1 : P a) (h2 : P b) (h3 : P c) (h4 : P d) : ∀ x ∈ [a, b, c, d], P x := by
  intro x hx
  simp only [List.mem_cons, List.not_mem_nil, or_false] at hx
  rcases hx with rfl | rfl | rfl | rfl <;> assumption
theorem two_all {P : Nat × Nat × Nat × Value → Prop} {a b : Nat × Nat × Nat × Value} (h1 : P a) (h2 : P b) : ∀ x ∈ [a, b], P x := by
  intro x hx
  simp only [List.mem_cons, List.not_mem_nil, or_false] at hx
  rcases hx with rfl | rfl <;> assumption
theorem RelP.gr {gb : Nat} {R W : Nat → Nat} {L : Vals} {a w w' : World} (hg : Gr a w) (h : RelP gb R W L w w') (hgb : a.heap.size ≤ gb) (hR : ∀ z, z < 16 → a.heap.size ≤ R z ∧ a.heap.size ≤ W z) (hL : fitsB L 16 = true) : Gr a w' :=
  HitG.gr hg h (fun k ⟨x, hx, hk⟩ => by
    obtain ⟨f1, f2, _⟩ := PL.fits hL x hx
    have := hR x.2.1 f2
    rw [hk]
    match hx1 : x.1, f1 with
    | 0, _ => exact hgb
    | 1, _ => exact this.1
    | 2, _ => exact this.2)

theorem Mem.drew_ {w : World} {n gb : Nat} {R W : Nat → Nat} {val : Nat → Nat → Nat → Value} (h : Mem w n gb R W val) : Mem w.drew n gb R W val := ⟨fun κ z j a b c => h.sees κ z j a b c, h.injR, h.injW, h.blk⟩

/-! The operations of such a region. -/
theorem ld_row (w : World) {g i : Nat} {t tt : TypeId} {v : Value} (ha : ∀ w, (isAgg tt).run Try.prog w = .ok false w) (h : Sees w g i t v) : (Instr.loadAt tt (.pointer (some ⟨g, i, none⟩))).run Try.prog w = .ok v w := by
  simp [Instr.loadAt, Instr.sureAddr, loadVar, ha w, h.cell]
theorem ld_txn (w : World) {g : Nat} {a b c d : Value} (h : Bl w g 28 #[a, b, c, d]) : (Instr.loadAt 28 (.pointer (some ⟨g, 0, none⟩))).run Try.prog w = .ok (.agg #[a, b, c, d]) w := load_txn (z := 0) ⟨_, h, rfl⟩ ⟨_, h, rfl⟩ ⟨_, h, rfl⟩ ⟨_, h, rfl⟩
section
variable {ops : Array Oper} {w0 : World} {n0 : Nat} {Q : (Tmp → Grow.Known) → (World → Prop) → Prop} {o : Oper} {rest : List Oper} {K : Tmp → Grow.Known} {I : World → Prop} {Rel : World → World → Prop}
theorem Flow.at_txn {x : Operand} {g : Nat} (z : Nat) (hR1 : ∀ a, Rel a a) (ho : o.op = .indexAddr 42 x (.const (.int .i64 (z : Int)))) (hg : o.guard = none) (hx : Grow.Kn K x (Grow.Is (.slice (some ⟨g, 0, none⟩) 16 16))) (hz : z < 16)
    (h : Flow.wpFlow Try.prog Rel ops w0 n0 Q rest (Grow.upd K o.dst (Grow.Is (.pointer (some ⟨g, 4 * z, none⟩)))) (Flow.also o.dst (Grow.Is (.pointer (some ⟨g, 4 * z, none⟩))) I)) : Flow.wpFlow Try.prog Rel ops w0 n0 Q (o :: rest) K I :=
  Flow.val1 (x := x) (.pointer (some ⟨g, 4 * z, none⟩)) hR1 hg (by simp [ho, Op.operands]) hx (fun a w' _ h => by
    unfold execOp
    simp only [ho, h, show ∀ c, a.eval (.const c) = c from fun _ => rfl, Sem.run_bind, Go.Proofs.Ytjpdhijhmpdbnaa.at_txn w' hz]
    rfl) h
theorem Flow.at_read {x : Operand} {g c : Nat} (z : Nat) (hR1 : ∀ a, Rel a a) (ho : o.op = .indexAddr 25 x (.const (.int .i64 (z : Int)))) (hg : o.guard = none) (hx : Grow.Kn K x (Grow.Is (.slice (some ⟨g, 0, none⟩) 2 c))) (hz : z < 2)
    (h : Flow.wpFlow Try.prog Rel ops w0 n0 Q rest (Grow.upd K o.dst (Grow.Is (.pointer (some ⟨g, 4 * z, none⟩)))) (Flow.also o.dst (Grow.Is (.pointer (some ⟨g, 4 * z, none⟩))) I)) : Flow.wpFlow Try.prog Rel ops w0 n0 Q (o :: rest) K I :=
  Flow.val1 (x := x) (.pointer (some ⟨g, 4 * z, none⟩)) hR1 hg (by simp [ho, Op.operands]) hx (fun a w' _ h => by
    unfold execOp
    simp only [ho, h, show ∀ c, a.eval (.const c) = c from fun _ => rfl, Sem.run_bind, Go.Proofs.Ytjpdhijhmpdbnaa.at_read w' g c z _ _ hz rfl rfl]
    rfl) h
theorem Flow.at_write {x : Operand} {g c : Nat} (z : Nat) (hR1 : ∀ a, Rel a a) (ho : o.op = .indexAddr 26 x (.const (.int .i64 (z : Int)))) (hg : o.guard = none) (hx : Grow.Kn K x (Grow.Is (.slice (some ⟨g, 0, none⟩) 2 c))) (hz : z < 2)
    (h : Flow.wpFlow Try.prog Rel ops w0 n0 Q rest (Grow.upd K o.dst (Grow.Is (.pointer (some ⟨g, 3 * z, none⟩)))) (Flow.also o.dst (Grow.Is (.pointer (some ⟨g, 3 * z, none⟩))) I)) : Flow.wpFlow Try.prog Rel ops w0 n0 Q (o :: rest) K I :=
  Flow.val1 (x := x) (.pointer (some ⟨g, 3 * z, none⟩)) hR1 hg (by simp [ho, Op.operands]) hx (fun a w' _ h => by
    unfold execOp
    simp only [ho, h, show ∀ c, a.eval (.const c) = c from fun _ => rfl, Sem.run_bind, Go.Proofs.Ytjpdhijhmpdbnaa.at_write w' g c z _ _ hz rfl rfl]
    rfl) h
theorem Flow.fld {x : Operand} {t : TypeId} {i g m m' : Nat} (hR1 : ∀ a, Rel a a) (ho : o.op = .fieldAddr t x i) (hg : o.guard = none) (hx : Grow.Kn K x (Grow.Is (.pointer (some ⟨g, m, none⟩)))) (hr : ∀ w, (Instr.fieldAt t (.pointer (some ⟨g, m, none⟩)) i).run Try.prog w = .ok (.pointer (some ⟨g, m', none⟩)) w)
    (h : Flow.wpFlow Try.prog Rel ops w0 n0 Q rest (Grow.upd K o.dst (Grow.Is (.pointer (some ⟨g, m', none⟩)))) (Flow.also o.dst (Grow.Is (.pointer (some ⟨g, m', none⟩))) I)) : Flow.wpFlow Try.prog Rel ops w0 n0 Q (o :: rest) K I :=
  Flow.val1 (x := x) (.pointer (some ⟨g, m', none⟩)) hR1 hg (by simp [ho, Op.operands]) hx (fun a w' _ h => by
    unfold execOp
    simp only [ho, h, Sem.run_bind, hr w']
    rfl) h
theorem Flow.ld {x : Operand} {t : TypeId} {g m : Nat} {v : Value} (hR1 : ∀ a, Rel a a) (ho : o.op = .load t x) (hg : o.guard = none) (hx : Grow.Kn K x (Grow.Is (.pointer (some ⟨g, m, none⟩)))) (hr : ∀ w, Rel w0 w → (Instr.loadAt t (.pointer (some ⟨g, m, none⟩))).run Try.prog w = .ok v w)
    (h : Flow.wpFlow Try.prog Rel ops w0 n0 Q rest (Grow.upd K o.dst (Grow.Is v)) (Flow.also o.dst (Grow.Is v) I)) : Flow.wpFlow Try.prog Rel ops w0 n0 Q (o :: rest) K I :=
  Flow.val1 (x := x) v hR1 hg (by simp [ho, Op.operands]) hx (fun a w' hh h => by
    unfold execOp
    simp only [ho, h, Sem.run_bind, hr w' hh]
    rfl) h
end

end Go.Proofs.Ytjpdhijhmpdbnaa
