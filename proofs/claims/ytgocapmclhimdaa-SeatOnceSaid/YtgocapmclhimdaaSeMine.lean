/-
  Open regions over rows of seats: rows that are spread, a method value, a call of two, a literal of one that is new. No function of the program.
-/
import Derived.Test.YtgocapmclhimdaaSeMem
import Derived.Test.YtgocapmclhimdaaRowStep
namespace Go.Proofs.Ytgocapmclhimdaa
open Go Go.RowKit SeMath
set_option maxRecDepth 100000
theorem rs_grew {w w' : World} {o : Option Nat} (h : Mine.RS w none w' o) : Gr w w' := ⟨h.gb.os, h.gb.tape, h.gb.output, h.gb.size, fun k hk => h.gb.block k hk (by simp)⟩
theorem Bl.but_ {w w' : World} {k g : Nat} {t : TypeId} {cs : Array Value} (h : Bl w k t cs) (hb : But w w' g) (hne : k ≠ g) : Bl w' k t cs := (hb.block k h.lt (fun e => hne (by injection e))).trans h
end Go.Proofs.Ytgocapmclhimdaa

namespace Go.Proofs.Ytgocapmclhimdaa.Mine
open Go Go.RowKit Go.Proofs.Ytgocapmclhimdaa SeMath
set_option maxRecDepth 100000

/-- a slice whose elements, of k cells each, are these, that does not lie in the row's block -/
abbrev SlR (k : Nat) (qs : List (List Value)) : Known := fun v w o => RowAt k w v qs ∧ (∀ q ∈ qs, 0 < q.length) ∧ ∀ ad n c, v = .slice (some ad) n c → 0 < n → some ad.block ≠ o
theorem SlR.stays' (k : Nat) (qs : List (List Value)) (v : Value) (w : World) (o : Option Nat) (w' : World) (o' : Option Nat) (h : SlR k qs v w o) (hr : RS w o w' o') : SlR k qs v w' o' := by
  obtain ⟨h1, h2, h3⟩ := h
  obtain ⟨A, c, rfl, hc, hrd⟩ := h1
  have hlt : ∀ ad, A = some ad → 0 < qs.length → ad.block < w.heap.size := by
    intro ad hA hl
    obtain ⟨q, l, rfl⟩ : ∃ q l, qs = q :: l := by
      cases qs with
      | nil => simp at hl
      | cons q l => exact ⟨q, l, rfl⟩
    have h0 := h2 q (by simp)
    obtain ⟨ad', e1, e2⟩ := hrd 0 0 q q[0] (by simp) (by simp)
    rw [hA] at e1
    injection e1 with e1
    subst e1
    have := World.block_lt_of_cell? w _ e2
    rwa [add_block] at this
  refine ⟨⟨A, c, rfl, hc, fun j i r u hj hi => ?_⟩, h2, fun ad n d e hn e2 => ?_⟩
  · obtain ⟨ad, hA, e2⟩ := hrd j i r u hj hi
    have hl : 0 < qs.length := by have := (List.getElem?_eq_some_iff.1 hj).1; omega
    refine ⟨ad, hA, ?_⟩
    have hb := hr.gb.block ad.block (hlt ad hA hl) (h3 ad _ _ (by rw [hA]) hl)
    exact (World.cell?_of_block (show w'.heap[(ad.add (j * k + i)).block]? = w.heap[(ad.add (j * k + i)).block]? by rw [add_block]; exact hb)).trans e2
  · injection e with e3 e4 e5
    subst e4
    rcases hr.at_ with e | ⟨b, e, hb⟩
    · rw [e] at e2
      exact h3 ad _ _ (by rw [e3]) hn e2
    · rw [e] at e2
      injection e2 with e2
      have := hlt ad e3 hn
      omega
theorem SlR.stays (k : Nat) (qs : List (List Value)) : Stays (SlR k qs) := fun v w o w' o' h _ hr => SlR.stays' k qs v w o w' o' h hr

section
variable {P : Program} {ops : Array Oper} {w0 : World} {n0 : Nat} {Q : (Tmp → Known) → Tmp → Known → Prop} {o : Oper} {rest : List Oper} {K : Tmp → Known} {Φ : Known} {c : Tmp} {C : Known}

/-- the row begins as '[]T{}' -/
theorem chain_lit0R {d : Tmp} {t e : TypeId} (k : Nat) (ho : o.op = .buildSlice t 0 #[]) (hd : o.dst = some d) (hg : o.guard = none) (hk : n0 ≤ c) (hr : ∀ w, (Instr.buildSlice t 0 #[]).run P w = .ok (.slice (some ⟨w.heap.size, 0, none⟩) 0 0) (w.alloc (.cells #[] e)))
    (h : wpMine P ops w0 n0 Q rest (upd K (some d) top) d (RowR e k w0.heap.size [])) : wpMine P ops w0 n0 Q (o :: rest) K c (fun _ _ o => o = none) := by
  refine chain hd hg (.inr hk) (RowR.keeps e k w0.heap.size []) (fun a w ob ob0 hrs hwf _ hC => ?_) h
  have hC' : ob = none := hC
  subst hC'
  unfold doesC execOp
  simp only [ho, List.map_toArray, List.map_nil]
  rw [Sem.run_bind, hr w]
  have hgr : Gr w (w.alloc (.cells #[] e)) := (Gr.refl w).alloc _
  refine ⟨some w.heap.size, ⟨⟨hgr.os, hgr.tape, hgr.output, hgr.size, fun k hk _ => hgr.block k hk⟩, .inr ⟨_, rfl, Nat.le_refl _⟩⟩, fun k hk => ?_, ownR_empty w e k hrs.gb.size, rfl⟩
  injection hk with hk
  subst hk
  simp
/-- 'append(row, x...)' -/
theorem chain_spreadR {d : Tmp} {x : Operand} {t e : TypeId} {i : TypeInfo} {z : Value} {k nb : Nat} {rs qs : List (List Value)} {B : Nat} (ho : o.op = .call { callee := .builtin .append, args := #[.tmp c, x], argTypes := #[t, t] }) (hd : o.dst = some d) (hg : o.guard = none) (ht : P.underlying t = some (.slice e)) (hi : P.info? e = some i)
    (hz : i.zero = some z) (hsize : i.size = k) (hby : i.bytes = nb) (hzs : z.cells.size = k) (hk : 0 < k) (hx : Kn K x (SlR k qs)) (hq : ∀ q ∈ qs, q.length = k) (h1 : ∀ q ∈ qs, ∀ y ∈ q, y.oneCell' = true) (hl : rs.length + qs.length ≤ maxLen) (hb : (rs.length + qs.length) * nb ≤ 140737488355328) (hB : B ≤ w0.heap.size)
    (h : wpMine P ops w0 n0 Q rest (upd K (some d) top) d (RowR e k B (rs ++ qs))) : wpMine P ops w0 n0 Q (o :: rest) K c (RowR e k B rs) := by
  refine chain hd hg (.inl (looks_tmp (by simp [ho, Op.operands, Call.operands]))) (RowR.keeps e k B _) (fun a w ob ob0 hrs hwf hlk hC => ?_) h
  have h3 : SlR k qs (a.eval x) w ob := looks_op (Ψ := SlR k qs) (by simp [ho, Op.operands, Call.operands]) hx hlk
  obtain ⟨hown, hob⟩ := hC
  have hbase : B ≤ w.heap.size := Nat.le_trans hB hrs.gb.size
  have hs : a.eval (.tmp c) = a.tmps.getD c undef := rfl
  generalize hv : a.tmps.getD c undef = v at hown hob hs
  obtain ⟨v', w', hr, h5, h6⟩ := run_appR (P := P) t o.type e i z k nb ht hi hz hsize hby hzs hk hown hbase h3.1 hq h1 hl hb
  unfold doesC execOp
  simp only [ho, resolve, invoke, builtin, Sem.run_bind, Sem.run_pure, Result.andThen_ok, List.map_toArray, List.map_cons, List.map_nil, hs, hr]
  refine ⟨v'.ownBlock, ⟨by rw [← hob]; exact h6.1, ?_⟩, fun k hk => (h5.lt k hk).2, h5, rfl⟩
  rcases h6.2 with h7 | h7
  · exact .inl (by rw [h7, hob])
  · exact .inr h7
/-- 'x[:j]' -/
theorem cutR {t : TypeId} {x y : Operand} {k j : Nat} {qs : List (List Value)} (ho : o.op = .slice t x none (some y) none) (hg : o.guard = none) (hd : o.dst ≠ some c) (hx : Kn K x (SlR k qs)) (hy : Kn K y (Is (.int .i64 (j : Int)))) (hj : j ≤ qs.length)
    (ht : P.underlying t = some (.slice (P.elem t))) (hsz : ∀ w, (sizeOf (P.elem t)).run P w = .ok k w) (h : wpMine P ops w0 n0 Q rest (upd K o.dst (SlR k (qs.take j))) c C) : wpMine P ops w0 n0 Q (o :: rest) K c C := by
  refine step hg hd (SlR.stays k _) (fun a w ob _ hl => ?_) h
  obtain ⟨h2, h3, h4⟩ : SlR k qs (a.eval x) w ob := looks_op (Ψ := SlR k qs) (by simp [ho, Op.operands]) hx hl
  have h1 : a.eval y = .int .i64 (j : Int) := looks_op (Ψ := Is (.int .i64 (j : Int))) (by simp [ho, Op.operands]) hy hl
  have h20 := h2
  obtain ⟨A, c2, hv, hc, _⟩ := h2
  rw [hv] at h20 h4
  have hrun := exec_take (P := P) (ev := a.eval) (o := o) (w := w) (n := qs.length) (c := c2) (A := A) ho hv h1 (by omega) ht hsz
  unfold does
  rw [hrun]
  refine ⟨Gr.refl w, h20.take j hj, fun q hq => h3 q (List.mem_of_mem_take hq), fun ad n d e hn => ?_⟩
  injection e with e1 e2 e3
  exact h4 ad qs.length c2 (by rw [e1]) (by omega)
/-- 'x[j:]' -/
theorem dropR {t : TypeId} {x y : Operand} {k j : Nat} {qs : List (List Value)} (ho : o.op = .slice t x (some y) none none) (hg : o.guard = none) (hd : o.dst ≠ some c) (hx : Kn K x (SlR k qs)) (hy : Kn K y (Is (.int .i64 (j : Int)))) (hj : j ≤ qs.length)
    (ht : P.underlying t = some (.slice (P.elem t))) (hsz : ∀ w, (sizeOf (P.elem t)).run P w = .ok k w) (h : wpMine P ops w0 n0 Q rest (upd K o.dst (SlR k (qs.drop j))) c C) : wpMine P ops w0 n0 Q (o :: rest) K c C := by
  refine step hg hd (SlR.stays k _) (fun a w ob _ hl => ?_) h
  obtain ⟨h2, h3, h4⟩ : SlR k qs (a.eval x) w ob := looks_op (Ψ := SlR k qs) (by simp [ho, Op.operands]) hx hl
  have h1 : a.eval y = .int .i64 (j : Int) := looks_op (Ψ := Is (.int .i64 (j : Int))) (by simp [ho, Op.operands]) hy hl
  have h20 := h2
  obtain ⟨A, c2, hv, hc, _⟩ := h2
  rw [hv] at h20 h4
  have hrun := exec_drop (P := P) (ev := a.eval) (o := o) (w := w) (n := qs.length) (c := c2) (A := A) ho hv h1 hj ht hsz
  unfold does
  rw [hrun]
  refine ⟨Gr.refl w, h20.drop j hj, fun q hq => h3 q (List.mem_of_mem_drop hq), fun ad n d e hn => ?_⟩
  injection e with e1 e2 e3
  rw [if_neg (by omega)] at e1
  cases A with
  | none => cases e1
  | some a0 =>
    simp only [Option.map_some, Option.some.injEq] at e1
    subst e1
    rw [add_block]
    exact h4 a0 qs.length c2 rfl (by omega)
end

section
variable {P : Program} {ops : Array Oper} {w0 : World} {n0 : Nat} {Q : (Tmp → Known) → Tmp → Known → Prop} {o : Oper} {rest : List Oper} {K : Tmp → Known} {c : Tmp} {C : Known}
/-- a method value, of a receiver that is known -/
theorem mkfn {f : Fn} {x : Operand} {u : Value} (ho : o.op = .makeFunc f #[x] #[]) (hg : o.guard = none) (hd : o.dst ≠ some c) (hx : Kn K x (Is u)) (h : wpMine P ops w0 n0 Q rest (upd K o.dst (Is (.func f #[u] #[]))) c C) : wpMine P ops w0 n0 Q (o :: rest) K c C := by
  refine step hg hd (Is.stays _) (fun a w ob _ hl => ?_) h
  have h1 : a.eval x = u := looks_op (Ψ := Is u) (by simp [ho, Op.operands]) hx hl
  unfold does execOp
  simp only [ho, List.map_toArray, List.map_cons, List.map_nil, h1]
  exact ⟨Gr.refl w, rfl⟩
/-- a call of two that only makes memory -/
theorem callG2 {f : FuncId} {x y : Operand} {ats : Array TypeId} {u z : Value} {Ψ : Known} {fn : Func} (ho : o.op = .call { callee := .value (.func f), args := #[x, y], argTypes := ats }) (hg : o.guard = none) (hd : o.dst ≠ some c) (hf : P.funcs[f]? = some fn) (hn : (fn.name == "runtime.NumGoroutine") = false) (hb : fn.body.isNone = false)
    (hx : Kn K x Ψ) (hy : Kn K y (Is u)) (hc : ∀ v w ob, Ψ v w ob → Calls P f #[v, u] w fun en w' => en = .returned z ∧ Gr w w') (h : wpMine P ops w0 n0 Q rest (upd K o.dst (Is z)) c C) : wpMine P ops w0 n0 Q (o :: rest) K c C := by
  refine step hg hd (Is.stays z) (fun a w ob _ hl => ?_) h
  have h1 : Ψ (a.eval x) w ob := looks_op (Ψ := Ψ) (by simp [ho, Op.operands, Call.operands]) hx hl
  have h2 : a.eval y = u := looks_op (Ψ := Is u) (by simp [ho, Op.operands, Call.operands]) hy hl
  obtain ⟨dst, op, ty, pos, after, guard⟩ := o
  simp only at ho
  subst ho
  unfold does
  rw [execOp_call_go, Grow.enters hf hn hb]
  refine ⟨Gr.refl w, ?_⟩
  simp only [List.map_toArray, List.map_cons, List.map_nil, h2]
  exact (hc _ w ob h1).mono fun en w' ⟨he, hgr⟩ => ⟨z, he, hgr, rfl⟩
/-- a slice of one element, in a block that is new from B on -/
abbrev NrB (B : Nat) (e : TypeId) (cs : List Value) : Known := fun v w o => ∃ g, v = .slice (some ⟨g, 0, none⟩) 1 1 ∧ B ≤ g ∧ Bl w g e cs.toArray ∧ some g ≠ o
theorem NrB.stays (B : Nat) (e : TypeId) (cs : List Value) : Stays (NrB B e cs) := fun v w o w' o' ⟨g, h1, hB, h2, h3⟩ hwf hr => by
  obtain ⟨g', e1, e2, e3⟩ := Nr.stays e cs v w o w' o' ⟨g, h1, h2, h3⟩ hwf hr
  have hgg : g' = g := by rw [h1] at e1; injection e1 with e1; injection e1 with e1; injection e1 with e1; exact e1.symm
  subst hgg
  exact ⟨g', e1, hB, e2, e3⟩
theorem lit1N {t e : TypeId} {x : Operand} {u : Value} {cs : List Value} {B : Nat} (hB : B ≤ w0.heap.size) (ho : o.op = .buildSlice t 1 #[(0, x)]) (hg : o.guard = none) (hd : o.dst ≠ some c) (hx : Kn K x (Is u)) (hr : ∀ w, (Instr.buildSlice t 1 #[(0, u)]).run P w = .ok (.slice (some ⟨w.heap.size, 0, none⟩) 1 1) (w.alloc (.cells cs.toArray e)))
    (h : wpMine P ops w0 n0 Q rest (upd K o.dst (NrB B e cs)) c C) : wpMine P ops w0 n0 Q (o :: rest) K c C := by
  refine .inl ⟨NrB B e cs, fun _ => NrB.stays B e cs, hd, fun a w ob ob0 hrs hwf _ hl => ?_, h⟩
  have hw : Region.wanted o (yielded ops a.tmps) = true := by simp [Region.wanted, hg]
  rw [if_pos hw]
  have h1 : a.eval x = u := looks_op (Ψ := Is u) (by simp [ho, Op.operands]) hx hl
  unfold does execOp
  simp only [ho, List.map_toArray, List.map_cons, List.map_nil, h1]
  rw [Sem.run_bind, hr w]
  refine ⟨(Gr.refl w).alloc _, w.heap.size, rfl, Nat.le_trans hB hrs.gb.size, Bl.new _ _ _, fun e2 => ?_⟩
  have := hwf _ e2.symm
  omega
/-- an operation of three values -/
theorem run3 {x y z : Operand} {p q r v : Value} (hg : o.guard = none) (hd : o.dst ≠ some c) (hxo : x ∈ o.op.operands) (hyo : y ∈ o.op.operands) (hzo : z ∈ o.op.operands) (hx : Kn K x (Is p)) (hy : Kn K y (Is q)) (hz : Kn K z (Is r)) (hr : ∀ (a : Act) (w : World), a.eval x = p → a.eval y = q → a.eval z = r → (execOp a.eval o).run P w = .ok (.value v) w)
    (h : wpMine P ops w0 n0 Q rest (upd K o.dst (Is v)) c C) : wpMine P ops w0 n0 Q (o :: rest) K c C := by
  refine step hg hd (Is.stays v) (fun a w ob _ hl => ?_) h
  have h1 : a.eval x = p := looks_op (Ψ := Is p) hxo hx hl
  have h2 : a.eval y = q := looks_op (Ψ := Is q) hyo hy hl
  have h3 : a.eval z = r := looks_op (Ψ := Is r) hzo hz hl
  unfold does
  rw [hr a w h1 h2 h3]
  exact ⟨Gr.refl w, rfl⟩
/-- just this slice, and it reads as these seats -/
abbrev Sq (u : Value) (l : List SeT) : Known := fun v w o => v = u ∧ RdR 3 (l.map seC) v w o
theorem Sq.stays (u : Value) (l : List SeT) : Stays (Sq u l) := fun v w o w' o' ⟨h1, h2⟩ hwf hr => ⟨h1, RdR.stays 3 (l.map seC) v w o w' o' h2 hwf hr⟩
end
end Go.Proofs.Ytgocapmclhimdaa.Mine
