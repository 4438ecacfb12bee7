/-
  Steps of an open region that builds on a row of elements of several cells: the row begins as what a call hands back. No program.
-/
import Derived.Test.YthpaoeiackbdoaaRowMine
namespace Go.Proofs.Ythpaoeiackbdoaa.Mine
open Go Go.RowKit Go.Proofs.Ythpaoeiackbdoaa
set_option maxRecDepth 100000

/-- a slice whose elements, of k cells each, are these, not in the row's block -/
structure RdR (k : Nat) (rs : List (List Value)) (v : Value) (w : World) (o : Option Nat) : Prop where
  rd : RowAt k w v rs
  each : ∀ r ∈ rs, 0 < r.length
  off : ∀ ad n c, v = .slice (some ad) n c → 0 < n → some ad.block ≠ o
theorem RdR.stays (k : Nat) (rs : List (List Value)) : Stays (RdR k rs) := fun v w o w' o' h hwf hr => by
  have hcell : ∀ {j i : Nat} {r : List Value} {u : Value}, rs[j]? = some r → r[i]? = some u → ∃ ad n c, v = .slice (some ad) n c ∧ 0 < n ∧ w.cell? (ad.add (j * k + i)) = some u := fun {j i r u} hj hi => by
    obtain ⟨A, c, h1, _, h3⟩ := h.rd
    obtain ⟨ad, rfl, h4⟩ := h3 j i r u hj hi
    have := (List.getElem?_eq_some_iff.1 hj).1
    exact ⟨ad, _, c, h1, by omega, h4⟩
  refine ⟨?_, h.each, fun ad n c hv hn => ?_⟩
  · obtain ⟨A, c, h1, h2, h3⟩ := h.rd
    refine ⟨A, c, h1, h2, fun j i r u hj hi => ?_⟩
    obtain ⟨ad, h4, h5⟩ := h3 j i r u hj hi
    refine ⟨ad, h4, ?_⟩
    have hlt := World.block_lt_of_cell? w _ h5
    have := (List.getElem?_eq_some_iff.1 hj).1
    rw [World.cell?_of_block (hr.gb.block _ hlt (by rw [add_block]; exact h.off ad rs.length c (by rw [h1, h4]) (by omega)))]
    exact h5
  · rcases hr.at_ with e | ⟨m, e, hm⟩
    · rw [e]; exact h.off ad n c hv hn
    · rw [e]
      intro e2
      injection e2 with e2
      obtain ⟨A, c', h1, _, _⟩ := h.rd
      rw [hv] at h1
      injection h1 with _ h1 _
      obtain ⟨r, l, hrl⟩ : ∃ r l, rs = r :: l := by
        cases hq : rs with
        | nil => rw [hq] at h1; simp at h1; omega
        | cons r l => exact ⟨r, l, rfl⟩
      have hr0 := h.each r (by rw [hrl]; simp)
      obtain ⟨ad', n', c'', hv', _, hc⟩ := hcell (j := 0) (i := 0) (r := r) (by rw [hrl]; rfl) (List.getElem?_eq_getElem hr0)
      rw [hv] at hv'
      injection hv' with hv' _ _
      injection hv' with hv'
      subst hv'
      have := World.block_lt_of_cell? w _ hc
      rw [add_block] at this
      omega
section
variable {P : Program} {ops : Array Oper} {w0 : World} {n0 : Nat} {Q : (Tmp → Known) → Tmp → Known → Prop} {o : Oper} {rest : List Oper} {K : Tmp → Known} {c : Tmp} {C : Known}
/-- a struct's box is loaded -/
theorem load_box {ty : TypeId} {x : Operand} {g : Nat} {e : TypeId} {cs : Array Value} {d : TypeDesc} (ho : o.op = .load ty x) (hg : o.guard = none) (hd : o.dst ≠ some c) (hx : Kn K x (Bx g e cs))
    (hu : P.underlying ty = some d) (hd' : (match d with | .struct _ | .array _ _ => true | _ => false) = true) (hi : (P.info? ty).map (·.size) = some cs.size) (h : wpMine P ops w0 n0 Q rest (upd K o.dst (Is (.agg cs))) c C) : wpMine P ops w0 n0 Q (o :: rest) K c C := by
  refine step hg hd (Is.stays _) (fun a w ob _ hl => ?_) h
  obtain ⟨h1, h2, _⟩ : Bx g e cs (a.eval x) w ob := looks_op (Ψ := Bx g e cs) (by simp [ho, Op.operands]) hx hl
  unfold does execOp
  simp only [ho, h1, Instr.loadAt, Instr.sureAddr, Sem.run_bind, Sem.run_pure, Result.andThen_ok, run_loadVar_row w g e ty cs (0, 0) d h2 hu hd' hi]
  exact ⟨Gr.refl w, rfl⟩
/-- the row begins as what a call hands back -/
theorem chain_callR {d : Tmp} {f : FuncId} {x : Operand} {ats : Array TypeId} {fn : Func} {e : TypeId} {q k : Nat} {qs r : List (List Value)} (ho : o.op = .call { callee := .value (.func f), args := #[x], argTypes := ats }) (hd : o.dst = some d) (hg : o.guard = none) (hk : n0 ≤ c) (hf : P.funcs[f]? = some fn) (hn : (fn.name == "runtime.NumGoroutine") = false) (hb : fn.body.isNone = false)
    (hx : Kn K x (RdR q qs)) (hc : ∀ v w, RowAt q w v qs → Calls P f #[v] w fun en w' => ∃ y, en = .returned y ∧ OwnR e k w' w.heap.size y r ∧ Gr w w') (h : wpMine P ops w0 n0 Q rest (upd K (some d) top) d (RowR e k w0.heap.size r)) : wpMine P ops w0 n0 Q (o :: rest) K c (fun _ _ o => o = none) := by
  refine chain hd hg (.inr hk) (RowR.keeps e k w0.heap.size r) (fun a w ob ob0 hrs hwf hl hC => ?_) h
  have hC' : ob = none := hC
  subst hC'
  have h1 : RdR q qs (a.eval x) w none := looks_op (Ψ := RdR q qs) (by simp [ho, Op.operands, Call.operands]) hx hl
  obtain ⟨dst, op, ty, pos, after, guard⟩ := o
  simp only at ho
  subst ho
  unfold doesC
  rw [execOp_call_go, Grow.enters hf hn hb]
  show Calls _ _ _ _ _
  simp only [List.map_toArray, List.map_cons, List.map_nil]
  refine (hc _ w h1.rd).mono fun en w' ⟨y, he, how, hgr⟩ => ?_
  refine ⟨y, y.ownBlock, he, ⟨⟨hgr.os, hgr.tape, hgr.output, hgr.size, fun k hk _ => hgr.block k hk⟩, ?_⟩, fun g hg => (how.lt g hg).2, how.base hrs.gb.size, rfl⟩
  cases hy : y.ownBlock with
  | none => exact .inl rfl
  | some g => exact .inr ⟨g, rfl, (how.lt g hy).1⟩
/-- the row is handed on -/
theorem chain_moveR {d : Tmp} {e : TypeId} {k B : Nat} {rs : List (List Value)} (ho : o.op = .move (.tmp c) ∨ o.op = .assign (.tmp c)) (hd : o.dst = some d) (hg : o.guard = none) (h : wpMine P ops w0 n0 Q rest (upd K (some d) top) d (RowR e k B rs)) : wpMine P ops w0 n0 Q (o :: rest) K c (RowR e k B rs) := by
  refine chain hd hg (.inl (looks_tmp (by rcases ho with ho | ho <;> simp [ho, Op.operands]))) (RowR.keeps e k B rs) (fun a w ob ob0 _ hwf _ hC => ?_) h
  unfold doesC execOp
  rcases ho with ho | ho <;> rw [ho] <;> exact ⟨ob, RS.refl w ob, hwf, hC⟩
end
end Go.Proofs.Ythpaoeiackbdoaa.Mine
