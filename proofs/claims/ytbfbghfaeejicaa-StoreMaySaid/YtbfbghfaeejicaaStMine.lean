/-
  Open regions that put a key's new versions into their place: reads, one call, one store at the end. No function of the program.
-/
import Derived.Test.YtbfbghfaeejicaaStMem
import Derived.Test.YtbfbghfaeejicaaRowStep
import Derived.Test.YtbfbghfaeejicaaRowCut
import Derived.Test.YtbfbghfaeejicaaRowMine
namespace Go.Proofs.Ytbfbghfaeejicaa
open Go Go.RowKit ChMath StMath
set_option maxRecDepth 100000

theorem rs_grew {w w' : World} {o : Option Nat} (h : Mine.RS w none w' o) : Gr w w' := ⟨h.gb.os, h.gb.tape, h.gb.output, h.gb.size, fun k hk => h.gb.block k hk (by simp)⟩
theorem exec_idx {ev : Operand → Value} {o : Oper} {x y : Operand} {g n c k : Nat} (ho : o.op = .indexAddr 24 x y) (hx : ev x = .slice (some ⟨g, 0, none⟩) n c) (hy : ev y = .int .i64 (k : Int)) (hk : k < n) (w : World) :
    (execOp ev o).run Try.prog w = .ok (.value (.pointer (some ⟨g, k * 2, none⟩))) w := by
  have e : (⟨g, 0, none⟩ : Addr).add (k * 2) = ⟨g, k * 2, none⟩ := by unfold Addr.add; split <;> simp_all
  unfold execOp
  simp only [ho, hx, hy, Sem.run_bind, run_indexAt_slice w 24 _ _ _ _ _ (show Try.prog.underlying 24 = some (.slice (Try.prog.elem 24)) by kernel_rfl)]
  rw [if_pos (by omega), size_chn w]
  simp only [Result.andThen_ok, Int.toNat_natCast, e]
  rfl
theorem exec_fld {ev : Operand → Value} {o : Oper} {x : Operand} {g j : Nat} (ho : o.op = .fieldAddr 54 x 1) (hx : ev x = .pointer (some ⟨g, j, none⟩)) (w : World) :
    (execOp ev o).run Try.prog w = .ok (.value (.pointer (some ⟨g, j + 1, none⟩))) w := by
  have e : (Instr.fieldAt 54 (.pointer (some ⟨g, j, none⟩)) 1).run Try.prog w = .ok (.pointer (some ⟨g, j + 1, none⟩)) w := by rfl
  unfold execOp
  simp only [ho, hx]
  rw [Sem.run_bind, e]
  rfl
/-- a slice is stored into a cell of a row -/
theorem wpList_store_at {P : Program} {ops : Array Oper} {rest : List Oper} {o : Oper} {a : Act} {w : World} {Q : Exit → Act → World → Prop} (hgd : o.guard = none) (ty : TypeId) (x y : Operand) (ho : o.op = .store ty x y) (hd : o.dst = none) (hsz : ∀ w, (sizeOf ty).run P w = .ok 1 w) {g i : Nat} {p : Value}
    (hx : a.eval x = .pointer (some ⟨g, i, none⟩)) {u : Value} (hy : a.eval y = u) (hu : ∃ A n c, u = .slice A n c) (c1 : w.cell? ⟨g, i, none⟩ = some p) (c2 : w.frozen? ⟨g, i, none⟩ = false) (h : wpList P ops Q rest a (w.setCell ⟨g, i, none⟩ u)) : wpList P ops Q (o :: rest) a w :=
  wpList_plain hgd fun _ hK => by
    obtain ⟨A, n, c, rfl⟩ := hu
    have hr : (Instr.storeAt ty (.pointer (some ⟨g, i, none⟩)) (.slice A n c)).run P w = .ok () (w.setCell ⟨g, i, none⟩ (.slice A n c)) := by simp [Instr.storeAt, Instr.sureAddr, storeVar, hsz, c1, c2, go_sem]
    unfold Oper.wp execOp
    simp only [ho, hx, hy, Sem.run_bind, hr, Result.andThen_ok]
    exact hK _ _ (by rw [hd]; exact h)
end Go.Proofs.Ytbfbghfaeejicaa

namespace Go.Proofs.Ytbfbghfaeejicaa.Mine
open Go Go.RowKit Go.Proofs.Ytbfbghfaeejicaa ChMath StMath
/-- just these versions, that do not lie in the row's block -/
abbrev Rv (p : Value) (l : List VerT) : Known := fun v w o => v = p ∧ VersX w p l ∧ NotIn o p
theorem notIn_on {w w' : World} {o o' : Option Nat} {p : Value} {l : List VerT} (h : VersX w p l) (hn : NotIn o p) (hr : RS w o w' o') : NotIn o' p := by
  rcases hr.at_ with e | ⟨k, e, hk⟩
  · rw [e]; exact hn
  · rw [e]; exact h.notIn hk
theorem Rv.stays (p : Value) (l : List VerT) : Stays (Rv p l) := fun _ _ _ _ _ ⟨h1, h2, h3⟩ _ hr => ⟨h1, h2.kept h3 hr.gb, notIn_on h2 h3 hr⟩
/-- a value, by which one comes to the cell in which these versions are -/
abbrev Pv (z : Value) (ad : Addr) (p : Value) (l : List VerT) : Known := fun v w o => v = z ∧ w.cell? ad = some p ∧ some ad.block ≠ o ∧ VersX w p l ∧ NotIn o p
theorem Pv.stays (z : Value) (ad : Addr) (p : Value) (l : List VerT) : Stays (Pv z ad p l) := fun _ w o w' o' ⟨h1, h2, h3, h4, h5⟩ _ hr => ⟨h1, World.grownBy.cell hr.gb h2 h3, by
  rcases hr.at_ with e | ⟨k, e, hk⟩
  · rw [e]; exact h3
  · rw [e]
    intro e2
    injection e2 with e2
    have := World.block_lt_of_cell? w _ h2
    omega, h4.kept h5 hr.gb, notIn_on h4 h5 hr⟩
/-- versions that lie elsewhere -/
abbrev Vn (g : Nat) (l : List VerT) : Known := fun v w o => VersX w v l ∧ NotIn o v ∧ NotIn (some g) v
theorem Vn.stays (g : Nat) (l : List VerT) : Stays (Vn g l) := fun _ _ _ _ _ ⟨h1, h2, h3⟩ _ hr => ⟨h1.kept h2 hr.gb, notIn_on h1 h2 hr, h3⟩
section
variable {P : Program} {ops : Array Oper} {w0 : World} {n0 : Nat} {Q : (Tmp → Known) → Tmp → Known → Prop} {o : Oper} {rest : List Oper} {K : Tmp → Known} {c : Tmp} {C : Known}
theorem pv1 {x : Operand} {z z' : Value} {ad : Addr} {p : Value} {l : List VerT} (hg : o.guard = none) (hd : o.dst ≠ some c) (hxo : x ∈ o.op.operands) (hx : Kn K x (Pv z ad p l)) (hr : ∀ (a : Act) (w : World), a.eval x = z → (execOp a.eval o).run P w = .ok (.value z') w)
    (h : wpMine P ops w0 n0 Q rest (upd K o.dst (Pv z' ad p l)) c C) : wpMine P ops w0 n0 Q (o :: rest) K c C := by
  refine step hg hd (Pv.stays z' ad p l) (fun a w ob _ hl => ?_) h
  obtain ⟨h1, h2⟩ : Pv z ad p l (a.eval x) w ob := looks_op (Ψ := Pv z ad p l) hxo hx hl
  unfold does
  rw [hr a w h1]
  exact ⟨Gr.refl w, rfl, h2⟩
theorem pv2 {x y : Operand} {z z' u : Value} {ad : Addr} {p : Value} {l : List VerT} (hg : o.guard = none) (hd : o.dst ≠ some c) (hxo : x ∈ o.op.operands) (hyo : y ∈ o.op.operands) (hx : Kn K x (Pv z ad p l)) (hy : Kn K y (Is u)) (hr : ∀ (a : Act) (w : World), a.eval x = z → a.eval y = u → (execOp a.eval o).run P w = .ok (.value z') w)
    (h : wpMine P ops w0 n0 Q rest (upd K o.dst (Pv z' ad p l)) c C) : wpMine P ops w0 n0 Q (o :: rest) K c C := by
  refine step hg hd (Pv.stays z' ad p l) (fun a w ob _ hl => ?_) h
  obtain ⟨h1, h2⟩ : Pv z ad p l (a.eval x) w ob := looks_op (Ψ := Pv z ad p l) hxo hx hl
  have h3 : a.eval y = u := looks_op (Ψ := Is u) hyo hy hl
  unfold does
  rw [hr a w h1 h3]
  exact ⟨Gr.refl w, rfl, h2⟩
theorem pvload {t : TypeId} {x : Operand} {ad : Addr} {p : Value} {l : List VerT} (ho : o.op = .load t x) (hg : o.guard = none) (hd : o.dst ≠ some c) (ha : ∀ w, (isAgg t).run P w = .ok false w) (hx : Kn K x (Pv (.pointer (some ad)) ad p l)) (h : wpMine P ops w0 n0 Q rest (upd K o.dst (Rv p l)) c C) : wpMine P ops w0 n0 Q (o :: rest) K c C := by
  refine step hg hd (Rv.stays p l) (fun a w ob _ hl => ?_) h
  obtain ⟨h1, h2, _, h4, h5⟩ : Pv (.pointer (some ad)) ad p l (a.eval x) w ob := looks_op (Ψ := Pv (.pointer (some ad)) ad p l) (by simp [ho, Op.operands]) hx hl
  have hr : (Instr.loadAt t (.pointer (some ad))).run P w = .ok p w := by simp [Instr.loadAt, Instr.sureAddr, loadVar, ha w, h2]
  unfold does execOp
  simp only [ho, h1]
  rw [Sem.run_bind, hr]
  exact ⟨Gr.refl w, rfl, h4, h5⟩
theorem callV {f : FuncId} {x y : Operand} {ats : Array TypeId} {p u : Value} {l l' : List VerT} {fn : Func} {g : Nat} (hgl : g < w0.heap.size) (ho : o.op = .call { callee := .value (.func f), args := #[x, y], argTypes := ats }) (hg : o.guard = none) (hd : o.dst ≠ some c) (hf : P.funcs[f]? = some fn) (hn : (fn.name == "runtime.NumGoroutine") = false) (hb : fn.body.isNone = false)
    (hx : Kn K x (Rv p l)) (hy : Kn K y (Is u)) (hc : ∀ w, VersX w p l → Calls P f #[p, u] w fun en w' => ∃ z, en = .returned z ∧ VersO w' w.heap.size z l' ∧ Gr w w') (h : wpMine P ops w0 n0 Q rest (upd K o.dst (Vn g l')) c C) : wpMine P ops w0 n0 Q (o :: rest) K c C := by
  refine .inl ⟨Vn g l', fun _ => Vn.stays g l', hd, fun a w ob ob0 hrs hwf _ hl => ?_, h⟩
  have hw : Region.wanted o (yielded ops a.tmps) = true := by simp [Region.wanted, hg]
  rw [if_pos hw]
  obtain ⟨h1, h2, h3⟩ : Rv p l (a.eval x) w ob := looks_op (Ψ := Rv p l) (by simp [ho, Op.operands, Call.operands]) hx hl
  have h4 : a.eval y = u := looks_op (Ψ := Is u) (by simp [ho, Op.operands, Call.operands]) hy hl
  have hgw := Nat.lt_of_lt_of_le hgl hrs.gb.size
  obtain ⟨dst, op, ty, pos, after, guard⟩ := o
  simp only at ho
  subst ho
  unfold does
  rw [execOp_call_go, Grow.enters hf hn hb]
  refine ⟨Gr.refl w, ?_⟩
  simp only [List.map_toArray, List.map_cons, List.map_nil, h1, h4]
  refine (hc w h2).mono fun en w' ⟨z, he, hz, hgr⟩ => ⟨z, he, hgr, hz.x, ?_, hz.notIn hgw⟩
  cases ob with
  | none => exact NotIn.none_ _
  | some k => exact hz.notIn (hwf k rfl)
end
end Go.Proofs.Ytbfbghfaeejicaa.Mine

/-
  Open regions that build rows of keys with versions: general steps of reading, rows that are spread, rows whose elements hold what a call hands back. No function of the program.
-/
namespace Go.Proofs.Ytbfbghfaeejicaa.Mine
open Go Go.RowKit Go.Proofs.Ytbfbghfaeejicaa ChMath StMath
set_option maxRecDepth 100000

/-- a slice whose elements, of k cells each, are these, that does not lie in the row's block -/
abbrev SlR (k : Nat) (qs : List (List Value)) : Known := fun v w o => RowAt k w v qs ∧ (∀ q ∈ qs, 0 < q.length) ∧ ∀ ad n c, v = .slice (some ad) n c → 0 < n → some ad.block ≠ o
theorem SlR.stays' (k : Nat) (qs : List (List Value)) (v : Value) (w : World) (o : Option Nat) (w' : World) (o' : Option Nat) (h : SlR k qs v w o) (hr : RS w o w' o') : SlR k qs v w' o' := by
  obtain ⟨h1, h2, h3⟩ := h
  obtain ⟨A, c, rfl, hc, hrd⟩ := h1
  have hlt : ∀ ad, A = some ad → 0 < qs.length → ad.block < w.heap.size := by
    intro ad hA hl
    obtain ⟨q, l, rfl⟩ : ∃ q l, qs = q :: l := by
      cases qs with
      | nil => simp at hl
      | cons q l => exact ⟨q, l, rfl⟩
    have h0 := h2 q (by simp)
    obtain ⟨ad', e1, e2⟩ := hrd 0 0 q q[0] (by simp) (by simp)
    rw [hA] at e1
    injection e1 with e1
    subst e1
    have := World.block_lt_of_cell? w _ e2
    rwa [add_block] at this
  refine ⟨⟨A, c, rfl, hc, fun j i r u hj hi => ?_⟩, h2, fun ad n d e hn e2 => ?_⟩
  · obtain ⟨ad, hA, e2⟩ := hrd j i r u hj hi
    have hl : 0 < qs.length := by have := (List.getElem?_eq_some_iff.1 hj).1; omega
    refine ⟨ad, hA, ?_⟩
    have hb := hr.gb.block ad.block (hlt ad hA hl) (h3 ad _ _ (by rw [hA]) hl)
    exact (World.cell?_of_block (show w'.heap[(ad.add (j * k + i)).block]? = w.heap[(ad.add (j * k + i)).block]? by rw [add_block]; exact hb)).trans e2
  · injection e with e3 e4 e5
    subst e4
    rcases hr.at_ with e | ⟨b, e, hb⟩
    · rw [e] at e2
      exact h3 ad _ _ (by rw [e3]) hn e2
    · rw [e] at e2
      injection e2 with e2
      have := hlt ad e3 hn
      omega
theorem SlR.stays (k : Nat) (qs : List (List Value)) : Stays (SlR k qs) := fun v w o w' o' h _ hr => SlR.stays' k qs v w o w' o' h hr

section
variable {P : Program} {ops : Array Oper} {w0 : World} {n0 : Nat} {Q : (Tmp → Known) → Tmp → Known → Prop} {o : Oper} {rest : List Oper} {K : Tmp → Known} {Φ : Known} {c : Tmp} {C : Known}

/-- the row begins as '[]T{}' -/
theorem chain_lit0R {d : Tmp} {t e : TypeId} (k : Nat) (ho : o.op = .buildSlice t 0 #[]) (hd : o.dst = some d) (hg : o.guard = none) (hk : n0 ≤ c) (hr : ∀ w, (Instr.buildSlice t 0 #[]).run P w = .ok (.slice (some ⟨w.heap.size, 0, none⟩) 0 0) (w.alloc (.cells #[] e)))
    (h : wpMine P ops w0 n0 Q rest (upd K (some d) top) d (RowR e k w0.heap.size [])) : wpMine P ops w0 n0 Q (o :: rest) K c (fun _ _ o => o = none) := by
  refine chain hd hg (.inr hk) (RowR.keeps e k w0.heap.size []) (fun a w ob ob0 hrs hwf _ hC => ?_) h
  have hC' : ob = none := hC
  subst hC'
  unfold doesC execOp
  simp only [ho, List.map_toArray, List.map_nil]
  rw [Sem.run_bind, hr w]
  have hgr : Gr w (w.alloc (.cells #[] e)) := (Gr.refl w).alloc _
  refine ⟨some w.heap.size, ⟨⟨hgr.os, hgr.tape, hgr.output, hgr.size, fun k hk _ => hgr.block k hk⟩, .inr ⟨_, rfl, Nat.le_refl _⟩⟩, fun k hk => ?_, ownR_empty w e k hrs.gb.size, rfl⟩
  injection hk with hk
  subst hk
  simp
/-- 'append(row, x...)' -/
theorem chain_spreadR {d : Tmp} {x : Operand} {t e : TypeId} {i : TypeInfo} {z : Value} {k nb : Nat} {rs qs : List (List Value)} {B : Nat} (ho : o.op = .call { callee := .builtin .append, args := #[.tmp c, x], argTypes := #[t, t] }) (hd : o.dst = some d) (hg : o.guard = none) (ht : P.underlying t = some (.slice e)) (hi : P.info? e = some i)
    (hz : i.zero = some z) (hsize : i.size = k) (hby : i.bytes = nb) (hzs : z.cells.size = k) (hk : 0 < k) (hx : Kn K x (SlR k qs)) (hq : ∀ q ∈ qs, q.length = k) (h1 : ∀ q ∈ qs, ∀ y ∈ q, y.oneCell' = true) (hl : rs.length + qs.length ≤ maxLen) (hb : (rs.length + qs.length) * nb ≤ 140737488355328) (hB : B ≤ w0.heap.size)
    (h : wpMine P ops w0 n0 Q rest (upd K (some d) top) d (RowR e k B (rs ++ qs))) : wpMine P ops w0 n0 Q (o :: rest) K c (RowR e k B rs) := by
  refine chain hd hg (.inl (looks_tmp (by simp [ho, Op.operands, Call.operands]))) (RowR.keeps e k B _) (fun a w ob ob0 hrs hwf hlk hC => ?_) h
  have h3 : SlR k qs (a.eval x) w ob := looks_op (Ψ := SlR k qs) (by simp [ho, Op.operands, Call.operands]) hx hlk
  obtain ⟨hown, hob⟩ := hC
  have hbase : B ≤ w.heap.size := Nat.le_trans hB hrs.gb.size
  have hs : a.eval (.tmp c) = a.tmps.getD c undef := rfl
  generalize hv : a.tmps.getD c undef = v at hown hob hs
  obtain ⟨v', w', hr, h5, h6⟩ := run_appR (P := P) t o.type e i z k nb ht hi hz hsize hby hzs hk hown hbase h3.1 hq h1 hl hb
  unfold doesC execOp
  simp only [ho, resolve, invoke, builtin, Sem.run_bind, Sem.run_pure, Result.andThen_ok, List.map_toArray, List.map_cons, List.map_nil, hs, hr]
  refine ⟨v'.ownBlock, ⟨by rw [← hob]; exact h6.1, ?_⟩, fun k hk => (h5.lt k hk).2, h5, rfl⟩
  rcases h6.2 with h7 | h7
  · exact .inl (by rw [h7, hob])
  · exact .inr h7
/-- 'x[:j]' -/
theorem cutR {t : TypeId} {x y : Operand} {k j : Nat} {qs : List (List Value)} (ho : o.op = .slice t x none (some y) none) (hg : o.guard = none) (hd : o.dst ≠ some c) (hx : Kn K x (SlR k qs)) (hy : Kn K y (Is (.int .i64 (j : Int)))) (hj : j ≤ qs.length)
    (ht : P.underlying t = some (.slice (P.elem t))) (hsz : ∀ w, (sizeOf (P.elem t)).run P w = .ok k w) (h : wpMine P ops w0 n0 Q rest (upd K o.dst (SlR k (qs.take j))) c C) : wpMine P ops w0 n0 Q (o :: rest) K c C := by
  refine step hg hd (SlR.stays k _) (fun a w ob _ hl => ?_) h
  obtain ⟨h2, h3, h4⟩ : SlR k qs (a.eval x) w ob := looks_op (Ψ := SlR k qs) (by simp [ho, Op.operands]) hx hl
  have h1 : a.eval y = .int .i64 (j : Int) := looks_op (Ψ := Is (.int .i64 (j : Int))) (by simp [ho, Op.operands]) hy hl
  have h20 := h2
  obtain ⟨A, c2, hv, hc, _⟩ := h2
  rw [hv] at h20 h4
  have hrun := exec_take (P := P) (ev := a.eval) (o := o) (w := w) (n := qs.length) (c := c2) (A := A) ho hv h1 (by omega) ht hsz
  unfold does
  rw [hrun]
  refine ⟨Gr.refl w, h20.take j hj, fun q hq => h3 q (List.mem_of_mem_take hq), fun ad n d e hn => ?_⟩
  injection e with e1 e2 e3
  exact h4 ad qs.length c2 (by rw [e1]) (by omega)
/-- 'x[j:]' -/
theorem dropR {t : TypeId} {x y : Operand} {k j : Nat} {qs : List (List Value)} (ho : o.op = .slice t x (some y) none none) (hg : o.guard = none) (hd : o.dst ≠ some c) (hx : Kn K x (SlR k qs)) (hy : Kn K y (Is (.int .i64 (j : Int)))) (hj : j ≤ qs.length)
    (ht : P.underlying t = some (.slice (P.elem t))) (hsz : ∀ w, (sizeOf (P.elem t)).run P w = .ok k w) (h : wpMine P ops w0 n0 Q rest (upd K o.dst (SlR k (qs.drop j))) c C) : wpMine P ops w0 n0 Q (o :: rest) K c C := by
  refine step hg hd (SlR.stays k _) (fun a w ob _ hl => ?_) h
  obtain ⟨h2, h3, h4⟩ : SlR k qs (a.eval x) w ob := looks_op (Ψ := SlR k qs) (by simp [ho, Op.operands]) hx hl
  have h1 : a.eval y = .int .i64 (j : Int) := looks_op (Ψ := Is (.int .i64 (j : Int))) (by simp [ho, Op.operands]) hy hl
  have h20 := h2
  obtain ⟨A, c2, hv, hc, _⟩ := h2
  rw [hv] at h20 h4
  have hrun := exec_drop (P := P) (ev := a.eval) (o := o) (w := w) (n := qs.length) (c := c2) (A := A) ho hv h1 hj ht hsz
  unfold does
  rw [hrun]
  refine ⟨Gr.refl w, h20.drop j hj, fun q hq => h3 q (List.mem_of_mem_drop hq), fun ad n d e hn => ?_⟩
  injection e with e1 e2 e3
  rw [if_neg (by omega)] at e1
  cases A with
  | none => cases e1
  | some a0 =>
    simp only [Option.map_some, Option.some.injEq] at e1
    subst e1
    rw [add_block]
    exact h4 a0 qs.length c2 rfl (by omega)
end


section
variable {P : Program} {ops : Array Oper} {w0 : World} {n0 : Nat} {Q : (Tmp → Known) → Tmp → Known → Prop} {o : Oper} {rest : List Oper} {K : Tmp → Known} {c : Tmp} {C : Known}
/-- an operation of one operand that changes nothing -/
theorem look1 {x : Operand} {Ψ Φ : Known} (hg : o.guard = none) (hd : o.dst ≠ some c) (hxo : x ∈ o.op.operands) (hx : Kn K x Ψ) (hst : Stays Φ) (hr : ∀ (a : Act) (w : World) (ob : Option Nat), Ψ (a.eval x) w ob → ∃ z, (execOp a.eval o).run P w = .ok (.value z) w ∧ Φ z w ob)
    (h : wpMine P ops w0 n0 Q rest (upd K o.dst Φ) c C) : wpMine P ops w0 n0 Q (o :: rest) K c C := by
  refine step hg hd hst (fun a w ob _ hl => ?_) h
  obtain ⟨z, h1, h2⟩ := hr a w ob (looks_op (Ψ := Ψ) hxo hx hl)
  unfold does
  rw [h1]
  exact ⟨Gr.refl w, h2⟩
/-- .. of two -/
theorem look2 {x y : Operand} {Ψ Ψ' Φ : Known} (hg : o.guard = none) (hd : o.dst ≠ some c) (hxo : x ∈ o.op.operands) (hyo : y ∈ o.op.operands) (hx : Kn K x Ψ) (hy : Kn K y Ψ') (hst : Stays Φ) (hr : ∀ (a : Act) (w : World) (ob : Option Nat), Ψ (a.eval x) w ob → Ψ' (a.eval y) w ob → ∃ z, (execOp a.eval o).run P w = .ok (.value z) w ∧ Φ z w ob)
    (h : wpMine P ops w0 n0 Q rest (upd K o.dst Φ) c C) : wpMine P ops w0 n0 Q (o :: rest) K c C := by
  refine step hg hd hst (fun a w ob _ hl => ?_) h
  obtain ⟨z, h1, h2⟩ := hr a w ob (looks_op (Ψ := Ψ) hxo hx hl) (looks_op (Ψ := Ψ') hyo hy hl)
  unfold does
  rw [h1]
  exact ⟨Gr.refl w, h2⟩
end
/-- what holds of a world, and of the row's block -/
def PayOk (I : World → Option Nat → Prop) : Prop := ∀ w ob w' ob', I w ob → RS w ob w' ob' → I w' ob'
theorem pay_cell (ad : Addr) (u : Value) : PayOk fun w ob => w.cell? ad = some u ∧ some ad.block ≠ ob := fun w _ _ _ ⟨h2, h3⟩ hr => ⟨World.grownBy.cell hr.gb h2 h3, by
  rcases hr.at_ with e | ⟨k, e, hk⟩
  · rw [e]; exact h3
  · rw [e]
    intro e2
    injection e2 with e2
    have := World.block_lt_of_cell? w _ h2
    omega⟩
theorem pay_ver (p : Value) (l : List VerT) : PayOk fun w ob => VersX w p l ∧ NotIn ob p := fun _ _ _ _ ⟨h1, h2⟩ hr => ⟨h1.kept h2 hr.gb, notIn_on h1 h2 hr⟩
theorem PayOk.and {I J : World → Option Nat → Prop} (h : PayOk I) (k : PayOk J) : PayOk fun w ob => I w ob ∧ J w ob := fun _ _ _ _ ⟨h1, h2⟩ hr => ⟨h _ _ _ _ h1 hr, k _ _ _ _ h2 hr⟩
theorem pay_row (k : Nat) (u : Value) (qs : List (List Value)) : PayOk fun w ob => SlR k qs u w ob := fun w ob w' ob' h hr => SlR.stays' k qs u w ob w' ob' h hr
/-- this value, and that of the world -/
abbrev Wi (I : World → Option Nat → Prop) (z : Value) : Known := fun v w ob => v = z ∧ I w ob
theorem Wi.stays {I : World → Option Nat → Prop} (h : PayOk I) (z : Value) : Stays (Wi I z) := fun _ w o w' o' ⟨h1, h2⟩ _ hr => ⟨h1, h w o w' o' h2 hr⟩
/-- versions that do not lie in the row's block -/
abbrev Vo (l : List VerT) : Known := fun v w o => VersX w v l ∧ NotIn o v
theorem Vo.stays (l : List VerT) : Stays (Vo l) := fun _ _ _ _ _ ⟨h1, h2⟩ _ hr => ⟨h1.kept h2 hr.gb, notIn_on h1 h2 hr⟩
/-- a key with its versions, as a value -/
abbrev Bv (k : ByteArray) (l : List VerT) : Known := fun v w o => ∃ u, v = .agg #[.string k, u] ∧ VersX w u l ∧ NotIn o u
theorem Bv.stays (k : ByteArray) (l : List VerT) : Stays (Bv k l) := fun _ _ _ _ _ ⟨u, h0, h1, h2⟩ _ hr => ⟨u, h0, h1.kept h2 hr.gb, notIn_on h1 h2 hr⟩
/-- .. in a slice of its own -/
abbrev Nv (k : ByteArray) (l : List VerT) : Known := fun v w o => ∃ g u, v = .slice (some ⟨g, 0, none⟩) 1 1 ∧ Bl w g 54 #[.string k, u] ∧ some g ≠ o ∧ VersX w u l ∧ NotIn o u
theorem Nv.stays (k : ByteArray) (l : List VerT) : Stays (Nv k l) := fun _ w o w' o' ⟨g, u, h0, h1, h2, h3, h4⟩ _ hr => ⟨g, u, h0, (hr.gb.block g h1.lt h2).trans h1, by
  rcases hr.at_ with e | ⟨m, e, hm⟩
  · rw [e]; exact h2
  · rw [e]
    intro e2
    injection e2 with e2
    have := h1.lt
    omega, h3.kept h4 hr.gb, notIn_on h3 h4 hr⟩
/-- the row -/
abbrev ChR (B : Nat) (cs : List ChT) : Known := fun v w o => ChnsO w B v cs ∧ v.ownBlock = o
theorem ChR.keeps (B : Nat) (cs : List ChT) : Keeps (ChR B cs) := fun _ _ _ _ ⟨h1, h2⟩ hg => ⟨h1.gr hg, h2⟩
abbrev ChOf (B : Nat) (row : Value) (cs : List ChT) : Known := fun _ w o => ChnsO w B row cs ∧ row.ownBlock = o
theorem ChOf.keeps (B : Nat) (row : Value) (cs : List ChT) : Keeps (ChOf B row cs) := fun _ _ _ _ ⟨h1, h2⟩ hg => ⟨h1.gr hg, h2⟩
section
variable {ops : Array Oper} {w0 : World} {n0 : Nat} {Q : (Tmp → Known) → Tmp → Known → Prop} {o : Oper} {rest : List Oper} {K : Tmp → Known} {c : Tmp} {C : Known}
theorem callW {P : Program} {f : FuncId} {x y : Operand} {ats : Array TypeId} {I : World → Option Nat → Prop} {p u : Value} {l l' : List VerT} {fn : Func} (ho : o.op = .call { callee := .value (.func f), args := #[x, y], argTypes := ats }) (hg : o.guard = none) (hd : o.dst ≠ some c) (hf : P.funcs[f]? = some fn) (hn : (fn.name == "runtime.NumGoroutine") = false) (hb : fn.body.isNone = false)
    (hx : Kn K x (Wi I p)) (hI : ∀ w ob, I w ob → VersX w p l) (hy : Kn K y (Is u)) (hc : ∀ w, VersX w p l → Calls P f #[p, u] w fun en w' => ∃ z, en = .returned z ∧ VersO w' w.heap.size z l' ∧ Gr w w') (h : wpMine P ops w0 n0 Q rest (upd K o.dst (Vo l')) c C) : wpMine P ops w0 n0 Q (o :: rest) K c C := by
  refine step hg hd (Vo.stays l') (fun a w ob hwf hl => ?_) h
  obtain ⟨h1, h2⟩ : Wi I p (a.eval x) w ob := looks_op (Ψ := Wi I p) (by simp [ho, Op.operands, Call.operands]) hx hl
  have h4 : a.eval y = u := looks_op (Ψ := Is u) (by simp [ho, Op.operands, Call.operands]) hy hl
  obtain ⟨dst, op, ty, pos, after, guard⟩ := o
  simp only at ho
  subst ho
  unfold does
  rw [execOp_call_go, Grow.enters hf hn hb]
  refine ⟨Gr.refl w, ?_⟩
  simp only [List.map_toArray, List.map_cons, List.map_nil, h1, h4]
  refine (hc w (hI w ob h2)).mono fun en w' ⟨z, he, hz, hgr⟩ => ⟨z, he, hgr, hz.x, ?_⟩
  cases ob with
  | none => exact NotIn.none_ _
  | some k => exact hz.notIn (hwf k rfl)
theorem buildV {x y : Operand} {k : ByteArray} {l : List VerT} (ho : o.op = .build 54 #[(0, x), (1, y)]) (hg : o.guard = none) (hd : o.dst ≠ some c) (hx : Kn K x (Is (.string k))) (hy : Kn K y (Vo l)) (h : wpMine Try.prog ops w0 n0 Q rest (upd K o.dst (Bv k l)) c C) : wpMine Try.prog ops w0 n0 Q (o :: rest) K c C := by
  refine look2 (x := x) (y := y) hg hd (by simp [ho, Op.operands]) (by simp [ho, Op.operands]) hx hy (Bv.stays k l) (fun a w ob h1 h2 => ?_) h
  obtain ⟨A, n, h3, _⟩ := h2.1.is
  refine ⟨.agg #[.string k, a.eval y], ?_, _, rfl, h2.1, h2.2⟩
  have h1' : a.eval x = .string k := h1
  have hr : ∀ (A : Option Addr) (m n : Nat), (Instr.build 54 #[(0, .string k), (1, .slice A m n)]).run Try.prog w = .ok (.agg #[.string k, .slice A m n]) w := fun A m n => by kernel_rfl
  unfold execOp
  simp only [ho, List.map_toArray, List.map_cons, List.map_nil, h1', h3]
  rw [Sem.run_bind, hr]
  rfl
theorem litV {x : Operand} {k : ByteArray} {l : List VerT} (ho : o.op = .buildSlice 24 1 #[(0, x)]) (hg : o.guard = none) (hd : o.dst ≠ some c) (hx : Kn K x (Bv k l)) (h : wpMine Try.prog ops w0 n0 Q rest (upd K o.dst (Nv k l)) c C) : wpMine Try.prog ops w0 n0 Q (o :: rest) K c C := by
  refine step hg hd (Nv.stays k l) (fun a w ob hwf hl => ?_) h
  obtain ⟨u, h1, h2, h3⟩ : Bv k l (a.eval x) w ob := looks_op (Ψ := Bv k l) (by simp [ho, Op.operands]) hx hl
  obtain ⟨A, n, h4, _⟩ := h2.is
  have hr : ∀ (A : Option Addr) (m n : Nat), (Instr.buildSlice 24 1 #[(0, .agg #[.string k, .slice A m n])]).run Try.prog w = .ok (.slice (some ⟨w.heap.size, 0, none⟩) 1 1) (w.alloc (.cells #[.string k, .slice A m n] 54)) := fun A m n => by kernel_rfl
  unfold does execOp
  simp only [ho, List.map_toArray, List.map_cons, List.map_nil, h1]
  rw [h4] at h2 h3 ⊢
  rw [Sem.run_bind, hr]
  have hgr : Gr w (w.alloc (.cells #[.string k, .slice A l.length n] 54)) := (Gr.refl w).alloc _
  refine ⟨hgr, w.heap.size, _, rfl, Bl.new _ _ _, fun e => ?_, h2.gr hgr, h3⟩
  have := hwf _ e.symm
  omega
/-- the row lies in a cell -/
theorem chain_loadC {P : Program} {d : Tmp} {t : TypeId} {x : Operand} {B : Nat} {row : Value} {cs : List ChT} (ho : o.op = .load t x) (hd : o.dst = some d) (hg : o.guard = none) (hk : n0 ≤ c) (ha : ∀ w, (isAgg t).run P w = .ok false w) (hx : Kn K x (Ce row))
    (h : wpMine P ops w0 n0 Q rest (upd K (some d) top) d (ChR B cs)) : wpMine P ops w0 n0 Q (o :: rest) K c (ChOf B row cs) := by
  refine chain hd hg (.inr hk) (ChR.keeps B cs) (fun a w ob ob0 _ hwf hl hC => ?_) h
  obtain ⟨ad, h1, h2, h3⟩ : Ce row (a.eval x) w ob := looks_op (Ψ := Ce row) (by simp [ho, Op.operands]) hx hl
  have hr : (Instr.loadAt t (.pointer (some ad))).run P w = .ok row w := by simp [Instr.loadAt, Instr.sureAddr, loadVar, ha w, h2]
  unfold doesC execOp
  simp only [ho, h1]
  rw [Sem.run_bind, hr]
  exact ⟨ob, RS.refl w ob, hwf, hC.1, hC.2⟩
/-- 'append(row, x)' -/
theorem chain_appN {d : Tmp} {x : Operand} {k : ByteArray} {l : List VerT} {cs : List ChT} {B : Nat} (ho : o.op = .call { callee := .builtin .append, args := #[.tmp c, x], argTypes := #[24, 24] }) (hd : o.dst = some d) (hg : o.guard = none) (hx : Kn K x (Nv k l)) (hl : cs.length ≤ 1000000) (hB : B ≤ w0.heap.size)
    (h : wpMine Try.prog ops w0 n0 Q rest (upd K (some d) top) d (ChR B (cs ++ [⟨k, l⟩]))) : wpMine Try.prog ops w0 n0 Q (o :: rest) K c (ChR B cs) := by
  obtain ⟨i0, hi, hz0, hz1, hz2⟩ := info_chn
  refine chain hd hg (.inl (looks_tmp (by simp [ho, Op.operands, Call.operands]))) (ChR.keeps B _) (fun a w ob ob0 hrs hwf hlk hC => ?_) h
  obtain ⟨g, u, h2, h3, h4, h5, h6⟩ : Nv k l (a.eval x) w ob := looks_op (Ψ := Nv k l) (by simp [ho, Op.operands, Call.operands]) hx hlk
  obtain ⟨hown, hob⟩ := hC
  have hbase : B ≤ w.heap.size := Nat.le_trans hB hrs.gb.size
  have hs : a.eval (.tmp c) = a.tmps.getD c undef := rfl
  generalize hv : a.tmps.getD c undef = v at hown hob hs
  obtain ⟨is, rfl, hown, hvs⟩ := hown
  rw [List.length_map] at hl
  subst hob
  obtain ⟨v', w', hr, h7, h8, _, h9⟩ := run_append_own_at (P := Try.prog) w B 24 o.type 54 i0 _ 2 40 Try.underlying24 hi hz0 hz1 hz2 rfl (by decide) v (is.map itC).length (is.map itC).flatten hown.2 ⟨g, 0, none⟩ 1 1 [.string k, u] rfl (fun j z hj => by
    rw [show (⟨g, 0, none⟩ : Addr).add j = ⟨g, j, none⟩ from by unfold Addr.add; split <;> simp_all, h3.cell]; simpa using hj) (fun z hz => by
      simp only [List.mem_cons, List.not_mem_nil, or_false] at hz
      rcases hz with rfl | rfl
      · rfl
      · exact h5.one) (by rw [List.length_map]; unfold maxLen; omega) (by rw [List.length_map]; omega) hbase
  unfold doesC execOp
  simp only [ho, resolve, invoke, builtin, Sem.run_bind, Sem.run_pure, Result.andThen_ok, List.map_toArray, List.map_cons, List.map_nil, hs, h2, hr]
  have hput : Put1 w w' v v' := ⟨h8, by
    rcases h9 with h9 | h9
    · exact .inl h9
    · exact .inr ⟨_, h9, Nat.le_refl _⟩⟩
  have hk5 := itsKept hvs hput
  have hk6 := itsKept (is := [(ChT.mk k l, u)]) (v := v) (fun i hi => by rw [List.mem_singleton.1 hi]; exact ⟨h5, h6⟩) hput
  have hn : OwnR 54 2 w' B v' ((is ++ [(ChT.mk k l, u)]).map itC) := ⟨itC_two _, by rw [List.map_append, List.length_append, List.flatten_append]; exact h7⟩
  have hfin : ChnsO w' B v' (is.map Prod.fst ++ [⟨k, l⟩]) := ⟨is ++ [(ChT.mk k l, u)], by simp, hn, fun i hi => by
    rcases List.mem_append.1 hi with hi | hi
    · exact hk5 i hi
    · exact hk6 i hi⟩
  exact ⟨v'.ownBlock, ⟨h8, hput.2⟩, fun j hj => (hn.lt j hj).2, hfin, rfl⟩
end
end Go.Proofs.Ytbfbghfaeejicaa.Mine
