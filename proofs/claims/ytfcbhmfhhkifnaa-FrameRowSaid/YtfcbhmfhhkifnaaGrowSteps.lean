/-
  The steps of a growing region's walk, an operation each. No program.
-/
import Derived.Test.YtfcbhmfhhkifnaaGrow
namespace Go.Proofs.Ytfcbhmfhhkifnaa.Grow
open Go Go.RowKit Go.Proofs.Ytfcbhmfhhkifnaa

/-- just this value -/
abbrev Is (c : Value) : Known := fun v _ => v = c
/-- a slice that reads as these bytes -/
abbrev Sl (l : List UInt8) : Known := fun v w => ∃ A c, v = .slice A l.length c ∧ By w A c l
theorem Is.stays (c : Value) : Stays (Is c) := fun _ _ _ h _ => h
theorem Sl.stays (l : List UInt8) : Stays (Sl l) := fun _ _ _ ⟨A, c, h1, h2⟩ hg => ⟨A, c, h1, h2.gr hg⟩

/-- what is known of an operand -/
def Kn (K : Tmp → Known) : Operand → Known → Prop
  | .tmp t, Φ => K t = Φ
  | .const v, Φ => ∀ w, Φ v w
  | _, _ => False

/-- is the operation carried out -/
def Wanted (ops : Array Oper) (K : Tmp → Known) (n0 : Nat) (o : Oper) (b : Bool) : Prop :=
  (b = true ∧ o.guard = none) ∨ ∃ g want t, o.guard = some (g, want) ∧ ((ops[g]?).bind (·.dst)) = some t ∧ K t = Is (.bool (want == b)) ∧ t < n0

section
variable {P : Program} {ops : Array Oper} {w0 : World} {n0 : Nat} {Q : (Tmp → Known) → Prop} {o : Oper} {rest : List Oper} {K : Tmp → Known} {Φ : Known}

theorem upd_stays {d : Option Tmp} (h : ∀ t, Stays (K t)) (hΦ : Stays Φ) : ∀ t, Stays (upd K d Φ t) := fun t => by
  cases d with
  | none => exact h t
  | some d =>
    show Stays (bif Nat.beq d t then Φ else K t)
    cases Nat.beq d t
    · exact h t
    · exact hΦ

theorem looks_op {x : Operand} {Ψ : Known} (hx : x ∈ o.op.operands) (hk : Kn K x Ψ) {a : Act} {w : World} (hl : ∀ t, (o.looksAt ops).contains t = true → K t (a.tmps.getD t undef) w) : Ψ (a.eval x) w := by
  cases x with
  | tmp t =>
    have : (o.looksAt ops).contains t = true := by
      simp only [List.contains_eq_mem, decide_eq_true_eq]
      exact List.mem_append_left _ (List.mem_filterMap.2 ⟨.tmp t, by simpa using hx, rfl⟩)
    have h := hl t this
    rw [show K t = Ψ from hk] at h
    exact h
  | const v => exact hk w
  | global g => exact absurd hk (by simp [Kn])
  | func f => exact absurd hk (by simp [Kn])

theorem wanted_is {b : Bool} (hw : Wanted ops K n0 o b) {a : Act} {w : World} (hs : a.tmps.size = n0) (hl : ∀ t, (o.looksAt ops).contains t = true → K t (a.tmps.getD t undef) w) : Region.wanted o (yielded ops a.tmps) = b := by
  rcases hw with ⟨rfl, hg⟩ | ⟨g, want, t, hg, ht, hk, hn⟩
  · simp [Region.wanted, hg]
  · have h := hl t (by simp [Oper.looksAt, hg, ht])
    rw [hk] at h
    have h2 : a.tmps[t]? = some (.bool (want == b)) := by
      have : t < a.tmps.size := by rw [hs]; exact hn
      simp [this] at h ⊢
      exact h
    have hy : yielded ops a.tmps g = some (want == b) := by
      unfold yielded
      rw [ht]
      simp [h2]
    unfold Region.wanted
    simp only [hg, hy]
    cases want <;> cases b <;> rfl

/-- an operation that is carried out -/
theorem grow_step (hw : Wanted ops K n0 o true) (hst : (∀ t, Stays (K t)) → Stays Φ)
    (hdo : ∀ a w, Gr w0 w → a.tmps.size = n0 → (∀ t, (o.looksAt ops).contains t = true → K t (a.tmps.getD t undef) w) → does P o a w Φ) (h : wpGrow P ops w0 n0 Q rest (upd K o.dst Φ)) : wpGrow P ops w0 n0 Q (o :: rest) K :=
  ⟨Φ, hst, fun a w hg hs hl => by rw [if_pos (wanted_is hw hs hl)]; exact hdo a w hg hs hl, h⟩
/-- one that is passed over -/
theorem grow_skip (hw : Wanted ops K n0 o false) (h : wpGrow P ops w0 n0 Q rest (upd K o.dst (Is undef))) : wpGrow P ops w0 n0 Q (o :: rest) K :=
  ⟨Is undef, fun _ => Is.stays _, fun a w _ hs hl => by rw [wanted_is hw hs hl]; rfl, h⟩

theorem grow_move (x : Operand) (ho : o.op = .move x ∨ o.op = .assign x) (hw : Wanted ops K n0 o true) (hk : Kn K x Φ) (hst : Stays Φ) (h : wpGrow P ops w0 n0 Q rest (upd K o.dst Φ)) : wpGrow P ops w0 n0 Q (o :: rest) K := by
  refine grow_step hw (fun _ => hst) (fun a w _ _ hl => ?_) h
  have hv : Φ (a.eval x) w := looks_op (by rcases ho with ho | ho <;> simp [ho, Op.operands]) hk hl
  unfold does execOp
  rcases ho with ho | ho <;> rw [ho] <;> exact ⟨Gr.refl w, hv⟩

theorem grow_mv {x : Operand} {c : Value} (ho : o.op = .move x ∨ o.op = .assign x) (hw : Wanted ops K n0 o true) (hk : Kn K x (Is c)) (h : wpGrow P ops w0 n0 Q rest (upd K o.dst (Is c))) : wpGrow P ops w0 n0 Q (o :: rest) K :=
  grow_move x ho hw hk (Is.stays c) h
theorem grow_mvs {x : Operand} {l : List UInt8} (ho : o.op = .move x ∨ o.op = .assign x) (hw : Wanted ops K n0 o true) (hk : Kn K x (Sl l)) (h : wpGrow P ops w0 n0 Q rest (upd K o.dst (Sl l))) : wpGrow P ops w0 n0 Q (o :: rest) K :=
  grow_move x ho hw hk (Sl.stays l) h
theorem grow_const {c : Value} (ho : o.op = .move (.const c) ∨ o.op = .assign (.const c)) (hw : Wanted ops K n0 o true) (h : wpGrow P ops w0 n0 Q rest (upd K o.dst (Is c))) : wpGrow P ops w0 n0 Q (o :: rest) K :=
  grow_move (.const c) ho hw (fun _ => rfl) (Is.stays c) h

theorem grow_bin {b : BinOp} {xt rt : TypeId} {x y : Operand} {c1 c2 c : Value} (ho : o.op = .binOp b xt x y rt) (hw : Wanted ops K n0 o true) (hx : Kn K x (Is c1)) (hy : Kn K y (Is c2))
    (hr : ∀ w, (do eqGuard b xt x y c1 c2; binOp b xt c1 c2 : Sem Value).run P w = .ok c w) (h : wpGrow P ops w0 n0 Q rest (upd K o.dst (Is c))) : wpGrow P ops w0 n0 Q (o :: rest) K := by
  refine grow_step hw (fun _ => Is.stays _) (fun a w _ _ hl => ?_) h
  have h1 : a.eval x = c1 := looks_op (Ψ := Is c1) (by simp [ho, Op.operands]) hx hl
  have h2 : a.eval y = c2 := looks_op (Ψ := Is c2) (by simp [ho, Op.operands]) hy hl
  unfold does execOp
  rw [ho]
  simp only [h1, h2]
  rw [Sem.run_bind, hr w]
  exact ⟨Gr.refl w, rfl⟩

theorem grow_un {u : UnOp} {xt : TypeId} {x : Operand} {c1 c : Value} (ho : o.op = .unOp u xt x) (hw : Wanted ops K n0 o true) (hx : Kn K x (Is c1)) (hr : ∀ w, (Op.unary u c1).run P w = .ok c w) (h : wpGrow P ops w0 n0 Q rest (upd K o.dst (Is c))) :
    wpGrow P ops w0 n0 Q (o :: rest) K := by
  refine grow_step hw (fun _ => Is.stays _) (fun a w _ _ hl => ?_) h
  have h1 : a.eval x = c1 := looks_op (Ψ := Is c1) (by simp [ho, Op.operands]) hx hl
  unfold does execOp
  rw [ho]
  simp only [h1]
  rw [Sem.run_bind, hr w]
  exact ⟨Gr.refl w, rfl⟩

theorem grow_pick_yes {c x y : Operand} (ho : o.op = .pick c x y) (hw : Wanted ops K n0 o true) (hc : Kn K c (Is (.bool true))) (hx : Kn K x Φ) (hst : Stays Φ) (h : wpGrow P ops w0 n0 Q rest (upd K o.dst Φ)) : wpGrow P ops w0 n0 Q (o :: rest) K := by
  refine grow_step hw (fun _ => hst) (fun a w _ _ hl => ?_) h
  have h1 : a.eval c = .bool true := looks_op (Ψ := Is (.bool true)) (by simp [ho, Op.operands]) hc hl
  have h2 : Φ (a.eval x) w := looks_op (by simp [ho, Op.operands]) hx hl
  unfold does execOp
  rw [ho]
  simp only [h1]
  simp only [Sem.run_bind, asBool, Sem.run_pure, Result.andThen_ok]
  exact ⟨Gr.refl w, h2⟩
theorem grow_pick_no {c x y : Operand} (ho : o.op = .pick c x y) (hw : Wanted ops K n0 o true) (hc : Kn K c (Is (.bool false))) (hy : Kn K y Φ) (hst : Stays Φ) (h : wpGrow P ops w0 n0 Q rest (upd K o.dst Φ)) : wpGrow P ops w0 n0 Q (o :: rest) K := by
  refine grow_step hw (fun _ => hst) (fun a w _ _ hl => ?_) h
  have h1 : a.eval c = .bool false := looks_op (Ψ := Is (.bool false)) (by simp [ho, Op.operands]) hc hl
  have h2 : Φ (a.eval y) w := looks_op (by simp [ho, Op.operands]) hy hl
  unfold does execOp
  rw [ho]
  simp only [h1]
  simp only [Sem.run_bind, asBool, Sem.run_pure, Result.andThen_ok]
  exact ⟨Gr.refl w, h2⟩

theorem grow_conv {src dst e : TypeId} {x : Operand} {l : List UInt8} (ho : o.op = .convert src dst x) (hw : Wanted ops K n0 o true) (hx : Kn K x (Sl l)) (hs : P.underlying src = some (.slice e)) (he : P.underlying e = some (.int .u8)) (hd : P.underlying dst = some .string)
    (h : wpGrow P ops w0 n0 Q rest (upd K o.dst (Is (.string (bs l))))) : wpGrow P ops w0 n0 Q (o :: rest) K := by
  refine grow_step hw (fun _ => Is.stays _) (fun a w _ _ hl => ?_) h
  obtain ⟨A, c, h1, h2⟩ : ∃ A c, a.eval x = .slice A l.length c ∧ By w A c l := looks_op (Ψ := Sl l) (by simp [ho, Op.operands]) hx hl
  unfold does execOp
  rw [ho]
  simp only [h1]
  rw [Sem.run_bind, run_conv w src dst e hs he hd _ _ rfl h2.rd]
  exact ⟨Gr.refl w, rfl⟩

theorem enters {f : FuncId} {fn : Func} (hf : P.funcs[f]? = some fn) (hn : (fn.name == "runtime.NumGoroutine") = false) (hb : fn.body.isNone = false) (args : Array Value) (w : World) : (callFunc f args).run P w = .ok (.enter f args) w := by
  have h1 : ¬ fn.name = "runtime.NumGoroutine" := by simpa using hn
  have h2 : ¬ fn.body = none := fun e => by rw [e] at hb; cases hb
  simp [callFunc, hf, h1, h2]

theorem grow_call1 {f : FuncId} {x : Operand} {ats : Array TypeId} {Ψ : Known} {fn : Func} (ho : o.op = .call { callee := .value (.func f), args := #[x], argTypes := ats }) (hw : Wanted ops K n0 o true) (hf : P.funcs[f]? = some fn) (hn : (fn.name == "runtime.NumGoroutine") = false) (hb : fn.body.isNone = false)
    (hx : Kn K x Ψ) (hst : Stays Φ) (hc : ∀ v w, Gr w0 w → Ψ v w → Calls P f #[v] w fun e w' => ∃ u, e = .returned u ∧ Gr w w' ∧ Φ u w') (h : wpGrow P ops w0 n0 Q rest (upd K o.dst Φ)) : wpGrow P ops w0 n0 Q (o :: rest) K := by
  refine grow_step hw (fun _ => hst) (fun a w hg _ hl => ?_) h
  have h1 : Ψ (a.eval x) w := looks_op (by simp [ho, Op.operands, Call.operands]) hx hl
  obtain ⟨dst, op, ty, pos, after, guard⟩ := o
  simp only at ho
  subst ho
  unfold does
  rw [execOp_call_go, enters hf hn hb]
  exact ⟨Gr.refl w, by simpa using hc _ w hg h1⟩

theorem grow_call2 {f : FuncId} {x y : Operand} {ats : Array TypeId} {Ψ Ψ' : Known} {fn : Func} (ho : o.op = .call { callee := .value (.func f), args := #[x, y], argTypes := ats }) (hw : Wanted ops K n0 o true) (hf : P.funcs[f]? = some fn) (hn : (fn.name == "runtime.NumGoroutine") = false) (hb : fn.body.isNone = false)
    (hx : Kn K x Ψ) (hy : Kn K y Ψ') (hst : Stays Φ) (hc : ∀ v u w, Gr w0 w → Ψ v w → Ψ' u w → Calls P f #[v, u] w fun e w' => ∃ u, e = .returned u ∧ Gr w w' ∧ Φ u w') (h : wpGrow P ops w0 n0 Q rest (upd K o.dst Φ)) : wpGrow P ops w0 n0 Q (o :: rest) K := by
  refine grow_step hw (fun _ => hst) (fun a w hg _ hl => ?_) h
  have h1 : Ψ (a.eval x) w := looks_op (by simp [ho, Op.operands, Call.operands]) hx hl
  have h2 : Ψ' (a.eval y) w := looks_op (by simp [ho, Op.operands, Call.operands]) hy hl
  obtain ⟨dst, op, ty, pos, after, guard⟩ := o
  simp only at ho
  subst ho
  unfold does
  rw [execOp_call_go, enters hf hn hb]
  exact ⟨Gr.refl w, by simpa using hc _ _ w hg h1 h2⟩

theorem eqg_plain (b : BinOp) (xt : TypeId) (x y : Operand) (c1 c2 : Value) (h1 : c1 ≠ .nilIface) (h2 : ∀ l, c1 ≠ .agg l) (w : World) : (eqGuard b xt x y c1 c2).run P w = .ok () w := by
  cases b <;> first | rfl | (cases c1 <;> first | rfl | exact absurd rfl h1 | exact absurd rfl (h2 _))
theorem run_with_guard {b : BinOp} {xt : TypeId} {x y : Operand} {c1 c2 c : Value} (h1 : c1 ≠ .nilIface) (h2 : ∀ l, c1 ≠ .agg l) {w : World} (h : (binOp b xt c1 c2).run P w = .ok c w) :
    (do eqGuard b xt x y c1 c2; binOp b xt c1 c2 : Sem Value).run P w = .ok c w := by
  rw [Sem.run_bind, eqg_plain b xt x y c1 c2 h1 h2 w]
  exact h

/-- two ints -/
theorem grow_int {b : BinOp} {xt rt : TypeId} {x y : Operand} {k : IntKind} {m n : Int} {c : Value} (ho : o.op = .binOp b xt x y rt) (hw : Wanted ops K n0 o true) (hx : Kn K x (Is (.int k m))) (hy : Kn K y (Is (.int k n)))
    (hr : binOp b xt (.int k m) (.int k n) = pure c) (h : wpGrow P ops w0 n0 Q rest (upd K o.dst (Is c))) : wpGrow P ops w0 n0 Q (o :: rest) K :=
  grow_bin ho hw hx hy (fun w => run_with_guard (by simp) (by simp) (by rw [hr]; rfl)) h
theorem grow_int_same {xt rt : TypeId} {x y : Operand} {k : IntKind} {m n : Int} (hmn : m = n) (ho : o.op = .binOp .eql xt x y rt) (hw : Wanted ops K n0 o true) (hx : Kn K x (Is (.int k m))) (hy : Kn K y (Is (.int k n)))
    (h : wpGrow P ops w0 n0 Q rest (upd K o.dst (Is (.bool true)))) : wpGrow P ops w0 n0 Q (o :: rest) K :=
  grow_int ho hw hx hy (by rw [binOp_eql, hmn]; simp) h
theorem grow_bool_same {xt rt : TypeId} {x y : Operand} {m n : Bool} (hmn : m = n) (hb : P.underlying xt = some .bool) (ho : o.op = .binOp .eql xt x y rt) (hw : Wanted ops K n0 o true) (hx : Kn K x (Is (.bool m))) (hy : Kn K y (Is (.bool n)))
    (h : wpGrow P ops w0 n0 Q rest (upd K o.dst (Is (.bool true)))) : wpGrow P ops w0 n0 Q (o :: rest) K :=
  grow_bin ho hw hx hy (fun w => run_with_guard (by simp) (by simp) (by rw [run_eql_bool w xt m n hb, hmn]; simp)) h
theorem str_eq (a b : ByteArray) : (a.toList == b.toList) = decide (a = b) := by
  rw [ByteArray.toList_eq, ByteArray.toList_eq, Bool.eq_iff_iff, beq_iff_eq, decide_eq_true_eq]
  exact ⟨fun h => ByteArray.ext (Array.toList_inj.mp h), fun h => by rw [h]⟩
theorem grow_str_eq {xt rt : TypeId} {x y : Operand} {s u : ByteArray} (ho : o.op = .binOp .eql xt x y rt) (hw : Wanted ops K n0 o true) (hx : Kn K x (Is (.string s))) (hy : Kn K y (Is (.string u)))
    (h : wpGrow P ops w0 n0 Q rest (upd K o.dst (Is (.bool (decide (s = u)))))) : wpGrow P ops w0 n0 Q (o :: rest) K :=
  grow_bin ho hw hx hy (fun w => run_with_guard (by simp) (by simp) (by rw [binOp_string_eql, str_eq]; rfl)) h
theorem grow_str_neq {xt rt : TypeId} {x y : Operand} {s u : ByteArray} (ho : o.op = .binOp .neq xt x y rt) (hw : Wanted ops K n0 o true) (hx : Kn K x (Is (.string s))) (hy : Kn K y (Is (.string u)))
    (h : wpGrow P ops w0 n0 Q rest (upd K o.dst (Is (.bool (!decide (s = u)))))) : wpGrow P ops w0 n0 Q (o :: rest) K :=
  grow_bin ho hw hx hy (fun w => run_with_guard (by simp) (by simp) (by rw [binOp_string_neq, str_eq]; rfl)) h
theorem grow_str_same {xt rt : TypeId} {x y : Operand} {s u : ByteArray} (hsu : s = u) (ho : o.op = .binOp .eql xt x y rt) (hw : Wanted ops K n0 o true) (hx : Kn K x (Is (.string s))) (hy : Kn K y (Is (.string u)))
    (h : wpGrow P ops w0 n0 Q rest (upd K o.dst (Is (.bool true)))) : wpGrow P ops w0 n0 Q (o :: rest) K :=
  grow_str_eq ho hw hx hy (by rw [decide_eq_true hsu]; exact h)
theorem grow_not {xt : TypeId} {x : Operand} {b : Bool} (ho : o.op = .unOp .not xt x) (hw : Wanted ops K n0 o true) (hx : Kn K x (Is (.bool b))) (h : wpGrow P ops w0 n0 Q rest (upd K o.dst (Is (.bool (!b))))) : wpGrow P ops w0 n0 Q (o :: rest) K :=
  grow_un ho hw hx (fun _ => rfl) h

theorem look_bi {bi : Builtin} {x : Operand} {ats : Array TypeId} (ho : o.op = .call { callee := .builtin bi, args := #[x], argTypes := ats }) : x ∈ o.op.operands := by simp [ho, Op.operands, Call.operands]
theorem grow_len_sl {x : Operand} {t : TypeId} {l : List UInt8} (ho : o.op = .call { callee := .builtin .len, args := #[x], argTypes := #[t] }) (ht : P.underlying t = some (.slice (P.elem t))) (hw : Wanted ops K n0 o true) (hx : Kn K x (Sl l))
    (h : wpGrow P ops w0 n0 Q rest (upd K o.dst (Is (.int .i64 (l.length : Int))))) : wpGrow P ops w0 n0 Q (o :: rest) K := by
  refine grow_step hw (fun _ => Is.stays _) (fun a w _ _ hl => ?_) h
  obtain ⟨A, c, h1, _⟩ : ∃ A c, a.eval x = .slice A l.length c ∧ By w A c l := looks_op (Ψ := Sl l) (look_bi ho) hx hl
  unfold does execOp
  simp only [ho, resolve, invoke, builtin, Sem.run_bind, Sem.run_pure, Result.andThen_ok, List.map_toArray, List.map_cons, List.map_nil, h1, run_len_slice w t _ _ _ _ ht]
  exact ⟨Gr.refl w, rfl⟩
theorem grow_len_str {x : Operand} {t : TypeId} {s : ByteArray} (ho : o.op = .call { callee := .builtin .len, args := #[x], argTypes := #[t] }) (ht : P.underlying t = some .string) (hw : Wanted ops K n0 o true) (hx : Kn K x (Is (.string s)))
    (h : wpGrow P ops w0 n0 Q rest (upd K o.dst (Is (.int .i64 (s.size : Int))))) : wpGrow P ops w0 n0 Q (o :: rest) K := by
  refine grow_step hw (fun _ => Is.stays _) (fun a w _ _ hl => ?_) h
  have h1 : a.eval x = .string s := looks_op (Ψ := Is (.string s)) (look_bi ho) hx hl
  unfold does execOp
  simp only [ho, resolve, invoke, builtin, Sem.run_bind, Sem.run_pure, Result.andThen_ok, List.map_toArray, List.map_cons, List.map_nil, h1, run_len_string w t _ _ ht]
  exact ⟨Gr.refl w, rfl⟩

/-- 'b[:j]' -/
theorem grow_cut_h {t : TypeId} {x y : Operand} {k : IntKind} {l : List UInt8} {n : Int} (j : Nat) (ho : o.op = .slice t x none (some y) none) (ht : P.underlying t = some (.slice (P.elem t))) (hsz : ∀ w, (sizeOf (P.elem t)).run P w = .ok 1 w)
    (hw : Wanted ops K n0 o true) (hx : Kn K x (Sl l)) (hy : Kn K y (Is (.int k n))) (hn : n = (j : Int)) (hj : j ≤ l.length) (h : wpGrow P ops w0 n0 Q rest (upd K o.dst (Sl (l.take j)))) : wpGrow P ops w0 n0 Q (o :: rest) K := by
  subst hn
  refine grow_step hw (fun _ => Sl.stays _) (fun a w _ _ hl => ?_) h
  obtain ⟨A, c, h1, hb⟩ : ∃ A c, a.eval x = .slice A l.length c ∧ By w A c l := looks_op (Ψ := Sl l) (by simp [ho, Op.operands]) hx hl
  have h2 : a.eval y = .int k (j : Int) := looks_op (Ψ := Is (.int k (j : Int))) (by simp [ho, Op.operands]) hy hl
  have hle := hb.le
  unfold does execOp
  simp only [ho, h1, h2, Option.map_none, Option.map_some, Sem.run_bind, run_sliceAt_slice w t _ _ _ _ ht, run_slice_h w t A l.length c ht k (j : Int) (by omega) (by omega), hsz w, Result.andThen_ok]
  refine ⟨Gr.refl w, (if c = 0 then A else A.map (·.add 0)), c - 0, ?_, ?_⟩
  · simp [sliced, Nat.min_eq_left hj]
  · have := hb.cut 0 j (by omega) hj
    simpa using this
/-- 'b[i:]' -/
theorem grow_cut_l {t : TypeId} {x y : Operand} {k : IntKind} {l : List UInt8} {n : Int} (i : Nat) (ho : o.op = .slice t x (some y) none none) (ht : P.underlying t = some (.slice (P.elem t))) (hsz : ∀ w, (sizeOf (P.elem t)).run P w = .ok 1 w)
    (hw : Wanted ops K n0 o true) (hx : Kn K x (Sl l)) (hy : Kn K y (Is (.int k n))) (hn : n = (i : Int)) (hi : i ≤ l.length) (h : wpGrow P ops w0 n0 Q rest (upd K o.dst (Sl (l.drop i)))) : wpGrow P ops w0 n0 Q (o :: rest) K := by
  subst hn
  refine grow_step hw (fun _ => Sl.stays _) (fun a w _ _ hl => ?_) h
  obtain ⟨A, c, h1, hb⟩ : ∃ A c, a.eval x = .slice A l.length c ∧ By w A c l := looks_op (Ψ := Sl l) (by simp [ho, Op.operands]) hx hl
  have h2 : a.eval y = .int k (i : Int) := looks_op (Ψ := Is (.int k (i : Int))) (by simp [ho, Op.operands]) hy hl
  have hle := hb.le
  unfold does execOp
  simp only [ho, h1, h2, Option.map_none, Option.map_some, Sem.run_bind, run_sliceAt_slice w t _ _ _ _ ht, run_slice_l w t A l.length c ht k (i : Int) (by omega) (by omega), hsz w, Result.andThen_ok]
  refine ⟨Gr.refl w, (if c = i then A else A.map (·.add i)), c - i, ?_, ?_⟩
  · simp [sliced]
  · have := hb.cut i l.length hi (Nat.le_refl _)
    rw [List.take_of_length_le (by simp)] at this
    exact this

/-- what is known at the start, slot by slot, as far as it is wanted -/
def Ahead (w0 : World) (a : Act) (K : Tmp → Known) : Prop := (∀ t, Stays (K t)) ∧ ∀ t, K t (a.tmps.getD t undef) w0
theorem Ahead.none_ (w0 : World) (a : Act) : Ahead w0 a (fun _ _ _ => True) := ⟨fun _ => stays_undef, fun _ => trivial⟩
theorem Ahead.more {a : Act} (h : Ahead w0 a K) (t : Tmp) (hst : Stays Φ) (hv : Φ (a.tmps.getD t undef) w0) : Ahead w0 a (upd K (some t) Φ) := by
  refine ⟨upd_stays h.1 hst, fun s => ?_⟩
  show (bif Nat.beq t s then Φ else K s) _ _
  cases hb : Nat.beq t s
  · exact h.2 s
  · obtain rfl := Nat.eq_of_beq_eq_true hb
    exact hv
end

/-- a frame, slot by slot -/
theorem lay_frame (a : Act) (n0 : Nat) (hs : a.tmps.size = n0) : a = { tmps := ((List.range n0).map fun t => a.tmps.getD t undef).toArray, defers := a.defers } := by
  obtain ⟨tm, df⟩ := a
  simp only at hs
  subst hs
  congr 1
  apply Array.ext
  · simp
  · intro i h1 h2
    simp [h1]

theorem weaker {P : Program} {ops : Array Oper} {w0 : World} {n0 : Nat} {Q : (Tmp → Known) → Prop} : ∀ (l : List Oper) (K K' : Tmp → Known), (∀ t, Stays (K' t)) → (∀ t v w, Gr w0 w → K t v w → K' t v w) →
    (∀ K K', (∀ t v w, Gr w0 w → K t v w → K' t v w) → Q K' → Q K) → wpGrow P ops w0 n0 Q l K' → wpGrow P ops w0 n0 Q l K
  | [], K, K', _, hi, hQ, h => hQ K K' hi h
  | o :: l, K, K', hst, hi, hQ, ⟨Φ, h1, h2, h3⟩ => by
    refine ⟨Φ, fun _ => h1 hst, fun a w hg hs hl => h2 a w hg hs (fun t ht => hi t _ w hg (hl t ht)), ?_⟩
    refine weaker l (upd K o.dst Φ) (upd K' o.dst Φ) (upd_stays hst (h1 hst)) (fun t v w hg hk => ?_) hQ h3
    unfold upd at hk ⊢
    cases hd : o.dst with
    | none => rw [hd] at hk; exact hi t v w hg hk
    | some d =>
      rw [hd] at hk
      cases hb : Nat.beq d t
      · simp only [hb, cond_false] at hk ⊢; exact hi t v w hg hk
      · simp only [hb, cond_true] at hk ⊢; exact hk

theorem know_far {dst : Nat → Option Tmp} {F : Nat → Known} {K0 : Tmp → Known} {t : Tmp} : ∀ n, (∀ k, k < n → dst k ≠ some t) → know dst F K0 n t = K0 t
  | 0, _ => rfl
  | n + 1, h => by rw [know, if_neg (h n (by omega)), know_far n (fun k hk => h k (by omega))]

/-- slots that the region writes -/
def writesB (l : List Oper) (D : List Nat) : Bool := l.all fun o => match o.dst with | some d => D.contains d | none => true

/-- the same as 'wp_region_grow'; what the region does not write is as it was -/
theorem wp_region_grow_kept {P : Program} {l : List Oper} {id : Nat} {Q : Exit → Act → World → Prop} {a : Act} {w : World} (D : List Nat) (hD : writesB l D = true) (hm : P.follows .mixedOrders = true) (hB : growB l.toArray a.tmps.size = true)
    (h : wpGrow P l.toArray w.drew a.tmps.size (fun K => ∀ a' w', Gr w.drew w' → a'.tmps.size = a.tmps.size → a'.defers = a.defers → (∀ t, D.contains t = false → a'.tmps.getD t undef = a.tmps.getD t undef) → (∀ t, K t (a'.tmps.getD t undef) w') → Q .normal a' w') l
      (fun t v _ => v = a.tmps.getD t undef)) : (Code.region id l.toArray true).wp P Q a w := by
  refine wp_region_any hm ?_
  show wpAny P .any l.toArray Q l.toArray.size (Array.replicate l.toArray.size false) a w.drew
  have h0 : ∀ t : Tmp, Stays (fun v (_ : World) => v = a.tmps.getD t undef) := fun t v w w' h _ => h
  obtain ⟨F, hF, hloc, hQ⟩ := found (P := P) (ops := l.toArray) (w0 := w.drew) (n0 := a.tmps.size) l 0 (fun _ _ _ => True) (fun t v _ => v = a.tmps.getD t undef) (fun j => by simp) h0 (fun _ => stays_undef) (fun k hk => absurd hk (by omega)) h
  simp only [Nat.zero_add] at hloc hQ
  have hn : l.toArray.size = l.length := by simp
  refine any_of_grow (d0 := a.defers) hB h0 hF (fun k hk => hloc k (by omega)) (fun a' w' hg hs hd hk => ?_) l.toArray.size _ (List.range l.toArray.size) a w.drew (by simp) (fun j hj _ => by simpa using hj) (by simp) ?_ ?_
  · rw [hn] at hk
    refine hQ a' w' hg hs hd (fun t ht => ?_) hk
    have h1 := hk t
    rw [know_far l.length (fun k hk hd => ?_)] at h1
    · exact h1
    · simp only [dstOf, List.getElem?_toArray, Option.bind_eq_some_iff] at hd
      obtain ⟨o, ho, hod⟩ := hd
      have h2 := List.all_eq_true.1 hD o (List.mem_of_getElem? ho)
      rw [hod] at h2
      simp only at h2
      rw [ht] at h2
      cases h2
  · intro j oj hj hl
    have hjn : j < l.toArray.size := (Array.getElem?_eq_some_iff.1 hj).1
    simp only [List.size_toArray] at hjn
    simp [lis, hjn] at hl
  · refine ⟨Gr.refl _, rfl, rfl, fun t => ?_⟩
    rw [knowL_skip l.toArray.size 0 (by omega) (fun j _ hjn _ => by simp only [List.size_toArray] at hjn; simp [lis, hjn])]
    rfl

/-- **A region whose order is open, walked once, from what is known ahead of it**; what it does not write is as it was. -/
theorem wp_region_kept {P : Program} {l : List Oper} {id : Nat} {Q : Exit → Act → World → Prop} {a : Act} {w : World} (n0 : Nat) (D : List Nat) (hn : a.tmps.size = n0) (hD : writesB l D = true) (hm : P.follows .mixedOrders = true) (hB : growB l.toArray n0 = true)
    {K : Tmp → Known} (hK : Ahead w.drew a K)
    (h : wpGrow P l.toArray w.drew n0 (fun K => ∀ a' w', Gr w.drew w' → a'.tmps.size = n0 → a'.defers = a.defers → (∀ t, D.contains t = false → a'.tmps.getD t undef = a.tmps.getD t undef) → (∀ t, K t (a'.tmps.getD t undef) w') → Q .normal a' w') l K) :
    (Code.region id l.toArray true).wp P Q a w := by
  subst hn
  refine wp_region_grow_kept D hD hm hB ?_
  refine weaker _ _ K hK.1 (fun t v w' hg hv => ?_) (fun K K' hi hq a' w' hg hs hd hu hk => hq a' w' hg hs hd hu (fun t => hi t _ w' hg (hk t))) h
  rw [hv]
  exact hK.1 t _ _ _ (hK.2 t) hg

/-- a frame, slot by slot, what was not written as it was -/
theorem lay_kept (a b : Act) (n0 : Nat) (D : List Nat) (hs : b.tmps.size = n0) (hd : b.defers = a.defers) (hu : ∀ t, D.contains t = false → b.tmps.getD t undef = a.tmps.getD t undef) :
    b = { tmps := ((List.range n0).map fun t => bif D.contains t then b.tmps.getD t undef else a.tmps.getD t undef).toArray, defers := a.defers } := by
  have h := lay_frame b n0 hs
  rw [hd] at h
  have e : (fun t => bif D.contains t then b.tmps.getD t undef else a.tmps.getD t undef) = fun t => b.tmps.getD t undef := by
    funext t
    cases hc : D.contains t
    · simp only [cond_false]; exact (hu t hc).symm
    · rfl
  rw [e]
  exact h

theorem lay_kept_by (a b : Act) (n0 : Nat) (D : List Nat) (hs : b.tmps.size = n0) (hd : b.defers = a.defers) (hu : ∀ t, D.contains t = false → b.tmps.getD t undef = a.tmps.getD t undef) :
    ∃ X : Nat → Value, (∀ t, b.tmps.getD t undef = X t) ∧ b = { tmps := ((List.range n0).map fun t => bif D.contains t then X t else a.tmps.getD t undef).toArray, defers := a.defers } :=
  ⟨fun t => b.tmps.getD t undef, fun _ => rfl, lay_kept a b n0 D hs hd hu⟩

/-- **A region whose order is open, walked once, from what is known ahead of it.** -/
theorem wp_region_grown {P : Program} {l : List Oper} {id : Nat} {Q : Exit → Act → World → Prop} {a : Act} {w : World} (n0 : Nat) (hn : a.tmps.size = n0) (hm : P.follows .mixedOrders = true) (hB : growB l.toArray n0 = true) {K : Tmp → Known} (hK : Ahead w.drew a K)
    (h : wpGrow P l.toArray w.drew n0 (fun K => ∀ a' w', Gr w.drew w' → a'.tmps.size = n0 → a'.defers = a.defers → (∀ t, K t (a'.tmps.getD t undef) w') → Q .normal a' w') l K) :
    (Code.region id l.toArray true).wp P Q a w := by
  subst hn
  refine wp_region_grow hm hB ?_
  refine weaker _ _ K hK.1 (fun t v w' hg hv => ?_) (fun K K' hi hq a' w' hg hs hd hk => hq a' w' hg hs hd (fun t => hi t _ w' hg (hk t))) (by simpa using h)
  rw [hv]
  exact hK.1 t _ _ _ (hK.2 t) hg

end Go.Proofs.Ytfcbhmfhhkifnaa.Grow
