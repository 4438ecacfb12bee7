/-
  Calls of a method of an interface value, in regions whose order is open. No program.
-/
import Derived.Test.YtpabppoohobjpaaGreatBaseG
import Derived.StillTailTactics
import Derived.Test.YtpabppoohobjpaaGreatMsgMath
namespace Go.Proofs.YtpabppoohobjpaaGreat
open Go Go.RowKit
set_option maxRecDepth 100000

/-- the interface value's method of this name is function f, called with the receiver r -/
def Disp (P : Program) (hv : Value) (name : String) (f : FuncId) (r : Value) : Prop :=
  (∃ t v, hv = .iface t v ∧ ∀ w, (nilAhead (P.types.size + Made.depth) t v name).run P w = .ok (some false) w) ∧ ∀ args w, (callMethod hv name args).run P w = .ok (.enter f (#[r] ++ args)) w

section
variable {P : Program} {ops : Array Oper} {rest : List Oper} {o : Oper} {a : Act} {w : World} {hv r : Value} {name : String} {f : FuncId}

theorem still_val {Q : Act → Prop} {v : Value} (t : Tmp) (hg : o.guard = none) (hd : o.dst = some t) (h : (execOp a.eval o).run P w = .ok (.value v) w) (hk : ∀ b : Act, b = a.put (some t) v → wpStill P ops w Q rest b) : wpStill P ops w Q (o :: rest) a := by
  unfold wpStill
  rw [if_pos (by simp [Region.wanted, hg])]
  unfold Oper.still
  rw [h, Oper.stillUpon_value, hd]
  exact hk _ rfl
theorem run_ahead (hD : Disp P hv name f r) {x : Operand} (ho : o.op = .nilCheck x) {c : Array Value} (hx : a.eval x = .func (.method name) #[hv] c) : (execOp a.eval o).run P w = .ok (.value (.func (.method name) #[hv] c)) w := by
  obtain ⟨⟨t, v, rfl, h1⟩, _⟩ := hD
  have h2 : Sem.run P (nilAhead (P.types.size + Made.depth) t v name) w = Result.ok (some false) w := h1 w
  unfold execOp
  simp only [ho, hx]
  simp [Sem.run_bind, h2]
theorem run_invoke (hD : Disp P hv name f r) {rx : Operand} {xs : Array Operand} {ats : Array TypeId} (ho : o.op = .call { callee := .invoke rx name, args := xs, argTypes := ats }) (hx : a.eval rx = hv) :
    (execOp a.eval o).run P w = .ok (.enter f (#[r] ++ xs.map a.eval)) w := by
  unfold execOp
  have h1 := hD.2 (xs.map a.eval) w
  simp only [ho, resolve, hx, invoke, Sem.run_bind, Sem.run_pure, Result.andThen_ok]
  have e0 : (#[hv] ++ xs.map a.eval)[0]? = some hv := by simp [Array.getElem?_append]
  have e1 : (#[hv] ++ xs.map a.eval).extract 1 (#[hv] ++ xs.map a.eval).size = xs.map a.eval := by
    apply Array.ext
    · simp
    · intro i h1 h2
      simp
  rw [e0]
  simp only [e1]
  exact h1
/-- the walk is to stop here -/
def Stop (p : Prop) : Prop := p
theorem stop_invoke {Q : Exit → Act → World → Prop} {rx : Operand} {nm : String} {xs : Array Operand} {ats : Array TypeId} (_ho : o.op = .call { callee := .invoke rx nm, args := xs, argTypes := ats }) (h : Stop (wpList P ops Q (o :: rest) a w)) : wpList P ops Q (o :: rest) a w := h
theorem wpList_enter {Q : Exit → Act → World → Prop} {args : Array Value} {post : Ending → World → Prop} (hg : o.guard = none) (he : (execOp a.eval o).run P w = .ok (.enter f args) w) (hc : Calls P f args w post)
    (h : ∀ e w', post e w' → ∃ u, e = .returned u ∧ wpList P ops Q rest (a.put o.dst u) w') : wpList P ops Q (o :: rest) a w := by
  unfold wpList
  rw [if_pos (by simp [Region.wanted, hg])]
  refine .inl ?_
  unfold Oper.wp
  rw [he]
  simp only [Oper.upon]
  exact hc.mono fun e w' hp => by obtain ⟨u, rfl, hu⟩ := h e w' hp; exact hu
theorem wpList_hand1 {Q : Exit → Act → World → Prop} {x y : Operand} {ats : Array TypeId} {p : Value} {post : Ending → World → Prop} (hD : Disp P hv name f r) (hg : o.guard = none) (ho : o.op = .call { callee := .invoke x name, args := #[y], argTypes := ats }) (hx : a.eval x = hv) (hy : a.eval y = p)
    (hc : Calls P f #[r, p] w post) (h : ∀ e w', post e w' → ∃ u, e = .returned u ∧ wpList P ops Q rest (a.put o.dst u) w') : wpList P ops Q (o :: rest) a w := by
  refine wpList_enter hg ((run_invoke hD ho hx).trans ?_) hc h
  subst hy
  simp only [List.map_toArray, List.map_cons, List.map_nil]
  rfl
theorem wpList_hand2 {Q : Exit → Act → World → Prop} {x y z : Operand} {ats : Array TypeId} {p p' : Value} {post : Ending → World → Prop} (hD : Disp P hv name f r) (hg : o.guard = none) (ho : o.op = .call { callee := .invoke x name, args := #[y, z], argTypes := ats }) (hx : a.eval x = hv) (hy : a.eval y = p) (hz : a.eval z = p')
    (hc : Calls P f #[r, p, p'] w post) (h : ∀ e w', post e w' → ∃ u, e = .returned u ∧ wpList P ops Q rest (a.put o.dst u) w') : wpList P ops Q (o :: rest) a w := by
  refine wpList_enter hg ((run_invoke hD ho hx).trans ?_) hc h
  subst hy hz
  simp only [List.map_toArray, List.map_cons, List.map_nil]
  rfl
/-- a function value that, called with the interface value and something else, runs f with q in the interface value's place -/
def RunsAs (P : Program) (fv hv : Value) (f : FuncId) (q : Value) : Prop :=
  ∀ (a : Act) (o : Oper) (x y z : Operand) (ats : Array TypeId), o.op = .call { callee := .value x, args := #[y, z], argTypes := ats } → a.eval x = fv → a.eval y = hv → ∀ w, (execOp a.eval o).run P w = .ok (.enter f #[q, a.eval z]) w
theorem stop_value {Q : Exit → Act → World → Prop} {t : Tmp} {xs : Array Operand} {ats : Array TypeId} (_ho : o.op = .call { callee := .value (.tmp t), args := xs, argTypes := ats }) (h : Stop (wpList P ops Q (o :: rest) a w)) : wpList P ops Q (o :: rest) a w := h
theorem wpList_fn {Q : Exit → Act → World → Prop} {x y z : Operand} {ats : Array TypeId} {fv q p : Value} {post : Ending → World → Prop} (hR : RunsAs P fv hv f q) (hg : o.guard = none) (ho : o.op = .call { callee := .value x, args := #[y, z], argTypes := ats }) (hx : a.eval x = fv) (hy : a.eval y = hv) (hz : a.eval z = p)
    (hc : Calls P f #[q, p] w post) (h : ∀ e w', post e w' → ∃ u, e = .returned u ∧ wpList P ops Q rest (a.put o.dst u) w') : wpList P ops Q (o :: rest) a w := by
  refine wpList_enter hg ((hR a o x y z ats ho hx hy w).trans ?_) hc h
  rw [hz]
end

theorem put_at {a : Act} {d : Tmp} {u : Value} (h : d < a.tmps.size) : (a.put (some d) u).eval (.tmp d) = u := Grow.put_getD_self h
theorem put_far {a : Act} {d t : Tmp} {u : Value} (h : d ≠ t) : (a.put (some d) u).eval (.tmp t) = a.eval (.tmp t) := Grow.put_getD_ne (fun e => h (by injection e))
theorem put_siz {a : Act} {d : Option Tmp} {u : Value} : (a.put d u).tmps.size = a.tmps.size := Grow.put_size

section
variable {P : Program} {hv r : Value} {name : String} {f : FuncId} {ih ip : Tmp} {d T k : Nat} {ty0 ty1 ty2 ty3 ty4 ty5 ty6 ty7 : TypeId} {p0 p1 p2 p3 p4 p5 p6 p7 : String} {f0 f1 f2 f3 f4 f5 f6 f7 : Array Edge} {ats : Array TypeId}

/-- 'h.M(&x.F)': the interface value and the pointer are looked at, then the method is called -/
theorem wp_hand {id : Nat} {Q : Exit → Act → World → Prop} {a : Act} {w : World} {ad ad' : Addr} {post : Ending → World → Prop} (hD : Disp P hv name f r) (hm : P.follows .mixedOrders = true)
    (hB : Region.lexTailB .any #[⟨some d, .move (.tmp ih), ty0, p0, f0, none⟩, ⟨some (d+1), .move (.tmp ip), ty1, p1, f1, none⟩, ⟨some (d+2), .nilCheck (.tmp (d+1)), ty2, p2, f2, none⟩, ⟨some (d+3), .fieldAddr T (.tmp (d+2)) k, ty3, p3, f3, none⟩,
      ⟨some (d+4), .makeFunc (.method name) #[.tmp d] #[], ty4, p4, f4, none⟩, ⟨some (d+5), .nilCheck (.tmp (d+4)), ty5, p5, f5, none⟩, ⟨some (d+6), .move (.tmp d), ty6, p6, f6, none⟩, ⟨some (d+7), .call { callee := .invoke (.tmp (d+6)) name, args := #[.tmp (d+3)], argTypes := ats }, ty7, p7, f7, none⟩] 7 = true)
    (hs : d + 7 < a.tmps.size) (h1 : a.eval (.tmp ih) = hv) (h2 : a.eval (.tmp ip) = .pointer (some ad)) (hdi : ip ≠ d) (hf : ∀ w, (Instr.fieldAt T (.pointer (some ad)) k).run P w = .ok (.pointer (some ad')) w)
    (hc : Calls P f #[r, .pointer (some ad')] w.drew post)
    (h : ∀ e w', post e w' → ∃ u, e = .returned u ∧ Q .normal ((((((((a.put (some d) hv).put (some (d+1)) (.pointer (some ad))).put (some (d+2)) (.pointer (some ad))).put (some (d+3)) (.pointer (some ad'))).put (some (d+4)) (.func (.method name) #[hv] #[])).put (some (d+5)) (.func (.method name) #[hv] #[])).put (some (d+6)) hv).put (some (d+7)) u) w') :
    (Code.region id #[⟨some d, .move (.tmp ih), ty0, p0, f0, none⟩, ⟨some (d+1), .move (.tmp ip), ty1, p1, f1, none⟩, ⟨some (d+2), .nilCheck (.tmp (d+1)), ty2, p2, f2, none⟩, ⟨some (d+3), .fieldAddr T (.tmp (d+2)) k, ty3, p3, f3, none⟩,
      ⟨some (d+4), .makeFunc (.method name) #[.tmp d] #[], ty4, p4, f4, none⟩, ⟨some (d+5), .nilCheck (.tmp (d+4)), ty5, p5, f5, none⟩, ⟨some (d+6), .move (.tmp d), ty6, p6, f6, none⟩, ⟨some (d+7), .call { callee := .invoke (.tmp (d+6)) name, args := #[.tmp (d+3)], argTypes := ats }, ty7, p7, f7, none⟩] true).wp P Q a w := by
  refine wp_region_still_tail 7 hm hB ?_
  simp only [List.take_succ_cons, List.take_zero, List.drop_succ_cons, List.drop_zero]
  change wpStill _ _ w.drew (fun a' => wpList _ _ _ _ a' w.drew) _ _
  refine still_val (v := hv) d rfl rfl (by unfold execOp; rw [← h1]; rfl) (fun b0 e0 => ?_)
  have z0 : b0.tmps.size = a.tmps.size := by rw [e0, put_siz]
  have g0 : b0.eval (.tmp d) = hv := by rw [e0]; exact put_at (show d < a.tmps.size by omega)
  have q0 : b0.eval (.tmp ip) = .pointer (some ad) := by rw [e0, put_far (Ne.symm hdi)]; exact h2
  refine still_val (v := .pointer (some ad)) (d+1) rfl rfl (by unfold execOp; simp only [q0]; rfl) (fun b1 e1 => ?_)
  have z1 : b1.tmps.size = a.tmps.size := by rw [e1, put_siz]; exact z0
  have g1 : b1.eval (.tmp d) = hv := by rw [e1, put_far (show d + 1 ≠ d by omega)]; exact g0
  have q1 : b1.eval (.tmp (d+1)) = .pointer (some ad) := by rw [e1]; exact put_at (show d + 1 < b0.tmps.size by omega)
  refine still_val (v := .pointer (some ad)) (d+2) rfl rfl (by unfold execOp; simp only [q1]; rfl) (fun b2 e2 => ?_)
  have z2 : b2.tmps.size = a.tmps.size := by rw [e2, put_siz]; exact z1
  have g2 : b2.eval (.tmp d) = hv := by rw [e2, put_far (show d + 2 ≠ d by omega)]; exact g1
  have q2 : b2.eval (.tmp (d+2)) = .pointer (some ad) := by rw [e2]; exact put_at (show d + 2 < b1.tmps.size by omega)
  refine still_val (v := .pointer (some ad')) (d+3) rfl rfl (by unfold execOp; simp only [q2]; rw [Sem.run_bind, hf]; rfl) (fun b3 e3 => ?_)
  have z3 : b3.tmps.size = a.tmps.size := by rw [e3, put_siz]; exact z2
  have g3 : b3.eval (.tmp d) = hv := by rw [e3, put_far (show d + 3 ≠ d by omega)]; exact g2
  have q3 : b3.eval (.tmp (d+3)) = .pointer (some ad') := by rw [e3]; exact put_at (show d + 3 < b2.tmps.size by omega)
  refine still_val (v := .func (.method name) #[hv] #[]) (d+4) rfl rfl (by unfold execOp; simp only [List.map_toArray, List.map_cons, List.map_nil, g3]; rfl) (fun b4 e4 => ?_)
  have z4 : b4.tmps.size = a.tmps.size := by rw [e4, put_siz]; exact z3
  have g4 : b4.eval (.tmp d) = hv := by rw [e4, put_far (show d + 4 ≠ d by omega)]; exact g3
  have q4 : b4.eval (.tmp (d+3)) = .pointer (some ad') := by rw [e4, put_far (show d + 4 ≠ d+3 by omega)]; exact q3
  have k4 : b4.eval (.tmp (d+4)) = .func (.method name) #[hv] #[] := by rw [e4]; exact put_at (show d + 4 < b3.tmps.size by omega)
  refine still_val (v := .func (.method name) #[hv] #[]) (d+5) rfl rfl (run_ahead hD rfl k4) (fun b5 e5 => ?_)
  have z5 : b5.tmps.size = a.tmps.size := by rw [e5, put_siz]; exact z4
  have g5 : b5.eval (.tmp d) = hv := by rw [e5, put_far (show d + 5 ≠ d by omega)]; exact g4
  have q5 : b5.eval (.tmp (d+3)) = .pointer (some ad') := by rw [e5, put_far (show d + 5 ≠ d+3 by omega)]; exact q4
  refine still_val (v := hv) (d+6) rfl rfl (by unfold execOp; simp only [g5]; rfl) (fun b6 e6 => ?_)
  have z6 : b6.tmps.size = a.tmps.size := by rw [e6, put_siz]; exact z5
  have g6 : b6.eval (.tmp (d+6)) = hv := by rw [e6]; exact put_at (show d + 6 < b5.tmps.size by omega)
  have q6 : b6.eval (.tmp (d+3)) = .pointer (some ad') := by rw [e6, put_far (show d + 6 ≠ d+3 by omega)]; exact q5
  refine wpStill_nil ?_
  refine wpList_enter (args := #[r, .pointer (some ad')]) (f := f) rfl ?_ hc (fun e w' hp => ?_)
  · refine (run_invoke hD rfl g6).trans ?_
    simp only [List.map_toArray, List.map_cons, List.map_nil, q6]
    rfl
  · obtain ⟨u, hu, hq⟩ := h e w' hp
    refine ⟨u, hu, ?_⟩
    subst e6 e5 e4 e3 e2 e1 e0
    exact hq
end

end Go.Proofs.YtpabppoohobjpaaGreat

/-
  A hand that goes through a letter, by the contracts of its methods.
-/
namespace Go.Proofs.YtpabppoohobjpaaGreat
open Go Go.RowKit TxnMath KeyMath MsgMath
set_option maxRecDepth 100000

/-- nothing has changed but the hand's own blocks (O), those in C (these only where the hand does more than read), and what is new -/
structure Hr (O : World → Nat → Prop) (rd : Prop) (C : Nat → Prop) (w w' : World) : Prop where
  os : w'.os = w.os
  tape : w'.tape = w.tape
  output : w'.output = w.output
  size : w.heap.size ≤ w'.heap.size
  block : ∀ j, j < w.heap.size → ¬ O w j → (rd ∨ ¬ C j) → w'.heap[j]? = w.heap[j]?
  own : ∀ j, j < w.heap.size → ¬ O w j → ¬ O w' j

section
variable {O : World → Nat → Prop} {rd : Prop} {C C' : Nat → Prop} {w w' a b c : World}
theorem Hr.refl (O : World → Nat → Prop) (rd : Prop) (C : Nat → Prop) (w : World) : Hr O rd C w w := ⟨rfl, rfl, rfl, Nat.le_refl _, fun _ _ _ _ => rfl, fun _ _ h => h⟩
theorem Hr.trans (h : Hr O rd C a b) (k : Hr O rd C b c) : Hr O rd C a c :=
  ⟨k.os.trans h.os, k.tape.trans h.tape, k.output.trans h.output, Nat.le_trans h.size k.size,
    fun j hj ho hc => (k.block j (Nat.lt_of_lt_of_le hj h.size) (h.own j hj ho) hc).trans (h.block j hj ho hc), fun j hj ho => k.own j (Nat.lt_of_lt_of_le hj h.size) (h.own j hj ho)⟩
theorem Hr.wider (h : Hr O rd C a b) (hc : ∀ j, j < a.heap.size → C j → C' j) : Hr O rd C' a b :=
  ⟨h.os, h.tape, h.output, h.size, fun j hj ho hx => h.block j hj ho (hx.imp id fun hx hh => hx (hc j hj hh)), h.own⟩
/-- behind growth what the second changes of what is new does not count -/
theorem Hr.after (h : Hr O rd C a b) (k : Hr O rd C' b c) (hc : ∀ j, j < a.heap.size → C' j → C j) : Hr O rd C a c :=
  ⟨k.os.trans h.os, k.tape.trans h.tape, k.output.trans h.output, Nat.le_trans h.size k.size,
    fun j hj ho hx => (k.block j (Nat.lt_of_lt_of_le hj h.size) (h.own j hj ho) (hx.imp id fun hx hh => hx (hc j hj hh))).trans (h.block j hj ho hx), fun j hj ho => k.own j (Nat.lt_of_lt_of_le hj h.size) (h.own j hj ho)⟩
theorem Hr.of_gr (h : Gr w w') (ho : ∀ j, O w' j ↔ O w j) : Hr O rd C w w' := ⟨h.os, h.tape, h.output, h.size, fun j hj _ _ => h.block j hj, fun j _ h1 h2 => h1 ((ho j).1 h2)⟩
/-- what is at home neither with the hand nor in C -/
theorem Hr.moves {X X' : Nat → Prop} (h : Hr O rd C w w') (hx : ∀ j, X j → ¬ O w j ∧ (rd ∨ ¬ C j)) (hy : ∀ j, j < w.heap.size → X j → ¬ O w' j → X' j) : Moves X X' w w' := fun j hj hj2 =>
  ⟨h.block j hj (hx j hj2).1 (hx j hj2).2, hy j hj hj2 (h.own j hj (hx j hj2).1)⟩
end

/-- these cells were laid, at block k from o on -/
structure Wr (O : World → Nat → Prop) (rd : Prop) (k o : Nat) (l : List Value) (w w' : World) : Prop where
  hr : Hr O rd (· = k) w w'
  bl : ∀ t cs, Bl w k t cs → ∃ cs', Bl w' k t cs' ∧ cs'.size = cs.size
  out : ∀ p, p < o ∨ o + l.length ≤ p → w'.cell? ⟨k, p, none⟩ = w.cell? ⟨k, p, none⟩
  at_ : Sit w' k o l

section
variable {O : World → Nat → Prop} {rd : Prop} {k o : Nat} {l r : List Value} {w w' a b c : World}
theorem Wr.app (h : Wr O rd k o l a b) (h2 : Wr O rd k (o + l.length) r b c) : Wr O rd k o (l ++ r) a c := by
  refine ⟨h.hr.trans h2.hr, fun t cs hb => ?_, fun p hp => ?_, ?_⟩
  · obtain ⟨cs1, h3, e3⟩ := h.bl t cs hb
    obtain ⟨cs2, h4, e4⟩ := h2.bl t cs1 h3
    exact ⟨cs2, h4, e4.trans e3⟩
  · rw [List.length_append] at hp
    rw [h2.out p (by omega), h.out p (by omega)]
  · refine Sit.app (fun i u hi => ?_) h2.at_
    have hl := (List.getElem?_eq_some_iff.1 hi).1
    rw [h2.out (o + i) (by omega)]
    exact h.at_ i u hi
/-- nothing was laid that was not there -/
theorem Wr.same (hr : Hr O rd (· = k) w w') (hb : w'.heap[k]? = w.heap[k]?) (hs : Sit w k o l) : Wr O rd k o l w w' :=
  ⟨hr, fun _ cs h => ⟨cs, hb.trans h, rfl⟩, fun p _ => World.cell?_of_block (show w'.heap[(⟨k, p, none⟩ : Addr).block]? = w.heap[(⟨k, p, none⟩ : Addr).block]? from hb), hs.of_block hb⟩
theorem Wr.of_hr (h : Wr O rd k o l a b) (h2 : Hr O rd (fun _ => False) b c) (hk : k < b.heap.size) (hO : ¬ O b k) : Wr O rd k o l a c := by
  have hb := h2.block k hk hO (.inr fun h => h)
  refine ⟨h.hr.after h2 (fun _ _ h => h.elim), fun t cs hx => ?_, fun p hp => ?_, h.at_.of_block hb⟩
  · obtain ⟨cs1, h3, e3⟩ := h.bl t cs hx
    exact ⟨cs1, hb.trans h3, e3⟩
  · rw [← h.out p hp]
    exact World.cell?_of_block (show c.heap[(⟨k, p, none⟩ : Addr).block]? = b.heap[(⟨k, p, none⟩ : Addr).block]? from hb)
end

/-- the block is one that can be written to, or need not be -/
def Open (rd : Prop) (w : World) (k : Nat) : Prop := rd ∨ ∃ t cs, Bl w k t cs
theorem Open.wr {O : World → Nat → Prop} {rd : Prop} {k o : Nat} {l : List Value} {w w' : World} (h : Open rd w k) (hw : Wr O rd k o l w w') : Open rd w' k := by
  rcases h with h | ⟨t, cs, h⟩
  · exact .inl h
  · obtain ⟨cs', h2, _⟩ := hw.bl t cs h
    exact .inr ⟨t, cs', h2⟩
theorem Open.gr {rd : Prop} {k : Nat} {w w' : World} (h : Open rd w k) (hg : Gr w w') : Open rd w' k := h.imp id fun ⟨t, cs, h⟩ => ⟨t, cs, h.gr hg⟩

/-- what a method that lays cells comes to -/
def LaidPost {σ : Type} (O : World → Nat → Prop) (rd : Prop) (S : σ → World → Prop) (k o : Nat) (l : List Value) (s' : σ) (w : World) (e : Ending) (w' : World) : Prop := e = .returned (.tuple #[]) ∧ S s' w' ∧ Wr O rd k o l w w'
/-- .. a transaction's -/
def TxnLaid {σ : Type} (O : World → Nat → Prop) (rd : Prop) (S : σ → World → Prop) (k o : Nat) (X : Nat → Prop) (t : TxT) (s' : σ) (w : World) (e : Ending) (w' : World) : Prop :=
  e = .returned (.tuple #[]) ∧ S s' w' ∧ ∃ p, Wr O rd k o (txC t p) w w' ∧ RowsX (fun j => ¬ O w' j ∧ (X j ∨ w.heap.size ≤ j)) w' t p
def SizedPost {σ : Type} (O : World → Nat → Prop) (rd : Prop) (S : σ → World → Prop) (n : Nat) (s' : σ) (w : World) (e : Ending) (w' : World) : Prop := e = .returned (.int .i64 (n : Int)) ∧ S s' w' ∧ Hr O rd (fun _ => False) w w'

structure HandOk {σ : Type} (P : Program) (H : Hand σ) (rd : Prop) (hv : Value) (S : σ → World → Prop) (O : World → Nat → Prop) (wt : σ → Nat) : Prop where
  lt : ∀ {s w j}, S s w → O w j → j < w.heap.size
  gr : ∀ {s w w'}, S s w → Gr w w' → S s w' ∧ ∀ j, O w' j ↔ O w j
  but : ∀ {s w w' k}, S s w → ¬ O w k → But w w' k → S s w' ∧ ∀ j, O w' j ↔ O w j
  num : ∃ f r, Disp P hv "diwan/msg.number" f r ∧ ∀ s w k o z, S s w → wt s ≤ 500000000 → ¬ O w k → Sit w k o [.int .i64 z] → Open rd w k → I64 z → Calls P f #[r, .pointer (some ⟨k, o, none⟩)] w (LaidPost O rd S k o [.int .i64 (H.num s z).1] (H.num s z).2 w)
  flag : ∃ f r, Disp P hv "diwan/msg.flag" f r ∧ ∀ s w k o z, S s w → wt s ≤ 500000000 → ¬ O w k → Sit w k o [.bool z] → Open rd w k → Calls P f #[r, .pointer (some ⟨k, o, none⟩)] w (LaidPost O rd S k o [.bool (H.flag s z).1] (H.flag s z).2 w)
  text : ∃ f r, Disp P hv "diwan/msg.text" f r ∧ ∀ s w k o z, S s w → wt s ≤ 500000000 → ¬ O w k → Sit w k o [.string z] → Open rd w k → z.size ≤ 1000000 → Calls P f #[r, .pointer (some ⟨k, o, none⟩)] w (LaidPost O rd S k o [.string (H.text s z).1] (H.text s z).2 w)
  txn : ∃ f r, Disp P hv "diwan/msg.txn" f r ∧ ∀ s w k o t p X, S s w → wt s ≤ 500000000 → ¬ O w k → Sit w k o (txC t p) → (∀ j, X j → ¬ O w j ∧ (rd ∨ j ≠ k)) → RowsX X w t p → Open rd w k → TxLim 1000000 t →
    Calls P f #[r, .pointer (some ⟨k, o, none⟩)] w (TxnLaid O rd S k o X (H.txn s t).1 (H.txn s t).2 w)
  size : ∃ f r, Disp P hv "diwan/msg.size" f r ∧ ∀ s w (n m : Nat), S s w → wt s ≤ 500000000 → n ≤ 1000000 → m ≤ 1000000 → Calls P f #[r, .int .i64 n, .int .i64 m] w (SizedPost O rd S (H.size s n m).1 (H.size s n m).2 w)
  rdNum : rd → ∀ s z, (H.num s z).1 = z
  rdFlag : rd → ∀ s z, (H.flag s z).1 = z
  rdText : rd → ∀ s z, (H.text s z).1 = z
  rdTxn : rd → ∀ s z, (H.txn s z).1 = z
  rdSize : rd → ∀ s n m, (H.size s n m).1 = n
  i64 : ∀ s z, I64 z → I64 (H.num s z).1
  short : ∀ s z, z.size ≤ 1000000 → (H.text s z).1.size ≤ 1000000
  lim : ∀ s t, TxLim 1000000 t → TxLim 1000000 (H.txn s t).1
  few : ∀ s n m, (H.size s n m).1 ≤ n ∨ (H.size s n m).1 ≤ m
  wNum : ∀ s z, wt (H.num s z).2 ≤ wt s + 10000
  wFlag : ∀ s z, wt (H.flag s z).2 ≤ wt s + 10000
  wText : ∀ s z, wt (H.text s z).2 ≤ wt s + 10000
  wTxn : ∀ s z, wt (H.txn s z).2 ≤ wt s + 10000
  wSize : ∀ s n m, wt (H.size s n m).2 ≤ wt s + 10000

/-- the letter in block g -/
def LetX (O : World → Nat → Prop) (w : World) (g : Nat) (m : MsgT) : Prop := ∃ r, (∃ cs, Bl w g 61 cs ∧ cs.size = 24) ∧ Sit w g 0 (cellsM m r) ∧ MsgR (fun j => ¬ O w j ∧ j ≠ g) w m r
/-- what a letter's methods come to -/
def FldPost {σ : Type} (O : World → Nat → Prop) (rd : Prop) (S : σ → World → Prop) (g : Nat) (w : World) (x : MsgT × σ) (e : Ending) (w' : World) : Prop := e = .returned (.tuple #[]) ∧ S x.2 w' ∧ LetX O w' g x.1 ∧ Hr O rd (· = g) w w'

section
variable {O : World → Nat → Prop} {rd : Prop} {g : Nat} {w w' : World} {m m' : MsgT}
theorem LetX.open_ (h : LetX O w g m) : Open rd w g := by
  obtain ⟨r, ⟨cs, h, _⟩, _⟩ := h
  exact .inr ⟨_, cs, h⟩
theorem Hr.stays (h : Hr O rd (· = g) w w') : Moves (fun j => ¬ O w j ∧ j ≠ g) (fun j => ¬ O w' j ∧ j ≠ g) w w' := h.moves (fun _ hj => ⟨hj.1, .inr hj.2⟩) (fun _ _ hj ho => ⟨ho, hj.2⟩)
/-- a cell of the letter was laid -/
theorem LetX.put {o : Nat} {u : Value} (h : LetX O w g m) (hw : Wr O rd g o [u] w w') (hc : ∀ r, cellsM m' r = (cellsM m r).set o u) (he : m'.entries = m.entries) (ht : m'.t = m.t) (hk : m'.keys = m.keys) (hg : m'.got = m.got) : LetX O w' g m' := by
  obtain ⟨r, ⟨cs, h1, h2⟩, h3, h4⟩ := h
  obtain ⟨cs', h5, h6⟩ := hw.bl _ _ h1
  have h7 := h4.move hw.hr.stays
  refine ⟨r, ⟨cs', h5, h6.trans h2⟩, fun i x hi => ?_, ⟨by rw [he]; exact h7.e, by rw [ht]; exact h7.p, by rw [hk]; exact h7.k, by rw [hg]; exact h7.g⟩⟩
  rw [hc] at hi
  by_cases hio : o = i
  · subst hio
    have hl : o < (cellsM m r).length := by
      have := (List.getElem?_eq_some_iff.1 hi).1
      simpa using this
    rw [List.getElem?_set_self hl] at hi
    injection hi with hi
    subst hi
    have := hw.at_ 0 u rfl
    simpa using this
  · rw [List.getElem?_set_ne hio] at hi
    rw [hw.out (0 + i) (by simp; omega)]
    exact h3 i x hi
theorem LetX.sit1 (h : LetX O w g m) (o : Nat) (u : Value) (hu : ∀ r, (cellsM m r)[o]? = some u) : Sit w g o [u] := by
  obtain ⟨r, _, h3, _⟩ := h
  intro i x hi
  match i, hi with
  | 0, hi =>
    simp at hi
    subst hi
    have := h3 o u (hu r)
    simpa using this
theorem LetX.gr (h : LetX O w g m) (hg : Gr w w') (ho : ∀ j, O w' j ↔ O w j) : LetX O w' g m := by
  obtain ⟨r, ⟨cs, h1, h2⟩, h3, h4⟩ := h
  refine ⟨r, ⟨cs, h1.gr hg, h2⟩, h3.of_block (hg.block g h1.lt), h4.move fun j hj hx => ⟨hg.block j hj, fun h => hx.1 ((ho j).1 h), hx.2⟩⟩
end

end Go.Proofs.YtpabppoohobjpaaGreat

/-
  A letter's fields, handed to a hand, by their contracts.
-/
namespace Go.Proofs.YtpabppoohobjpaaGreat
open Go Go.RowKit TxnMath KeyMath MsgMath
set_option maxRecDepth 100000

section
variable {σ : Type} {H : Hand σ} {rd : Prop} {hv : Value} {S : σ → World → Prop} {O : World → Nat → Prop} {wt : σ → Nat}

set_option maxHeartbeats 400000 in
theorem fld_term (hH : HandOk Tryz.prog H rd hv S O wt) (s : σ) (m : MsgT) (w : World) (g : Nat) (hS : S s w) (hw : wt s ≤ 500000000) (hL : LetX O w g m) (hO : ¬ O w g) (hz : I64 m.term) :
    Calls Tryz.prog 67 #[.pointer (some ⟨g, 0, none⟩), hv] w (FldPost O rd S g w (H.fld .term s m)) := by
  obtain ⟨f, r, hD, hC⟩ := hH.num
  have hg := (Gr.refl w).drew
  obtain ⟨hS1, ho1⟩ := hH.gr hS hg
  have hL1 := hL.gr hg ho1
  have hO1 : ¬ O w.drew g := fun h => hO ((ho1 g).1 h)
  have HC := hide (hC s w.drew g 4 m.term hS1 hw hO1 (hL1.sit1 4 _ (fun _ => rfl)) hL1.open_ hz)
  have HL := hide hL1
  have HR := hide (Hr.of_gr (rd := rd) (C := (· = g)) hg ho1)
  clear hL1 hL hg ho1 hS1 hO1 hO hS hw hC
  go_enter Tryz.func67, Tryz.ntmps67
  go_wp2_with fail
  refine wp_hand hD (by kernel_rfl) (by kernel_rfl) (by simp) rfl rfl (by decide) (fun w => by kernel_rfl) HC.out ?_
  rintro e w' ⟨rfl, hS', hW⟩
  refine ⟨_, rfl, ?_⟩
  have HF := hide (show FldPost O rd S g w (H.fld .term s m) (.returned (.tuple #[])) w' from ⟨rfl, hS', HL.out.put hW (fun _ => rfl) rfl rfl rfl rfl, HR.out.trans hW.hr⟩)
  clear hS' hW
  go_wp2_with fail
  go_end0
  exact HF.out

set_option maxHeartbeats 400000 in
theorem fld_index (hH : HandOk Tryz.prog H rd hv S O wt) (s : σ) (m : MsgT) (w : World) (g : Nat) (hS : S s w) (hw : wt s ≤ 500000000) (hL : LetX O w g m) (hO : ¬ O w g) (hz : I64 m.index) :
    Calls Tryz.prog 68 #[.pointer (some ⟨g, 0, none⟩), hv] w (FldPost O rd S g w (H.fld .index s m)) := by
  obtain ⟨f, r, hD, hC⟩ := hH.num
  have hg := (Gr.refl w).drew
  obtain ⟨hS1, ho1⟩ := hH.gr hS hg
  have hL1 := hL.gr hg ho1
  have hO1 : ¬ O w.drew g := fun h => hO ((ho1 g).1 h)
  have HC := hide (hC s w.drew g 5 m.index hS1 hw hO1 (hL1.sit1 5 _ (fun _ => rfl)) hL1.open_ hz)
  have HL := hide hL1
  have HR := hide (Hr.of_gr (rd := rd) (C := (· = g)) hg ho1)
  clear hL1 hL hg ho1 hS1 hO1 hO hS hw hC
  go_enter Tryz.func68, Tryz.ntmps68
  go_wp2_with fail
  refine wp_hand hD (by kernel_rfl) (by kernel_rfl) (by simp) rfl rfl (by decide) (fun w => by kernel_rfl) HC.out ?_
  rintro e w' ⟨rfl, hS', hW⟩
  refine ⟨_, rfl, ?_⟩
  have HF := hide (show FldPost O rd S g w (H.fld .index s m) (.returned (.tuple #[])) w' from ⟨rfl, hS', HL.out.put hW (fun _ => rfl) rfl rfl rfl rfl, HR.out.trans hW.hr⟩)
  clear hS' hW
  go_wp2_with fail
  go_end0
  exact HF.out

set_option maxHeartbeats 400000 in
theorem fld_logTerm (hH : HandOk Tryz.prog H rd hv S O wt) (s : σ) (m : MsgT) (w : World) (g : Nat) (hS : S s w) (hw : wt s ≤ 500000000) (hL : LetX O w g m) (hO : ¬ O w g) (hz : I64 m.logTerm) :
    Calls Tryz.prog 69 #[.pointer (some ⟨g, 0, none⟩), hv] w (FldPost O rd S g w (H.fld .logTerm s m)) := by
  obtain ⟨f, r, hD, hC⟩ := hH.num
  have hg := (Gr.refl w).drew
  obtain ⟨hS1, ho1⟩ := hH.gr hS hg
  have hL1 := hL.gr hg ho1
  have hO1 : ¬ O w.drew g := fun h => hO ((ho1 g).1 h)
  have HC := hide (hC s w.drew g 6 m.logTerm hS1 hw hO1 (hL1.sit1 6 _ (fun _ => rfl)) hL1.open_ hz)
  have HL := hide hL1
  have HR := hide (Hr.of_gr (rd := rd) (C := (· = g)) hg ho1)
  clear hL1 hL hg ho1 hS1 hO1 hO hS hw hC
  go_enter Tryz.func69, Tryz.ntmps69
  go_wp2_with fail
  refine wp_hand hD (by kernel_rfl) (by kernel_rfl) (by simp) rfl rfl (by decide) (fun w => by kernel_rfl) HC.out ?_
  rintro e w' ⟨rfl, hS', hW⟩
  refine ⟨_, rfl, ?_⟩
  have HF := hide (show FldPost O rd S g w (H.fld .logTerm s m) (.returned (.tuple #[])) w' from ⟨rfl, hS', HL.out.put hW (fun _ => rfl) rfl rfl rfl rfl, HR.out.trans hW.hr⟩)
  clear hS' hW
  go_wp2_with fail
  go_end0
  exact HF.out

set_option maxHeartbeats 400000 in
theorem fld_commit (hH : HandOk Tryz.prog H rd hv S O wt) (s : σ) (m : MsgT) (w : World) (g : Nat) (hS : S s w) (hw : wt s ≤ 500000000) (hL : LetX O w g m) (hO : ¬ O w g) (hz : I64 m.commit) :
    Calls Tryz.prog 71 #[.pointer (some ⟨g, 0, none⟩), hv] w (FldPost O rd S g w (H.fld .commit s m)) := by
  obtain ⟨f, r, hD, hC⟩ := hH.num
  have hg := (Gr.refl w).drew
  obtain ⟨hS1, ho1⟩ := hH.gr hS hg
  have hL1 := hL.gr hg ho1
  have hO1 : ¬ O w.drew g := fun h => hO ((ho1 g).1 h)
  have HC := hide (hC s w.drew g 7 m.commit hS1 hw hO1 (hL1.sit1 7 _ (fun _ => rfl)) hL1.open_ hz)
  have HL := hide hL1
  have HR := hide (Hr.of_gr (rd := rd) (C := (· = g)) hg ho1)
  clear hL1 hL hg ho1 hS1 hO1 hO hS hw hC
  go_enter Tryz.func71, Tryz.ntmps71
  go_wp2_with fail
  refine wp_hand hD (by kernel_rfl) (by kernel_rfl) (by simp) rfl rfl (by decide) (fun w => by kernel_rfl) HC.out ?_
  rintro e w' ⟨rfl, hS', hW⟩
  refine ⟨_, rfl, ?_⟩
  have HF := hide (show FldPost O rd S g w (H.fld .commit s m) (.returned (.tuple #[])) w' from ⟨rfl, hS', HL.out.put hW (fun _ => rfl) rfl rfl rfl rfl, HR.out.trans hW.hr⟩)
  clear hS' hW
  go_wp2_with fail
  go_end0
  exact HF.out

set_option maxHeartbeats 400000 in
theorem fld_ok (hH : HandOk Tryz.prog H rd hv S O wt) (s : σ) (m : MsgT) (w : World) (g : Nat) (hS : S s w) (hw : wt s ≤ 500000000) (hL : LetX O w g m) (hO : ¬ O w g) :
    Calls Tryz.prog 70 #[.pointer (some ⟨g, 0, none⟩), hv] w (FldPost O rd S g w (H.fld .ok s m)) := by
  obtain ⟨f, r, hD, hC⟩ := hH.flag
  have hg := (Gr.refl w).drew
  obtain ⟨hS1, ho1⟩ := hH.gr hS hg
  have hL1 := hL.gr hg ho1
  have hO1 : ¬ O w.drew g := fun h => hO ((ho1 g).1 h)
  have HC := hide (hC s w.drew g 8 m.ok hS1 hw hO1 (hL1.sit1 8 _ (fun _ => rfl)) hL1.open_)
  have HL := hide hL1
  have HR := hide (Hr.of_gr (rd := rd) (C := (· = g)) hg ho1)
  clear hL1 hL hg ho1 hS1 hO1 hO hS hw hC
  go_enter Tryz.func70, Tryz.ntmps70
  go_wp2_with fail
  refine wp_hand hD (by kernel_rfl) (by kernel_rfl) (by simp) rfl rfl (by decide) (fun w => by kernel_rfl) HC.out ?_
  rintro e w' ⟨rfl, hS', hW⟩
  refine ⟨_, rfl, ?_⟩
  have HF := hide (show FldPost O rd S g w (H.fld .ok s m) (.returned (.tuple #[])) w' from ⟨rfl, hS', HL.out.put hW (fun _ => rfl) rfl rfl rfl rfl, HR.out.trans hW.hr⟩)
  clear hS' hW
  go_wp2_with fail
  go_end0
  exact HF.out

set_option maxHeartbeats 400000 in
theorem fld_session (hH : HandOk Tryz.prog H rd hv S O wt) (s : σ) (m : MsgT) (w : World) (g : Nat) (hS : S s w) (hw : wt s ≤ 500000000) (hL : LetX O w g m) (hO : ¬ O w g) (hz : I64 m.ses) :
    Calls Tryz.prog 76 #[.pointer (some ⟨g, 0, none⟩), hv] w (FldPost O rd S g w (H.fld .ses s m)) := by
  obtain ⟨f, r, hD, hC⟩ := hH.num
  have hg := (Gr.refl w).drew
  obtain ⟨hS1, ho1⟩ := hH.gr hS hg
  have hL1 := hL.gr hg ho1
  have hO1 : ¬ O w.drew g := fun h => hO ((ho1 g).1 h)
  have HC := hide (hC s w.drew g 14 m.ses hS1 hw hO1 (hL1.sit1 14 _ (fun _ => rfl)) hL1.open_ hz)
  have HL := hide hL1
  have HR := hide (Hr.of_gr (rd := rd) (C := (· = g)) hg ho1)
  clear hL1 hL hg ho1 hS1 hO1 hO hS hw hC
  go_enter Tryz.func76, Tryz.ntmps76
  go_wp2_with fail
  refine wp_hand hD (by kernel_rfl) (by kernel_rfl) (by simp) rfl rfl (by decide) (fun w => by kernel_rfl) HC.out ?_
  rintro e w' ⟨rfl, hS', hW⟩
  refine ⟨_, rfl, ?_⟩
  have HF := hide (show FldPost O rd S g w (H.fld .ses s m) (.returned (.tuple #[])) w' from ⟨rfl, hS', HL.out.put hW (fun _ => rfl) rfl rfl rfl rfl, HR.out.trans hW.hr⟩)
  clear hS' hW
  go_wp2_with fail
  go_end0
  exact HF.out

set_option maxHeartbeats 400000 in
theorem fld_seq (hH : HandOk Tryz.prog H rd hv S O wt) (s : σ) (m : MsgT) (w : World) (g : Nat) (hS : S s w) (hw : wt s ≤ 500000000) (hL : LetX O w g m) (hO : ¬ O w g) (hz : I64 m.seq) :
    Calls Tryz.prog 77 #[.pointer (some ⟨g, 0, none⟩), hv] w (FldPost O rd S g w (H.fld .seq s m)) := by
  obtain ⟨f, r, hD, hC⟩ := hH.num
  have hg := (Gr.refl w).drew
  obtain ⟨hS1, ho1⟩ := hH.gr hS hg
  have hL1 := hL.gr hg ho1
  have hO1 : ¬ O w.drew g := fun h => hO ((ho1 g).1 h)
  have HC := hide (hC s w.drew g 15 m.seq hS1 hw hO1 (hL1.sit1 15 _ (fun _ => rfl)) hL1.open_ hz)
  have HL := hide hL1
  have HR := hide (Hr.of_gr (rd := rd) (C := (· = g)) hg ho1)
  clear hL1 hL hg ho1 hS1 hO1 hO hS hw hC
  go_enter Tryz.func77, Tryz.ntmps77
  go_wp2_with fail
  refine wp_hand hD (by kernel_rfl) (by kernel_rfl) (by simp) rfl rfl (by decide) (fun w => by kernel_rfl) HC.out ?_
  rintro e w' ⟨rfl, hS', hW⟩
  refine ⟨_, rfl, ?_⟩
  have HF := hide (show FldPost O rd S g w (H.fld .seq s m) (.returned (.tuple #[])) w' from ⟨rfl, hS', HL.out.put hW (fun _ => rfl) rfl rfl rfl rfl, HR.out.trans hW.hr⟩)
  clear hS' hW
  go_wp2_with fail
  go_end0
  exact HF.out

set_option maxHeartbeats 400000 in
theorem fld_pos (hH : HandOk Tryz.prog H rd hv S O wt) (s : σ) (m : MsgT) (w : World) (g : Nat) (hS : S s w) (hw : wt s ≤ 500000000) (hL : LetX O w g m) (hO : ¬ O w g) (hz : I64 m.pos) :
    Calls Tryz.prog 74 #[.pointer (some ⟨g, 0, none⟩), hv] w (FldPost O rd S g w (H.fld .pos s m)) := by
  obtain ⟨f, r, hD, hC⟩ := hH.num
  have hg := (Gr.refl w).drew
  obtain ⟨hS1, ho1⟩ := hH.gr hS hg
  have hL1 := hL.gr hg ho1
  have hO1 : ¬ O w.drew g := fun h => hO ((ho1 g).1 h)
  have HC := hide (hC s w.drew g 16 m.pos hS1 hw hO1 (hL1.sit1 16 _ (fun _ => rfl)) hL1.open_ hz)
  have HL := hide hL1
  have HR := hide (Hr.of_gr (rd := rd) (C := (· = g)) hg ho1)
  clear hL1 hL hg ho1 hS1 hO1 hO hS hw hC
  go_enter Tryz.func74, Tryz.ntmps74
  go_wp2_with fail
  refine wp_hand hD (by kernel_rfl) (by kernel_rfl) (by simp) rfl rfl (by decide) (fun w => by kernel_rfl) HC.out ?_
  rintro e w' ⟨rfl, hS', hW⟩
  refine ⟨_, rfl, ?_⟩
  have HF := hide (show FldPost O rd S g w (H.fld .pos s m) (.returned (.tuple #[])) w' from ⟨rfl, hS', HL.out.put hW (fun _ => rfl) rfl rfl rfl rfl, HR.out.trans hW.hr⟩)
  clear hS' hW
  go_wp2_with fail
  go_end0
  exact HF.out

set_option maxHeartbeats 400000 in
theorem fld_shard (hH : HandOk Tryz.prog H rd hv S O wt) (s : σ) (m : MsgT) (w : World) (g : Nat) (hS : S s w) (hw : wt s ≤ 500000000) (hL : LetX O w g m) (hO : ¬ O w g) (hz : I64 m.shard) :
    Calls Tryz.prog 75 #[.pointer (some ⟨g, 0, none⟩), hv] w (FldPost O rd S g w (H.fld .shard s m)) := by
  obtain ⟨f, r, hD, hC⟩ := hH.num
  have hg := (Gr.refl w).drew
  obtain ⟨hS1, ho1⟩ := hH.gr hS hg
  have hL1 := hL.gr hg ho1
  have hO1 : ¬ O w.drew g := fun h => hO ((ho1 g).1 h)
  have HC := hide (hC s w.drew g 17 m.shard hS1 hw hO1 (hL1.sit1 17 _ (fun _ => rfl)) hL1.open_ hz)
  have HL := hide hL1
  have HR := hide (Hr.of_gr (rd := rd) (C := (· = g)) hg ho1)
  clear hL1 hL hg ho1 hS1 hO1 hO hS hw hC
  go_enter Tryz.func75, Tryz.ntmps75
  go_wp2_with fail
  refine wp_hand hD (by kernel_rfl) (by kernel_rfl) (by simp) rfl rfl (by decide) (fun w => by kernel_rfl) HC.out ?_
  rintro e w' ⟨rfl, hS', hW⟩
  refine ⟨_, rfl, ?_⟩
  have HF := hide (show FldPost O rd S g w (H.fld .shard s m) (.returned (.tuple #[])) w' from ⟨rfl, hS', HL.out.put hW (fun _ => rfl) rfl rfl rfl rfl, HR.out.trans hW.hr⟩)
  clear hS' hW
  go_wp2_with fail
  go_end0
  exact HF.out

set_option maxHeartbeats 400000 in
theorem fld_span (hH : HandOk Tryz.prog H rd hv S O wt) (s : σ) (m : MsgT) (w : World) (g : Nat) (hS : S s w) (hw : wt s ≤ 500000000) (hL : LetX O w g m) (hO : ¬ O w g) :
    Calls Tryz.prog 78 #[.pointer (some ⟨g, 0, none⟩), hv] w (FldPost O rd S g w (H.fld .span s m)) := by
  obtain ⟨f, r, hD, hC⟩ := hH.flag
  have hg := (Gr.refl w).drew
  obtain ⟨hS1, ho1⟩ := hH.gr hS hg
  have hL1 := hL.gr hg ho1
  have hO1 : ¬ O w.drew g := fun h => hO ((ho1 g).1 h)
  have HC := hide (hC s w.drew g 18 m.span hS1 hw hO1 (hL1.sit1 18 _ (fun _ => rfl)) hL1.open_)
  have HL := hide hL1
  have HR := hide (Hr.of_gr (rd := rd) (C := (· = g)) hg ho1)
  clear hL1 hL hg ho1 hS1 hO1 hO hS hw hC
  go_enter Tryz.func78, Tryz.ntmps78
  go_wp2_with fail
  refine wp_hand hD (by kernel_rfl) (by kernel_rfl) (by simp) rfl rfl (by decide) (fun w => by kernel_rfl) HC.out ?_
  rintro e w' ⟨rfl, hS', hW⟩
  refine ⟨_, rfl, ?_⟩
  have HF := hide (show FldPost O rd S g w (H.fld .span s m) (.returned (.tuple #[])) w' from ⟨rfl, hS', HL.out.put hW (fun _ => rfl) rfl rfl rfl rfl, HR.out.trans hW.hr⟩)
  clear hS' hW
  go_wp2_with fail
  go_end0
  exact HF.out

set_option maxHeartbeats 400000 in
theorem fld_fromKey (hH : HandOk Tryz.prog H rd hv S O wt) (s : σ) (m : MsgT) (w : World) (g : Nat) (hS : S s w) (hw : wt s ≤ 500000000) (hL : LetX O w g m) (hO : ¬ O w g) (hz : m.fromKey.size ≤ 1000000) :
    Calls Tryz.prog 79 #[.pointer (some ⟨g, 0, none⟩), hv] w (FldPost O rd S g w (H.fld .fromKey s m)) := by
  obtain ⟨f, r, hD, hC⟩ := hH.text
  have hg := (Gr.refl w).drew
  obtain ⟨hS1, ho1⟩ := hH.gr hS hg
  have hL1 := hL.gr hg ho1
  have hO1 : ¬ O w.drew g := fun h => hO ((ho1 g).1 h)
  have HC := hide (hC s w.drew g 19 m.fromKey hS1 hw hO1 (hL1.sit1 19 _ (fun _ => rfl)) hL1.open_ hz)
  have HL := hide hL1
  have HR := hide (Hr.of_gr (rd := rd) (C := (· = g)) hg ho1)
  clear hL1 hL hg ho1 hS1 hO1 hO hS hw hC
  go_enter Tryz.func79, Tryz.ntmps79
  go_wp2_with fail
  refine wp_hand hD (by kernel_rfl) (by kernel_rfl) (by simp) rfl rfl (by decide) (fun w => by kernel_rfl) HC.out ?_
  rintro e w' ⟨rfl, hS', hW⟩
  refine ⟨_, rfl, ?_⟩
  have HF := hide (show FldPost O rd S g w (H.fld .fromKey s m) (.returned (.tuple #[])) w' from ⟨rfl, hS', HL.out.put hW (fun _ => rfl) rfl rfl rfl rfl, HR.out.trans hW.hr⟩)
  clear hS' hW
  go_wp2_with fail
  go_end0
  exact HF.out

set_option maxHeartbeats 400000 in
theorem fld_toKey (hH : HandOk Tryz.prog H rd hv S O wt) (s : σ) (m : MsgT) (w : World) (g : Nat) (hS : S s w) (hw : wt s ≤ 500000000) (hL : LetX O w g m) (hO : ¬ O w g) (hz : m.toKey.size ≤ 1000000) :
    Calls Tryz.prog 80 #[.pointer (some ⟨g, 0, none⟩), hv] w (FldPost O rd S g w (H.fld .toKey s m)) := by
  obtain ⟨f, r, hD, hC⟩ := hH.text
  have hg := (Gr.refl w).drew
  obtain ⟨hS1, ho1⟩ := hH.gr hS hg
  have hL1 := hL.gr hg ho1
  have hO1 : ¬ O w.drew g := fun h => hO ((ho1 g).1 h)
  have HC := hide (hC s w.drew g 20 m.toKey hS1 hw hO1 (hL1.sit1 20 _ (fun _ => rfl)) hL1.open_ hz)
  have HL := hide hL1
  have HR := hide (Hr.of_gr (rd := rd) (C := (· = g)) hg ho1)
  clear hL1 hL hg ho1 hS1 hO1 hO hS hw hC
  go_enter Tryz.func80, Tryz.ntmps80
  go_wp2_with fail
  refine wp_hand hD (by kernel_rfl) (by kernel_rfl) (by simp) rfl rfl (by decide) (fun w => by kernel_rfl) HC.out ?_
  rintro e w' ⟨rfl, hS', hW⟩
  refine ⟨_, rfl, ?_⟩
  have HF := hide (show FldPost O rd S g w (H.fld .toKey s m) (.returned (.tuple #[])) w' from ⟨rfl, hS', HL.out.put hW (fun _ => rfl) rfl rfl rfl rfl, HR.out.trans hW.hr⟩)
  clear hS' hW
  go_wp2_with fail
  go_end0
  exact HF.out
end

end Go.Proofs.YtpabppoohobjpaaGreat

/-
  A letter's head, its T and its Err, handed to a hand, by their contracts.
-/
namespace Go.Proofs.YtpabppoohobjpaaGreat
open Go Go.RowKit TxnMath KeyMath MsgMath
set_option maxRecDepth 100000

section
variable {σ : Type} {H : Hand σ} {rd : Prop} {hv : Value} {S : σ → World → Prop} {O : World → Nat → Prop} {wt : σ → Nat}

theorem LetX.lt {O : World → Nat → Prop} {w : World} {g : Nat} {m : MsgT} (h : LetX O w g m) : g < w.heap.size := by
  obtain ⟨_, ⟨_, h, _⟩, _⟩ := h
  exact h.lt
/-- one number of the letter, in the world that an open region begins with -/
theorem laid_num (hH : HandOk Tryz.prog H rd hv S O wt) {f : FuncId} {r : Value} (hC : ∀ s w k o z, S s w → wt s ≤ 500000000 → ¬ O w k → Sit w k o [.int .i64 z] → Open rd w k → I64 z → Calls Tryz.prog f #[r, .pointer (some ⟨k, o, none⟩)] w (LaidPost O rd S k o [.int .i64 (H.num s z).1] (H.num s z).2 w))
    {s : σ} {m m' : MsgT} {w0 w : World} {g : Nat} (o : Nat) (z : Int) (hS : S s w) (hw : wt s ≤ 500000000) (hL : LetX O w g m) (hO : ¬ O w g) (hR : Hr O rd (· = g) w0 w) (hz : I64 z) (hu : ∀ r, (cellsM m r)[o]? = some (.int .i64 z))
    (hc : ∀ r, cellsM m' r = (cellsM m r).set o (.int .i64 (H.num s z).1)) (he : m'.entries = m.entries) (ht : m'.t = m.t) (hk : m'.keys = m.keys) (hgt : m'.got = m.got) :
    Calls Tryz.prog f #[r, .pointer (some ⟨g, o, none⟩)] w.drew (FldPost O rd S g w0 (m', (H.num s z).2)) := by
  have hg := (Gr.refl w).drew
  obtain ⟨hS1, ho1⟩ := hH.gr hS hg
  have hL1 := hL.gr hg ho1
  have hO1 : ¬ O w.drew g := fun h => hO ((ho1 g).1 h)
  refine (hC s w.drew g o z hS1 hw hO1 (hL1.sit1 o _ hu) hL1.open_ hz).mono ?_
  rintro e w' ⟨rfl, hS', hW⟩
  exact ⟨rfl, hS', hL1.put hW hc he ht hk hgt, (hR.trans (Hr.of_gr hg ho1)).trans hW.hr⟩

theorem Hr.notown {O : World → Nat → Prop} {rd : Prop} {C : Nat → Prop} {w w' : World} (h : Hr O rd C w w') {g : Nat} (hg : g < w.heap.size) (hO : ¬ O w g) : ¬ O w' g := h.own g hg hO

set_option maxHeartbeats 1000000 in
theorem head_ok (hH : HandOk Tryz.prog H rd hv S O wt) (s : σ) (m : MsgT) (w : World) (g : Nat) (hS : S s w) (hw : wt s ≤ 400000000) (hL : LetX O w g m) (hO : ¬ O w g) (h1 : I64 m.kind) (h2 : I64 m.frm) (h3 : I64 m.to) (h4 : I64 m.part) :
    Calls Tryz.prog 30 #[.pointer (some ⟨g, 0, none⟩), hv] w (FldPost O rd S g w (H.head s m)) := by
  obtain ⟨f, r, hD, hC⟩ := hH.num
  have hgl := hL.lt
  have w1 := hH.wNum s m.kind
  have w2 := hH.wNum (H.num s m.kind).2 m.frm
  have w3 := hH.wNum (H.num (H.num s m.kind).2 m.frm).2 m.to
  obtain ⟨x1, e1⟩ : ∃ x, x = H.fld .kind s m := ⟨_, rfl⟩
  obtain ⟨x2, e2⟩ : ∃ x, x = H.fld .frm x1.2 x1.1 := ⟨_, rfl⟩
  obtain ⟨x3, e3⟩ : ∃ x, x = H.fld .to x2.2 x2.1 := ⟨_, rfl⟩
  obtain ⟨x4, e4⟩ : ∃ x, x = H.fld .part x3.2 x3.1 := ⟨_, rfl⟩
  have HM : H.head s m = x4 := by subst e4 e3 e2 e1; rfl
  rw [HM]
  have u1 : wt x1.2 ≤ 400010000 := by subst e1; show wt (H.num s m.kind).2 ≤ _; omega
  have u2 : wt x2.2 ≤ 400020000 := by subst e2 e1; show wt (H.num (H.num s m.kind).2 m.frm).2 ≤ _; omega
  have u3 : wt x3.2 ≤ 400030000 := by subst e3 e2 e1; show wt (H.num (H.num (H.num s m.kind).2 m.frm).2 m.to).2 ≤ _; omega
  have C1 := hide (show Calls Tryz.prog f #[r, .pointer (some ⟨g, 0, none⟩)] w.drew (FldPost O rd S g w x1) by
    subst e1
    exact laid_num hH hC (m' := (H.fld .kind s m).1) 0 m.kind hS (by omega) hL hO (Hr.refl O rd (· = g) w) h1 (fun _ => rfl) (fun _ => rfl) rfl rfl rfl rfl)
  have C2 := hide (show ∀ w', S x1.2 w' → LetX O w' g x1.1 → ¬ O w' g → Hr O rd (· = g) w w' → Calls Tryz.prog f #[r, .pointer (some ⟨g, 1, none⟩)] w'.drew (FldPost O rd S g w x2) by
    intro w' hS hL hO hR
    have hz : I64 x1.1.frm := by subst e1; exact h2
    subst e2
    exact laid_num hH hC (m' := (H.fld .frm x1.2 x1.1).1) 1 x1.1.frm hS (by omega) hL hO hR hz (fun _ => rfl) (fun _ => rfl) rfl rfl rfl rfl)
  have C3 := hide (show ∀ w', S x2.2 w' → LetX O w' g x2.1 → ¬ O w' g → Hr O rd (· = g) w w' → Calls Tryz.prog f #[r, .pointer (some ⟨g, 2, none⟩)] w'.drew (FldPost O rd S g w x3) by
    intro w' hS hL hO hR
    have hz : I64 x2.1.to := by subst e2 e1; exact h3
    subst e3
    exact laid_num hH hC (m' := (H.fld .to x2.2 x2.1).1) 2 x2.1.to hS (by omega) hL hO hR hz (fun _ => rfl) (fun _ => rfl) rfl rfl rfl rfl)
  have C4 := hide (show ∀ w', S x3.2 w' → LetX O w' g x3.1 → ¬ O w' g → Hr O rd (· = g) w w' → Calls Tryz.prog f #[r, .pointer (some ⟨g, 3, none⟩)] w'.drew (FldPost O rd S g w x4) by
    intro w' hS hL hO hR
    have hz : I64 x3.1.part := by subst e3 e2 e1; exact h4
    subst e4
    exact laid_num hH hC (m' := (H.fld .part x3.2 x3.1).1) 3 x3.1.part hS (by omega) hL hO hR hz (fun _ => rfl) (fun _ => rfl) rfl rfl rfl rfl)
  have HO := hide (fun w' (h : Hr O rd (· = g) w w') => h.own g hgl hO)
  clear e1 e2 e3 e4 HM u1 u2 u3 w1 w2 w3 hw h1 h2 h3 h4 hC hS hL hgl hO
  go_enter Tryz.func30, Tryz.ntmps30
  go_wp2_with fail
  refine wp_hand hD (by kernel_rfl) (by kernel_rfl) (by simp) rfl rfl (by decide) (fun w => by kernel_rfl) C1.out ?_
  rintro e w1 ⟨rfl, hS1, hL1, hR1⟩
  refine ⟨_, rfl, ?_⟩
  simp only [Act.put, Nat.reduceAdd, List.setIfInBounds_toArray, List.set_cons_succ, List.set_cons_zero]
  replace C2 := hide (C2.out w1 hS1 hL1 (HO.out _ hR1) hR1)
  clear hS1 hL1 hR1 C1
  go_wp2_with fail
  refine wp_hand hD (by kernel_rfl) (by kernel_rfl) (by simp) rfl rfl (by decide) (fun w => by kernel_rfl) C2.out ?_
  rintro e w2 ⟨rfl, hS2, hL2, hR2⟩
  refine ⟨_, rfl, ?_⟩
  simp only [Act.put, Nat.reduceAdd, List.setIfInBounds_toArray, List.set_cons_succ, List.set_cons_zero]
  replace C3 := hide (C3.out w2 hS2 hL2 (HO.out _ hR2) hR2)
  clear hS2 hL2 hR2 C2
  go_wp2_with fail
  refine wp_hand hD (by kernel_rfl) (by kernel_rfl) (by simp) rfl rfl (by decide) (fun w => by kernel_rfl) C3.out ?_
  rintro e w3 ⟨rfl, hS3, hL3, hR3⟩
  refine ⟨_, rfl, ?_⟩
  simp only [Act.put, Nat.reduceAdd, List.setIfInBounds_toArray, List.set_cons_succ, List.set_cons_zero]
  replace C4 := hide (C4.out w3 hS3 hL3 (HO.out _ hR3) hR3)
  clear hS3 hL3 hR3 C3
  go_wp2_with fail
  refine wp_hand hD (by kernel_rfl) (by kernel_rfl) (by simp) rfl rfl (by decide) (fun w => by kernel_rfl) C4.out ?_
  intro e w4 h4
  have he := h4.1
  subst he
  refine ⟨_, rfl, ?_⟩
  have HF := hide h4
  clear h4 C4
  go_wp2_with fail
  go_end0
  exact HF.out
end

end Go.Proofs.YtpabppoohobjpaaGreat

/-
  A letter's T and its Err, handed to a hand, by their contracts.
-/
namespace Go.Proofs.YtpabppoohobjpaaGreat
open Go Go.RowKit TxnMath KeyMath MsgMath
set_option maxRecDepth 100000

section
variable {O : World → Nat → Prop} {rd : Prop} {g k o : Nat} {w w' : World} {m : MsgT} {l L : List Value}
theorem Sit.out {o' : Nat} (h : Sit w k o' l) (hw : Wr O rd k o L w w') (hd : o' + l.length ≤ o ∨ o + L.length ≤ o') : Sit w' k o' l := fun i u hi => by
  have hl := (List.getElem?_eq_some_iff.1 hi).1
  rw [hw.out (o' + i) (by omega)]
  exact h i u hi
theorem LetX.putT {t : TxT} {p : Value × Value} (h : LetX O w g m) (hw : Wr O rd g 10 (txC t p) w w') (hr : RowsX (fun j => ¬ O w' j ∧ ((¬ O w j ∧ j ≠ g) ∨ w.heap.size ≤ j)) w' t p) : LetX O w' g { m with t := t } := by
  have hgl := h.lt
  obtain ⟨r, ⟨cs, h1, h2⟩, h3, h4⟩ := h
  obtain ⟨cs', h5, h6⟩ := hw.bl _ _ h1
  have h7 := h4.move hw.hr.stays
  refine ⟨{ r with p := p }, ⟨cs', h5, h6.trans h2⟩, ?_, ⟨h7.e, hr.wide fun j hj => ⟨hj.1, ?_⟩, h7.k, h7.g⟩⟩
  · have e : cellsM m r = (cellsM m r).take 10 ++ (txC m.t r.p ++ (cellsM m r).drop 14) := rfl
    have e2 : cellsM { m with t := t } { r with p := p } = (cellsM m r).take 10 ++ (txC t p ++ (cellsM m r).drop 14) := rfl
    rw [e] at h3
    rw [e2]
    exact (h3.left.out hw (.inl (by simp [cellsM]))).app ((show Sit w' g 10 (txC t p) from hw.at_).app (h3.right.right.out hw (.inr (by simp [txC, cellsM]))))
  · rcases hj.2 with hx | hx
    · exact hx.2
    · omega
/-- a cell is set -/
theorem Wr.set {t : TypeId} {cs : Array Value} {v : Value} (hb : Bl w k t cs) (ho : o < cs.size) (hv : rd → cs[o]? = some v) (hO : ∀ j, O (w.setCell ⟨k, o, none⟩ v) j ↔ O w j) : Wr O rd k o [v] w (w.setCell ⟨k, o, none⟩ v) := by
  have hbut : But w (w.setCell ⟨k, o, none⟩ v) k := (But.refl w k).set o v
  have hn : Bl (w.setCell ⟨k, o, none⟩ v) k t (cs.setIfInBounds o v) := hb.put o v
  refine ⟨⟨hbut.os, hbut.tape, hbut.output, hbut.size, fun j hj _ hc => ?_, fun j _ h1 h2 => h1 ((hO j).1 h2)⟩, fun t' cs' h' => ?_, fun p hp => ?_, fun i u hi => ?_⟩
  · by_cases hjk : j = k
    · subst hjk
      rcases hc with hc | hc
      · have e : cs.setIfInBounds o v = cs := by
          apply Array.ext_getElem?
          intro i
          by_cases hio : o = i
          · subst hio
            rw [Array.getElem?_setIfInBounds_self_of_lt ho, hv hc]
          · rw [Array.getElem?_setIfInBounds_ne hio]
        rw [e] at hn
        exact hn.trans hb.symm
      · exact absurd rfl hc
    · exact hbut.block j hj (by simpa using hjk)
  · have e := h'.symm.trans hb
    simp only [Option.some.injEq, Obj.cells.injEq] at e
    obtain ⟨rfl, rfl, _⟩ := e
    exact ⟨_, hn, by simp⟩
  · rw [hn.cell p, hb.cell p, Array.getElem?_setIfInBounds_ne]
    simp at hp
    omega
  · match i, hi with
    | 0, hi =>
      simp at hi
      subst hi
      rw [hn.cell (o + 0), Nat.add_zero, Array.getElem?_setIfInBounds_self_of_lt ho]
end

section
variable {σ : Type} {H : Hand σ} {rd : Prop} {hv : Value} {S : σ → World → Prop} {O : World → Nat → Prop} {wt : σ → Nat}

set_option maxHeartbeats 400000 in
theorem fld_t (hH : HandOk Tryz.prog H rd hv S O wt) (s : σ) (m : MsgT) (w : World) (g : Nat) (hS : S s w) (hw : wt s ≤ 500000000) (hL : LetX O w g m) (hO : ¬ O w g) (hz : TxLim 1000000 m.t) :
    Calls Tryz.prog 73 #[.pointer (some ⟨g, 0, none⟩), hv] w (FldPost O rd S g w (H.fld .t s m)) := by
  obtain ⟨f, r, hD, hC⟩ := hH.txn
  have hg := (Gr.refl w).drew
  obtain ⟨hS1, ho1⟩ := hH.gr hS hg
  have hL1 := hL.gr hg ho1
  have hO1 : ¬ O w.drew g := fun h => hO ((ho1 g).1 h)
  have HL := hide hL1
  have hop := hL1.open_ (rd := rd)
  obtain ⟨q, _, h3, h4⟩ := hL1
  have e : cellsM m q = (cellsM m q).take 10 ++ (txC m.t q.p ++ (cellsM m q).drop 14) := rfl
  rw [e] at h3
  have HC := hide (hC s w.drew g 10 m.t q.p (fun j => ¬ O w.drew j ∧ j ≠ g) hS1 hw hO1 h3.right.left (fun _ h => ⟨h.1, .inr h.2⟩) h4.p hop hz)
  have HR := hide (Hr.of_gr (rd := rd) (C := (· = g)) hg ho1)
  clear hL hg ho1 hS1 hO1 hO hS hw hC h3 h4 e hop
  go_enter Tryz.func73, Tryz.ntmps73
  go_wp2_with fail
  refine wp_hand hD (by kernel_rfl) (by kernel_rfl) (by simp) rfl rfl (by decide) (fun w => by kernel_rfl) HC.out ?_
  rintro e w' ⟨rfl, hS', p, hW, hp⟩
  refine ⟨_, rfl, ?_⟩
  have HF := hide (show FldPost O rd S g w (H.fld .t s m) (.returned (.tuple #[])) w' from ⟨rfl, hS', HL.out.putT hW hp, HR.out.trans hW.hr⟩)
  clear hS' hW hp
  go_wp2_with fail
  go_end0
  exact HF.out

set_option maxHeartbeats 400000 in
theorem fld_err (hH : HandOk Tryz.prog H rd hv S O wt) (s : σ) (m : MsgT) (w : World) (g : Nat) (hS : S s w) (hw : wt s ≤ 500000000) (hL : LetX O w g m) (hO : ¬ O w g) (hz : I64 m.err) :
    Calls Tryz.prog 82 #[.pointer (some ⟨g, 0, none⟩), hv] w (FldPost O rd S g w (H.fld .err s m)) := by
  obtain ⟨f, r, hD, hC⟩ := hH.num
  have c0 : w.cell? ⟨g, 23, none⟩ = some (.int .i64 m.err) := (hL.sit1 23 _ (fun _ => rfl)).head
  obtain ⟨W, hW⟩ : ∃ W, w.alloc (.cells #[.int .i64 m.err] 3) = W := ⟨_, rfl⟩
  have hg : Gr w W := by rw [← hW]; exact (Gr.refl _).alloc _
  have hbx : Bl W w.heap.size 3 #[.int .i64 m.err] := by rw [← hW]; exact Bl.new _ _ _
  obtain ⟨hS1, ho1⟩ := hH.gr hS hg
  have hOb : ¬ O W w.heap.size := fun h => by have := hH.lt hS ((ho1 _).1 h); omega
  have HC := hide (hC s W w.heap.size 0 m.err hS1 hw hOb (Sit.bl hbx) (.inr ⟨_, _, hbx⟩) hz)
  have HR := hide (Hr.of_gr (rd := rd) (C := (· = w.heap.size)) hg ho1)
  have HL := hide hL
  have HO := hide hO
  have hgl := hL.lt
  have hne : g ≠ w.heap.size := by omega
  have HRD := hide (fun h : rd => hH.rdNum h s m.err)
  have HBUT := hide (fun w' v (h : S (H.num s m.err).2 w') (ho : ¬ O w' g) => hH.but h ho ((But.refl w' g).set 23 v))
  obtain ⟨b, hb⟩ : ∃ b, b = w.heap.size := ⟨_, rfl⟩
  rw [← hb] at HC hbx hne HR
  have HB := hide hb
  have HWW := hide hW
  clear hL hg ho1 hS1 hO hS hw hC hOb hbx hb hW hz
  go_enter Tryz.func82, Tryz.ntmps82
  go_wp2_with (with_reducible refine stop_invoke rfl ?_)
  change wpList _ _ _ _ _ _
  rw [HWW.out, ← HB.out]
  refine wpList_hand1 hD rfl rfl rfl rfl HC.out (fun e w' hp => ?_)
  obtain ⟨rfl, hS', hWr⟩ := hp
  refine ⟨_, rfl, ?_⟩
  have hR1 : Hr O rd (· = b) w w' := HR.out.trans hWr.hr
  have hO1 : ¬ O w' g := hR1.own g hgl HO.out
  have c1 : w'.cell? ⟨b, 0, none⟩ = some (.int .i64 (H.num s m.err).1) := hWr.at_.head
  have hbg := hR1.block g hgl HO.out (.inr hne)
  have hL1 : LetX O w' g m := by
    obtain ⟨q, ⟨cs, h1, h2⟩, h3, h4⟩ := HL.out
    refine ⟨q, ⟨cs, hbg.trans h1, h2⟩, h3.of_block hbg, h4.move fun j hj hx => ⟨hR1.block j hj hx.1 (.inr ?_), hR1.own j hj hx.1, hx.2⟩⟩
    have := HB.out
    omega
  obtain ⟨cs, h1, h2⟩ : ∃ cs, Bl w' g 61 cs ∧ cs.size = 24 := by obtain ⟨_, h, _⟩ := hL1; exact h
  have c2 : w'.cell? ⟨g, 23, none⟩ = some (.int .i64 m.err) := (hL1.sit1 23 _ (fun _ => rfl)).head
  have f2 : w'.frozen? ⟨g, 23, none⟩ = false := h1.frozen 23
  have hbut := HBUT.out w' (.int .i64 (H.num s m.err).1) hS' hO1
  have hset := Wr.set (rd := rd) (v := .int .i64 (H.num s m.err).1) h1 (show 23 < cs.size by omega) (fun h => by
    have := h1.cell 23
    rw [c2] at this
    rw [← this, HRD.out h]) hbut.2
  have HF := hide (show FldPost O rd S g w (H.fld .err s m) (.returned (.tuple #[])) (w'.setCell ⟨g, 23, none⟩ (.int .i64 (H.num s m.err).1)) from
    ⟨rfl, hbut.1, hL1.put hset (fun _ => rfl) rfl rfl rfl rfl, (hR1.wider fun j hj h => by have := HB.out; omega).trans hset.hr⟩)
  clear hset hbut h1 h2 cs hL1 hbg hO1 hR1 hWr hS' HC HRD HBUT HL HR HO hne hgl
  generalize (H.num s m.err).1 = z at c1 HF ⊢
  go_wp2_with fail
  go_end0
  exact HF.out
end

end Go.Proofs.YtpabppoohobjpaaGreat
