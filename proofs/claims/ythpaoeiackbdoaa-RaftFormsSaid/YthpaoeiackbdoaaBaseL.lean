/-
  A region whose order is the text's, walked by what is known of its slots (as an open one is). No program.
-/
import Derived.Test.YthpaoeiackbdoaaBaseG
namespace Go.Proofs.Ythpaoeiackbdoaa.Grow
open Go Go.RowKit Go.Proofs.Ythpaoeiackbdoaa

def dstB (l : List Oper) (n0 : Nat) : Bool := l.all fun o => match o.dst with | some d => Nat.blt d n0 | none => true

theorem list_of_grow {P : Program} {ops : Array Oper} {w0 : World} {n0 : Nat} {d0 : List Deferred} {Q : Exit → Act → World → Prop} {D : List Nat} {a0 : Act} {R : (Tmp → Known) → Prop}
    (hR : ∀ K, R K → ∀ a' w', Gr w0 w' → a'.tmps.size = n0 → a'.defers = d0 → (∀ t, D.contains t = false → a'.tmps.getD t undef = a0.tmps.getD t undef) → (∀ t, K t (a'.tmps.getD t undef) w') → Q .normal a' w') :
    ∀ (l : List Oper) (K : Tmp → Known) (a : Act) (w : World), writesB l D = true → dstB l n0 = true → Gr w0 w → a.tmps.size = n0 → a.defers = d0 → (∀ t, D.contains t = false → a.tmps.getD t undef = a0.tmps.getD t undef) →
      (∀ t, Stays (K t)) → (∀ t, K t (a.tmps.getD t undef) w) → wpGrow P ops w0 n0 R l K → wpList P ops Q l a w
  | [], K, a, w, _, _, hg, hs, hd, hu, _, hk, h => hR K h a w hg hs hd hu hk
  | o :: l, K, a, w, hD, hB, hg, hs, hd, hu, hst, hk, ⟨Φ, h1, h2, h3⟩ => by
    simp only [writesB, dstB, List.all_cons, Bool.and_eq_true] at hD hB
    have hΦ := h1 hst
    have next : ∀ u w', Gr w w' → Φ u w' → wpList P ops Q l (a.put o.dst u) w' := by
      intro u w' hgr hu'
      refine list_of_grow hR l (upd K o.dst Φ) (a.put o.dst u) w' (by unfold writesB; exact hD.2) (by unfold dstB; exact hB.2) (hg.trans hgr) (by rw [put_size, hs]) (by rw [put_defers, hd]) (fun t ht => ?_) (upd_stays hst hΦ) (fun t => ?_) h3
      · rw [put_getD_ne (fun e => ?_)]
        · exact hu t ht
        · have h4 := hD.1
          rw [e] at h4
          simp only at h4
          rw [ht] at h4
          cases h4
      · cases ho : o.dst with
        | none => rw [← ho, put_getD_ne (by rw [ho]; simp)]; rw [ho]; exact hst t _ _ _ (hk t) hgr
        | some d =>
          have h5 := hB.1
          rw [ho] at h5
          simp only [Nat.blt_eq] at h5
          show (bif Nat.beq d t then Φ else K t) _ _
          by_cases hdt : d = t
          · subst hdt
            rw [Nat.beq_refl, cond_true, put_getD_self (by rw [hs]; exact h5)]
            exact hu'
          · rw [show Nat.beq d t = false from Bool.eq_false_iff.2 (fun e => hdt (Nat.eq_of_beq_eq_true e)), cond_false, put_getD_ne (by simpa using hdt)]
            exact hst t _ _ _ (hk t) hgr
    have h6 := h2 a w hg hs (fun t _ => hk t)
    unfold wpList
    by_cases hw : Region.wanted o (yielded ops a.tmps) = true
    · rw [if_pos hw] at h6 ⊢
      refine .inl ?_
      unfold does at h6
      unfold Oper.wp
      generalize (execOp a.eval o).run P w = res at h6 ⊢
      match res, h6 with
      | .ok (.value u) w', h6 => exact next u w' h6.1 h6.2
      | .ok .skip w', h6 => exact next undef w' h6.1 h6.2
      | .ok (.enter f args) w', h6 =>
        refine h6.2.mono ?_
        rintro e w'' ⟨u, rfl, hg2, hu2⟩
        exact next u w'' hg2 hu2
    · rw [if_neg hw] at h6 ⊢
      exact next undef w (Gr.refl w) h6

/-- **A region in the text's order, walked by what is known ahead of it**; what it does not write is as it was. -/
theorem wp_region_text {P : Program} {l : List Oper} {id : Nat} {Q : Exit → Act → World → Prop} {a : Act} {w : World} (n0 : Nat) (D : List Nat) (hn : a.tmps.size = n0) (hD : writesB l D = true) (hB : dstB l n0 = true)
    {K : Tmp → Known} (hK : Ahead w a K)
    (h : wpGrow P l.toArray w n0 (fun K => ∀ a' w', Gr w w' → a'.tmps.size = n0 → a'.defers = a.defers → (∀ t, D.contains t = false → a'.tmps.getD t undef = a.tmps.getD t undef) → (∀ t, K t (a'.tmps.getD t undef) w') → Q .normal a' w') l K) :
    (Code.region id l.toArray false).wp P Q a w := by
  refine wp_region_list ?_
  rw [List.toList_toArray]
  exact list_of_grow (fun K hK => hK) l K a w hD hB (Gr.refl w) hn rfl (fun _ _ => rfl) hK.1 hK.2 h
/-- a region by its number: the walk stops here ('go_wp2_with (with_reducible refine Grow.stopR 11 ?_)') -/
def AtR (p : Prop) : Prop := p
theorem stopR (n : Nat) {P : Program} {l : Array Oper} {b : Bool} {Q : Exit → Act → World → Prop} {a : Act} {w : World} (h : AtR ((Code.region n l b).wp P Q a w)) : (Code.region n l b).wp P Q a w := h
theorem goR {p : Prop} (h : p) : AtR p := h
end Go.Proofs.Ythpaoeiackbdoaa.Grow

/-
  Steps under a condition: a chain of '&&' (and '||' within) in one region, walked once, whatever its parts tell. No program.
-/
namespace Go.Proofs.Ythpaoeiackbdoaa.Grow
open Go Go.RowKit Go.Proofs.Ythpaoeiackbdoaa

/-- known where b holds; else the operation was passed over -/
abbrev Cd (b : Bool) (Φ : Known) : Known := fun v w => bif b then Φ v w else v = undef
theorem Cd.stays {b : Bool} {Φ : Known} (h : Stays Φ) : Stays (Cd b Φ) := fun v w w' hv hg => by
  cases b
  · exact hv
  · exact h v w w' hv hg
/-- the operation is carried out just where b holds -/
def Gd (ops : Array Oper) (K : Tmp → Known) (n0 : Nat) (o : Oper) (b : Bool) : Prop :=
  (∃ g t, o.guard = some (g, true) ∧ ((ops[g]?).bind (·.dst)) = some t ∧ K t = Is (.bool b) ∧ t < n0) ∨
  ∃ g t c x, o.guard = some (g, false) ∧ ((ops[g]?).bind (·.dst)) = some t ∧ K t = Cd c (Is (.bool x)) ∧ t < n0 ∧ b = (c && !x)
/-- known of an operand where b holds -/
def KnC (K : Tmp → Known) (b : Bool) : Operand → Known → Prop
  | .tmp t, Φ => K t = Φ ∨ K t = Cd b Φ
  | .const v, Φ => ∀ w, Φ v w
  | .func f, Φ => ∀ w, Φ (.func (.func f) #[] #[]) w
  | _, _ => False

section
variable {P : Program} {ops : Array Oper} {w0 : World} {n0 : Nat} {Q : (Tmp → Known) → Prop} {o : Oper} {rest : List Oper} {K : Tmp → Known} {Φ : Known} {b : Bool}
theorem looks_c {x : Operand} {Ψ : Known} (hb : b = true) (hx : x ∈ o.op.operands) (hk : KnC K b x Ψ) {a : Act} {w : World} (hl : ∀ t, (o.looksAt ops).contains t = true → K t (a.tmps.getD t undef) w) : Ψ (a.eval x) w := by
  cases x with
  | tmp t =>
    have : (o.looksAt ops).contains t = true := by
      simp only [List.contains_eq_mem, decide_eq_true_eq]
      exact List.mem_append_left _ (List.mem_filterMap.2 ⟨.tmp t, by simpa using hx, rfl⟩)
    have h := hl t this
    rcases (show K t = Ψ ∨ K t = Cd b Ψ from hk) with hk | hk
    · rw [hk] at h; exact h
    · rw [hk, hb] at h; exact h
  | const v => exact hk w
  | global g => exact absurd hk (by simp [KnC])
  | func f => exact hk w
theorem gd_is (hG : Gd ops K n0 o b) {a : Act} {w : World} (hs : a.tmps.size = n0) (hl : ∀ t, (o.looksAt ops).contains t = true → K t (a.tmps.getD t undef) w) : Region.wanted o (yielded ops a.tmps) = b := by
  rcases hG with ⟨g, t, hg, ht, hk, hn⟩ | ⟨g, t, c, x, hg, ht, hk, hn, hb⟩
  · have h := hl t (by simp [Oper.looksAt, hg, ht])
    rw [hk] at h
    have h2 : a.tmps[t]? = some (.bool b) := by
      have : t < a.tmps.size := by rw [hs]; exact hn
      simp [this] at h ⊢
      exact h
    have hy : yielded ops a.tmps g = some b := by
      unfold yielded
      rw [ht]
      simp [h2]
    unfold Region.wanted
    simp only [hg, hy]
    cases b <;> rfl
  · have h := hl t (by simp [Oper.looksAt, hg, ht])
    rw [hk] at h
    have hlt : t < a.tmps.size := by rw [hs]; exact hn
    cases c with
    | false =>
      have h2 : a.tmps[t]? = some undef := by
        simp [hlt] at h ⊢
        exact h
      have hy : yielded ops a.tmps g = none := by
        unfold yielded
        rw [ht]
        simp [h2, undef]
      unfold Region.wanted
      simp only [hg, hy]
      rw [hb]
      rfl
    | true =>
      have h2 : a.tmps[t]? = some (.bool x) := by
        simp [hlt] at h ⊢
        exact h
      have hy : yielded ops a.tmps g = some x := by
        unfold yielded
        rw [ht]
        simp [h2]
      unfold Region.wanted
      simp only [hg, hy]
      rw [hb]
      cases x <;> rfl
theorem does_mono {a : Act} {w : World} {Ψ : Known} (h : does P o a w Φ) (hi : ∀ u w', Φ u w' → Ψ u w') : does P o a w Ψ := by
  unfold does at *
  generalize (execOp a.eval o).run P w = r at h ⊢
  match r, h with
  | .ok (.value u) w', h => exact ⟨h.1, hi _ _ h.2⟩
  | .ok .skip w', h => exact ⟨h.1, hi _ _ h.2⟩
  | .ok (.enter f args) w', h =>
    refine ⟨h.1, h.2.mono ?_⟩
    rintro e w'' ⟨u, e1, e2, e3⟩
    exact ⟨u, e1, e2, hi _ _ e3⟩
theorem cd_step (hG : Gd ops K n0 o b) (hst : Stays Φ)
    (hdo : b = true → ∀ a w, Gr w0 w → a.tmps.size = n0 → (∀ t, (o.looksAt ops).contains t = true → K t (a.tmps.getD t undef) w) → does P o a w Φ) (h : wpGrow P ops w0 n0 Q rest (upd K o.dst (Cd b Φ))) : wpGrow P ops w0 n0 Q (o :: rest) K :=
  ⟨Cd b Φ, fun _ => Cd.stays hst, fun a w hg hs hl => by
    rw [gd_is hG hs hl]
    cases hb : b with
    | false => rfl
    | true => rw [if_pos rfl]; exact hdo hb a w hg hs hl, h⟩
/-- a field of a struct in a block -/
theorem cd_field {t : TypeId} {x : Operand} {i g j : Nat} {e : TypeId} {cs : Array Value} {u : Value} {Ψ : Known} (ho : o.op = .fieldAddr t x i) (hG : Gd ops K n0 o b) (hx : KnC K b x (Bx g e cs))
    (hr : ∀ w, (Instr.fieldAt t (.pointer (some ⟨g, 0, none⟩)) i).run P w = .ok (.pointer (some ⟨g, j, none⟩)) w) (hu : cs[j]? = some u) (hst : Stays Ψ) (hΨ : ∀ w, Gr w0 w → Ψ u w)
    (h : wpGrow P ops w0 n0 Q rest (upd K o.dst (Cd b (Pk Ψ)))) : wpGrow P ops w0 n0 Q (o :: rest) K := by
  refine cd_step hG (Pk.stays hst) (fun hb a w hg _ hl => ?_) h
  obtain ⟨h1, h2⟩ : a.eval x = .pointer (some ⟨g, 0, none⟩) ∧ Bl w g e cs := looks_c (Ψ := Bx g e cs) hb (by simp [ho, Op.operands]) hx hl
  unfold does execOp
  simp only [ho, h1]
  rw [Sem.run_bind, hr w]
  exact ⟨Gr.refl w, _, u, rfl, by rw [h2.cell]; exact hu, hΨ w hg⟩
theorem cd_load {t : TypeId} {x : Operand} {Ψ : Known} (ho : o.op = .load t x) (ha : ∀ w, (isAgg t).run P w = .ok false w) (hG : Gd ops K n0 o b) (hx : KnC K b x (Pk Ψ)) (hst : Stays Ψ) (h : wpGrow P ops w0 n0 Q rest (upd K o.dst (Cd b Ψ))) : wpGrow P ops w0 n0 Q (o :: rest) K := by
  refine cd_step hG hst (fun hb a w _ _ hl => ?_) h
  obtain ⟨ad, u, h1, hc, hu⟩ : ∃ ad u, a.eval x = .pointer (some ad) ∧ w.cell? ad = some u ∧ Ψ u w := looks_c (Ψ := Pk Ψ) hb (by simp [ho, Op.operands]) hx hl
  unfold does execOp
  have hr : (Instr.loadAt t (.pointer (some ad))).run P w = .ok u w := by
    simp [Instr.loadAt, Instr.sureAddr, loadVar, ha w, hc]
  simp only [ho, h1]
  rw [Sem.run_bind, hr]
  exact ⟨Gr.refl w, hu⟩
/-- a struct within a struct in a block -/
abbrev Sp (g s : Nat) (e : TypeId) (cs : Array Value) : Known := fun v w => v = .pointer (some ⟨g, s, none⟩) ∧ Bl w g e cs
theorem Sp.stays (g s : Nat) (e : TypeId) (cs : Array Value) : Stays (Sp g s e cs) := fun _ _ _ ⟨h1, h2⟩ hg => ⟨h1, h2.gr hg⟩
theorem cd_field_s {t : TypeId} {x : Operand} {i g j : Nat} {e : TypeId} {cs : Array Value} (ho : o.op = .fieldAddr t x i) (hG : Gd ops K n0 o b) (hx : KnC K b x (Bx g e cs))
    (hr : ∀ w, (Instr.fieldAt t (.pointer (some ⟨g, 0, none⟩)) i).run P w = .ok (.pointer (some ⟨g, j, none⟩)) w)
    (h : wpGrow P ops w0 n0 Q rest (upd K o.dst (Cd b (Sp g j e cs)))) : wpGrow P ops w0 n0 Q (o :: rest) K := by
  refine cd_step hG (Sp.stays _ _ _ _) (fun hb a w hg _ hl => ?_) h
  obtain ⟨h1, h2⟩ : a.eval x = .pointer (some ⟨g, 0, none⟩) ∧ Bl w g e cs := looks_c (Ψ := Bx g e cs) hb (by simp [ho, Op.operands]) hx hl
  unfold does execOp
  simp only [ho, h1]
  rw [Sem.run_bind, hr w]
  exact ⟨Gr.refl w, rfl, h2⟩
theorem cd_load_s {t : TypeId} {x : Operand} {g j n : Nat} {e : TypeId} {cs : Array Value} {Ψ : Known} (vs : List Value) (ho : o.op = .load t x) (ha : ∀ w, (isAgg t).run P w = .ok true w) (hs : ∀ w, (sizeOf t).run P w = .ok n w) (hG : Gd ops K n0 o b) (hx : KnC K b x (Sp g j e cs))
    (hn : vs.length = n) (hv : ∀ k u, vs[k]? = some u → cs[j + k]? = some u) (hst : Stays Ψ) (hΨ : ∀ w, Gr w0 w → Ψ (.agg vs.toArray) w) (h : wpGrow P ops w0 n0 Q rest (upd K o.dst (Cd b Ψ))) : wpGrow P ops w0 n0 Q (o :: rest) K := by
  refine cd_step hG hst (fun hb a w hg _ hl => ?_) h
  obtain ⟨h1, h2⟩ : a.eval x = .pointer (some ⟨g, j, none⟩) ∧ Bl w g e cs := looks_c (Ψ := Sp g j e cs) hb (by simp [ho, Op.operands]) hx hl
  have hc := run_loadCells_list (P := P) w ⟨g, j, none⟩ vs (fun k v hk => by
    rw [show (⟨g, j, none⟩ : Addr).add k = ⟨g, j + k, none⟩ from by unfold Addr.add; split <;> simp_all, h2.cell]
    exact hv k v hk)
  rw [hn] at hc
  have hr : (Instr.loadAt t (.pointer (some ⟨g, j, none⟩))).run P w = .ok (.agg vs.toArray) w := by
    simp [Instr.loadAt, Instr.sureAddr, loadVar, ha w, hs w, hc]
  unfold does execOp
  simp only [ho, h1]
  rw [Sem.run_bind, hr]
  exact ⟨Gr.refl w, hΨ w hg⟩
theorem cd_bin {bo : BinOp} {xt rt : TypeId} {x y : Operand} {c1 c2 c : Value} (ho : o.op = .binOp bo xt x y rt) (hG : Gd ops K n0 o b) (hx : KnC K b x (Is c1)) (hy : KnC K b y (Is c2))
    (hr : ∀ w, (do eqGuard bo xt x y c1 c2; binOp bo xt c1 c2 : Sem Value).run P w = .ok c w) (h : wpGrow P ops w0 n0 Q rest (upd K o.dst (Cd b (Is c)))) : wpGrow P ops w0 n0 Q (o :: rest) K := by
  refine cd_step hG (Is.stays _) (fun hb a w _ _ hl => ?_) h
  have h1 : a.eval x = c1 := looks_c (Ψ := Is c1) hb (by simp [ho, Op.operands]) hx hl
  have h2 : a.eval y = c2 := looks_c (Ψ := Is c2) hb (by simp [ho, Op.operands]) hy hl
  unfold does execOp
  rw [ho]
  simp only [h1, h2]
  rw [Sem.run_bind, hr w]
  exact ⟨Gr.refl w, rfl⟩
theorem cd_int {bo : BinOp} {xt rt : TypeId} {x y : Operand} {k : IntKind} {m n : Int} {c : Value} (ho : o.op = .binOp bo xt x y rt) (hG : Gd ops K n0 o b) (hx : KnC K b x (Is (.int k m))) (hy : KnC K b y (Is (.int k n)))
    (hr : binOp bo xt (.int k m) (.int k n) = pure c) (h : wpGrow P ops w0 n0 Q rest (upd K o.dst (Cd b (Is c)))) : wpGrow P ops w0 n0 Q (o :: rest) K :=
  cd_bin ho hG hx hy (fun w => run_with_guard (by simp) (by simp) (by rw [hr]; rfl)) h
theorem cd_len_k {x : Operand} {t : TypeId} {Ψ : Known} {n : Nat} (ho : o.op = .call { callee := .builtin .len, args := #[x], argTypes := #[t] }) (ht : P.underlying t = some (.slice (P.elem t))) (hG : Gd ops K n0 o b) (hx : KnC K b x Ψ) (hn : ∀ v w, Ψ v w → ∃ A c, v = .slice A n c)
    (h : wpGrow P ops w0 n0 Q rest (upd K o.dst (Cd b (Is (.int .i64 (n : Int)))))) : wpGrow P ops w0 n0 Q (o :: rest) K := by
  refine cd_step hG (Is.stays _) (fun hb a w _ _ hl => ?_) h
  obtain ⟨A, c, h1⟩ := hn _ _ (looks_c hb (look_bi ho) hx hl)
  unfold does execOp
  simp only [ho, resolve, invoke, builtin, Sem.run_bind, Sem.run_pure, Result.andThen_ok, List.map_toArray, List.map_cons, List.map_nil, h1, run_len_slice w t _ _ _ _ ht]
  exact ⟨Gr.refl w, rfl⟩
theorem cd_len_str {x : Operand} {t : TypeId} {s : ByteArray} (ho : o.op = .call { callee := .builtin .len, args := #[x], argTypes := #[t] }) (ht : P.underlying t = some .string) (hG : Gd ops K n0 o b) (hx : KnC K b x (Is (.string s)))
    (h : wpGrow P ops w0 n0 Q rest (upd K o.dst (Cd b (Is (.int .i64 (s.size : Int)))))) : wpGrow P ops w0 n0 Q (o :: rest) K := by
  refine cd_step hG (Is.stays _) (fun hb a w _ _ hl => ?_) h
  have h1 : a.eval x = .string s := looks_c (Ψ := Is (.string s)) hb (look_bi ho) hx hl
  unfold does execOp
  simp only [ho, resolve, invoke, builtin, Sem.run_bind, Sem.run_pure, Result.andThen_ok, List.map_toArray, List.map_cons, List.map_nil, h1, run_len_string w t _ _ ht]
  exact ⟨Gr.refl w, rfl⟩
theorem cd_call1 {f : FuncId} {x : Operand} {ats : Array TypeId} {Ψ : Known} {fn : Func} (ho : o.op = .call { callee := .value (.func f), args := #[x], argTypes := ats }) (hG : Gd ops K n0 o b) (hf : P.funcs[f]? = some fn) (hn : (fn.name == "runtime.NumGoroutine") = false) (hbd : fn.body.isNone = false)
    (hx : KnC K b x Ψ) (hst : Stays Φ) (hc : ∀ v w, Gr w0 w → Ψ v w → Calls P f #[v] w fun e w' => ∃ u, e = .returned u ∧ Gr w w' ∧ Φ u w') (h : wpGrow P ops w0 n0 Q rest (upd K o.dst (Cd b Φ))) : wpGrow P ops w0 n0 Q (o :: rest) K := by
  refine cd_step hG hst (fun hb a w hg _ hl => ?_) h
  have h1 : Ψ (a.eval x) w := looks_c hb (by simp [ho, Op.operands, Call.operands]) hx hl
  obtain ⟨dst, op, ty, pos, after, guard⟩ := o
  simp only at ho
  subst ho
  unfold does
  rw [execOp_call_go, enters hf hn hbd]
  exact ⟨Gr.refl w, by simpa using hc _ w hg h1⟩
theorem cd_call2 {f : FuncId} {x y : Operand} {ats : Array TypeId} {Ψ Ψ' : Known} {fn : Func} (ho : o.op = .call { callee := .value (.func f), args := #[x, y], argTypes := ats }) (hG : Gd ops K n0 o b) (hf : P.funcs[f]? = some fn) (hn : (fn.name == "runtime.NumGoroutine") = false) (hbd : fn.body.isNone = false)
    (hx : KnC K b x Ψ) (hy : KnC K b y Ψ') (hst : Stays Φ) (hc : ∀ v u w, Gr w0 w → Ψ v w → Ψ' u w → Calls P f #[v, u] w fun e w' => ∃ u, e = .returned u ∧ Gr w w' ∧ Φ u w') (h : wpGrow P ops w0 n0 Q rest (upd K o.dst (Cd b Φ))) : wpGrow P ops w0 n0 Q (o :: rest) K := by
  refine cd_step hG hst (fun hb a w hg _ hl => ?_) h
  have h1 : Ψ (a.eval x) w := looks_c hb (by simp [ho, Op.operands, Call.operands]) hx hl
  have h2 : Ψ' (a.eval y) w := looks_c hb (by simp [ho, Op.operands, Call.operands]) hy hl
  obtain ⟨dst, op, ty, pos, after, guard⟩ := o
  simp only at ho
  subst ho
  unfold does
  rw [execOp_call_go, enters hf hn hbd]
  exact ⟨Gr.refl w, by simpa using hc _ _ w hg h1 h2⟩
theorem cd_call3 {f : FuncId} {x y z : Operand} {ats : Array TypeId} {Ψ Ψ' Ψ'' : Known} {fn : Func} (ho : o.op = .call { callee := .value (.func f), args := #[x, y, z], argTypes := ats }) (hG : Gd ops K n0 o b) (hf : P.funcs[f]? = some fn) (hn : (fn.name == "runtime.NumGoroutine") = false) (hbd : fn.body.isNone = false)
    (hx : KnC K b x Ψ) (hy : KnC K b y Ψ') (hz : KnC K b z Ψ'') (hst : Stays Φ) (hc : ∀ v u s w, Gr w0 w → Ψ v w → Ψ' u w → Ψ'' s w → Calls P f #[v, u, s] w fun e w' => ∃ u, e = .returned u ∧ Gr w w' ∧ Φ u w') (h : wpGrow P ops w0 n0 Q rest (upd K o.dst (Cd b Φ))) : wpGrow P ops w0 n0 Q (o :: rest) K := by
  refine cd_step hG hst (fun hb a w hg _ hl => ?_) h
  have h1 : Ψ (a.eval x) w := looks_c hb (by simp [ho, Op.operands, Call.operands]) hx hl
  have h2 : Ψ' (a.eval y) w := looks_c hb (by simp [ho, Op.operands, Call.operands]) hy hl
  have h3 : Ψ'' (a.eval z) w := looks_c hb (by simp [ho, Op.operands, Call.operands]) hz hl
  obtain ⟨dst, op, ty, pos, after, guard⟩ := o
  simp only at ho
  subst ho
  unfold does
  rw [execOp_call_go, enters hf hn hbd]
  exact ⟨Gr.refl w, by simpa using hc _ _ _ w hg h1 h2 h3⟩
theorem cd_mv {x : Operand} {Ψ : Known} (ho : o.op = .move x ∨ o.op = .assign x) (hG : Gd ops K n0 o b) (hx : KnC K b x Ψ) (hst : Stays Ψ) (h : wpGrow P ops w0 n0 Q rest (upd K o.dst (Cd b Ψ))) : wpGrow P ops w0 n0 Q (o :: rest) K := by
  refine cd_step hG hst (fun hb a w _ _ hl => ?_) h
  have h1 : Ψ (a.eval x) w := looks_c hb (by rcases ho with ho | ho <;> simp [ho, Op.operands]) hx hl
  unfold does execOp
  rcases ho with ho | ho <;> rw [ho] <;> exact ⟨Gr.refl w, h1⟩
/-- 'a || b' within -/
theorem cd_pick_or {c y : Operand} {x z : Bool} (ho : o.op = .pick c (.const (.bool true)) y) (hG : Gd ops K n0 o b) (hc : KnC K b c (Is (.bool x))) (hy : KnC K (b && !x) y (Is (.bool z))) (h : wpGrow P ops w0 n0 Q rest (upd K o.dst (Cd b (Is (.bool (x || z)))))) : wpGrow P ops w0 n0 Q (o :: rest) K := by
  refine cd_step hG (Is.stays _) (fun hb a w _ _ hl => ?_) h
  have h1 : a.eval c = .bool x := looks_c (Ψ := Is (.bool x)) hb (by simp [ho, Op.operands]) hc hl
  unfold does execOp
  rw [ho]
  cases x with
  | true =>
    simp only [h1]
    exact ⟨Gr.refl w, rfl⟩
  | false =>
    have h2 : a.eval y = .bool z := looks_c (Ψ := Is (.bool z)) (by rw [hb]; rfl) (by simp [ho, Op.operands]) hy hl
    simp only [h1, h2]
    exact ⟨Gr.refl w, rfl⟩
/-- 'a && b' -/
theorem pick_and {c y : Operand} {z : Bool} (ho : o.op = .pick c y (.const (.bool false))) (hg : o.guard = none) (hc : Kn K c (Is (.bool b))) (hy : KnC K b y (Is (.bool z))) (h : wpGrow P ops w0 n0 Q rest (upd K o.dst (Is (.bool (b && z))))) : wpGrow P ops w0 n0 Q (o :: rest) K := by
  refine grow_step (.inl ⟨rfl, hg⟩) (fun _ => Is.stays _) (fun a w _ _ hl => ?_) h
  have h1 : a.eval c = .bool b := looks_op (Ψ := Is (.bool b)) (by simp [ho, Op.operands]) hc hl
  unfold does execOp
  rw [ho]
  cases b with
  | false =>
    simp only [h1]
    exact ⟨Gr.refl w, rfl⟩
  | true =>
    have h2 : a.eval y = .bool z := looks_c (Ψ := Is (.bool z)) rfl (by simp [ho, Op.operands]) hy hl
    simp only [h1, h2]
    exact ⟨Gr.refl w, rfl⟩
end
end Go.Proofs.Ythpaoeiackbdoaa.Grow
