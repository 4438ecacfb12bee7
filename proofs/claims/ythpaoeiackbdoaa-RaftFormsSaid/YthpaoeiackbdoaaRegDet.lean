/-
  A region whose order is open, that writes: the operations that write stand in a row, each behind the last one; between them the world is of a class, C 0, C 1, ..; all other operations leave the world alone, and yield one value in each class in which they may come up.
  One walk in the order of the text serves every order. No program.
-/
import Derived.Test.YthpaoeiackbdoaaBaseW
import Derived.Deep.Quiet
import Derived.StillTail
namespace Go.Proofs.Ythpaoeiackbdoaa.Det
open Go Go.RowKit

section
variable {P : Program} {ops : Array Oper} {md : Region.Mode} {C : Nat → World → Prop} {ws : List Nat}

/-- how many of the writers may have come up when operation i does -/
structure Ph (md : Region.Mode) (ops : Array Oper) (ws : List Nat) (i m : Nat) : Prop where
  le : m ≤ ws.length
  lo : ∀ q k, ws[q]? = some k → Region.waitsFor md ops i k = true → q < m
  hi : ∀ q k, ws[q]? = some k → Region.waitsFor md ops k i = true → m ≤ q

/-- a writer's work -/
def effUpon (P : Program) (D : World → Prop) (v : Value) : Result Next → Prop
  | .ok (.value u) w' => u = v ∧ D w'
  | .ok .skip w' => v = undef ∧ D w'
  | .ok (.enter f args) w' => Calls P f args w' (fun e w'' => e = .returned v ∧ D w'')
  | _ => False
def effAt (P : Program) (o : Oper) (a : Act) (D : World → Prop) (w : World) (v : Value) : Prop := effUpon P D v ((execOp a.eval o).run P w)

/-- operation i comes up, m writers have -/
def dStep (P : Program) (md : Region.Mode) (ops : Array Oper) (C : Nat → World → Prop) (ws : List Nat) (i : Nat) (o : Oper) (K : Act → Nat → Prop) (a : Act) (m : Nat) : Prop :=
  if ws.contains i = true then o.guard = none ∧ ∃ v, (∀ w, C m w → effAt P o a (C (m + 1)) w v) ∧ K (a.put o.dst v) (m + 1)
  else if Region.wanted o (yielded ops a.tmps) = true then ∃ v, (∀ m', Ph md ops ws i m' → ∀ w, C m' w → o.quietAt P a (C m') w v) ∧ K (a.put o.dst v) m
  else K (a.put o.dst undef) m
def dOp (P : Program) (md : Region.Mode) (ops : Array Oper) (C : Nat → World → Prop) (ws : List Nat) (i : Nat) (K : Act → Nat → Prop) (a : Act) (m : Nat) : Prop :=
  match ops[i]? with
  | none => K a m
  | some o => dStep P md ops C ws i o K a m
theorem dOp_some {i : Nat} {o : Oper} (h : ops[i]? = some o) {K : Act → Nat → Prop} {a : Act} {m : Nat} : dOp P md ops C ws i K a m = dStep P md ops C ws i o K a m := by
  unfold dOp
  simp only [h]

theorem dStep_mono {i : Nat} {o : Oper} {a : Act} {m : Nat} {K K' : Act → Nat → Prop} (h : ∀ a m, K a m → K' a m) (hh : dStep P md ops C ws i o K a m) : dStep P md ops C ws i o K' a m := by
  unfold dStep at *
  split
  · rename_i hw
    rw [if_pos hw] at hh
    obtain ⟨h1, v, h2, h3⟩ := hh
    exact ⟨h1, v, h2, h _ _ h3⟩
  · rename_i hw
    rw [if_neg hw] at hh
    split
    · rename_i hg
      rw [if_pos hg] at hh
      obtain ⟨v, h2, h3⟩ := hh
      exact ⟨v, h2, h _ _ h3⟩
    · rename_i hg
      rw [if_neg hg] at hh
      exact h _ _ hh
theorem dOp_mono {i : Nat} {a : Act} {m : Nat} {K K' : Act → Nat → Prop} (h : ∀ a m, K a m → K' a m) (hh : dOp P md ops C ws i K a m) : dOp P md ops C ws i K' a m := by
  unfold dOp at *
  split
  · rename_i ho; simp only [ho] at hh; exact h _ _ hh
  · rename_i o ho; simp only [ho] at hh; exact dStep_mono h hh

/-- whatever order is picked from here on -/
def wpAnyD (P : Program) (md : Region.Mode) (ops : Array Oper) (C : Nat → World → Prop) (ws : List Nat) (Q : Act → Nat → Prop) : Nat → Array Bool → Act → Nat → Prop
  | 0, listed, a, m => Region.ready md ops listed = [] ∧ Q a m
  | fuel + 1, listed, a, m =>
    (Region.ready md ops listed = [] → Q a m) ∧
    ∀ i ∈ Region.ready md ops listed, dOp P md ops C ws i (wpAnyD P md ops C ws Q fuel (listed.setIfInBounds i true)) a m

/-- each later writer waits for each earlier one -/
def wsB (md : Region.Mode) (ops : Array Oper) (ws : List Nat) : Bool :=
  (List.range ws.length).all fun q => (List.range ws.length).all fun r => match ws[q]?, ws[r]? with
    | some i, some j => Nat.ble r q || (Nat.blt i j && Region.waitsFor md ops j i)
    | _, _ => true
theorem wsB_spec (h : wsB md ops ws = true) {q r i j : Nat} (hq : ws[q]? = some i) (hr : ws[r]? = some j) (hqr : q < r) : i < j ∧ Region.waitsFor md ops j i = true := by
  have h1 := List.all_eq_true.1 h q (List.mem_range.2 (List.getElem?_eq_some_iff.1 hq).1)
  have h2 := List.all_eq_true.1 h1 r (List.mem_range.2 (List.getElem?_eq_some_iff.1 hr).1)
  simp only [hq, hr, Bool.or_eq_true, Bool.and_eq_true, Nat.ble_eq, Nat.blt_eq] at h2
  rcases h2 with h2 | h2
  · omega
  · exact h2

structure Inv (md : Region.Mode) (ops : Array Oper) (ws : List Nat) (listed : Array Bool) (m : Nat) : Prop where
  size : listed.size = ops.size
  closed : ∀ j oj, ops[j]? = some oj → listed.getD j false = true → ∀ e ∈ oj.after, Region.binds md e = true → listed.getD e.on false = true
  le : m ≤ ws.length
  done : ∀ q k, ws[q]? = some k → q < m → listed.getD k false = true
  todo : ∀ q k, ws[q]? = some k → m ≤ q → listed.getD k true = false

theorem Inv.start (hin : ∀ k ∈ ws, k < ops.size) : Inv md ops ws (Array.replicate ops.size false) 0 :=
  ⟨by simp, fun j oj _ h => (by rw [getD_replicate_false] at h; cases h), Nat.zero_le _, fun _ _ _ _ => (by omega), fun q k hk _ => (by
    have := hin k (List.mem_of_getElem? hk)
    simp [this])⟩
theorem Inv.waits {listed : Array Bool} {m : Nat} (_ : Inv md ops ws listed m) {i k : Nat} (hi : i ∈ Region.ready md ops listed) (hw : Region.waitsFor md ops i k = true) : listed.getD k false = true := by
  obtain ⟨oj, hj, e, he, hb, rfl⟩ := Region.waitsFor_spec hw
  obtain ⟨_, oi, hoi, hall⟩ := mem_ready.1 hi
  rw [hoi] at hj
  injection hj with hj
  subst hj
  exact hall e he hb
theorem Inv.ph {listed : Array Bool} {m : Nat} (h : Inv md ops ws listed m) {i : Nat} (hi : i ∈ Region.ready md ops listed) : Ph md ops ws i m := by
  refine ⟨h.le, fun q k hk hw => ?_, fun q k hk hw => ?_⟩
  · have h1 := h.waits hi hw
    by_cases hq : q < m
    · exact hq
    · have h2 := getD_both (h.todo q k hk (by omega))
      rw [h1] at h2
      cases h2
  · by_cases hq : m ≤ q
    · exact hq
    · have h1 := h.done q k hk (by omega)
      obtain ⟨oj, hj, e, he, hb, rfl⟩ := Region.waitsFor_spec hw
      have h2 := h.closed k oj hj h1 e he hb
      have h3 := getD_both (mem_ready.1 hi).1
      rw [h2] at h3
      cases h3
/-- a writer that is ready is the next one -/
theorem Inv.next {listed : Array Bool} {m : Nat} (h : Inv md ops ws listed m) (hB : wsB md ops ws = true) {i : Nat} (hi : i ∈ Region.ready md ops listed) (hw : ws.contains i = true) : ws[m]? = some i := by
  have hmem : i ∈ ws := by simpa using hw
  obtain ⟨q, hq⟩ := List.mem_iff_getElem?.1 hmem
  have hun := getD_both (mem_ready.1 hi).1
  have hmq : m ≤ q := by
    by_cases hq' : m ≤ q
    · exact hq'
    · have := h.done q i hq (by omega)
      rw [hun] at this
      cases this
  by_cases e : q = m
  · rw [← e]; exact hq
  · have hlt : m < ws.length := by have := (List.getElem?_eq_some_iff.1 hq).1; omega
    have hm : ws[m]? = some ws[m] := List.getElem?_eq_getElem hlt
    have h1 := h.waits hi (wsB_spec hB hm hq (by omega)).2
    have h2 := getD_both (h.todo m _ hm (Nat.le_refl _))
    rw [h1] at h2
    cases h2
theorem Inv.set {listed : Array Bool} {m : Nat} (h : Inv md ops ws listed m) {i : Nat} (hi : i ∈ Region.ready md ops listed) (hw : ws.contains i = false) : Inv md ops ws (listed.setIfInBounds i true) m := by
  obtain ⟨_, oi, hoi, hall⟩ := mem_ready.1 hi
  have hne : ∀ q k, ws[q]? = some k → i ≠ k := fun q k hk e => by
    subst e
    have := List.mem_of_getElem? hk
    simp [this] at hw
  refine ⟨by simp [h.size], fun j oj hj hl e he hb => ?_, h.le, fun q k hk hq => getD_set_true (h.done q k hk hq), fun q k hk hq => by rw [getD_set_ne true (hne q k hk)]; exact h.todo q k hk hq⟩
  by_cases hij : i = j
  · subst hij
    have : oj = oi := Option.some.inj (hj.symm.trans hoi)
    subst this
    exact getD_set_true (hall e he hb)
  · rw [getD_set_ne false hij] at hl
    exact getD_set_true (h.closed j oj hj hl e he hb)
theorem Inv.write {listed : Array Bool} {m : Nat} (h : Inv md ops ws listed m) (hB : wsB md ops ws = true) {i : Nat} (hi : i ∈ Region.ready md ops listed) (hw : ws.contains i = true) : Inv md ops ws (listed.setIfInBounds i true) (m + 1) := by
  have hm := h.next hB hi hw
  obtain ⟨_, oi, hoi, hall⟩ := mem_ready.1 hi
  have hlt := (List.getElem?_eq_some_iff.1 hm).1
  have hin : i < listed.size := by rw [h.size]; exact (Array.getElem?_eq_some_iff.1 hoi).1
  refine ⟨by simp [h.size], fun j oj hj hl e he hb => ?_, hlt, fun q k hk hq => ?_, fun q k hk hq => ?_⟩
  · by_cases hij : i = j
    · subst hij
      have : oj = oi := Option.some.inj (hj.symm.trans hoi)
      subst this
      exact getD_set_true (hall e he hb)
    · rw [getD_set_ne false hij] at hl
      exact getD_set_true (h.closed j oj hj hl e he hb)
  · by_cases e : q = m
    · subst e
      rw [hm] at hk
      injection hk with hk
      subst hk
      simp [hin]
    · exact getD_set_true (h.done q k hk (by omega))
  · have := wsB_spec hB hm hk (by omega)
    rw [getD_set_ne true (by omega)]
    exact h.todo q k hk (by omega)

/-- it is a wpAny -/
theorem wpAny_of_det (hB : wsB md ops ws = true) {Q : Act → Nat → Prop} {Q' : Exit → Act → World → Prop} (hQ : ∀ a m w, C m w → Q a m → Q' .normal a w) : ∀ (fuel : Nat) (listed : Array Bool) (a : Act) (m : Nat) (w : World), Inv md ops ws listed m → C m w →
    wpAnyD P md ops C ws Q fuel listed a m → wpAny P md ops Q' fuel listed a w
  | 0, _, _, _, _, _, hw, h => ⟨h.1, hQ _ _ _ hw h.2⟩
  | fuel + 1, listed, a, m, w, hI, hw, h => by
    refine ⟨fun h0 => hQ _ _ _ hw (h.1 h0), fun i hi => ?_⟩
    have h1 := h.2 i hi
    obtain ⟨_, o, ho, _⟩ := mem_ready.1 hi
    rw [dOp_some ho] at h1
    unfold wpOp
    simp only [ho]
    unfold dStep at h1
    split at h1
    · rename_i hwr
      obtain ⟨hg, v, he, hK⟩ := h1
      have hI' := hI.write hB hi hwr
      have hwt : Region.wanted o (yielded ops a.tmps) = true := by simp [Region.wanted, hg]
      rw [if_pos hwt]
      refine .inl ?_
      have h3 := he w hw
      unfold effAt at h3
      unfold Oper.wp
      generalize (execOp a.eval o).run P w = r at *
      cases r with
      | ok n w' =>
        cases n <;> simp only [effUpon] at h3 <;> simp only [Oper.upon]
        case value u =>
          obtain ⟨rfl, hD⟩ := h3
          exact wpAny_of_det hB hQ fuel _ _ _ _ hI' hD hK
        case skip =>
          obtain ⟨rfl, hD⟩ := h3
          exact wpAny_of_det hB hQ fuel _ _ _ _ hI' hD hK
        case enter f args =>
          refine h3.mono fun e w'' ⟨he, hD⟩ => ?_
          subst he
          exact wpAny_of_det hB hQ fuel _ _ _ _ hI' hD hK
      | halt x w' => simp only [effUpon] at h3
    · rename_i hwr
      have hwr' : ws.contains i = false := by simpa using hwr
      have hI' := hI.set hi hwr'
      split at h1
      · rename_i hwt
        rw [if_pos hwt]
        obtain ⟨v, he, hK⟩ := h1
        refine .inl ?_
        have h3 := he m (hI.ph hi) w hw
        unfold Oper.quietAt at h3
        unfold Oper.wp
        generalize (execOp a.eval o).run P w = r at *
        cases r with
        | ok n w' =>
          cases n <;> simp only [Oper.quietUpon] at h3 <;> simp only [Oper.upon]
          case value u =>
            obtain ⟨rfl, rfl⟩ := h3
            exact wpAny_of_det hB hQ fuel _ _ _ _ hI' hw hK
          case skip =>
            obtain ⟨rfl, rfl⟩ := h3
            exact wpAny_of_det hB hQ fuel _ _ _ _ hI' hw hK
          case enter f args =>
            obtain ⟨rfl, hc⟩ := h3
            refine hc.mono fun e w'' ⟨he, hD⟩ => ?_
            subst he
            exact wpAny_of_det hB hQ fuel _ _ _ _ hI' hD hK
        | halt x w' => simp only [Oper.quietUpon] at h3
      · rename_i hwt
        rw [if_neg hwt]
        exact wpAny_of_det hB hQ fuel _ _ _ _ hI' hw h1

/-- at m writers the operation leaves v, and m' -/
def YD (P : Program) (md : Region.Mode) (ops : Array Oper) (C : Nat → World → Prop) (ws : List Nat) (i : Nat) (o : Oper) (v : Value) (a : Act) (m m' : Nat) : Prop :=
  (ws.contains i = true ∧ m' = m + 1 ∧ o.guard = none ∧ ∀ w, C m w → effAt P o a (C (m + 1)) w v) ∨
  (ws.contains i = false ∧ m' = m ∧ Region.wanted o (yielded ops a.tmps) = true ∧ ∀ m', Ph md ops ws i m' → ∀ w, C m' w → o.quietAt P a (C m') w v) ∨
  (ws.contains i = false ∧ m' = m ∧ Region.wanted o (yielded ops a.tmps) = false ∧ v = undef)
theorem YD.step {i : Nat} {o : Oper} {v : Value} {a : Act} {m m' : Nat} (hy : YD P md ops C ws i o v a m m') {K : Act → Nat → Prop} (h : K (a.put o.dst v) m') : dStep P md ops C ws i o K a m := by
  unfold dStep
  rcases hy with ⟨h1, rfl, h2, h3⟩ | ⟨h1, rfl, h2, h3⟩ | ⟨h1, rfl, h2, rfl⟩
  · rw [if_pos h1]; exact ⟨h2, v, h3, h⟩
  · rw [if_neg (by rw [h1]; exact Bool.false_ne_true), if_pos h2]; exact ⟨v, h3, h⟩
  · rw [if_neg (by rw [h1]; exact Bool.false_ne_true), if_neg (by rw [h2]; exact Bool.false_ne_true)]; exact h
theorem YD.of {i : Nat} {o : Oper} {a : Act} {m : Nat} {K : Act → Nat → Prop} (h : dStep P md ops C ws i o K a m) : ∃ v m', YD P md ops C ws i o v a m m' ∧ K (a.put o.dst v) m' := by
  unfold dStep at h
  split at h
  · rename_i h1
    obtain ⟨h2, v, h3, h4⟩ := h
    exact ⟨v, m + 1, .inl ⟨h1, rfl, h2, h3⟩, h4⟩
  · rename_i h1
    split at h
    · rename_i h2
      obtain ⟨v, h3, h4⟩ := h
      exact ⟨v, m, .inr (.inl ⟨by simpa using h1, rfl, h2, h3⟩), h4⟩
    · rename_i h2
      exact ⟨undef, m, .inr (.inr ⟨by simpa using h1, rfl, by simpa using h2, rfl⟩), h⟩
/-- another state in which it does the same; a writer's count stays -/
theorem YD.same {i : Nat} {o : Oper} {v : Value} {a a' : Act} {m m' : Nat} (hy : YD P md ops C ws i o v a m m') (he : execOp a'.eval o = execOp a.eval o) (hw : Region.wanted o (yielded ops a'.tmps) = Region.wanted o (yielded ops a.tmps)) : YD P md ops C ws i o v a' m m' := by
  unfold YD effAt Oper.quietAt at *
  rw [he, hw]
  exact hy
/-- .. and, of one that writes nothing, at any count -/
theorem YD.more {i : Nat} {o : Oper} {v : Value} {a : Act} {m m' : Nat} (hy : YD P md ops C ws i o v a m m') (hi : ws.contains i = false) (n : Nat) : m' = m ∧ YD P md ops C ws i o v a n n := by
  rcases hy with ⟨h1, _⟩ | ⟨_, h0, h2, h3⟩ | ⟨_, h0, h2, h3⟩
  · rw [hi] at h1; cases h1
  · exact ⟨h0, .inr (.inl ⟨hi, rfl, h2, h3⟩)⟩
  · exact ⟨h0, .inr (.inr ⟨hi, rfl, h2, h3⟩)⟩

theorem dStep_put {i j : Nat} {oi oj : Oper} {v : Value} (hap : oi.apart ops oj = true)
    (hsi : ∀ cs b, oi.op ≠ .select cs b) (hsj : ∀ cs b, oj.op ≠ .select cs b) (hnw : ¬ (ws.contains i = true ∧ ws.contains j = true)) {K : Act → Nat → Prop} {a : Act} {m m' : Nat}
    (hy : YD P md ops C ws i oi v a m m') (h : dStep P md ops C ws j oj K (a.put oi.dst v) m') :
    dStep P md ops C ws j oj (fun a' n => ∃ n', YD P md ops C ws i oi v a' n n' ∧ K (a'.put oi.dst v) n') a m := by
  obtain ⟨h1, h2, h3⟩ := Oper.apart_spec hap
  have keep : ∀ {n n' : Nat}, YD P md ops C ws i oi v a n n' → ∀ u, YD P md ops C ws i oi v (a.put oj.dst u) n n' := fun hy u => hy.same (execOp_put oi hsi a oj.dst u h3) (wanted_put oi a oj.dst u h3)
  obtain ⟨u, n', hyj, hK⟩ := YD.of h
  have hyj' : YD P md ops C ws j oj u a m' n' := hyj.same (execOp_put oj hsj a oi.dst v h1).symm (wanted_put oj a oi.dst v h1).symm
  rw [← Act.put_comm a u v (fun d hd hd2 => h2 d hd2 hd)] at hK
  cases hi : ws.contains i with
  | true =>
    have hj : ws.contains j = false := by
      cases hj : ws.contains j with
      | false => rfl
      | true => exact absurd ⟨hi, hj⟩ hnw
    obtain ⟨rfl, hyj2⟩ := hyj'.more hj m
    exact YD.step hyj2 ⟨_, keep hy u, hK⟩
  | false =>
    obtain ⟨rfl, _⟩ := hy.more hi m
    refine YD.step hyj' ⟨n', keep (hy.more hi n').2 u, hK⟩

theorem wpAnyD_first {Q : Act → Nat → Prop} {i : Nat} {oi : Oper} {v : Value} (hi : ops[i]? = some oi) (hsel : ∀ (j : Nat) (o : Oper) cs b, ops[j]? = some o → o.op ≠ .select cs b) :
    ∀ (fuel : Nat) (listed : Array Bool) (a : Act) (m m' : Nat),
      (∀ j oj, ops[j]? = some oj → j ≠ i → listed.getD j true = false → (∀ e ∈ oj.after, Region.binds md e = true → e.on ≠ i) → oi.apart ops oj = true) →
      (∀ j, j ≠ i → listed.getD j true = false → ws.contains i = true → ws.contains j = true → Region.waitsFor md ops j i = true) →
      i ∈ Region.ready md ops listed → YD P md ops C ws i oi v a m m' →
      wpAnyD P md ops C ws Q fuel (listed.setIfInBounds i true) (a.put oi.dst v) m' → wpAnyD P md ops C ws Q (fuel + 1) listed a m := by
  intro fuel
  induction fuel with
  | zero =>
    intro listed a m m' _ _ hr hy H
    refine ⟨fun h => (by rw [h] at hr; cases hr), fun j hj => ?_⟩
    by_cases hji : j = i
    · subst hji; rw [dOp_some hi]; exact hy.step H
    · have := ready_mono hj hji
      rw [H.1] at this
      cases this
  | succ fuel ih =>
    intro listed a m m' hfree hws hr hy H
    refine ⟨fun h => (by rw [h] at hr; cases hr), fun j hj => ?_⟩
    by_cases hji : j = i
    · subst hji; rw [dOp_some hi]; exact hy.step H
    · have h1 := H.2 j (ready_mono hj hji)
      obtain ⟨hjun, oj, hoj, hall⟩ := mem_ready.1 hj
      have hnot : ∀ e ∈ oj.after, Region.binds md e = true → e.on ≠ i := fun e he hb heq => by
        have h1 := hall e he hb
        have h0 := (mem_ready.1 hr).1
        rw [heq] at h1
        rcases Nat.lt_or_ge i listed.size with h' | h'
        · simp [h'] at h0 h1; rw [h0] at h1; cases h1
        · simp [Array.getElem?_eq_none h'] at h1
      have hnw : ¬ (ws.contains i = true ∧ ws.contains j = true) := fun ⟨hc1, hc2⟩ => by
        obtain ⟨oj', hj', e, he, hb, hon⟩ := Region.waitsFor_spec (hws j hji hjun hc1 hc2)
        rw [hoj] at hj'
        injection hj' with hj'
        subst hj'
        exact hnot e he hb hon
      rw [dOp_some hoj] at h1 ⊢
      have h2 := dStep_put (hfree j oj hoj hji hjun hnot) (fun cs b => hsel i oi cs b hi) (fun cs b => hsel j oj cs b hoj) hnw hy h1
      have hfree' : ∀ k ok, ops[k]? = some ok → k ≠ i → (listed.setIfInBounds j true).getD k true = false →
          (∀ e ∈ ok.after, Region.binds md e = true → e.on ≠ i) → oi.apart ops ok = true := fun k ok hk hki hun hno => by
        refine hfree k ok hk hki ?_ hno
        by_cases hjk : j = k
        · subst hjk; exact hjun
        · rw [getD_set_ne true hjk] at hun; exact hun
      have hws' : ∀ k, k ≠ i → (listed.setIfInBounds j true).getD k true = false → ws.contains i = true → ws.contains k = true → Region.waitsFor md ops k i = true := fun k hki hun => by
        refine hws k hki ?_
        by_cases hjk : j = k
        · subst hjk; exact hjun
        · rw [getD_set_ne true hjk] at hun; exact hun
      refine dStep_mono (fun a' n ⟨n', h3, h4⟩ => ih (listed.setIfInBounds j true) a' n n' hfree' hws' (ready_mono hr (Ne.symm hji)) h3 ?_) h2
      rw [Array.setIfInBounds_comm _ _ hji]
      exact h4

/-- the walk in the order of the text -/
def wpDet (P : Program) (ops : Array Oper) (C : Nat → World → Prop) (ws : List Nat) (Q : Act → Nat → Prop) : List Oper → Nat → Act → Nat → Prop
  | [], _, a, m => Q a m
  | o :: rest, i, a, m => dStep P .any ops C ws i o (fun a' m' => wpDet P ops C ws Q rest (i + 1) a' m') a m

theorem wpAnyD_lex {Q : Act → Nat → Prop} (hs : Region.noSelect ops = true) (hB : wsB .any ops ws = true) : ∀ (l : List Oper) (k : Nat) (listed : Array Bool) (a : Act) (m : Nat), (∀ j, l[j]? = ops[k + j]?) → (∀ j, j < k → listed.getD j true = true) →
    Region.lexFrom .any ops l.length k listed = true → wpDet P ops C ws Q l k a m → wpAnyD P .any ops C ws Q l.length listed a m
  | [], _, _, _, _, _, _, hL, h => ⟨by simpa [Region.lexFrom] using hL, h⟩
  | o :: l, k, listed, a, m, hl, hlow, hL, h => by
    have h0 : ops[k]? = some o := by simpa using (hl 0).symm
    simp only [List.length_cons, Region.lexFrom, Bool.and_eq_true] at hL
    obtain ⟨⟨hr, hf⟩, hL'⟩ := hL
    obtain ⟨v, m', hy, hK⟩ := YD.of (K := fun a' m' => wpDet P ops C ws Q l (k + 1) a' m') h
    refine wpAnyD_first h0 (Region.noSelect_spec hs) l.length listed a m m' (Region.free_spec h0 hf) (fun j hjk hun hc1 hc2 => ?_) (by simpa using hr) hy
      (wpAnyD_lex hs hB l (k + 1) _ _ _ (fun j => by have := hl (j + 1); simpa [Nat.add_assoc, Nat.add_comm 1 j] using this) (fun j hj => ?_) hL' hK)
    · have hkj : k < j := by
        by_cases hlt : j < k
        · rw [hlow j hlt] at hun; cases hun
        · omega
      have m1 : k ∈ ws := by simpa using hc1
      have m2 : j ∈ ws := by simpa using hc2
      obtain ⟨q, hq⟩ := List.mem_iff_getElem?.1 m1
      obtain ⟨r, hr'⟩ := List.mem_iff_getElem?.1 m2
      rcases Nat.lt_trichotomy q r with h1 | h1 | h1
      · exact (wsB_spec hB hq hr' h1).2
      · subst h1
        rw [hq] at hr'
        injection hr' with hr'
        omega
      · have := (wsB_spec hB hr' hq h1).1
        omega
    · by_cases e : j = k
      · subst e
        have : j < listed.size := by
          by_cases hlt : j < listed.size
          · exact hlt
          · have := (mem_ready.1 (show j ∈ Region.ready .any ops listed by simpa using hr)).1
            simp [Array.getElem?_eq_none (by omega : listed.size ≤ j)] at this
        simp [this]
      · rw [getD_set_ne true (Ne.symm e)]
        exact hlow j (by omega)

/-- **one walk serves every order** -/
theorem wp_region_det {id : Nat} {Q : Exit → Act → World → Prop} {a : Act} {w : World} {l : List Oper} (ws : List Nat) (C : Nat → World → Prop) (hm : P.follows .mixedOrders = true) (hL : Region.lexB .any l.toArray = true)
    (hB : (wsB .any l.toArray ws && ws.all fun k => Nat.blt k l.toArray.size) = true) (hC : C 0 w.drew)
    (h : wpDet P l.toArray C ws (fun a' m => ∀ w', C m w' → Q .normal a' w') l 0 a 0) : (Code.region id l.toArray true).wp P Q a w := by
  simp only [Region.lexB, Bool.and_eq_true] at hL
  simp only [Bool.and_eq_true, List.all_eq_true, Nat.blt_eq] at hB
  refine wp_region_any hm (wpAny_of_det hB.1 (Q := fun a' m => ∀ w', C m w' → Q .normal a' w') (fun _ _ w' hw' h => h w' hw') _ _ _ 0 _ (Inv.start hB.2) hC ?_)
  have := wpAnyD_lex (C := C) (ws := ws) hL.1 hB.1 l 0 (Array.replicate l.toArray.size false) a 0 (by simp) (fun j hj => by omega) (by simpa using hL.2) h
  simpa using this

/-! Steps. -/
/-- where the operation may come up: between so many writers and so many -/
def phB (ops : Array Oper) (ws : List Nat) (i lo hi : Nat) : Bool :=
  (Nat.beq lo 0 || (match ws[lo - 1]? with | some k => Region.waitsFor .any ops i k | none => false)) && (Nat.ble ws.length hi || (match ws[hi]? with | some k => Region.waitsFor .any ops k i | none => false))
theorem Ph.of {i m lo hi : Nat} (h : Ph .any ops ws i m) (hB : phB ops ws i lo hi = true) : lo ≤ m ∧ m ≤ hi := by
  unfold phB at hB
  simp only [Bool.and_eq_true, Bool.or_eq_true, Nat.ble_eq] at hB
  constructor
  · rcases hB.1 with h1 | h1
    · rw [Nat.eq_of_beq_eq_true h1]
      exact Nat.zero_le _
    · split at h1
      · rename_i k hk
        have := h.lo _ _ hk h1
        omega
      · cases h1
  · rcases hB.2 with h1 | h1
    · have := h.le
      omega
    · split at h1
      · rename_i k hk
        exact h.hi _ _ hk h1
      · cases h1
variable {Q : Act → Nat → Prop} {o : Oper} {rest : List Oper} {i m : Nat} {a : Act}
theorem nil (h : Q a m) : wpDet P ops C ws Q [] i a m := h
/-- an operation that writes nothing, by its run -/
theorem plain (hi : ws.contains i = false) (hw : Region.wanted o (yielded ops a.tmps) = true) (lo hi' : Nat) (hB : phB ops ws i lo hi' = true) (v : Value) (h : ∀ m', lo ≤ m' → m' ≤ hi' → ∀ w, C m' w → (execOp a.eval o).run P w = .ok (.value v) w)
    (hK : wpDet P ops C ws Q rest (i + 1) (a.put o.dst v) m) : wpDet P ops C ws Q (o :: rest) i a m := by
  show dStep P .any ops C ws i o _ a m
  unfold dStep
  rw [if_neg (by rw [hi]; exact Bool.false_ne_true), if_pos hw]
  refine ⟨v, fun m' hp w hc => ?_, hK⟩
  obtain ⟨h1, h2⟩ := hp.of hB
  unfold Oper.quietAt
  rw [h m' h1 h2 w hc]
  exact ⟨rfl, rfl⟩
/-- .. whatever the world -/
theorem pure (hi : ws.contains i = false) (hw : Region.wanted o (yielded ops a.tmps) = true) (v : Value) (h : ∀ w, (execOp a.eval o).run P w = .ok (.value v) w)
    (hK : wpDet P ops C ws Q rest (i + 1) (a.put o.dst v) m) : wpDet P ops C ws Q (o :: rest) i a m := by
  show dStep P .any ops C ws i o _ a m
  unfold dStep
  rw [if_neg (by rw [hi]; exact Bool.false_ne_true), if_pos hw]
  refine ⟨v, fun m' _ w _ => ?_, hK⟩
  unfold Oper.quietAt
  rw [h w]
  exact ⟨rfl, rfl⟩
/-- a writer, by its run -/
theorem write (hi : ws.contains i = true) (hg : o.guard = none) (v : Value) (h : ∀ w, C m w → ∃ w', (execOp a.eval o).run P w = .ok (.value v) w' ∧ C (m + 1) w')
    (hK : wpDet P ops C ws Q rest (i + 1) (a.put o.dst v) (m + 1)) : wpDet P ops C ws Q (o :: rest) i a m := by
  show dStep P .any ops C ws i o _ a m
  unfold dStep
  rw [if_pos hi]
  refine ⟨hg, v, fun w hc => ?_, hK⟩
  obtain ⟨w', h1, h2⟩ := h w hc
  unfold effAt
  rw [h1]
  exact ⟨rfl, h2⟩
/-- .. that yields nothing -/
theorem write_ (hi : ws.contains i = true) (hg : o.guard = none) (h : ∀ w, C m w → ∃ w', (execOp a.eval o).run P w = .ok .skip w' ∧ C (m + 1) w')
    (hK : wpDet P ops C ws Q rest (i + 1) (a.put o.dst undef) (m + 1)) : wpDet P ops C ws Q (o :: rest) i a m := by
  show dStep P .any ops C ws i o _ a m
  unfold dStep
  rw [if_pos hi]
  refine ⟨hg, undef, fun w hc => ?_, hK⟩
  obtain ⟨w', h1, h2⟩ := h w hc
  unfold effAt
  rw [h1]
  exact ⟨rfl, h2⟩
/-- 'm[k]', a pointer's cell: what it holds wherever the operation may come up -/
theorem load {t : TypeId} {x : Operand} {ad : Addr} {u : Value} (hi : ws.contains i = false) (hg : o.guard = none) (ho : o.op = .load t x) (lo hi' : Nat) (hB : phB ops ws i lo hi' = true) (ha : ∀ w, (isAgg t).run P w = .ok false w) (hx : a.eval x = .pointer (some ad))
    (hc : ∀ m', lo ≤ m' → m' ≤ hi' → ∀ w, C m' w → w.cell? ad = some u) (hK : wpDet P ops C ws Q rest (i + 1) (a.put o.dst u) m) : wpDet P ops C ws Q (o :: rest) i a m := by
  refine plain hi (by simp [Region.wanted, hg]) lo hi' hB u (fun m' h1 h2 w hw => ?_) hK
  have hr : (Instr.loadAt t (.pointer (some ad))).run P w = .ok u w := by simp [Instr.loadAt, Instr.sureAddr, loadVar, ha w, hc m' h1 h2 w hw]
  unfold execOp
  simp only [ho, hx, hr, Sem.run_bind, Result.andThen_ok, Sem.run_pure]
/-- a look into a map -/
theorem look {t : TypeId} {x y : Operand} {mv s u : Value} (hi : ws.contains i = false) (hg : o.guard = none) (ho : o.op = .lookup t x y false) (lo hi' : Nat) (hB : phB ops ws i lo hi' = true) (hx : a.eval x = mv) (hy : a.eval y = s)
    (hc : ∀ m', lo ≤ m' → m' ≤ hi' → ∀ w, C m' w → (Instr.lookup t mv s false).run P w = .ok u w) (hK : wpDet P ops C ws Q rest (i + 1) (a.put o.dst u) m) : wpDet P ops C ws Q (o :: rest) i a m := by
  refine plain hi (by simp [Region.wanted, hg]) lo hi' hB u (fun m' h1 h2 w hw => ?_) hK
  have hr := hc m' h1 h2 w hw
  unfold execOp
  simp only [ho, hx, hy, hr, Sem.run_bind, Result.andThen_ok, Sem.run_pure]
/-- a map's entry, the key being there -/
theorem entry_there {t : TypeId} {x y : Operand} {mv s u : Value} (hi : ws.contains i = false) (hg : o.guard = none) (ho : o.op = .mapEntry t x y) (lo hi' : Nat) (hB : phB ops ws i lo hi' = true) (hx : a.eval x = mv) (hy : a.eval y = s)
    (hc : ∀ m', lo ≤ m' → m' ≤ hi' → ∀ w, C m' w → (Instr.mapEntry t mv s).run P w = .ok u w) (hK : wpDet P ops C ws Q rest (i + 1) (a.put o.dst u) m) : wpDet P ops C ws Q (o :: rest) i a m := by
  refine plain hi (by simp [Region.wanted, hg]) lo hi' hB u (fun m' h1 h2 w hw => ?_) hK
  have hr := hc m' h1 h2 w hw
  unfold execOp
  simp only [ho, hx, hy, hr, Sem.run_bind, Result.andThen_ok, Sem.run_pure]
/-- a map's entry, made where it isn't there -/
theorem entry {t : TypeId} {x y : Operand} {mv s u : Value} (hi : ws.contains i = true) (hg : o.guard = none) (ho : o.op = .mapEntry t x y) (hx : a.eval x = mv) (hy : a.eval y = s)
    (hc : ∀ w, C m w → ∃ w', (Instr.mapEntry t mv s).run P w = .ok u w' ∧ C (m + 1) w') (hK : wpDet P ops C ws Q rest (i + 1) (a.put o.dst u) (m + 1)) : wpDet P ops C ws Q (o :: rest) i a m := by
  refine write hi hg u (fun w hw => ?_) hK
  obtain ⟨w', hr, h2⟩ := hc w hw
  refine ⟨w', ?_, h2⟩
  unfold execOp
  simp only [ho, hx, hy, hr, Sem.run_bind, Result.andThen_ok, Sem.run_pure]
/-- the store behind it -/
theorem entry_store {t : TypeId} {x y z : Operand} {mv s u : Value} (hi : ws.contains i = true) (hg : o.guard = none) (ho : o.op = .entryStore t x y z) (hx : a.eval x = mv) (hy : a.eval y = s) (hz : a.eval z = u)
    (hc : ∀ w, C m w → ∃ w', (Instr.entryStore t mv s u).run P w = .ok () w' ∧ C (m + 1) w') (hK : wpDet P ops C ws Q rest (i + 1) (a.put o.dst undef) (m + 1)) : wpDet P ops C ws Q (o :: rest) i a m := by
  refine write_ hi hg (fun w hw => ?_) hK
  obtain ⟨w', hr, h2⟩ := hc w hw
  refine ⟨w', ?_, h2⟩
  unfold execOp
  simp only [ho, hx, hy, hz, hr, Sem.run_bind, Result.andThen_ok, Sem.run_pure]
/-- 'm[k] = v' -/
theorem map_store {t : TypeId} {x y z : Operand} {mv s u : Value} (hi : ws.contains i = true) (hg : o.guard = none) (ho : o.op = .mapUpdate t x y z) (hx : a.eval x = mv) (hy : a.eval y = s) (hz : a.eval z = u)
    (hc : ∀ w, C m w → ∃ w', (Instr.mapUpdate t mv s u).run P w = .ok () w' ∧ C (m + 1) w') (hK : wpDet P ops C ws Q rest (i + 1) (a.put o.dst undef) (m + 1)) : wpDet P ops C ws Q (o :: rest) i a m := by
  refine write_ hi hg (fun w hw => ?_) hK
  obtain ⟨w', hr, h2⟩ := hc w hw
  refine ⟨w', ?_, h2⟩
  unfold execOp
  simp only [ho, hx, hy, hz, hr, Sem.run_bind, Result.andThen_ok, Sem.run_pure]
/-- 'x[j]' of a slice -/
theorem index {t : TypeId} {x y : Operand} {k : IntKind} {ad : Addr} {n c j : Nat} (hi : ws.contains i = false) (hg : o.guard = none) (ho : o.op = .indexAddr t x y) (ht : P.underlying t = some (.slice (P.elem t))) (hsz : ∀ w, (sizeOf (P.elem t)).run P w = .ok 1 w)
    (hx : a.eval x = .slice (some ad) n c) (hy : a.eval y = .int k (j : Int)) (hj : j < n) (hK : wpDet P ops C ws Q rest (i + 1) (a.put o.dst (.pointer (some (ad.add j)))) m) : wpDet P ops C ws Q (o :: rest) i a m := by
  refine pure hi (by simp [Region.wanted, hg]) (.pointer (some (ad.add j))) (fun w => ?_) hK
  unfold execOp
  simp only [ho, hx, hy, Sem.run_bind, run_indexAt_slice w t _ _ _ _ _ ht]
  rw [if_pos (by omega), hsz w]
  simp only [Result.andThen_ok, Int.toNat_natCast, Nat.mul_one]
  rfl
end

end Go.Proofs.Ythpaoeiackbdoaa.Det
