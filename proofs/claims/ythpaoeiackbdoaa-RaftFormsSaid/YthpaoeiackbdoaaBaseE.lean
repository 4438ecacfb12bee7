/-
  A region whose order is open, in which one operation tells a part of what a call has handed back ('extract') and may come up ahead of another one or behind it: it is walked as if it came up ahead. No program.
-/
import Derived.Test.YthpaoeiackbdoaaBaseM
namespace Go.Proofs.Ythpaoeiackbdoaa.Edge
open Go Go.RowKit

/-- the edge is laid: operation j0 waits for i0 -/
def laid (l : List Oper) (i0 j0 : Nat) : List Oper := l.modify j0 fun o => { o with after := o.after.push { on := i0, ground := .data } }
/-- i0 waits for nothing that j0 doesn't wait for; what does not wait for i0 has nothing to do with it -/
def laidB (l : List Oper) (i0 j0 : Nat) : Bool := match l[i0]?, l[j0]? with
  | some oi, some oj => Nat.blt i0 j0 && (oi.after.all fun e => !Region.binds .any e || oj.after.any fun f => Region.binds .any f && f.on == e.on) && oi.guard.isNone && (match oi.op with | .extract .. => true | _ => false) && Region.noSelect l.toArray &&
    ((List.range l.toArray.size).all fun j => j == i0 || oi.after.any (fun e => Region.binds .any e && e.on == j) || (match l.toArray[j]? with | some oj => oj.after.any (fun e => Region.binds .any e && e.on == i0) || oi.apart l.toArray oj | none => true))
  | _, _ => false

section
variable {P : Program} {Q : Exit → Act → World → Prop} {l : List Oper} {i0 j0 : Nat}
theorem laid_at (j : Nat) : (laid l i0 j0).toArray[j]? = (l.toArray[j]?).map fun o => if j0 = j then { o with after := o.after.push { on := i0, ground := .data } } else o := by
  unfold laid
  simp only [List.getElem?_toArray, List.getElem?_modify]
  cases l[j]? <;> rfl
theorem laid_dst (g : Nat) : ((laid l i0 j0).toArray[g]?).bind (·.dst) = (l.toArray[g]?).bind (·.dst) := by
  rw [laid_at]
  cases l.toArray[g]? with
  | none => rfl
  | some o => simp only [Option.map_some, Option.bind_some]; split <;> rfl
theorem laid_yielded (t : Array Value) : yielded (laid l i0 j0).toArray t = yielded l.toArray t := by
  funext g
  unfold yielded
  rw [laid_dst]
theorem ready_laid {listed : Array Bool} {j : Nat} : j ∈ Region.ready .any (laid l i0 j0).toArray listed ↔ j ∈ Region.ready .any l.toArray listed ∧ (j = j0 → listed.getD i0 false = true) := by
  rw [mem_ready, mem_ready, laid_at]
  constructor
  · rintro ⟨h0, o, ho, hall⟩
    cases hl : l.toArray[j]? with
    | none => rw [hl] at ho; cases ho
    | some o1 =>
      rw [hl] at ho
      simp only [Option.map_some, Option.some.injEq] at ho
      by_cases hj : j0 = j
      · rw [if_pos hj] at ho
        subst ho
        exact ⟨⟨h0, o1, rfl, fun e he hb => hall e (Array.mem_push.2 (.inl he)) hb⟩, fun _ => hall ⟨i0, .data⟩ (Array.mem_push.2 (.inr rfl)) rfl⟩
      · rw [if_neg hj] at ho
        subst ho
        exact ⟨⟨h0, o1, rfl, hall⟩, fun e => absurd e.symm hj⟩
  · rintro ⟨⟨h0, o1, ho, hall⟩, hi⟩
    rw [ho]
    refine ⟨h0, _, rfl, fun e he hb => ?_⟩
    simp only at he
    by_cases hj : j0 = j
    · rw [if_pos hj] at he
      rcases Array.mem_push.1 he with he | he
      · exact hall e he hb
      · rw [he]; exact hi hj.symm
    · rw [if_neg hj] at he
      exact hall e he hb
theorem wpOp_laid {i : Nat} {K : Act → World → Prop} {a : Act} {w : World} : wpOp P (laid l i0 j0).toArray Q i K a w ↔ wpOp P l.toArray Q i K a w := by
  unfold wpOp
  rw [laid_at, laid_yielded]
  cases l.toArray[i]? with
  | none => exact Iff.rfl
  | some o =>
    simp only [Option.map_some]
    split
    · exact Iff.rfl
    · exact Iff.rfl
theorem part_yields {ops : Array Oper} {i : Nat} {o : Oper} {x : Operand} {n : Nat} (hi : ops[i]? = some o) (ho : o.op = .extract x n) (hg : o.guard = none) {K : Act → World → Prop} {a : Act} {w : World} (h : wpOp P ops Q i K a w) :
    ∃ v, Yields P ops o v a ∧ K (a.put o.dst v) w := by
  have hw : Region.wanted o (yielded ops a.tmps) = true := by unfold Region.wanted; rw [hg]
  unfold wpOp at h
  simp only [hi] at h
  rw [if_pos hw] at h
  have key : (∃ v, execOp a.eval o = Sem.pure (Next.value v)) ∨ (∃ s, execOp a.eval o = Sem.halt s ∧ ∀ v, s ≠ .panic v) := by
    unfold execOp
    simp only [ho]
    unfold Instr.extract
    cases a.eval x with
    | tuple vs =>
      simp only
      cases vs[n]? with
      | some v => exact .inl ⟨v, rfl⟩
      | none => exact .inr ⟨_, rfl, fun _ h => by cases h⟩
    | _ => exact .inr ⟨_, rfl, fun _ h => by cases h⟩
  rcases key with ⟨v, hv⟩ | ⟨s, hs, hp⟩
  · refine ⟨v, .inl ⟨hw, fun w => by rw [hv]; rfl⟩, ?_⟩
    rcases h with h | ⟨h, _⟩
    · unfold Oper.wp at h
      rw [hv] at h
      exact h
    · exfalso
      unfold Oper.asks at h
      rw [hv] at h
      have h := h.1
      simp [Sem.runT] at h
  · exfalso
    rcases h with h | ⟨h, _⟩
    · unfold Oper.wp at h
      rw [hs] at h
      have e : (Sem.halt s : Sem Next).run P w = .halt s w := rfl
      rw [e] at h
      cases s <;> first | exact h | exact hp _ rfl
    · unfold Oper.asks at h
      rw [hs] at h
      have h := h.1
      simp [Sem.runT] at h
structure LaidOk (l : List Oper) (i0 j0 : Nat) (oi oj : Oper) (x : Operand) (n : Nat) : Prop where
  hi : l.toArray[i0]? = some oi
  hj : l.toArray[j0]? = some oj
  lt : i0 < j0
  sub : ∀ e ∈ oi.after, Region.binds .any e = true → ∃ f ∈ oj.after, Region.binds .any f = true ∧ f.on = e.on
  op : oi.op = .extract x n
  gd : oi.guard = none
  sel : Region.noSelect l.toArray = true
  free : ∀ j o, l.toArray[j]? = some o → j ≠ i0 → (∀ e ∈ oi.after, Region.binds .any e = true → e.on ≠ j) → (∀ e ∈ o.after, Region.binds .any e = true → e.on ≠ i0) → oi.apart l.toArray o = true
theorem laidB_ok (h : laidB l i0 j0 = true) : ∃ oi oj x n, LaidOk l i0 j0 oi oj x n := by
  unfold laidB at h
  split at h
  · rename_i oi oj hi hj
    simp only [Bool.and_eq_true, Nat.blt_eq, Option.isNone_iff_eq_none] at h
    obtain ⟨⟨⟨⟨⟨h1, h2⟩, h3⟩, h4⟩, h5⟩, h6⟩ := h
    have hop : ∃ x n, oi.op = .extract x n := by
      revert h4
      cases oi.op <;> intro h4 <;> first | exact ⟨_, _, rfl⟩ | cases h4
    obtain ⟨x, n, hop⟩ := hop
    refine ⟨oi, oj, x, n, by simpa using hi, by simpa using hj, h1, fun e he hb => ?_, hop, h3, h5, fun j o ho hne hni hno => ?_⟩
    · have := Array.all_eq_true_iff_forall_mem.1 h2 e he
      rw [hb] at this
      simp only [Bool.not_true, Bool.false_or] at this
      obtain ⟨f, hf, hff⟩ := Array.any_eq_true'.1 this
      simp only [Bool.and_eq_true, beq_iff_eq] at hff
      exact ⟨f, hf, hff.1, hff.2⟩
    · have := List.all_eq_true.1 h6 j (List.mem_range.2 (Array.getElem?_eq_some_iff.1 ho).1)
      simp only [ho, Bool.or_eq_true, beq_iff_eq, hne, false_or] at this
      rcases this with this | this | this
      · obtain ⟨e, he, hb⟩ := Array.any_eq_true'.1 this
        simp only [Bool.and_eq_true, beq_iff_eq] at hb
        exact absurd hb.2 (hni e he hb.1)
      · obtain ⟨e, he, hb⟩ := Array.any_eq_true'.1 this
        simp only [Bool.and_eq_true, beq_iff_eq] at hb
        exact absurd hb.2 (hno e he hb.1)
      · exact this
  · cases h
theorem wpAny_laid {oi oj : Oper} {x : Operand} {n : Nat} (h : LaidOk l i0 j0 oi oj x n) (hQ : ∀ c (a : Act) w v, Q (.panic c) (a.put oi.dst v) w → Q (.panic c) a w) :
    ∀ (fuel : Nat) (listed : Array Bool) (a : Act) (w : World), i0 < listed.size → wpAny P .any (laid l i0 j0).toArray Q fuel listed a w → wpAny P .any l.toArray Q fuel listed a w := by
  intro fuel
  induction fuel using Nat.strongRecOn with
  | _ fuel ih =>
    intro listed a w hsz H
    have sub : ∀ j, j ∈ Region.ready .any (laid l i0 j0).toArray listed → j ∈ Region.ready .any l.toArray listed := fun j hj => (ready_laid.1 hj).1
    have late : ∀ j, j ∈ Region.ready .any l.toArray listed → j ∈ Region.ready .any (laid l i0 j0).toArray listed ∨ (j = j0 ∧ i0 ∈ Region.ready .any (laid l i0 j0).toArray listed) := fun j hj => by
      by_cases hj0 : j = j0
      · cases hl : listed.getD i0 false with
        | true => exact .inl (ready_laid.2 ⟨hj, fun _ => hl⟩)
        | false =>
          refine .inr ⟨hj0, ready_laid.2 ⟨mem_ready.2 ⟨by simpa [hsz] using hl, oi, h.hi, fun e he hb => ?_⟩, fun e => absurd e (by have := h.lt; omega)⟩⟩
          obtain ⟨f, hf, hbf, he'⟩ := h.sub e he hb
          obtain ⟨_, o, ho, hall⟩ := mem_ready.1 hj
          rw [hj0, h.hj] at ho
          injection ho with ho
          subst ho
          rw [← he']
          exact hall f hf hbf
      · exact .inl (ready_laid.2 ⟨hj, fun e => absurd e hj0⟩)
    have none' : Region.ready .any (laid l i0 j0).toArray listed = [] → Region.ready .any l.toArray listed = [] := fun hn => by
      refine List.eq_nil_iff_forall_not_mem.2 fun j hj => ?_
      rcases late j hj with h1 | h1
      · rw [hn] at h1; cases h1
      · rw [hn] at h1; cases h1.2
    have none2 : Region.ready .any l.toArray listed = [] → Region.ready .any (laid l i0 j0).toArray listed = [] := fun hn => by
      refine List.eq_nil_iff_forall_not_mem.2 fun j hj => ?_
      have := sub j hj
      rw [hn] at this
      cases this
    cases fuel with
    | zero => exact ⟨none' H.1, H.2⟩
    | succ fuel =>
      refine ⟨fun hn => H.1 (none2 hn), fun j hj => ?_⟩
      rcases late j hj with h1 | ⟨rfl, h1⟩
      · exact wpOp_mono (fun a' w' hh => ih fuel (Nat.lt_succ_self _) _ a' w' (by simpa using hsz) hh) (wpOp_laid.1 (H.2 j h1))
      · by_cases hlist : listed.getD i0 false = true
        · exact wpOp_mono (fun a' w' hh => ih fuel (Nat.lt_succ_self _) _ a' w' (by simpa using hsz) hh) (wpOp_laid.1 (H.2 j (ready_laid.2 ⟨hj, fun _ => hlist⟩)))
        obtain ⟨v, hy, h2⟩ := part_yields h.hi h.op h.gd (wpOp_laid.1 (H.2 i0 h1))
        have hne : j ≠ i0 := by have := h.lt; omega
        have hset : (listed.setIfInBounds i0 true).getD i0 false = true := by simp [hsz]
        have hjr : j ∈ Region.ready .any (laid l i0 j).toArray (listed.setIfInBounds i0 true) := ready_laid.2 ⟨ready_mono hj hne, fun _ => hset⟩
        have hno : ∀ e ∈ oj.after, Region.binds .any e = true → e.on ≠ i0 := fun e he hb heq => by
          obtain ⟨_, o, ho, hall⟩ := mem_ready.1 hj
          rw [h.hj] at ho
          injection ho with ho
          subst ho
          have := hall e he hb
          rw [heq] at this
          exact hlist this
        have hni : ∀ k, listed.getD k true = false → ∀ e ∈ oi.after, Region.binds .any e = true → e.on ≠ k := fun k hk e he hb heq => by
          obtain ⟨_, o, ho, hall⟩ := mem_ready.1 (sub i0 h1)
          rw [h.hi] at ho
          injection ho with ho
          subst ho
          have h7 := hall e he hb
          rw [heq] at h7
          rcases Nat.lt_or_ge k listed.size with h8 | h8
          · simp [h8] at h7 hk; rw [h7] at hk; cases hk
          · simp [Array.getElem?_eq_none h8] at h7
        cases fuel with
        | zero => rw [h2.1] at hjr; cases hjr
        | succ m =>
          have h3 := wpOp_laid.1 (h2.2 j hjr)
          have h4 := wpOp_put h.hj (h.free j oj h.hj hne (hni j (mem_ready.1 hj).1) hno) (fun cs b => Region.noSelect_spec h.sel i0 oi cs b h.hi) (fun cs b => Region.noSelect_spec h.sel j oj cs b h.hj) (fun c a w => hQ c a w v) hy h3
          refine wpOp_mono (fun a' w' h5 => ?_) h4
          refine wpAny_first h.hi (Region.noSelect_spec h.sel) (fun c a w => hQ c a w v) m (listed.setIfInBounds j true) a' w' (fun k o ho hk hun hw => h.free k o ho hk (hni k (by
            by_cases hjk : j = k
            · subst hjk; exact (mem_ready.1 hj).1
            · rw [getD_set_ne true hjk] at hun; exact hun)) hw) (ready_mono (sub i0 h1) (Ne.symm hne)) h5.1 ?_
          have h6 := h5.2
          rw [Array.setIfInBounds_comm _ _ hne]
          exact ih m (by omega) _ _ _ (by simpa using hsz) h6
/-- **Such a region, in which what is told late is told ahead.** -/
theorem wp_region_laid {id : Nat} {a : Act} {w : World} (i0 j0 d0 : Nat) (hd0 : (l[i0]?).bind (·.dst) = some d0) (hm : P.follows .mixedOrders = true) (hB : laidB l i0 j0 = true) (hQ : ∀ c (a : Act) w v, Q (.panic c) (a.put (some d0) v) w → Q (.panic c) a w)
    (H : wpAny P .any (laid l i0 j0).toArray Q (laid l i0 j0).toArray.size (Array.replicate (laid l i0 j0).toArray.size false) a w.drew) : (Code.region id l.toArray true).wp P Q a w := by
  obtain ⟨oi, oj, x, n, h⟩ := laidB_ok hB
  have hs : (laid l i0 j0).toArray.size = l.toArray.size := by unfold laid; simp
  have hdd : oi.dst = some d0 := by
    have := h.hi
    rw [List.getElem?_toArray] at this
    rw [this] at hd0
    exact hd0
  rw [hs] at H
  exact wp_region_any hm (wpAny_laid h (fun c a w v => by rw [hdd]; exact hQ c a w v) _ _ a _ (by
    have := (Array.getElem?_eq_some_iff.1 h.hi).1
    simpa using this) H)
end
end Go.Proofs.Ythpaoeiackbdoaa.Edge
