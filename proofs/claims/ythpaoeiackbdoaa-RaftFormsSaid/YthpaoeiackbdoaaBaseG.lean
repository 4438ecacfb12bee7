/-
  Open regions whose calls make memory, walked once; regions that store. No program.
-/
import Derived.Test.YthpaoeiackbdoaaBaseW
import Derived.Orders

/-
  A region whose order is open, whose operations read, or make memory, or call what makes memory: one walk in the order of the text serves every order. What each temporary is known to hold is a predicate on the value and the world
  that stays when the world grows. No program.
-/
namespace Go.Proofs.Ythpaoeiackbdoaa.Grow
open Go Go.RowKit Go.Proofs.Ythpaoeiackbdoaa

/-- what is known of a value in a world -/
abbrev Known := Value → World → Prop
def Stays (Φ : Known) : Prop := ∀ v w w', Φ v w → Gr w w' → Φ v w'

/-- one operation, carried out here, leaves a value of which this is known, and a world that has only grown -/
def upon (P : Program) (w : World) (Φ : Known) : Result Next → Prop
  | .ok (.value u) w' => Gr w w' ∧ Φ u w'
  | .ok .skip w' => Gr w w' ∧ Φ undef w'
  | .ok (.enter f args) w' => Gr w w' ∧ Calls P f args w' (fun e w'' => ∃ u, e = .returned u ∧ Gr w w'' ∧ Φ u w'')
  | _ => False
def does (P : Program) (o : Oper) (a : Act) (w : World) (Φ : Known) : Prop := upon P w Φ ((execOp a.eval o).run P w)

def upd (K : Tmp → Known) (d : Option Tmp) (Φ : Known) : Tmp → Known := fun t => match d with | some d => bif Nat.beq d t then Φ else K t | none => K t

/-- the walk in the order of the text -/
def wpGrow (P : Program) (ops : Array Oper) (w0 : World) (n0 : Nat) (Q : (Tmp → Known) → Prop) : List Oper → (Tmp → Known) → Prop
  | [], K => Q K
  | o :: rest, K => ∃ Φ : Known, ((∀ t, Stays (K t)) → Stays Φ) ∧
      (∀ a w, Gr w0 w → a.tmps.size = n0 → (∀ t, (o.looksAt ops).contains t = true → K t (a.tmps.getD t undef) w) → if Region.wanted o (yielded ops a.tmps) = true then does P o a w Φ else Φ undef w) ∧
      wpGrow P ops w0 n0 Q rest (upd K o.dst Φ)

/-- may this region be walked so? each operation waits for earlier ones alone; of two, the later waits for the earlier or they are apart -/
def growB (ops : Array Oper) (n0 : Nat) : Bool :=
  Region.noSelect ops && (List.range ops.size).all fun j => match ops[j]? with
    | none => true
    | some oj => (match oj.dst with | some d => Nat.blt d n0 | none => true) && (oj.after.all fun e => !Region.binds .any e || Nat.blt e.on j) && (List.range j).all fun i => match ops[i]? with
      | none => true
      | some oi => oj.after.any (fun e => Region.binds .any e && Nat.beq e.on i) || oi.apart ops oj

section
variable {P : Program} {ops : Array Oper} {w0 : World} {n0 : Nat}

/-- what the walk has found, operation by operation -/
def know (dst : Nat → Option Tmp) (F : Nat → Known) (K0 : Tmp → Known) : Nat → Tmp → Known
  | 0, t => K0 t
  | k + 1, t => if dst k = some t then F k else know dst F K0 k t
/-- .. and what is known when just those in L have come up -/
def knowL (dst : Nat → Option Tmp) (F : Nat → Known) (K0 : Tmp → Known) (L : Nat → Bool) : Nat → Tmp → Known
  | 0, t => K0 t
  | k + 1, t => if dst k = some t ∧ L k = true then F k else knowL dst F K0 L k t

theorem knowL_all {dst : Nat → Option Tmp} {F : Nat → Known} {K0 : Tmp → Known} {L : Nat → Bool} : ∀ (k : Nat) (t : Tmp), (∀ j, j < k → dst j = some t → L j = true) → knowL dst F K0 L k t = know dst F K0 k t
  | 0, _, _ => rfl
  | k + 1, t, h => by
    rw [knowL, know, knowL_all k t (fun j hj => h j (by omega))]
    by_cases hd : dst k = some t
    · rw [if_pos ⟨hd, h k (by omega) hd⟩, if_pos hd]
    · rw [if_neg (fun hh => hd hh.1), if_neg hd]

theorem knowL_skip {dst : Nat → Option Tmp} {F : Nat → Known} {K0 : Tmp → Known} {L : Nat → Bool} {t : Tmp} : ∀ (n i : Nat), i ≤ n → (∀ j, i ≤ j → j < n → dst j = some t → L j = false) → knowL dst F K0 L n t = knowL dst F K0 L i t
  | 0, i, hi, _ => by obtain rfl : i = 0 := by omega
                      rfl
  | n + 1, i, hi, h => by
    by_cases he : i = n + 1
    · subst he; rfl
    · rw [knowL, if_neg (fun hh => by have := h n (by omega) (by omega) hh.1; rw [this] at hh; exact absurd hh.2 (by simp)), knowL_skip n i (by omega) (fun j h1 h2 => h j h1 (by omega))]

theorem knowL_congr {dst : Nat → Option Tmp} {F : Nat → Known} {K0 : Tmp → Known} {L L' : Nat → Bool} {t : Tmp} : ∀ (n : Nat), (∀ j, j < n → dst j = some t → L j = L' j) → knowL dst F K0 L n t = knowL dst F K0 L' n t
  | 0, _ => rfl
  | n + 1, h => by
    rw [knowL, knowL, knowL_congr n (fun j hj => h j (by omega))]
    by_cases hd : dst n = some t
    · rw [h n (by omega) hd]
    · rw [if_neg (fun hh => hd hh.1), if_neg (fun hh => hd hh.1)]

theorem know_stays {dst : Nat → Option Tmp} {F : Nat → Known} {K0 : Tmp → Known} (h0 : ∀ t, Stays (K0 t)) (hF : ∀ k, Stays (F k)) : ∀ k t, Stays (know dst F K0 k t)
  | 0, t => h0 t
  | k + 1, t => by
    rw [know]
    split
    · exact hF k
    · exact know_stays h0 hF k t
theorem knowL_stays {dst : Nat → Option Tmp} {F : Nat → Known} {K0 : Tmp → Known} {L : Nat → Bool} (h0 : ∀ t, Stays (K0 t)) (hF : ∀ k, Stays (F k)) : ∀ k t, Stays (knowL dst F K0 L k t)
  | 0, t => h0 t
  | k + 1, t => by
    rw [knowL]
    split
    · exact hF k
    · exact knowL_stays h0 hF k t

def dstOf (ops : Array Oper) (k : Nat) : Option Tmp := (ops[k]?).bind (·.dst)

/-- what is asked of operation k, by what is known when all that stand ahead of it have come up -/
def Local (P : Program) (ops : Array Oper) (w0 : World) (n0 : Nat) (F : Nat → Known) (K0 : Tmp → Known) (k : Nat) : Prop :=
  ∀ o, ops[k]? = some o → ∀ a w, Gr w0 w → a.tmps.size = n0 → (∀ t, (o.looksAt ops).contains t = true → know (dstOf ops) F K0 k t (a.tmps.getD t undef) w) →
    if Region.wanted o (yielded ops a.tmps) = true then does P o a w (F k) else F k undef w

theorem stays_undef : Stays (fun _ _ => True) := fun _ _ _ h _ => h

/-- the walk gives all of that -/
theorem found {Q : (Tmp → Known) → Prop} : ∀ (l : List Oper) (i : Nat) (F : Nat → Known) (K0 : Tmp → Known), (∀ j, l[j]? = ops[i + j]?) → (∀ t, Stays (K0 t)) → (∀ k, Stays (F k)) → (∀ k, k < i → Local P ops w0 n0 F K0 k) →
    wpGrow P ops w0 n0 Q l (know (dstOf ops) F K0 i) → ∃ F' : Nat → Known, (∀ k, Stays (F' k)) ∧ (∀ k, k < i + l.length → Local P ops w0 n0 F' K0 k) ∧ Q (know (dstOf ops) F' K0 (i + l.length))
  | [], i, F, K0, _, _, hF, hloc, h => ⟨F, hF, by simpa using hloc, by simpa [wpGrow] using h⟩
  | o :: l, i, F, K0, hl, h0, hF, hloc, h => by
    obtain ⟨Φ, hst, hdo, hrest⟩ := h
    have hoi : ops[i]? = some o := by simpa using (hl 0).symm
    have hΦ := hst (know_stays h0 hF i)
    let F' : Nat → Known := fun k => if k = i then Φ else F k
    have hF' : ∀ k, Stays (F' k) := fun k => by
      show Stays (if k = i then Φ else F k)
      split
      · exact hΦ
      · exact hF k
    have hkn : ∀ k, k ≤ i → ∀ t, know (dstOf ops) F' K0 k t = know (dstOf ops) F K0 k t := by
      intro k
      induction k with
      | zero => intro _ t; rfl
      | succ k ih =>
        intro hk t
        rw [know, know, ih (by omega)]
        have : F' k = F k := if_neg (by omega)
        rw [this]
    have hloc' : ∀ k, k < i + 1 → Local P ops w0 n0 F' K0 k := by
      intro k hk o' ho' a w hg hs hlook
      by_cases hki : k = i
      · subst hki
        rw [hoi] at ho'
        injection ho' with ho'
        subst ho'
        have e : F' k = Φ := if_pos rfl
        rw [e]
        exact hdo a w hg hs (fun t ht => by rw [← hkn k (Nat.le_refl _)]; exact hlook t ht)
      · have e : F' k = F k := if_neg hki
        rw [e]
        exact hloc k (by omega) o' ho' a w hg hs (fun t ht => by rw [← hkn k (by omega)]; exact hlook t ht)
    have hnext : upd (know (dstOf ops) F K0 i) o.dst Φ = know (dstOf ops) F' K0 (i + 1) := by
      funext t
      rw [know, hkn i (Nat.le_refl _)]
      have e : F' i = Φ := if_pos rfl
      have hd : dstOf ops i = o.dst := by simp [dstOf, hoi]
      rw [e, hd]
      unfold upd
      cases hdst : o.dst with
      | none => simp
      | some d =>
        by_cases hdt : d = t
        · subst hdt; simp
        · have : Nat.beq d t = false := by rw [Bool.eq_false_iff]; intro hh; exact hdt (Nat.eq_of_beq_eq_true hh)
          simp [this, hdt]
    rw [hnext] at hrest
    have := found l (i + 1) F' K0 (fun j => by have := hl (j + 1); simpa [Nat.add_assoc, Nat.add_comm 1 j] using this) h0 hF' hloc' hrest
    rw [List.length_cons, show i + (l.length + 1) = i + 1 + l.length from by omega]
    exact this

theorem growB_spec (h : growB ops n0 = true) : Region.noSelect ops = true ∧ ∀ (j : Nat) (oj : Oper), ops[j]? = some oj → (∀ d, oj.dst = some d → d < n0) ∧ (∀ e ∈ oj.after, Region.binds .any e = true → e.on < j) ∧
    ∀ (i : Nat) (oi : Oper), i < j → ops[i]? = some oi → (∃ e ∈ oj.after, Region.binds .any e = true ∧ e.on = i) ∨ oi.apart ops oj = true := by
  simp only [growB, Bool.and_eq_true, List.all_eq_true, List.mem_range] at h
  refine ⟨h.1, fun j oj hj => ?_⟩
  have hjn : j < ops.size := (Array.getElem?_eq_some_iff.1 hj).1
  have h1 := h.2 j hjn
  simp only [hj, Bool.and_eq_true, List.all_eq_true, List.mem_range] at h1
  obtain ⟨⟨hd, ha⟩, hp⟩ := h1
  refine ⟨fun d he => ?_, fun e he hb => ?_, fun i oi hij hi => ?_⟩
  · rw [he] at hd
    simpa [Nat.blt_eq] using hd
  · have := Array.all_eq_true_iff_forall_mem.1 ha e he
    simp only [hb, Bool.not_true, Bool.false_or] at this
    simpa [Nat.blt_eq] using this
  · have h2 := hp i hij
    simp only [hi, Bool.or_eq_true] at h2
    rcases h2 with h2 | h2
    · obtain ⟨e, he, hb⟩ := Array.any_eq_true'.1 h2
      simp only [Bool.and_eq_true] at hb
      exact .inl ⟨e, he, hb.1, Nat.eq_of_beq_eq_true hb.2⟩
    · exact .inr h2

/-- listed or not -/
def lis (listed : Array Bool) (j : Nat) : Bool := listed.getD j false

theorem lis_set_ne {listed : Array Bool} {i j : Nat} (h : i ≠ j) : lis (listed.setIfInBounds i true) j = lis listed j := getD_set_ne false h
theorem lis_set_self {listed : Array Bool} {i : Nat} (h : i < listed.size) : lis (listed.setIfInBounds i true) i = true := by simp [lis, h]

def Inv (ops : Array Oper) (w0 : World) (n0 : Nat) (d0 : List Deferred) (F : Nat → Known) (K0 : Tmp → Known) (L : Nat → Bool) (a : Act) (w : World) : Prop :=
  Gr w0 w ∧ a.tmps.size = n0 ∧ a.defers = d0 ∧ ∀ t, knowL (dstOf ops) F K0 L ops.size t (a.tmps.getD t undef) w

theorem put_getD_self {a : Act} {d : Tmp} {u : Value} (h : d < a.tmps.size) : (a.put (some d) u).tmps.getD d undef = u := by simp [Act.put, h]
theorem put_getD_ne {a : Act} {o : Option Tmp} {t : Tmp} {u : Value} (h : o ≠ some t) : (a.put o u).tmps.getD t undef = a.tmps.getD t undef := by
  cases o with
  | none => rfl
  | some d =>
    have : d ≠ t := fun e => h (by rw [e])
    simp [Act.put, Array.getElem?_setIfInBounds_ne this]
theorem put_size {a : Act} {o : Option Tmp} {u : Value} : (a.put o u).tmps.size = a.tmps.size := by cases o <;> simp [Act.put]
theorem put_defers {a : Act} {o : Option Tmp} {u : Value} : (a.put o u).defers = a.defers := by cases o <;> rfl

theorem apart_first {x y : Oper} (h : x.apart ops y = true) {d : Tmp} (hd : x.dst = some d) : (y.looksAt ops).contains d = false := by
  have := (Oper.apart_spec h).1 d hd
  simpa using this
theorem apart_second {x y : Oper} (h : x.apart ops y = true) {d : Tmp} (hd : x.dst = some d) : y.dst ≠ some d := (Oper.apart_spec h).2.1 d hd
theorem apart_third {x y : Oper} (h : x.apart ops y = true) {d : Tmp} (hd : y.dst = some d) : (x.looksAt ops).contains d = false := by
  have := (Oper.apart_spec h).2.2 d hd
  simpa using this

def Closed (ops : Array Oper) (L : Nat → Bool) : Prop := ∀ (j : Nat) (oj : Oper), ops[j]? = some oj → L j = true → ∀ e ∈ oj.after, Region.binds .any e = true → L e.on = true

theorem Inv.step {d0 : List Deferred} {F : Nat → Known} {K0 : Tmp → Known} {listed : Array Bool} {a : Act} {w w' : World} {i : Nat} {o : Oper} {u : Value} (hB : growB ops n0 = true) (h0 : ∀ t, Stays (K0 t)) (hF : ∀ k, Stays (F k))
    (hsz : listed.size = ops.size) (hi : ops[i]? = some o) (hun : lis listed i = false) (hcl : Closed ops (lis listed)) (hinv : Inv ops w0 n0 d0 F K0 (lis listed) a w) (hg : Gr w w') (hu : F i u w') :
    Inv ops w0 n0 d0 F K0 (lis (listed.setIfInBounds i true)) (a.put o.dst u) w' := by
  obtain ⟨hg0, hs, hd, hk⟩ := hinv
  have hin : i < ops.size := (Array.getElem?_eq_some_iff.1 hi).1
  refine ⟨hg0.trans hg, by rw [put_size]; exact hs, by rw [put_defers]; exact hd, fun t => ?_⟩
  by_cases ht : o.dst = some t
  · have hlt : t < n0 := ((growB_spec hB).2 i o hi).1 t ht
    have hdi : dstOf ops i = some t := by simp [dstOf, hi, ht]
    rw [knowL_skip ops.size (i + 1) (by omega) ?_, knowL, if_pos ⟨hdi, lis_set_self (listed := listed) (by omega)⟩]
    · rw [ht, put_getD_self (show t < a.tmps.size by rw [hs]; exact hlt)]; exact hu
    · intro j hij hjn hdj
      obtain ⟨oj, hj⟩ : ∃ oj, ops[j]? = some oj := ⟨ops[j], by simp [hjn]⟩
      have hdj' : oj.dst = some t := by simpa [dstOf, hj] using hdj
      rw [lis_set_ne (by omega)]
      rcases ((growB_spec hB).2 j oj hj).2.2 i o (by omega) hi with ⟨e, he, hb, hei⟩ | hap
      · rw [Bool.eq_false_iff]
        intro hl
        have := hcl j oj hj hl e he hb
        rw [hei, hun] at this
        cases this
      · exact absurd hdj' (apart_second hap ht)
  · rw [put_getD_ne ht, knowL_congr (L' := lis listed) ops.size ?_]
    · exact knowL_stays h0 hF _ _ _ _ _ (hk t) hg
    · intro j hjn hdj
      refine lis_set_ne (fun e => ht ?_)
      subst e
      simpa [dstOf, hi] using hdj

theorem any_of_grow {Q : Exit → Act → World → Prop} {d0 : List Deferred} {F : Nat → Known} {K0 : Tmp → Known} (hB : growB ops n0 = true) (h0 : ∀ t, Stays (K0 t)) (hF : ∀ k, Stays (F k)) (hloc : ∀ k, k < ops.size → Local P ops w0 n0 F K0 k)
    (hQ : ∀ a w, Gr w0 w → a.tmps.size = n0 → a.defers = d0 → (∀ t, know (dstOf ops) F K0 ops.size t (a.tmps.getD t undef) w) → Q .normal a w) :
    ∀ (fuel : Nat) (listed : Array Bool) (S : List Nat) (a : Act) (w : World), listed.size = ops.size → (∀ j, j < ops.size → lis listed j = false → j ∈ S) → S.length ≤ fuel → Closed ops (lis listed) → Inv ops w0 n0 d0 F K0 (lis listed) a w →
      wpAny P .any ops Q fuel listed a w := by
  have hspec := (growB_spec hB).2
  have fin : ∀ (listed : Array Bool) (a : Act) (w : World), listed.size = ops.size → (∀ j, j < ops.size → lis listed j = true) → Inv ops w0 n0 d0 F K0 (lis listed) a w → Q .normal a w := by
    intro listed a w hsz hall ⟨hg, hs, hd, hk⟩
    refine hQ a w hg hs hd (fun t => ?_)
    rw [← knowL_all (L := lis listed) ops.size t (fun j hj _ => hall j hj)]
    exact hk t
  have hready : ∀ (listed : Array Bool) (j : Nat), listed.size = ops.size → j < ops.size → lis listed j = false → (∀ k, k < j → lis listed k = true) → j ∈ Region.ready .any ops listed := by
    intro listed j hsz hj hl hbel
    refine mem_ready.2 ⟨?_, ops[j], by simp [hj], fun e he hb => hbel _ ((hspec j ops[j] (by simp [hj])).2.1 e he hb)⟩
    have hj' : j < listed.size := by omega
    simpa [lis, hj'] using hl
  intro fuel
  induction fuel with
  | zero =>
    intro listed S a w hsz hS hlen hcl hinv
    have hnil : S = [] := List.eq_nil_of_length_eq_zero (by omega)
    subst hnil
    have hall : ∀ j, j < ops.size → lis listed j = true := fun j hj => by
      cases hl : lis listed j with
      | true => rfl
      | false => exact absurd (hS j hj hl) (by simp)
    refine ⟨?_, fin listed a w hsz hall hinv⟩
    rw [List.eq_nil_iff_forall_not_mem]
    intro j hj
    obtain ⟨hu, o, ho, _⟩ := mem_ready.1 hj
    have hjn : j < ops.size := (Array.getElem?_eq_some_iff.1 ho).1
    have := hall j hjn
    have hj' : j < listed.size := by omega
    simp [lis, hj'] at this hu
    rw [this] at hu
    cases hu
  | succ fuel ih =>
    intro listed S a w hsz hS hlen hcl hinv
    refine ⟨fun hr => ?_, fun i hi => ?_⟩
    · have hall : ∀ j, j < ops.size → lis listed j = true := by
        intro j
        induction j using Nat.strongRecOn with
        | ind j ihj =>
          intro hj
          cases hl : lis listed j with
          | true => rfl
          | false =>
            have := hready listed j hsz hj hl (fun k hk => ihj k hk (by omega))
            rw [hr] at this
            exact absurd this (by simp)
      exact fin listed a w hsz hall hinv
    · obtain ⟨hun0, o, ho, hdeps⟩ := mem_ready.1 hi
      have hin : i < ops.size := (Array.getElem?_eq_some_iff.1 ho).1
      have hin' : i < listed.size := by omega
      have hun : lis listed i = false := by simpa [lis, hin'] using hun0
      have hdeps' : ∀ e ∈ o.after, Region.binds .any e = true → lis listed e.on = true := hdeps
      have hlook : ∀ t, (o.looksAt ops).contains t = true → know (dstOf ops) F K0 i t (a.tmps.getD t undef) w := by
        intro t ht
        have hk := hinv.2.2.2 t
        rw [knowL_skip ops.size i (by omega) ?_, knowL_all i t ?_] at hk
        · exact hk
        · intro j hji hdj
          obtain ⟨oj, hj⟩ : ∃ oj, ops[j]? = some oj := ⟨ops[j]'(by omega), by simp [show j < ops.size by omega]⟩
          have hdj' : oj.dst = some t := by simpa [dstOf, hj] using hdj
          rcases (hspec i o ho).2.2 j oj hji hj with ⟨e, he, hb, hej⟩ | hap
          · rw [← hej]; exact hdeps' e he hb
          · rw [apart_first hap hdj'] at ht; cases ht
        · intro j hij hjn hdj
          by_cases he : j = i
          · subst he; exact hun
          · obtain ⟨oj, hj⟩ : ∃ oj, ops[j]? = some oj := ⟨ops[j], by simp [hjn]⟩
            have hdj' : oj.dst = some t := by simpa [dstOf, hj] using hdj
            rcases (hspec j oj hj).2.2 i o (by omega) ho with ⟨e, he', hb, hei⟩ | hap
            · rw [Bool.eq_false_iff]
              intro hl
              have := hcl j oj hj hl e he' hb
              rw [hei, hun] at this
              cases this
            · rw [apart_third hap hdj'] at ht; cases ht
      have hcl' : Closed ops (lis (listed.setIfInBounds i true)) := by
        intro j oj hj hl e he hb
        by_cases hji : j = i
        · subst hji
          rw [ho] at hj
          injection hj with hj
          subst hj
          have h1 := hdeps' e he hb
          by_cases hej : e.on = j
          · rw [hej]; exact lis_set_self hin'
          · rw [lis_set_ne (Ne.symm hej)]; exact h1
        · rw [lis_set_ne (Ne.symm hji)] at hl
          have h1 := hcl j oj hj hl e he hb
          by_cases hej : e.on = i
          · rw [hej]; exact lis_set_self hin'
          · rw [lis_set_ne (Ne.symm hej)]; exact h1
      have hsz' : (listed.setIfInBounds i true).size = ops.size := by simpa using hsz
      have hiS : i ∈ S := hS i hin hun
      have hS' : ∀ j, j < ops.size → lis (listed.setIfInBounds i true) j = false → j ∈ S.erase i := by
        intro j hj hl
        by_cases hji : j = i
        · subst hji; rw [lis_set_self hin'] at hl; cases hl
        · rw [lis_set_ne (Ne.symm hji)] at hl
          exact (List.mem_erase_of_ne hji).2 (hS j hj hl)
      have hlen' : (S.erase i).length ≤ fuel := by rw [List.length_erase_of_mem hiS]; omega
      have next : ∀ (u : Value) (w' : World), Gr w w' → F i u w' → wpAny P .any ops Q fuel (listed.setIfInBounds i true) (a.put o.dst u) w' := fun u w' hg hu =>
        ih _ _ _ _ hsz' hS' hlen' hcl' (Inv.step hB h0 hF hsz ho hun hcl hinv hg hu)
      have hl := hloc i hin o ho a w hinv.1 hinv.2.1 hlook
      unfold wpOp
      simp only [ho]
      split
      · rename_i hw
        rw [if_pos hw] at hl
        refine .inl ?_
        unfold does at hl
        unfold Oper.wp
        generalize (execOp a.eval o).run P w = r at *
        cases r with
        | ok n w' =>
          cases n <;> simp only [upon] at hl <;> simp only [Oper.upon]
          case value u => exact next u w' hl.1 hl.2
          case skip => exact next undef w' hl.1 hl.2
          case enter f args =>
            obtain ⟨_, hc⟩ := hl
            exact hc.mono fun e w'' ⟨u, he, hg', hu⟩ => by subst he; exact next u w'' hg' hu
        | halt x w' => simp only [upon] at hl
      · rename_i hw
        rw [if_neg hw] at hl
        exact next undef w (Gr.refl w) hl
end

/-- **A region whose order is open, walked once.** -/
theorem wp_region_grow {P : Program} {ops : Array Oper} {id : Nat} {Q : Exit → Act → World → Prop} {a : Act} {w : World} (hm : P.follows .mixedOrders = true) (hB : growB ops a.tmps.size = true)
    (h : wpGrow P ops w.drew a.tmps.size (fun K => ∀ a' w', Gr w.drew w' → a'.tmps.size = a.tmps.size → a'.defers = a.defers → (∀ t, K t (a'.tmps.getD t undef) w') → Q .normal a' w') ops.toList (fun t v _ => v = a.tmps.getD t undef)) :
    (Code.region id ops true).wp P Q a w := by
  refine wp_region_any hm ?_
  show wpAny P .any ops Q ops.size (Array.replicate ops.size false) a w.drew
  have h0 : ∀ t : Tmp, Stays (fun v (_ : World) => v = a.tmps.getD t undef) := fun t v w w' h _ => h
  obtain ⟨F, hF, hloc, hQ⟩ := found (P := P) (ops := ops) (w0 := w.drew) (n0 := a.tmps.size) ops.toList 0 (fun _ _ _ => True) (fun t v _ => v = a.tmps.getD t undef) (fun j => by simp) h0 (fun _ => stays_undef) (fun k hk => absurd hk (by omega)) h
  simp only [Array.length_toList, Nat.zero_add] at hloc hQ
  refine any_of_grow (d0 := a.defers) hB h0 hF hloc hQ ops.size _ (List.range ops.size) a w.drew (by simp) (fun j hj _ => by simpa using hj) (by simp) ?_ ?_
  · intro j oj hj hl
    have hjn : j < ops.size := (Array.getElem?_eq_some_iff.1 hj).1
    simp [lis, hjn] at hl
  · refine ⟨Gr.refl _, rfl, rfl, fun t => ?_⟩
    rw [knowL_skip ops.size 0 (by omega) (fun j _ hjn _ => by simp [lis, hjn])]
    rfl

end Go.Proofs.Ythpaoeiackbdoaa.Grow

/-
  The steps of a growing region's walk, an operation each. No program.
-/
namespace Go.Proofs.Ythpaoeiackbdoaa.Grow
open Go Go.RowKit Go.Proofs.Ythpaoeiackbdoaa

/-- just this value -/
abbrev Is (c : Value) : Known := fun v _ => v = c
/-- a slice that reads as these bytes -/
abbrev Sl (l : List UInt8) : Known := fun v w => ∃ A c, v = .slice A l.length c ∧ By w A c l
theorem Is.stays (c : Value) : Stays (Is c) := fun _ _ _ h _ => h
theorem Sl.stays (l : List UInt8) : Stays (Sl l) := fun _ _ _ ⟨A, c, h1, h2⟩ hg => ⟨A, c, h1, h2.gr hg⟩

/-- what is known of an operand -/
def Kn (K : Tmp → Known) : Operand → Known → Prop
  | .tmp t, Φ => K t = Φ
  | .const v, Φ => ∀ w, Φ v w
  | _, _ => False

/-- is the operation carried out -/
def Wanted (ops : Array Oper) (K : Tmp → Known) (n0 : Nat) (o : Oper) (b : Bool) : Prop :=
  (b = true ∧ o.guard = none) ∨ ∃ g want t, o.guard = some (g, want) ∧ ((ops[g]?).bind (·.dst)) = some t ∧ K t = Is (.bool (want == b)) ∧ t < n0

section
variable {P : Program} {ops : Array Oper} {w0 : World} {n0 : Nat} {Q : (Tmp → Known) → Prop} {o : Oper} {rest : List Oper} {K : Tmp → Known} {Φ : Known}

theorem upd_stays {d : Option Tmp} (h : ∀ t, Stays (K t)) (hΦ : Stays Φ) : ∀ t, Stays (upd K d Φ t) := fun t => by
  cases d with
  | none => exact h t
  | some d =>
    show Stays (bif Nat.beq d t then Φ else K t)
    cases Nat.beq d t
    · exact h t
    · exact hΦ

theorem looks_op {x : Operand} {Ψ : Known} (hx : x ∈ o.op.operands) (hk : Kn K x Ψ) {a : Act} {w : World} (hl : ∀ t, (o.looksAt ops).contains t = true → K t (a.tmps.getD t undef) w) : Ψ (a.eval x) w := by
  cases x with
  | tmp t =>
    have : (o.looksAt ops).contains t = true := by
      simp only [List.contains_eq_mem, decide_eq_true_eq]
      exact List.mem_append_left _ (List.mem_filterMap.2 ⟨.tmp t, by simpa using hx, rfl⟩)
    have h := hl t this
    rw [show K t = Ψ from hk] at h
    exact h
  | const v => exact hk w
  | global g => exact absurd hk (by simp [Kn])
  | func f => exact absurd hk (by simp [Kn])

theorem wanted_is {b : Bool} (hw : Wanted ops K n0 o b) {a : Act} {w : World} (hs : a.tmps.size = n0) (hl : ∀ t, (o.looksAt ops).contains t = true → K t (a.tmps.getD t undef) w) : Region.wanted o (yielded ops a.tmps) = b := by
  rcases hw with ⟨rfl, hg⟩ | ⟨g, want, t, hg, ht, hk, hn⟩
  · simp [Region.wanted, hg]
  · have h := hl t (by simp [Oper.looksAt, hg, ht])
    rw [hk] at h
    have h2 : a.tmps[t]? = some (.bool (want == b)) := by
      have : t < a.tmps.size := by rw [hs]; exact hn
      simp [this] at h ⊢
      exact h
    have hy : yielded ops a.tmps g = some (want == b) := by
      unfold yielded
      rw [ht]
      simp [h2]
    unfold Region.wanted
    simp only [hg, hy]
    cases want <;> cases b <;> rfl

/-- an operation that is carried out -/
theorem grow_step (hw : Wanted ops K n0 o true) (hst : (∀ t, Stays (K t)) → Stays Φ)
    (hdo : ∀ a w, Gr w0 w → a.tmps.size = n0 → (∀ t, (o.looksAt ops).contains t = true → K t (a.tmps.getD t undef) w) → does P o a w Φ) (h : wpGrow P ops w0 n0 Q rest (upd K o.dst Φ)) : wpGrow P ops w0 n0 Q (o :: rest) K :=
  ⟨Φ, hst, fun a w hg hs hl => by rw [if_pos (wanted_is hw hs hl)]; exact hdo a w hg hs hl, h⟩
/-- one that is passed over -/
theorem grow_skip (hw : Wanted ops K n0 o false) (h : wpGrow P ops w0 n0 Q rest (upd K o.dst (Is undef))) : wpGrow P ops w0 n0 Q (o :: rest) K :=
  ⟨Is undef, fun _ => Is.stays _, fun a w _ hs hl => by rw [wanted_is hw hs hl]; rfl, h⟩

theorem grow_move (x : Operand) (ho : o.op = .move x ∨ o.op = .assign x) (hw : Wanted ops K n0 o true) (hk : Kn K x Φ) (hst : Stays Φ) (h : wpGrow P ops w0 n0 Q rest (upd K o.dst Φ)) : wpGrow P ops w0 n0 Q (o :: rest) K := by
  refine grow_step hw (fun _ => hst) (fun a w _ _ hl => ?_) h
  have hv : Φ (a.eval x) w := looks_op (by rcases ho with ho | ho <;> simp [ho, Op.operands]) hk hl
  unfold does execOp
  rcases ho with ho | ho <;> rw [ho] <;> exact ⟨Gr.refl w, hv⟩

theorem grow_mv {x : Operand} {c : Value} (ho : o.op = .move x ∨ o.op = .assign x) (hw : Wanted ops K n0 o true) (hk : Kn K x (Is c)) (h : wpGrow P ops w0 n0 Q rest (upd K o.dst (Is c))) : wpGrow P ops w0 n0 Q (o :: rest) K :=
  grow_move x ho hw hk (Is.stays c) h
theorem grow_mvs {x : Operand} {l : List UInt8} (ho : o.op = .move x ∨ o.op = .assign x) (hw : Wanted ops K n0 o true) (hk : Kn K x (Sl l)) (h : wpGrow P ops w0 n0 Q rest (upd K o.dst (Sl l))) : wpGrow P ops w0 n0 Q (o :: rest) K :=
  grow_move x ho hw hk (Sl.stays l) h
theorem grow_const {c : Value} (ho : o.op = .move (.const c) ∨ o.op = .assign (.const c)) (hw : Wanted ops K n0 o true) (h : wpGrow P ops w0 n0 Q rest (upd K o.dst (Is c))) : wpGrow P ops w0 n0 Q (o :: rest) K :=
  grow_move (.const c) ho hw (fun _ => rfl) (Is.stays c) h

theorem grow_bin {b : BinOp} {xt rt : TypeId} {x y : Operand} {c1 c2 c : Value} (ho : o.op = .binOp b xt x y rt) (hw : Wanted ops K n0 o true) (hx : Kn K x (Is c1)) (hy : Kn K y (Is c2))
    (hr : ∀ w, (do eqGuard b xt x y c1 c2; binOp b xt c1 c2 : Sem Value).run P w = .ok c w) (h : wpGrow P ops w0 n0 Q rest (upd K o.dst (Is c))) : wpGrow P ops w0 n0 Q (o :: rest) K := by
  refine grow_step hw (fun _ => Is.stays _) (fun a w _ _ hl => ?_) h
  have h1 : a.eval x = c1 := looks_op (Ψ := Is c1) (by simp [ho, Op.operands]) hx hl
  have h2 : a.eval y = c2 := looks_op (Ψ := Is c2) (by simp [ho, Op.operands]) hy hl
  unfold does execOp
  rw [ho]
  simp only [h1, h2]
  rw [Sem.run_bind, hr w]
  exact ⟨Gr.refl w, rfl⟩

theorem grow_un {u : UnOp} {xt : TypeId} {x : Operand} {c1 c : Value} (ho : o.op = .unOp u xt x) (hw : Wanted ops K n0 o true) (hx : Kn K x (Is c1)) (hr : ∀ w, (Op.unary u c1).run P w = .ok c w) (h : wpGrow P ops w0 n0 Q rest (upd K o.dst (Is c))) :
    wpGrow P ops w0 n0 Q (o :: rest) K := by
  refine grow_step hw (fun _ => Is.stays _) (fun a w _ _ hl => ?_) h
  have h1 : a.eval x = c1 := looks_op (Ψ := Is c1) (by simp [ho, Op.operands]) hx hl
  unfold does execOp
  rw [ho]
  simp only [h1]
  rw [Sem.run_bind, hr w]
  exact ⟨Gr.refl w, rfl⟩

theorem grow_pick_yes {c x y : Operand} (ho : o.op = .pick c x y) (hw : Wanted ops K n0 o true) (hc : Kn K c (Is (.bool true))) (hx : Kn K x Φ) (hst : Stays Φ) (h : wpGrow P ops w0 n0 Q rest (upd K o.dst Φ)) : wpGrow P ops w0 n0 Q (o :: rest) K := by
  refine grow_step hw (fun _ => hst) (fun a w _ _ hl => ?_) h
  have h1 : a.eval c = .bool true := looks_op (Ψ := Is (.bool true)) (by simp [ho, Op.operands]) hc hl
  have h2 : Φ (a.eval x) w := looks_op (by simp [ho, Op.operands]) hx hl
  unfold does execOp
  rw [ho]
  simp only [h1]
  simp only [Sem.run_bind, asBool, Sem.run_pure, Result.andThen_ok]
  exact ⟨Gr.refl w, h2⟩
theorem grow_pick_no {c x y : Operand} (ho : o.op = .pick c x y) (hw : Wanted ops K n0 o true) (hc : Kn K c (Is (.bool false))) (hy : Kn K y Φ) (hst : Stays Φ) (h : wpGrow P ops w0 n0 Q rest (upd K o.dst Φ)) : wpGrow P ops w0 n0 Q (o :: rest) K := by
  refine grow_step hw (fun _ => hst) (fun a w _ _ hl => ?_) h
  have h1 : a.eval c = .bool false := looks_op (Ψ := Is (.bool false)) (by simp [ho, Op.operands]) hc hl
  have h2 : Φ (a.eval y) w := looks_op (by simp [ho, Op.operands]) hy hl
  unfold does execOp
  rw [ho]
  simp only [h1]
  simp only [Sem.run_bind, asBool, Sem.run_pure, Result.andThen_ok]
  exact ⟨Gr.refl w, h2⟩

theorem grow_conv {src dst e : TypeId} {x : Operand} {l : List UInt8} (ho : o.op = .convert src dst x) (hw : Wanted ops K n0 o true) (hx : Kn K x (Sl l)) (hs : P.underlying src = some (.slice e)) (he : P.underlying e = some (.int .u8)) (hd : P.underlying dst = some .string)
    (h : wpGrow P ops w0 n0 Q rest (upd K o.dst (Is (.string (bs l))))) : wpGrow P ops w0 n0 Q (o :: rest) K := by
  refine grow_step hw (fun _ => Is.stays _) (fun a w _ _ hl => ?_) h
  obtain ⟨A, c, h1, h2⟩ : ∃ A c, a.eval x = .slice A l.length c ∧ By w A c l := looks_op (Ψ := Sl l) (by simp [ho, Op.operands]) hx hl
  unfold does execOp
  rw [ho]
  simp only [h1]
  rw [Sem.run_bind, run_conv w src dst e hs he hd _ _ rfl h2.rd]
  exact ⟨Gr.refl w, rfl⟩

theorem enters {f : FuncId} {fn : Func} (hf : P.funcs[f]? = some fn) (hn : (fn.name == "runtime.NumGoroutine") = false) (hb : fn.body.isNone = false) (args : Array Value) (w : World) : (callFunc f args).run P w = .ok (.enter f args) w := by
  have h1 : ¬ fn.name = "runtime.NumGoroutine" := by simpa using hn
  have h2 : ¬ fn.body = none := fun e => by rw [e] at hb; cases hb
  simp [callFunc, hf, h1, h2]

theorem grow_call1 {f : FuncId} {x : Operand} {ats : Array TypeId} {Ψ : Known} {fn : Func} (ho : o.op = .call { callee := .value (.func f), args := #[x], argTypes := ats }) (hw : Wanted ops K n0 o true) (hf : P.funcs[f]? = some fn) (hn : (fn.name == "runtime.NumGoroutine") = false) (hb : fn.body.isNone = false)
    (hx : Kn K x Ψ) (hst : Stays Φ) (hc : ∀ v w, Gr w0 w → Ψ v w → Calls P f #[v] w fun e w' => ∃ u, e = .returned u ∧ Gr w w' ∧ Φ u w') (h : wpGrow P ops w0 n0 Q rest (upd K o.dst Φ)) : wpGrow P ops w0 n0 Q (o :: rest) K := by
  refine grow_step hw (fun _ => hst) (fun a w hg _ hl => ?_) h
  have h1 : Ψ (a.eval x) w := looks_op (by simp [ho, Op.operands, Call.operands]) hx hl
  obtain ⟨dst, op, ty, pos, after, guard⟩ := o
  simp only at ho
  subst ho
  unfold does
  rw [execOp_call_go, enters hf hn hb]
  exact ⟨Gr.refl w, by simpa using hc _ w hg h1⟩

theorem grow_call2 {f : FuncId} {x y : Operand} {ats : Array TypeId} {Ψ Ψ' : Known} {fn : Func} (ho : o.op = .call { callee := .value (.func f), args := #[x, y], argTypes := ats }) (hw : Wanted ops K n0 o true) (hf : P.funcs[f]? = some fn) (hn : (fn.name == "runtime.NumGoroutine") = false) (hb : fn.body.isNone = false)
    (hx : Kn K x Ψ) (hy : Kn K y Ψ') (hst : Stays Φ) (hc : ∀ v u w, Gr w0 w → Ψ v w → Ψ' u w → Calls P f #[v, u] w fun e w' => ∃ u, e = .returned u ∧ Gr w w' ∧ Φ u w') (h : wpGrow P ops w0 n0 Q rest (upd K o.dst Φ)) : wpGrow P ops w0 n0 Q (o :: rest) K := by
  refine grow_step hw (fun _ => hst) (fun a w hg _ hl => ?_) h
  have h1 : Ψ (a.eval x) w := looks_op (by simp [ho, Op.operands, Call.operands]) hx hl
  have h2 : Ψ' (a.eval y) w := looks_op (by simp [ho, Op.operands, Call.operands]) hy hl
  obtain ⟨dst, op, ty, pos, after, guard⟩ := o
  simp only at ho
  subst ho
  unfold does
  rw [execOp_call_go, enters hf hn hb]
  exact ⟨Gr.refl w, by simpa using hc _ _ w hg h1 h2⟩

theorem eqg_plain (b : BinOp) (xt : TypeId) (x y : Operand) (c1 c2 : Value) (h1 : c1 ≠ .nilIface) (h2 : ∀ l, c1 ≠ .agg l) (w : World) : (eqGuard b xt x y c1 c2).run P w = .ok () w := by
  cases b <;> first | rfl | (cases c1 <;> first | rfl | exact absurd rfl h1 | exact absurd rfl (h2 _))
theorem run_with_guard {b : BinOp} {xt : TypeId} {x y : Operand} {c1 c2 c : Value} (h1 : c1 ≠ .nilIface) (h2 : ∀ l, c1 ≠ .agg l) {w : World} (h : (binOp b xt c1 c2).run P w = .ok c w) :
    (do eqGuard b xt x y c1 c2; binOp b xt c1 c2 : Sem Value).run P w = .ok c w := by
  rw [Sem.run_bind, eqg_plain b xt x y c1 c2 h1 h2 w]
  exact h

/-- two ints -/
theorem grow_int {b : BinOp} {xt rt : TypeId} {x y : Operand} {k : IntKind} {m n : Int} {c : Value} (ho : o.op = .binOp b xt x y rt) (hw : Wanted ops K n0 o true) (hx : Kn K x (Is (.int k m))) (hy : Kn K y (Is (.int k n)))
    (hr : binOp b xt (.int k m) (.int k n) = pure c) (h : wpGrow P ops w0 n0 Q rest (upd K o.dst (Is c))) : wpGrow P ops w0 n0 Q (o :: rest) K :=
  grow_bin ho hw hx hy (fun w => run_with_guard (by simp) (by simp) (by rw [hr]; rfl)) h
theorem grow_int_same {xt rt : TypeId} {x y : Operand} {k : IntKind} {m n : Int} (hmn : m = n) (ho : o.op = .binOp .eql xt x y rt) (hw : Wanted ops K n0 o true) (hx : Kn K x (Is (.int k m))) (hy : Kn K y (Is (.int k n)))
    (h : wpGrow P ops w0 n0 Q rest (upd K o.dst (Is (.bool true)))) : wpGrow P ops w0 n0 Q (o :: rest) K :=
  grow_int ho hw hx hy (by rw [binOp_eql, hmn]; simp) h
theorem grow_bool_same {xt rt : TypeId} {x y : Operand} {m n : Bool} (hmn : m = n) (hb : P.underlying xt = some .bool) (ho : o.op = .binOp .eql xt x y rt) (hw : Wanted ops K n0 o true) (hx : Kn K x (Is (.bool m))) (hy : Kn K y (Is (.bool n)))
    (h : wpGrow P ops w0 n0 Q rest (upd K o.dst (Is (.bool true)))) : wpGrow P ops w0 n0 Q (o :: rest) K :=
  grow_bin ho hw hx hy (fun w => run_with_guard (by simp) (by simp) (by rw [run_eql_bool w xt m n hb, hmn]; simp)) h
theorem str_eq (a b : ByteArray) : (a.toList == b.toList) = decide (a = b) := by
  rw [ByteArray.toList_eq, ByteArray.toList_eq, Bool.eq_iff_iff, beq_iff_eq, decide_eq_true_eq]
  exact ⟨fun h => ByteArray.ext (Array.toList_inj.mp h), fun h => by rw [h]⟩
theorem grow_str_eq {xt rt : TypeId} {x y : Operand} {s u : ByteArray} (ho : o.op = .binOp .eql xt x y rt) (hw : Wanted ops K n0 o true) (hx : Kn K x (Is (.string s))) (hy : Kn K y (Is (.string u)))
    (h : wpGrow P ops w0 n0 Q rest (upd K o.dst (Is (.bool (decide (s = u)))))) : wpGrow P ops w0 n0 Q (o :: rest) K :=
  grow_bin ho hw hx hy (fun w => run_with_guard (by simp) (by simp) (by rw [binOp_string_eql, str_eq]; rfl)) h
theorem grow_str_neq {xt rt : TypeId} {x y : Operand} {s u : ByteArray} (ho : o.op = .binOp .neq xt x y rt) (hw : Wanted ops K n0 o true) (hx : Kn K x (Is (.string s))) (hy : Kn K y (Is (.string u)))
    (h : wpGrow P ops w0 n0 Q rest (upd K o.dst (Is (.bool (!decide (s = u)))))) : wpGrow P ops w0 n0 Q (o :: rest) K :=
  grow_bin ho hw hx hy (fun w => run_with_guard (by simp) (by simp) (by rw [binOp_string_neq, str_eq]; rfl)) h
theorem grow_str_same {xt rt : TypeId} {x y : Operand} {s u : ByteArray} (hsu : s = u) (ho : o.op = .binOp .eql xt x y rt) (hw : Wanted ops K n0 o true) (hx : Kn K x (Is (.string s))) (hy : Kn K y (Is (.string u)))
    (h : wpGrow P ops w0 n0 Q rest (upd K o.dst (Is (.bool true)))) : wpGrow P ops w0 n0 Q (o :: rest) K :=
  grow_str_eq ho hw hx hy (by rw [decide_eq_true hsu]; exact h)
theorem grow_not {xt : TypeId} {x : Operand} {b : Bool} (ho : o.op = .unOp .not xt x) (hw : Wanted ops K n0 o true) (hx : Kn K x (Is (.bool b))) (h : wpGrow P ops w0 n0 Q rest (upd K o.dst (Is (.bool (!b))))) : wpGrow P ops w0 n0 Q (o :: rest) K :=
  grow_un ho hw hx (fun _ => rfl) h

theorem look_bi {bi : Builtin} {x : Operand} {ats : Array TypeId} (ho : o.op = .call { callee := .builtin bi, args := #[x], argTypes := ats }) : x ∈ o.op.operands := by simp [ho, Op.operands, Call.operands]
theorem grow_len_sl {x : Operand} {t : TypeId} {l : List UInt8} (ho : o.op = .call { callee := .builtin .len, args := #[x], argTypes := #[t] }) (ht : P.underlying t = some (.slice (P.elem t))) (hw : Wanted ops K n0 o true) (hx : Kn K x (Sl l))
    (h : wpGrow P ops w0 n0 Q rest (upd K o.dst (Is (.int .i64 (l.length : Int))))) : wpGrow P ops w0 n0 Q (o :: rest) K := by
  refine grow_step hw (fun _ => Is.stays _) (fun a w _ _ hl => ?_) h
  obtain ⟨A, c, h1, _⟩ : ∃ A c, a.eval x = .slice A l.length c ∧ By w A c l := looks_op (Ψ := Sl l) (look_bi ho) hx hl
  unfold does execOp
  simp only [ho, resolve, invoke, builtin, Sem.run_bind, Sem.run_pure, Result.andThen_ok, List.map_toArray, List.map_cons, List.map_nil, h1, run_len_slice w t _ _ _ _ ht]
  exact ⟨Gr.refl w, rfl⟩
theorem grow_len_str {x : Operand} {t : TypeId} {s : ByteArray} (ho : o.op = .call { callee := .builtin .len, args := #[x], argTypes := #[t] }) (ht : P.underlying t = some .string) (hw : Wanted ops K n0 o true) (hx : Kn K x (Is (.string s)))
    (h : wpGrow P ops w0 n0 Q rest (upd K o.dst (Is (.int .i64 (s.size : Int))))) : wpGrow P ops w0 n0 Q (o :: rest) K := by
  refine grow_step hw (fun _ => Is.stays _) (fun a w _ _ hl => ?_) h
  have h1 : a.eval x = .string s := looks_op (Ψ := Is (.string s)) (look_bi ho) hx hl
  unfold does execOp
  simp only [ho, resolve, invoke, builtin, Sem.run_bind, Sem.run_pure, Result.andThen_ok, List.map_toArray, List.map_cons, List.map_nil, h1, run_len_string w t _ _ ht]
  exact ⟨Gr.refl w, rfl⟩

/-- 'b[:j]' -/
theorem grow_cut_h {t : TypeId} {x y : Operand} {k : IntKind} {l : List UInt8} {n : Int} (j : Nat) (ho : o.op = .slice t x none (some y) none) (ht : P.underlying t = some (.slice (P.elem t))) (hsz : ∀ w, (sizeOf (P.elem t)).run P w = .ok 1 w)
    (hw : Wanted ops K n0 o true) (hx : Kn K x (Sl l)) (hy : Kn K y (Is (.int k n))) (hn : n = (j : Int)) (hj : j ≤ l.length) (h : wpGrow P ops w0 n0 Q rest (upd K o.dst (Sl (l.take j)))) : wpGrow P ops w0 n0 Q (o :: rest) K := by
  subst hn
  refine grow_step hw (fun _ => Sl.stays _) (fun a w _ _ hl => ?_) h
  obtain ⟨A, c, h1, hb⟩ : ∃ A c, a.eval x = .slice A l.length c ∧ By w A c l := looks_op (Ψ := Sl l) (by simp [ho, Op.operands]) hx hl
  have h2 : a.eval y = .int k (j : Int) := looks_op (Ψ := Is (.int k (j : Int))) (by simp [ho, Op.operands]) hy hl
  have hle := hb.le
  unfold does execOp
  simp only [ho, h1, h2, Option.map_none, Option.map_some, Sem.run_bind, run_sliceAt_slice w t _ _ _ _ ht, run_slice_h w t A l.length c ht k (j : Int) (by omega) (by omega), hsz w, Result.andThen_ok]
  refine ⟨Gr.refl w, (if c = 0 then A else A.map (·.add 0)), c - 0, ?_, ?_⟩
  · simp [sliced, Nat.min_eq_left hj]
  · have := hb.cut 0 j (by omega) hj
    simpa using this
/-- 'b[i:]' -/
theorem grow_cut_l {t : TypeId} {x y : Operand} {k : IntKind} {l : List UInt8} {n : Int} (i : Nat) (ho : o.op = .slice t x (some y) none none) (ht : P.underlying t = some (.slice (P.elem t))) (hsz : ∀ w, (sizeOf (P.elem t)).run P w = .ok 1 w)
    (hw : Wanted ops K n0 o true) (hx : Kn K x (Sl l)) (hy : Kn K y (Is (.int k n))) (hn : n = (i : Int)) (hi : i ≤ l.length) (h : wpGrow P ops w0 n0 Q rest (upd K o.dst (Sl (l.drop i)))) : wpGrow P ops w0 n0 Q (o :: rest) K := by
  subst hn
  refine grow_step hw (fun _ => Sl.stays _) (fun a w _ _ hl => ?_) h
  obtain ⟨A, c, h1, hb⟩ : ∃ A c, a.eval x = .slice A l.length c ∧ By w A c l := looks_op (Ψ := Sl l) (by simp [ho, Op.operands]) hx hl
  have h2 : a.eval y = .int k (i : Int) := looks_op (Ψ := Is (.int k (i : Int))) (by simp [ho, Op.operands]) hy hl
  have hle := hb.le
  unfold does execOp
  simp only [ho, h1, h2, Option.map_none, Option.map_some, Sem.run_bind, run_sliceAt_slice w t _ _ _ _ ht, run_slice_l w t A l.length c ht k (i : Int) (by omega) (by omega), hsz w, Result.andThen_ok]
  refine ⟨Gr.refl w, (if c = i then A else A.map (·.add i)), c - i, ?_, ?_⟩
  · simp [sliced]
  · have := hb.cut i l.length hi (Nat.le_refl _)
    rw [List.take_of_length_le (by simp)] at this
    exact this

/-- what is known at the start, slot by slot, as far as it is wanted -/
def Ahead (w0 : World) (a : Act) (K : Tmp → Known) : Prop := (∀ t, Stays (K t)) ∧ ∀ t, K t (a.tmps.getD t undef) w0
theorem Ahead.none_ (w0 : World) (a : Act) : Ahead w0 a (fun _ _ _ => True) := ⟨fun _ => stays_undef, fun _ => trivial⟩
theorem Ahead.more {a : Act} (h : Ahead w0 a K) (t : Tmp) (hst : Stays Φ) (hv : Φ (a.tmps.getD t undef) w0) : Ahead w0 a (upd K (some t) Φ) := by
  refine ⟨upd_stays h.1 hst, fun s => ?_⟩
  show (bif Nat.beq t s then Φ else K s) _ _
  cases hb : Nat.beq t s
  · exact h.2 s
  · obtain rfl := Nat.eq_of_beq_eq_true hb
    exact hv
end

/-- a frame, slot by slot -/
theorem lay_frame (a : Act) (n0 : Nat) (hs : a.tmps.size = n0) : a = { tmps := ((List.range n0).map fun t => a.tmps.getD t undef).toArray, defers := a.defers } := by
  obtain ⟨tm, df⟩ := a
  simp only at hs
  subst hs
  congr 1
  apply Array.ext
  · simp
  · intro i h1 h2
    simp [h1]

theorem weaker {P : Program} {ops : Array Oper} {w0 : World} {n0 : Nat} {Q : (Tmp → Known) → Prop} : ∀ (l : List Oper) (K K' : Tmp → Known), (∀ t, Stays (K' t)) → (∀ t v w, Gr w0 w → K t v w → K' t v w) →
    (∀ K K', (∀ t v w, Gr w0 w → K t v w → K' t v w) → Q K' → Q K) → wpGrow P ops w0 n0 Q l K' → wpGrow P ops w0 n0 Q l K
  | [], K, K', _, hi, hQ, h => hQ K K' hi h
  | o :: l, K, K', hst, hi, hQ, ⟨Φ, h1, h2, h3⟩ => by
    refine ⟨Φ, fun _ => h1 hst, fun a w hg hs hl => h2 a w hg hs (fun t ht => hi t _ w hg (hl t ht)), ?_⟩
    refine weaker l (upd K o.dst Φ) (upd K' o.dst Φ) (upd_stays hst (h1 hst)) (fun t v w hg hk => ?_) hQ h3
    unfold upd at hk ⊢
    cases hd : o.dst with
    | none => rw [hd] at hk; exact hi t v w hg hk
    | some d =>
      rw [hd] at hk
      cases hb : Nat.beq d t
      · simp only [hb, cond_false] at hk ⊢; exact hi t v w hg hk
      · simp only [hb, cond_true] at hk ⊢; exact hk

theorem know_far {dst : Nat → Option Tmp} {F : Nat → Known} {K0 : Tmp → Known} {t : Tmp} : ∀ n, (∀ k, k < n → dst k ≠ some t) → know dst F K0 n t = K0 t
  | 0, _ => rfl
  | n + 1, h => by rw [know, if_neg (h n (by omega)), know_far n (fun k hk => h k (by omega))]

/-- slots that the region writes -/
def writesB (l : List Oper) (D : List Nat) : Bool := l.all fun o => match o.dst with | some d => D.contains d | none => true

/-- the same as 'wp_region_grow'; what the region does not write is as it was -/
theorem wp_region_grow_kept {P : Program} {l : List Oper} {id : Nat} {Q : Exit → Act → World → Prop} {a : Act} {w : World} (D : List Nat) (hD : writesB l D = true) (hm : P.follows .mixedOrders = true) (hB : growB l.toArray a.tmps.size = true)
    (h : wpGrow P l.toArray w.drew a.tmps.size (fun K => ∀ a' w', Gr w.drew w' → a'.tmps.size = a.tmps.size → a'.defers = a.defers → (∀ t, D.contains t = false → a'.tmps.getD t undef = a.tmps.getD t undef) → (∀ t, K t (a'.tmps.getD t undef) w') → Q .normal a' w') l
      (fun t v _ => v = a.tmps.getD t undef)) : (Code.region id l.toArray true).wp P Q a w := by
  refine wp_region_any hm ?_
  show wpAny P .any l.toArray Q l.toArray.size (Array.replicate l.toArray.size false) a w.drew
  have h0 : ∀ t : Tmp, Stays (fun v (_ : World) => v = a.tmps.getD t undef) := fun t v w w' h _ => h
  obtain ⟨F, hF, hloc, hQ⟩ := found (P := P) (ops := l.toArray) (w0 := w.drew) (n0 := a.tmps.size) l 0 (fun _ _ _ => True) (fun t v _ => v = a.tmps.getD t undef) (fun j => by simp) h0 (fun _ => stays_undef) (fun k hk => absurd hk (by omega)) h
  simp only [Nat.zero_add] at hloc hQ
  have hn : l.toArray.size = l.length := by simp
  refine any_of_grow (d0 := a.defers) hB h0 hF (fun k hk => hloc k (by omega)) (fun a' w' hg hs hd hk => ?_) l.toArray.size _ (List.range l.toArray.size) a w.drew (by simp) (fun j hj _ => by simpa using hj) (by simp) ?_ ?_
  · rw [hn] at hk
    refine hQ a' w' hg hs hd (fun t ht => ?_) hk
    have h1 := hk t
    rw [know_far l.length (fun k hk hd => ?_)] at h1
    · exact h1
    · simp only [dstOf, List.getElem?_toArray, Option.bind_eq_some_iff] at hd
      obtain ⟨o, ho, hod⟩ := hd
      have h2 := List.all_eq_true.1 hD o (List.mem_of_getElem? ho)
      rw [hod] at h2
      simp only at h2
      rw [ht] at h2
      cases h2
  · intro j oj hj hl
    have hjn : j < l.toArray.size := (Array.getElem?_eq_some_iff.1 hj).1
    simp only [List.size_toArray] at hjn
    simp [lis, hjn] at hl
  · refine ⟨Gr.refl _, rfl, rfl, fun t => ?_⟩
    rw [knowL_skip l.toArray.size 0 (by omega) (fun j _ hjn _ => by simp only [List.size_toArray] at hjn; simp [lis, hjn])]
    rfl

/-- **A region whose order is open, walked once, from what is known ahead of it**; what it does not write is as it was. -/
theorem wp_region_kept {P : Program} {l : List Oper} {id : Nat} {Q : Exit → Act → World → Prop} {a : Act} {w : World} (n0 : Nat) (D : List Nat) (hn : a.tmps.size = n0) (hD : writesB l D = true) (hm : P.follows .mixedOrders = true) (hB : growB l.toArray n0 = true)
    {K : Tmp → Known} (hK : Ahead w.drew a K)
    (h : wpGrow P l.toArray w.drew n0 (fun K => ∀ a' w', Gr w.drew w' → a'.tmps.size = n0 → a'.defers = a.defers → (∀ t, D.contains t = false → a'.tmps.getD t undef = a.tmps.getD t undef) → (∀ t, K t (a'.tmps.getD t undef) w') → Q .normal a' w') l K) :
    (Code.region id l.toArray true).wp P Q a w := by
  subst hn
  refine wp_region_grow_kept D hD hm hB ?_
  refine weaker _ _ K hK.1 (fun t v w' hg hv => ?_) (fun K K' hi hq a' w' hg hs hd hu hk => hq a' w' hg hs hd hu (fun t => hi t _ w' hg (hk t))) h
  rw [hv]
  exact hK.1 t _ _ _ (hK.2 t) hg

/-- a frame, slot by slot, what was not written as it was -/
theorem lay_kept (a b : Act) (n0 : Nat) (D : List Nat) (hs : b.tmps.size = n0) (hd : b.defers = a.defers) (hu : ∀ t, D.contains t = false → b.tmps.getD t undef = a.tmps.getD t undef) :
    b = { tmps := ((List.range n0).map fun t => bif D.contains t then b.tmps.getD t undef else a.tmps.getD t undef).toArray, defers := a.defers } := by
  have h := lay_frame b n0 hs
  rw [hd] at h
  have e : (fun t => bif D.contains t then b.tmps.getD t undef else a.tmps.getD t undef) = fun t => b.tmps.getD t undef := by
    funext t
    cases hc : D.contains t
    · simp only [cond_false]; exact (hu t hc).symm
    · rfl
  rw [e]
  exact h

theorem lay_kept_by (a b : Act) (n0 : Nat) (D : List Nat) (hs : b.tmps.size = n0) (hd : b.defers = a.defers) (hu : ∀ t, D.contains t = false → b.tmps.getD t undef = a.tmps.getD t undef) :
    ∃ X : Nat → Value, (∀ t, b.tmps.getD t undef = X t) ∧ b = { tmps := ((List.range n0).map fun t => bif D.contains t then X t else a.tmps.getD t undef).toArray, defers := a.defers } :=
  ⟨fun t => b.tmps.getD t undef, fun _ => rfl, lay_kept a b n0 D hs hd hu⟩

/-- **A region whose order is open, walked once, from what is known ahead of it.** -/
theorem wp_region_grown {P : Program} {l : List Oper} {id : Nat} {Q : Exit → Act → World → Prop} {a : Act} {w : World} (n0 : Nat) (hn : a.tmps.size = n0) (hm : P.follows .mixedOrders = true) (hB : growB l.toArray n0 = true) {K : Tmp → Known} (hK : Ahead w.drew a K)
    (h : wpGrow P l.toArray w.drew n0 (fun K => ∀ a' w', Gr w.drew w' → a'.tmps.size = n0 → a'.defers = a.defers → (∀ t, K t (a'.tmps.getD t undef) w') → Q .normal a' w') l K) :
    (Code.region id l.toArray true).wp P Q a w := by
  subst hn
  refine wp_region_grow hm hB ?_
  refine weaker _ _ K hK.1 (fun t v w' hg hv => ?_) (fun K K' hi hq a' w' hg hs hd hk => hq a' w' hg hs hd (fun t => hi t _ w' hg (hk t))) (by simpa using h)
  rw [hv]
  exact hK.1 t _ _ _ (hK.2 t) hg

end Go.Proofs.Ythpaoeiackbdoaa.Grow

/-
  More steps of a growing region's walk: indexes, loads. No program.
-/
namespace Go.Proofs.Ythpaoeiackbdoaa.Grow
open Go Go.RowKit Go.Proofs.Ythpaoeiackbdoaa

/-- this slice, which reads as these cells -/
abbrev Cl (ad : Addr) (n c : Nat) (xs : List Value) : Known := fun v w => v = .slice (some ad) n c ∧ n = xs.length ∧ ∀ j u, xs[j]? = some u → w.cell? (ad.add j) = some u
theorem Cl.stays (ad : Addr) (n c : Nat) (xs : List Value) : Stays (Cl ad n c xs) := fun _ _ _ ⟨h1, hn, h2⟩ hg => ⟨h1, hn, fun j u hu => gr_cell hg _ _ (h2 j u hu)⟩
/-- a pointer to a cell that holds this -/
abbrev Pt (u : Value) : Known := fun v w => ∃ a, v = .pointer (some a) ∧ w.cell? a = some u
theorem Pt.stays (u : Value) : Stays (Pt u) := fun _ _ _ ⟨a, h1, h2⟩ hg => ⟨a, h1, gr_cell hg _ _ h2⟩

/-- a pointer to a block of just these bytes -/
abbrev Pb (g : Nat) (e : TypeId) (l : List UInt8) : Known := fun v w => v = .pointer (some ⟨g, 0, none⟩) ∧ Bl w g e (bvs l).toArray
theorem Pb.stays (g : Nat) (e : TypeId) (l : List UInt8) : Stays (Pb g e l) := fun _ _ _ ⟨h1, h2⟩ hg => ⟨h1, h2.gr hg⟩

section
variable {P : Program} {ops : Array Oper} {w0 : World} {n0 : Nat} {Q : (Tmp → Known) → Prop} {o : Oper} {rest : List Oper} {K : Tmp → Known} {Φ : Known}

theorem grow_index {t : TypeId} {x y : Operand} {k : IntKind} {ad : Addr} {m c : Nat} {xs : List Value} {n : Int} {u : Value} (j : Nat) (ho : o.op = .indexAddr t x y) (ht : P.underlying t = some (.slice (P.elem t))) (hsz : ∀ w, (sizeOf (P.elem t)).run P w = .ok 1 w) (hw : Wanted ops K n0 o true)
    (hx : Kn K x (Cl ad m c xs)) (hy : Kn K y (Is (.int k n))) (hn : n = (j : Int)) (hu : xs[j]? = some u) (h : wpGrow P ops w0 n0 Q rest (upd K o.dst (Pt u))) : wpGrow P ops w0 n0 Q (o :: rest) K := by
  subst hn
  refine grow_step hw (fun _ => Pt.stays _) (fun a w _ _ hl => ?_) h
  obtain ⟨h1, hm, hc⟩ : a.eval x = .slice (some ad) m c ∧ m = xs.length ∧ ∀ j u, xs[j]? = some u → w.cell? (ad.add j) = some u := looks_op (Ψ := Cl ad m c xs) (by simp [ho, Op.operands]) hx hl
  have h2 : a.eval y = .int k (j : Int) := looks_op (Ψ := Is (.int k (j : Int))) (by simp [ho, Op.operands]) hy hl
  have hj : j < xs.length := (List.getElem?_eq_some_iff.1 hu).1
  unfold does execOp
  simp only [ho, h1, h2, Sem.run_bind, run_indexAt_slice w t _ _ _ _ _ ht]
  rw [if_pos (by omega), hsz w]
  simp only [Result.andThen_ok, Int.toNat_natCast, Nat.mul_one]
  exact ⟨Gr.refl w, _, rfl, hc j u hu⟩

theorem grow_load {t : TypeId} {x : Operand} {u : Value} (ho : o.op = .load t x) (ha : ∀ w, (isAgg t).run P w = .ok false w) (hw : Wanted ops K n0 o true) (hx : Kn K x (Pt u)) (h : wpGrow P ops w0 n0 Q rest (upd K o.dst (Is u))) : wpGrow P ops w0 n0 Q (o :: rest) K := by
  refine grow_step hw (fun _ => Is.stays _) (fun a w _ _ hl => ?_) h
  obtain ⟨ad, h1, hc⟩ : ∃ ad, a.eval x = .pointer (some ad) ∧ w.cell? ad = some u := looks_op (Ψ := Pt u) (by simp [ho, Op.operands]) hx hl
  unfold does execOp
  have hr : (Instr.loadAt t (.pointer (some ad))).run P w = .ok u w := by
    simp [Instr.loadAt, Instr.sureAddr, loadVar, ha w, hc]
  simp only [ho, h1]
  rw [Sem.run_bind, hr]
  exact ⟨Gr.refl w, rfl⟩

/-- 'x[:]' of an array of bytes that lies in memory -/
theorem grow_arr {t : TypeId} {x : Operand} {g : Nat} {e : TypeId} {n : Nat} {l : List UInt8} (ho : o.op = .slice t x none none none) (hw : Wanted ops K n0 o true) (hn : n = l.length) (hm : n ≤ maxLen) (hr : ∀ w, (Instr.sliceAt t (.pointer (some ⟨g, 0, none⟩)) none none none).run P w = .ok (.slice (some ⟨g, 0, none⟩) n n) w)
    (hx : Kn K x (Pb g e l)) (h : wpGrow P ops w0 n0 Q rest (upd K o.dst (Sl l))) : wpGrow P ops w0 n0 Q (o :: rest) K := by
  subst hn
  refine grow_step hw (fun _ => Sl.stays _) (fun a w _ _ hl => ?_) h
  obtain ⟨h1, hb⟩ : a.eval x = .pointer (some ⟨g, 0, none⟩) ∧ Bl w g e (bvs l).toArray := looks_op (Ψ := Pb g e l) (by simp [ho, Op.operands]) hx hl
  unfold does execOp
  simp only [ho, h1, Option.map_none, Sem.run_bind, hr w]
  refine ⟨Gr.refl w, some ⟨g, 0, none⟩, l.length, rfl, fun j hj => ⟨_, rfl, ?_⟩, Nat.le_refl _, hm, fun h => by cases h⟩
  have e2 : (⟨g, 0, none⟩ : Addr).add j = ⟨g, j, none⟩ := by unfold Addr.add; split <;> simp_all
  rw [e2, hb.cell j]
  simp [bvs, hj]

theorem grow_mvc {x : Operand} {ad : Addr} {n c : Nat} {xs : List Value} (ho : o.op = .move x ∨ o.op = .assign x) (hw : Wanted ops K n0 o true) (hk : Kn K x (Cl ad n c xs)) (h : wpGrow P ops w0 n0 Q rest (upd K o.dst (Cl ad n c xs))) : wpGrow P ops w0 n0 Q (o :: rest) K :=
  grow_move x ho hw hk (Cl.stays ad n c xs) h
end

end Go.Proofs.Ythpaoeiackbdoaa.Grow

/-
  More steps of a growing region's walk: fields of a struct that lies in memory, parts of several results. No program.
-/
namespace Go.Proofs.Ythpaoeiackbdoaa.Grow
open Go Go.RowKit Go.Proofs.Ythpaoeiackbdoaa

/-- a pointer to a block of these cells -/
abbrev Bx (g : Nat) (e : TypeId) (cs : Array Value) : Known := fun v w => v = .pointer (some ⟨g, 0, none⟩) ∧ Bl w g e cs
theorem Bx.stays (g : Nat) (e : TypeId) (cs : Array Value) : Stays (Bx g e cs) := fun _ _ _ ⟨h1, h2⟩ hg => ⟨h1, h2.gr hg⟩
/-- a pointer to a cell of whose value this is known -/
abbrev Pk (Ψ : Known) : Known := fun v w => ∃ a u, v = .pointer (some a) ∧ w.cell? a = some u ∧ Ψ u w
theorem Pk.stays {Ψ : Known} (h : Stays Ψ) : Stays (Pk Ψ) := fun _ _ _ ⟨a, u, h1, h2, h3⟩ hg => ⟨a, u, h1, gr_cell hg _ _ h2, h _ _ _ h3 hg⟩

section
variable {P : Program} {ops : Array Oper} {w0 : World} {n0 : Nat} {Q : (Tmp → Known) → Prop} {o : Oper} {rest : List Oper} {K : Tmp → Known} {Φ : Known}

/-- a pointer that is not nil -/
theorem grow_nil {x : Operand} {g : Nat} {e : TypeId} {cs : Array Value} (ho : o.op = .nilCheck x) (hw : Wanted ops K n0 o true) (hx : Kn K x (Bx g e cs)) (h : wpGrow P ops w0 n0 Q rest (upd K o.dst (Bx g e cs))) : wpGrow P ops w0 n0 Q (o :: rest) K := by
  refine grow_step hw (fun _ => Bx.stays _ _ _) (fun a w _ _ hl => ?_) h
  obtain ⟨h1, h2⟩ : a.eval x = .pointer (some ⟨g, 0, none⟩) ∧ Bl w g e cs := looks_op (Ψ := Bx g e cs) (by simp [ho, Op.operands]) hx hl
  unfold does execOp
  simp only [ho, h1]
  exact ⟨Gr.refl w, rfl, h2⟩
/-- 'x.F' -/
theorem grow_field {t : TypeId} {x : Operand} {i g j : Nat} {e : TypeId} {cs : Array Value} {u : Value} {Ψ : Known} (ho : o.op = .fieldAddr t x i) (hw : Wanted ops K n0 o true) (hx : Kn K x (Bx g e cs))
    (hr : ∀ w, (Instr.fieldAt t (.pointer (some ⟨g, 0, none⟩)) i).run P w = .ok (.pointer (some ⟨g, j, none⟩)) w) (hu : cs[j]? = some u) (hst : Stays Ψ) (hΨ : ∀ w, Gr w0 w → Ψ u w)
    (h : wpGrow P ops w0 n0 Q rest (upd K o.dst (Pk Ψ))) : wpGrow P ops w0 n0 Q (o :: rest) K := by
  refine grow_step hw (fun _ => Pk.stays hst) (fun a w hg _ hl => ?_) h
  obtain ⟨h1, h2⟩ : a.eval x = .pointer (some ⟨g, 0, none⟩) ∧ Bl w g e cs := looks_op (Ψ := Bx g e cs) (by simp [ho, Op.operands]) hx hl
  unfold does execOp
  simp only [ho, h1]
  rw [Sem.run_bind, hr w]
  exact ⟨Gr.refl w, _, u, rfl, by rw [h2.cell]; exact hu, hΨ w hg⟩
theorem grow_load_k {t : TypeId} {x : Operand} {Ψ : Known} (ho : o.op = .load t x) (ha : ∀ w, (isAgg t).run P w = .ok false w) (hw : Wanted ops K n0 o true) (hx : Kn K x (Pk Ψ)) (hst : Stays Ψ) (h : wpGrow P ops w0 n0 Q rest (upd K o.dst Ψ)) : wpGrow P ops w0 n0 Q (o :: rest) K := by
  refine grow_step hw (fun _ => hst) (fun a w _ _ hl => ?_) h
  obtain ⟨ad, u, h1, hc, hu⟩ : ∃ ad u, a.eval x = .pointer (some ad) ∧ w.cell? ad = some u ∧ Ψ u w := looks_op (Ψ := Pk Ψ) (by simp [ho, Op.operands]) hx hl
  unfold does execOp
  have hr : (Instr.loadAt t (.pointer (some ad))).run P w = .ok u w := by
    simp [Instr.loadAt, Instr.sureAddr, loadVar, ha w, hc]
  simp only [ho, h1]
  rw [Sem.run_bind, hr]
  exact ⟨Gr.refl w, hu⟩
theorem grow_mvx {x : Operand} {g : Nat} {e : TypeId} {cs : Array Value} (ho : o.op = .move x ∨ o.op = .assign x) (hw : Wanted ops K n0 o true) (hk : Kn K x (Bx g e cs)) (h : wpGrow P ops w0 n0 Q rest (upd K o.dst (Bx g e cs))) : wpGrow P ops w0 n0 Q (o :: rest) K :=
  grow_move x ho hw hk (Bx.stays g e cs) h
/-- a whole variable that lies in memory -/
theorem grow_row {ty : TypeId} {x : Operand} {g : Nat} {e : TypeId} {cs : Array Value} {d : TypeDesc} (ho : o.op = .load ty x) (hw : Wanted ops K n0 o true) (hx : Kn K x (Bx g e cs))
    (hu : P.underlying ty = some d) (hd : (match d with | .struct _ | .array _ _ => true | _ => false) = true) (hi : (P.info? ty).map (·.size) = some cs.size) (h : wpGrow P ops w0 n0 Q rest (upd K o.dst (Is (.agg cs)))) : wpGrow P ops w0 n0 Q (o :: rest) K := by
  refine grow_step hw (fun _ => Is.stays _) (fun a w _ _ hl => ?_) h
  obtain ⟨h1, h2⟩ : a.eval x = .pointer (some ⟨g, 0, none⟩) ∧ Bl w g e cs := looks_op (Ψ := Bx g e cs) (by simp [ho, Op.operands]) hx hl
  unfold does execOp
  simp only [ho, h1, Instr.loadAt, Instr.sureAddr, Sem.run_bind, Sem.run_pure, Result.andThen_ok, run_loadVar_row w g e ty cs (0, 0) d h2 hu hd hi]
  exact ⟨Gr.refl w, rfl⟩
/-- one of several results -/
theorem grow_part {x : Operand} {i : Nat} {vs : Array Value} {u : Value} (ho : o.op = .extract x i) (hw : Wanted ops K n0 o true) (hx : Kn K x (Is (.tuple vs))) (hr : ∀ w, (Instr.extract (.tuple vs) i).run P w = .ok u w)
    (h : wpGrow P ops w0 n0 Q rest (upd K o.dst (Is u))) : wpGrow P ops w0 n0 Q (o :: rest) K := by
  refine grow_step hw (fun _ => Is.stays _) (fun a w _ _ hl => ?_) h
  have h1 : a.eval x = .tuple vs := looks_op (Ψ := Is (.tuple vs)) (by simp [ho, Op.operands]) hx hl
  unfold does execOp
  simp only [ho, h1, Sem.run_bind, hr w]
  exact ⟨Gr.refl w, rfl⟩
end

end Go.Proofs.Ythpaoeiackbdoaa.Grow

/-
  More steps of a growing region's walk: what is the same is not unlike; calls of three operands. No program.
-/
namespace Go.Proofs.Ythpaoeiackbdoaa.Grow
open Go Go.RowKit Go.Proofs.Ythpaoeiackbdoaa

section
variable {P : Program} {ops : Array Oper} {w0 : World} {n0 : Nat} {Q : (Tmp → Known) → Prop} {o : Oper} {rest : List Oper} {K : Tmp → Known} {Φ : Known}

theorem grow_bool_alike {xt rt : TypeId} {x y : Operand} {m n : Bool} (hmn : m = n) (hb : P.underlying xt = some .bool) (ho : o.op = .binOp .neq xt x y rt) (hw : Wanted ops K n0 o true) (hx : Kn K x (Is (.bool m))) (hy : Kn K y (Is (.bool n)))
    (h : wpGrow P ops w0 n0 Q rest (upd K o.dst (Is (.bool false)))) : wpGrow P ops w0 n0 Q (o :: rest) K :=
  grow_bin ho hw hx hy (fun w => run_with_guard (by simp) (by simp) (by subst hmn; cases m <;> simp [go_sem, hb])) h
theorem grow_int_alike {xt rt : TypeId} {x y : Operand} {k : IntKind} {m n : Int} (hmn : m = n) (ho : o.op = .binOp .neq xt x y rt) (hw : Wanted ops K n0 o true) (hx : Kn K x (Is (.int k m))) (hy : Kn K y (Is (.int k n)))
    (h : wpGrow P ops w0 n0 Q rest (upd K o.dst (Is (.bool false)))) : wpGrow P ops w0 n0 Q (o :: rest) K :=
  grow_bin ho hw hx hy (fun w => run_with_guard (by simp) (by simp) (by subst hmn; simp [go_sem])) h
theorem grow_call3 {f : FuncId} {x y z : Operand} {ats : Array TypeId} {Ψ Ψ' Ψ'' : Known} {fn : Func} (ho : o.op = .call { callee := .value (.func f), args := #[x, y, z], argTypes := ats }) (hw : Wanted ops K n0 o true) (hf : P.funcs[f]? = some fn) (hn : (fn.name == "runtime.NumGoroutine") = false) (hb : fn.body.isNone = false)
    (hx : Kn K x Ψ) (hy : Kn K y Ψ') (hz : Kn K z Ψ'') (hst : Stays Φ) (hc : ∀ v u t w, Gr w0 w → Ψ v w → Ψ' u w → Ψ'' t w → Calls P f #[v, u, t] w fun e w' => ∃ u, e = .returned u ∧ Gr w w' ∧ Φ u w') (h : wpGrow P ops w0 n0 Q rest (upd K o.dst Φ)) : wpGrow P ops w0 n0 Q (o :: rest) K := by
  refine grow_step hw (fun _ => hst) (fun a w hg _ hl => ?_) h
  have h1 : Ψ (a.eval x) w := looks_op (by simp [ho, Op.operands, Call.operands]) hx hl
  have h2 : Ψ' (a.eval y) w := looks_op (by simp [ho, Op.operands, Call.operands]) hy hl
  have h3 : Ψ'' (a.eval z) w := looks_op (by simp [ho, Op.operands, Call.operands]) hz hl
  obtain ⟨dst, op, ty, pos, after, guard⟩ := o
  simp only at ho
  subst ho
  unfold does
  rw [execOp_call_go, enters hf hn hb]
  exact ⟨Gr.refl w, by simpa using hc _ _ _ w hg h1 h2 h3⟩
/-- how long a row of which this is known is -/
theorem grow_len_k {x : Operand} {t : TypeId} {Ψ : Known} {n : Nat} (ho : o.op = .call { callee := .builtin .len, args := #[x], argTypes := #[t] }) (ht : P.underlying t = some (.slice (P.elem t))) (hw : Wanted ops K n0 o true) (hx : Kn K x Ψ) (hn : ∀ v w, Ψ v w → ∃ A c, v = .slice A n c)
    (h : wpGrow P ops w0 n0 Q rest (upd K o.dst (Is (.int .i64 (n : Int))))) : wpGrow P ops w0 n0 Q (o :: rest) K := by
  refine grow_step hw (fun _ => Is.stays _) (fun a w _ _ hl => ?_) h
  obtain ⟨A, c, h1⟩ := hn _ _ (looks_op (look_bi ho) hx hl)
  unfold does execOp
  simp only [ho, resolve, invoke, builtin, Sem.run_bind, Sem.run_pure, Result.andThen_ok, List.map_toArray, List.map_cons, List.map_nil, h1, run_len_slice w t _ _ _ _ ht]
  exact ⟨Gr.refl w, rfl⟩
theorem grow_str_alike {xt rt : TypeId} {x y : Operand} {s u : ByteArray} (hsu : s = u) (ho : o.op = .binOp .neq xt x y rt) (hw : Wanted ops K n0 o true) (hx : Kn K x (Is (.string s))) (hy : Kn K y (Is (.string u)))
    (h : wpGrow P ops w0 n0 Q rest (upd K o.dst (Is (.bool false)))) : wpGrow P ops w0 n0 Q (o :: rest) K :=
  grow_str_neq ho hw hx hy (by rw [decide_eq_true hsu]; exact h)
end

end Go.Proofs.Ythpaoeiackbdoaa.Grow

/-
  More steps of a growing region: a call through a function value. No program.
-/
namespace Go.Proofs.Ythpaoeiackbdoaa.Grow
open Go Go.RowKit Go.Proofs.Ythpaoeiackbdoaa

section
variable {P : Program} {ops : Array Oper} {w0 : World} {n0 : Nat} {Q : (Tmp → Known) → Prop} {o : Oper} {rest : List Oper} {K : Tmp → Known} {Φ : Known}

/-- a call of one argument through a function value -/
theorem grow_callv1 {f : FuncId} {y x : Operand} {ats : Array TypeId} {Ψ : Known} {fn : Func} (ho : o.op = .call { callee := .value y, args := #[x], argTypes := ats }) (hw : Wanted ops K n0 o true) (hy : Kn K y (Is (.func (.func f) #[] #[]))) (hf : P.funcs[f]? = some fn) (hn : (fn.name == "runtime.NumGoroutine") = false) (hb : fn.body.isNone = false)
    (hx : Kn K x Ψ) (hst : Stays Φ) (hc : ∀ v w, Gr w0 w → Ψ v w → Calls P f #[v] w fun e w' => ∃ u, e = .returned u ∧ Gr w w' ∧ Φ u w') (h : wpGrow P ops w0 n0 Q rest (upd K o.dst Φ)) : wpGrow P ops w0 n0 Q (o :: rest) K := by
  refine grow_step hw (fun _ => hst) (fun a w hg _ hl => ?_) h
  have h1 : Ψ (a.eval x) w := looks_op (by simp [ho, Op.operands, Call.operands]) hx hl
  have h2 : a.eval y = .func (.func f) #[] #[] := looks_op (Ψ := Is (.func (.func f) #[] #[])) (by simp [ho, Op.operands, Call.operands]) hy hl
  obtain ⟨dst, op, ty, pos, after, guard⟩ := o
  simp only at ho
  subst ho
  unfold does
  have e : execOp a.eval { dst, op := .call { callee := .value y, args := #[x], argTypes := ats }, type := ty, pos, after, guard } = callFunc f #[a.eval x] := by
    unfold execOp
    simp only [resolve, h2, Deferred.ofValue, invoke, List.map_toArray, List.map_cons, List.map_nil]
    rfl
  rw [e, enters hf hn hb]
  exact ⟨Gr.refl w, hc _ w hg h1⟩
end

end Go.Proofs.Ythpaoeiackbdoaa.Grow
