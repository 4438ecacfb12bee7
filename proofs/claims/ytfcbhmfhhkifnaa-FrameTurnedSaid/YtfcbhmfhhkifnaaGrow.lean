/-
  A region whose order is open, whose operations read, or make memory, or call what makes memory: one walk in the order of the text serves every order. What each temporary is known to hold is a predicate on the value and the world
  that stays when the world grows. No program.
-/
import Derived.Test.YtfcbhmfhhkifnaaWords
import Derived.Orders
namespace Go.Proofs.Ytfcbhmfhhkifnaa.Grow
open Go Go.RowKit Go.Proofs.Ytfcbhmfhhkifnaa

/-- what is known of a value in a world -/
abbrev Known := Value → World → Prop
def Stays (Φ : Known) : Prop := ∀ v w w', Φ v w → Gr w w' → Φ v w'

/-- one operation, carried out here, leaves a value of which this is known, and a world that has only grown -/
def upon (P : Program) (w : World) (Φ : Known) : Result Next → Prop
  | .ok (.value u) w' => Gr w w' ∧ Φ u w'
  | .ok .skip w' => Gr w w' ∧ Φ undef w'
  | .ok (.enter f args) w' => Gr w w' ∧ Calls P f args w' (fun e w'' => ∃ u, e = .returned u ∧ Gr w w'' ∧ Φ u w'')
  | _ => False
def does (P : Program) (o : Oper) (a : Act) (w : World) (Φ : Known) : Prop := upon P w Φ ((execOp a.eval o).run P w)

def upd (K : Tmp → Known) (d : Option Tmp) (Φ : Known) : Tmp → Known := fun t => match d with | some d => bif Nat.beq d t then Φ else K t | none => K t

/-- the walk in the order of the text -/
def wpGrow (P : Program) (ops : Array Oper) (w0 : World) (n0 : Nat) (Q : (Tmp → Known) → Prop) : List Oper → (Tmp → Known) → Prop
  | [], K => Q K
  | o :: rest, K => ∃ Φ : Known, ((∀ t, Stays (K t)) → Stays Φ) ∧
      (∀ a w, Gr w0 w → a.tmps.size = n0 → (∀ t, (o.looksAt ops).contains t = true → K t (a.tmps.getD t undef) w) → if Region.wanted o (yielded ops a.tmps) = true then does P o a w Φ else Φ undef w) ∧
      wpGrow P ops w0 n0 Q rest (upd K o.dst Φ)

/-- may this region be walked so? each operation waits for earlier ones alone; of two, the later waits for the earlier or they are apart -/
def growB (ops : Array Oper) (n0 : Nat) : Bool :=
  Region.noSelect ops && (List.range ops.size).all fun j => match ops[j]? with
    | none => true
    | some oj => (match oj.dst with | some d => Nat.blt d n0 | none => true) && (oj.after.all fun e => !Region.binds .any e || Nat.blt e.on j) && (List.range j).all fun i => match ops[i]? with
      | none => true
      | some oi => oj.after.any (fun e => Region.binds .any e && Nat.beq e.on i) || oi.apart ops oj

section
variable {P : Program} {ops : Array Oper} {w0 : World} {n0 : Nat}

/-- what the walk has found, operation by operation -/
def know (dst : Nat → Option Tmp) (F : Nat → Known) (K0 : Tmp → Known) : Nat → Tmp → Known
  | 0, t => K0 t
  | k + 1, t => if dst k = some t then F k else know dst F K0 k t
/-- .. and what is known when just those in L have come up -/
def knowL (dst : Nat → Option Tmp) (F : Nat → Known) (K0 : Tmp → Known) (L : Nat → Bool) : Nat → Tmp → Known
  | 0, t => K0 t
  | k + 1, t => if dst k = some t ∧ L k = true then F k else knowL dst F K0 L k t

theorem knowL_all {dst : Nat → Option Tmp} {F : Nat → Known} {K0 : Tmp → Known} {L : Nat → Bool} : ∀ (k : Nat) (t : Tmp), (∀ j, j < k → dst j = some t → L j = true) → knowL dst F K0 L k t = know dst F K0 k t
  | 0, _, _ => rfl
  | k + 1, t, h => by
    rw [knowL, know, knowL_all k t (fun j hj => h j (by omega))]
    by_cases hd : dst k = some t
    · rw [if_pos ⟨hd, h k (by omega) hd⟩, if_pos hd]
    · rw [if_neg (fun hh => hd hh.1), if_neg hd]

theorem knowL_skip {dst : Nat → Option Tmp} {F : Nat → Known} {K0 : Tmp → Known} {L : Nat → Bool} {t : Tmp} : ∀ (n i : Nat), i ≤ n → (∀ j, i ≤ j → j < n → dst j = some t → L j = false) → knowL dst F K0 L n t = knowL dst F K0 L i t
  | 0, i, hi, _ => by obtain rfl : i = 0 := by omega
                      rfl
  | n + 1, i, hi, h => by
    by_cases he : i = n + 1
    · subst he; rfl
    · rw [knowL, if_neg (fun hh => by have := h n (by omega) (by omega) hh.1; rw [this] at hh; exact absurd hh.2 (by simp)), knowL_skip n i (by omega) (fun j h1 h2 => h j h1 (by omega))]

theorem knowL_congr {dst : Nat → Option Tmp} {F : Nat → Known} {K0 : Tmp → Known} {L L' : Nat → Bool} {t : Tmp} : ∀ (n : Nat), (∀ j, j < n → dst j = some t → L j = L' j) → knowL dst F K0 L n t = knowL dst F K0 L' n t
  | 0, _ => rfl
  | n + 1, h => by
    rw [knowL, knowL, knowL_congr n (fun j hj => h j (by omega))]
    by_cases hd : dst n = some t
    · rw [h n (by omega) hd]
    · rw [if_neg (fun hh => hd hh.1), if_neg (fun hh => hd hh.1)]

theorem know_stays {dst : Nat → Option Tmp} {F : Nat → Known} {K0 : Tmp → Known} (h0 : ∀ t, Stays (K0 t)) (hF : ∀ k, Stays (F k)) : ∀ k t, Stays (know dst F K0 k t)
  | 0, t => h0 t
  | k + 1, t => by
    rw [know]
    split
    · exact hF k
    · exact know_stays h0 hF k t
theorem knowL_stays {dst : Nat → Option Tmp} {F : Nat → Known} {K0 : Tmp → Known} {L : Nat → Bool} (h0 : ∀ t, Stays (K0 t)) (hF : ∀ k, Stays (F k)) : ∀ k t, Stays (knowL dst F K0 L k t)
  | 0, t => h0 t
  | k + 1, t => by
    rw [knowL]
    split
    · exact hF k
    · exact knowL_stays h0 hF k t

def dstOf (ops : Array Oper) (k : Nat) : Option Tmp := (ops[k]?).bind (·.dst)

/-- what is asked of operation k, by what is known when all that stand ahead of it have come up -/
def Local (P : Program) (ops : Array Oper) (w0 : World) (n0 : Nat) (F : Nat → Known) (K0 : Tmp → Known) (k : Nat) : Prop :=
  ∀ o, ops[k]? = some o → ∀ a w, Gr w0 w → a.tmps.size = n0 → (∀ t, (o.looksAt ops).contains t = true → know (dstOf ops) F K0 k t (a.tmps.getD t undef) w) →
    if Region.wanted o (yielded ops a.tmps) = true then does P o a w (F k) else F k undef w

theorem stays_undef : Stays (fun _ _ => True) := fun _ _ _ h _ => h

/-- the walk gives all of that -/
theorem found {Q : (Tmp → Known) → Prop} : ∀ (l : List Oper) (i : Nat) (F : Nat → Known) (K0 : Tmp → Known), (∀ j, l[j]? = ops[i + j]?) → (∀ t, Stays (K0 t)) → (∀ k, Stays (F k)) → (∀ k, k < i → Local P ops w0 n0 F K0 k) →
    wpGrow P ops w0 n0 Q l (know (dstOf ops) F K0 i) → ∃ F' : Nat → Known, (∀ k, Stays (F' k)) ∧ (∀ k, k < i + l.length → Local P ops w0 n0 F' K0 k) ∧ Q (know (dstOf ops) F' K0 (i + l.length))
  | [], i, F, K0, _, _, hF, hloc, h => ⟨F, hF, by simpa using hloc, by simpa [wpGrow] using h⟩
  | o :: l, i, F, K0, hl, h0, hF, hloc, h => by
    obtain ⟨Φ, hst, hdo, hrest⟩ := h
    have hoi : ops[i]? = some o := by simpa using (hl 0).symm
    have hΦ := hst (know_stays h0 hF i)
    let F' : Nat → Known := fun k => if k = i then Φ else F k
    have hF' : ∀ k, Stays (F' k) := fun k => by
      show Stays (if k = i then Φ else F k)
      split
      · exact hΦ
      · exact hF k
    have hkn : ∀ k, k ≤ i → ∀ t, know (dstOf ops) F' K0 k t = know (dstOf ops) F K0 k t := by
      intro k
      induction k with
      | zero => intro _ t; rfl
      | succ k ih =>
        intro hk t
        rw [know, know, ih (by omega)]
        have : F' k = F k := if_neg (by omega)
        rw [this]
    have hloc' : ∀ k, k < i + 1 → Local P ops w0 n0 F' K0 k := by
      intro k hk o' ho' a w hg hs hlook
      by_cases hki : k = i
      · subst hki
        rw [hoi] at ho'
        injection ho' with ho'
        subst ho'
        have e : F' k = Φ := if_pos rfl
        rw [e]
        exact hdo a w hg hs (fun t ht => by rw [← hkn k (Nat.le_refl _)]; exact hlook t ht)
      · have e : F' k = F k := if_neg hki
        rw [e]
        exact hloc k (by omega) o' ho' a w hg hs (fun t ht => by rw [← hkn k (by omega)]; exact hlook t ht)
    have hnext : upd (know (dstOf ops) F K0 i) o.dst Φ = know (dstOf ops) F' K0 (i + 1) := by
      funext t
      rw [know, hkn i (Nat.le_refl _)]
      have e : F' i = Φ := if_pos rfl
      have hd : dstOf ops i = o.dst := by simp [dstOf, hoi]
      rw [e, hd]
      unfold upd
      cases hdst : o.dst with
      | none => simp
      | some d =>
        by_cases hdt : d = t
        · subst hdt; simp
        · have : Nat.beq d t = false := by rw [Bool.eq_false_iff]; intro hh; exact hdt (Nat.eq_of_beq_eq_true hh)
          simp [this, hdt]
    rw [hnext] at hrest
    have := found l (i + 1) F' K0 (fun j => by have := hl (j + 1); simpa [Nat.add_assoc, Nat.add_comm 1 j] using this) h0 hF' hloc' hrest
    rw [List.length_cons, show i + (l.length + 1) = i + 1 + l.length from by omega]
    exact this

theorem growB_spec (h : growB ops n0 = true) : Region.noSelect ops = true ∧ ∀ (j : Nat) (oj : Oper), ops[j]? = some oj → (∀ d, oj.dst = some d → d < n0) ∧ (∀ e ∈ oj.after, Region.binds .any e = true → e.on < j) ∧
    ∀ (i : Nat) (oi : Oper), i < j → ops[i]? = some oi → (∃ e ∈ oj.after, Region.binds .any e = true ∧ e.on = i) ∨ oi.apart ops oj = true := by
  simp only [growB, Bool.and_eq_true, List.all_eq_true, List.mem_range] at h
  refine ⟨h.1, fun j oj hj => ?_⟩
  have hjn : j < ops.size := (Array.getElem?_eq_some_iff.1 hj).1
  have h1 := h.2 j hjn
  simp only [hj, Bool.and_eq_true, List.all_eq_true, List.mem_range] at h1
  obtain ⟨⟨hd, ha⟩, hp⟩ := h1
  refine ⟨fun d he => ?_, fun e he hb => ?_, fun i oi hij hi => ?_⟩
  · rw [he] at hd
    simpa [Nat.blt_eq] using hd
  · have := Array.all_eq_true_iff_forall_mem.1 ha e he
    simp only [hb, Bool.not_true, Bool.false_or] at this
    simpa [Nat.blt_eq] using this
  · have h2 := hp i hij
    simp only [hi, Bool.or_eq_true] at h2
    rcases h2 with h2 | h2
    · obtain ⟨e, he, hb⟩ := Array.any_eq_true'.1 h2
      simp only [Bool.and_eq_true] at hb
      exact .inl ⟨e, he, hb.1, Nat.eq_of_beq_eq_true hb.2⟩
    · exact .inr h2

/-- listed or not -/
def lis (listed : Array Bool) (j : Nat) : Bool := listed.getD j false

theorem lis_set_ne {listed : Array Bool} {i j : Nat} (h : i ≠ j) : lis (listed.setIfInBounds i true) j = lis listed j := getD_set_ne false h
theorem lis_set_self {listed : Array Bool} {i : Nat} (h : i < listed.size) : lis (listed.setIfInBounds i true) i = true := by simp [lis, h]

def Inv (ops : Array Oper) (w0 : World) (n0 : Nat) (d0 : List Deferred) (F : Nat → Known) (K0 : Tmp → Known) (L : Nat → Bool) (a : Act) (w : World) : Prop :=
  Gr w0 w ∧ a.tmps.size = n0 ∧ a.defers = d0 ∧ ∀ t, knowL (dstOf ops) F K0 L ops.size t (a.tmps.getD t undef) w

theorem put_getD_self {a : Act} {d : Tmp} {u : Value} (h : d < a.tmps.size) : (a.put (some d) u).tmps.getD d undef = u := by simp [Act.put, h]
theorem put_getD_ne {a : Act} {o : Option Tmp} {t : Tmp} {u : Value} (h : o ≠ some t) : (a.put o u).tmps.getD t undef = a.tmps.getD t undef := by
  cases o with
  | none => rfl
  | some d =>
    have : d ≠ t := fun e => h (by rw [e])
    simp [Act.put, Array.getElem?_setIfInBounds_ne this]
theorem put_size {a : Act} {o : Option Tmp} {u : Value} : (a.put o u).tmps.size = a.tmps.size := by cases o <;> simp [Act.put]
theorem put_defers {a : Act} {o : Option Tmp} {u : Value} : (a.put o u).defers = a.defers := by cases o <;> rfl

theorem apart_first {x y : Oper} (h : x.apart ops y = true) {d : Tmp} (hd : x.dst = some d) : (y.looksAt ops).contains d = false := by
  have := (Oper.apart_spec h).1 d hd
  simpa using this
theorem apart_second {x y : Oper} (h : x.apart ops y = true) {d : Tmp} (hd : x.dst = some d) : y.dst ≠ some d := (Oper.apart_spec h).2.1 d hd
theorem apart_third {x y : Oper} (h : x.apart ops y = true) {d : Tmp} (hd : y.dst = some d) : (x.looksAt ops).contains d = false := by
  have := (Oper.apart_spec h).2.2 d hd
  simpa using this

def Closed (ops : Array Oper) (L : Nat → Bool) : Prop := ∀ (j : Nat) (oj : Oper), ops[j]? = some oj → L j = true → ∀ e ∈ oj.after, Region.binds .any e = true → L e.on = true

theorem Inv.step {d0 : List Deferred} {F : Nat → Known} {K0 : Tmp → Known} {listed : Array Bool} {a : Act} {w w' : World} {i : Nat} {o : Oper} {u : Value} (hB : growB ops n0 = true) (h0 : ∀ t, Stays (K0 t)) (hF : ∀ k, Stays (F k))
    (hsz : listed.size = ops.size) (hi : ops[i]? = some o) (hun : lis listed i = false) (hcl : Closed ops (lis listed)) (hinv : Inv ops w0 n0 d0 F K0 (lis listed) a w) (hg : Gr w w') (hu : F i u w') :
    Inv ops w0 n0 d0 F K0 (lis (listed.setIfInBounds i true)) (a.put o.dst u) w' := by
  obtain ⟨hg0, hs, hd, hk⟩ := hinv
  have hin : i < ops.size := (Array.getElem?_eq_some_iff.1 hi).1
  refine ⟨hg0.trans hg, by rw [put_size]; exact hs, by rw [put_defers]; exact hd, fun t => ?_⟩
  by_cases ht : o.dst = some t
  · have hlt : t < n0 := ((growB_spec hB).2 i o hi).1 t ht
    have hdi : dstOf ops i = some t := by simp [dstOf, hi, ht]
    rw [knowL_skip ops.size (i + 1) (by omega) ?_, knowL, if_pos ⟨hdi, lis_set_self (listed := listed) (by omega)⟩]
    · rw [ht, put_getD_self (show t < a.tmps.size by rw [hs]; exact hlt)]; exact hu
    · intro j hij hjn hdj
      obtain ⟨oj, hj⟩ : ∃ oj, ops[j]? = some oj := ⟨ops[j], by simp [hjn]⟩
      have hdj' : oj.dst = some t := by simpa [dstOf, hj] using hdj
      rw [lis_set_ne (by omega)]
      rcases ((growB_spec hB).2 j oj hj).2.2 i o (by omega) hi with ⟨e, he, hb, hei⟩ | hap
      · rw [Bool.eq_false_iff]
        intro hl
        have := hcl j oj hj hl e he hb
        rw [hei, hun] at this
        cases this
      · exact absurd hdj' (apart_second hap ht)
  · rw [put_getD_ne ht, knowL_congr (L' := lis listed) ops.size ?_]
    · exact knowL_stays h0 hF _ _ _ _ _ (hk t) hg
    · intro j hjn hdj
      refine lis_set_ne (fun e => ht ?_)
      subst e
      simpa [dstOf, hi] using hdj

theorem any_of_grow {Q : Exit → Act → World → Prop} {d0 : List Deferred} {F : Nat → Known} {K0 : Tmp → Known} (hB : growB ops n0 = true) (h0 : ∀ t, Stays (K0 t)) (hF : ∀ k, Stays (F k)) (hloc : ∀ k, k < ops.size → Local P ops w0 n0 F K0 k)
    (hQ : ∀ a w, Gr w0 w → a.tmps.size = n0 → a.defers = d0 → (∀ t, know (dstOf ops) F K0 ops.size t (a.tmps.getD t undef) w) → Q .normal a w) :
    ∀ (fuel : Nat) (listed : Array Bool) (S : List Nat) (a : Act) (w : World), listed.size = ops.size → (∀ j, j < ops.size → lis listed j = false → j ∈ S) → S.length ≤ fuel → Closed ops (lis listed) → Inv ops w0 n0 d0 F K0 (lis listed) a w →
      wpAny P .any ops Q fuel listed a w := by
  have hspec := (growB_spec hB).2
  have fin : ∀ (listed : Array Bool) (a : Act) (w : World), listed.size = ops.size → (∀ j, j < ops.size → lis listed j = true) → Inv ops w0 n0 d0 F K0 (lis listed) a w → Q .normal a w := by
    intro listed a w hsz hall ⟨hg, hs, hd, hk⟩
    refine hQ a w hg hs hd (fun t => ?_)
    rw [← knowL_all (L := lis listed) ops.size t (fun j hj _ => hall j hj)]
    exact hk t
  have hready : ∀ (listed : Array Bool) (j : Nat), listed.size = ops.size → j < ops.size → lis listed j = false → (∀ k, k < j → lis listed k = true) → j ∈ Region.ready .any ops listed := by
    intro listed j hsz hj hl hbel
    refine mem_ready.2 ⟨?_, ops[j], by simp [hj], fun e he hb => hbel _ ((hspec j ops[j] (by simp [hj])).2.1 e he hb)⟩
    have hj' : j < listed.size := by omega
    simpa [lis, hj'] using hl
  intro fuel
  induction fuel with
  | zero =>
    intro listed S a w hsz hS hlen hcl hinv
    have hnil : S = [] := List.eq_nil_of_length_eq_zero (by omega)
    subst hnil
    have hall : ∀ j, j < ops.size → lis listed j = true := fun j hj => by
      cases hl : lis listed j with
      | true => rfl
      | false => exact absurd (hS j hj hl) (by simp)
    refine ⟨?_, fin listed a w hsz hall hinv⟩
    rw [List.eq_nil_iff_forall_not_mem]
    intro j hj
    obtain ⟨hu, o, ho, _⟩ := mem_ready.1 hj
    have hjn : j < ops.size := (Array.getElem?_eq_some_iff.1 ho).1
    have := hall j hjn
    have hj' : j < listed.size := by omega
    simp [lis, hj'] at this hu
    rw [this] at hu
    cases hu
  | succ fuel ih =>
    intro listed S a w hsz hS hlen hcl hinv
    refine ⟨fun hr => ?_, fun i hi => ?_⟩
    · have hall : ∀ j, j < ops.size → lis listed j = true := by
        intro j
        induction j using Nat.strongRecOn with
        | ind j ihj =>
          intro hj
          cases hl : lis listed j with
          | true => rfl
          | false =>
            have := hready listed j hsz hj hl (fun k hk => ihj k hk (by omega))
            rw [hr] at this
            exact absurd this (by simp)
      exact fin listed a w hsz hall hinv
    · obtain ⟨hun0, o, ho, hdeps⟩ := mem_ready.1 hi
      have hin : i < ops.size := (Array.getElem?_eq_some_iff.1 ho).1
      have hin' : i < listed.size := by omega
      have hun : lis listed i = false := by simpa [lis, hin'] using hun0
      have hdeps' : ∀ e ∈ o.after, Region.binds .any e = true → lis listed e.on = true := hdeps
      have hlook : ∀ t, (o.looksAt ops).contains t = true → know (dstOf ops) F K0 i t (a.tmps.getD t undef) w := by
        intro t ht
        have hk := hinv.2.2.2 t
        rw [knowL_skip ops.size i (by omega) ?_, knowL_all i t ?_] at hk
        · exact hk
        · intro j hji hdj
          obtain ⟨oj, hj⟩ : ∃ oj, ops[j]? = some oj := ⟨ops[j]'(by omega), by simp [show j < ops.size by omega]⟩
          have hdj' : oj.dst = some t := by simpa [dstOf, hj] using hdj
          rcases (hspec i o ho).2.2 j oj hji hj with ⟨e, he, hb, hej⟩ | hap
          · rw [← hej]; exact hdeps' e he hb
          · rw [apart_first hap hdj'] at ht; cases ht
        · intro j hij hjn hdj
          by_cases he : j = i
          · subst he; exact hun
          · obtain ⟨oj, hj⟩ : ∃ oj, ops[j]? = some oj := ⟨ops[j], by simp [hjn]⟩
            have hdj' : oj.dst = some t := by simpa [dstOf, hj] using hdj
            rcases (hspec j oj hj).2.2 i o (by omega) ho with ⟨e, he', hb, hei⟩ | hap
            · rw [Bool.eq_false_iff]
              intro hl
              have := hcl j oj hj hl e he' hb
              rw [hei, hun] at this
              cases this
            · rw [apart_third hap hdj'] at ht; cases ht
      have hcl' : Closed ops (lis (listed.setIfInBounds i true)) := by
        intro j oj hj hl e he hb
        by_cases hji : j = i
        · subst hji
          rw [ho] at hj
          injection hj with hj
          subst hj
          have h1 := hdeps' e he hb
          by_cases hej : e.on = j
          · rw [hej]; exact lis_set_self hin'
          · rw [lis_set_ne (Ne.symm hej)]; exact h1
        · rw [lis_set_ne (Ne.symm hji)] at hl
          have h1 := hcl j oj hj hl e he hb
          by_cases hej : e.on = i
          · rw [hej]; exact lis_set_self hin'
          · rw [lis_set_ne (Ne.symm hej)]; exact h1
      have hsz' : (listed.setIfInBounds i true).size = ops.size := by simpa using hsz
      have hiS : i ∈ S := hS i hin hun
      have hS' : ∀ j, j < ops.size → lis (listed.setIfInBounds i true) j = false → j ∈ S.erase i := by
        intro j hj hl
        by_cases hji : j = i
        · subst hji; rw [lis_set_self hin'] at hl; cases hl
        · rw [lis_set_ne (Ne.symm hji)] at hl
          exact (List.mem_erase_of_ne hji).2 (hS j hj hl)
      have hlen' : (S.erase i).length ≤ fuel := by rw [List.length_erase_of_mem hiS]; omega
      have next : ∀ (u : Value) (w' : World), Gr w w' → F i u w' → wpAny P .any ops Q fuel (listed.setIfInBounds i true) (a.put o.dst u) w' := fun u w' hg hu =>
        ih _ _ _ _ hsz' hS' hlen' hcl' (Inv.step hB h0 hF hsz ho hun hcl hinv hg hu)
      have hl := hloc i hin o ho a w hinv.1 hinv.2.1 hlook
      unfold wpOp
      simp only [ho]
      split
      · rename_i hw
        rw [if_pos hw] at hl
        refine .inl ?_
        unfold does at hl
        unfold Oper.wp
        generalize (execOp a.eval o).run P w = r at *
        cases r with
        | ok n w' =>
          cases n <;> simp only [upon] at hl <;> simp only [Oper.upon]
          case value u => exact next u w' hl.1 hl.2
          case skip => exact next undef w' hl.1 hl.2
          case enter f args =>
            obtain ⟨_, hc⟩ := hl
            exact hc.mono fun e w'' ⟨u, he, hg', hu⟩ => by subst he; exact next u w'' hg' hu
        | halt x w' => simp only [upon] at hl
      · rename_i hw
        rw [if_neg hw] at hl
        exact next undef w (Gr.refl w) hl
end

/-- **A region whose order is open, walked once.** -/
theorem wp_region_grow {P : Program} {ops : Array Oper} {id : Nat} {Q : Exit → Act → World → Prop} {a : Act} {w : World} (hm : P.follows .mixedOrders = true) (hB : growB ops a.tmps.size = true)
    (h : wpGrow P ops w.drew a.tmps.size (fun K => ∀ a' w', Gr w.drew w' → a'.tmps.size = a.tmps.size → a'.defers = a.defers → (∀ t, K t (a'.tmps.getD t undef) w') → Q .normal a' w') ops.toList (fun t v _ => v = a.tmps.getD t undef)) :
    (Code.region id ops true).wp P Q a w := by
  refine wp_region_any hm ?_
  show wpAny P .any ops Q ops.size (Array.replicate ops.size false) a w.drew
  have h0 : ∀ t : Tmp, Stays (fun v (_ : World) => v = a.tmps.getD t undef) := fun t v w w' h _ => h
  obtain ⟨F, hF, hloc, hQ⟩ := found (P := P) (ops := ops) (w0 := w.drew) (n0 := a.tmps.size) ops.toList 0 (fun _ _ _ => True) (fun t v _ => v = a.tmps.getD t undef) (fun j => by simp) h0 (fun _ => stays_undef) (fun k hk => absurd hk (by omega)) h
  simp only [Array.length_toList, Nat.zero_add] at hloc hQ
  refine any_of_grow (d0 := a.defers) hB h0 hF hloc hQ ops.size _ (List.range ops.size) a w.drew (by simp) (fun j hj _ => by simpa using hj) (by simp) ?_ ?_
  · intro j oj hj hl
    have hjn : j < ops.size := (Array.getElem?_eq_some_iff.1 hj).1
    simp [lis, hjn] at hl
  · refine ⟨Gr.refl _, rfl, rfl, fun t => ?_⟩
    rw [knowL_skip ops.size 0 (by omega) (fun j _ hjn _ => by simp [lis, hjn])]
    rfl

end Go.Proofs.Ytfcbhmfhhkifnaa.Grow
