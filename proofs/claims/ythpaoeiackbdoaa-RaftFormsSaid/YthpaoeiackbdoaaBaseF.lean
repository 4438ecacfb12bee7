/-
  A region whose order is open, whose operations also store: 'Grow' with any relation of worlds in the place of growth. What is known of a temporary stays along the relation; what is known behind an operation without a slot (a store) is known of the world,
  and stays along it too. No program.
-/
import Derived.Test.YthpaoeiackbdoaaBaseG
namespace Go.Proofs.Ythpaoeiackbdoaa.Flow
open Go Go.RowKit Go.Proofs.Ythpaoeiackbdoaa
open Go.Proofs.Ythpaoeiackbdoaa.Grow (Known upd know knowL knowL_all knowL_skip knowL_congr dstOf growB growB_spec lis lis_set_ne lis_set_self put_getD_self put_getD_ne put_size put_defers apart_first apart_second apart_third Closed)

def Stays (R : World → World → Prop) (Φ : Known) : Prop := ∀ v w w', Φ v w → R w w' → Φ v w'
def upon (P : Program) (R : World → World → Prop) (w : World) (Φ : Known) : Result Next → Prop
  | .ok (.value u) w' => R w w' ∧ Φ u w'
  | .ok .skip w' => R w w' ∧ Φ undef w'
  | .ok (.enter f args) w' => Calls P f args w' (fun e w'' => ∃ u, e = .returned u ∧ R w w'' ∧ Φ u w'')
  | _ => False
def does (P : Program) (R : World → World → Prop) (o : Oper) (a : Act) (w : World) (Φ : Known) : Prop := upon P R w Φ ((execOp a.eval o).run P w)
/-- .. and of the world -/
def also (d : Option Tmp) (Φ : Known) (I : World → Prop) : World → Prop := match d with | some _ => I | none => fun w => I w ∧ ∃ u, Φ u w

/-- the walk in the order of the text -/
def wpFlow (P : Program) (R : World → World → Prop) (ops : Array Oper) (w0 : World) (n0 : Nat) (Q : (Tmp → Known) → (World → Prop) → Prop) : List Oper → (Tmp → Known) → (World → Prop) → Prop
  | [], K, I => Q K I
  | o :: rest, K, I => ∃ Φ : Known, ((∀ t, Stays R (K t)) → Stays R Φ) ∧
      (∀ a w, R w0 w → a.tmps.size = n0 → (∀ t, (o.looksAt ops).contains t = true → K t (a.tmps.getD t undef) w) → if Region.wanted o (yielded ops a.tmps) = true then does P R o a w Φ else Φ undef w) ∧
      wpFlow P R ops w0 n0 Q rest (upd K o.dst Φ) (also o.dst Φ I)

section
variable {P : Program} {R : World → World → Prop} {ops : Array Oper} {w0 : World} {n0 : Nat}

theorem know_stays {dst : Nat → Option Tmp} {F : Nat → Known} {K0 : Tmp → Known} (h0 : ∀ t, Stays R (K0 t)) (hF : ∀ k, Stays R (F k)) : ∀ k t, Stays R (know dst F K0 k t)
  | 0, t => h0 t
  | k + 1, t => by
    rw [know]
    split
    · exact hF k
    · exact know_stays h0 hF k t
theorem knowL_stays {dst : Nat → Option Tmp} {F : Nat → Known} {K0 : Tmp → Known} {L : Nat → Bool} (h0 : ∀ t, Stays R (K0 t)) (hF : ∀ k, Stays R (F k)) : ∀ k t, Stays R (knowL dst F K0 L k t)
  | 0, t => h0 t
  | k + 1, t => by
    rw [knowL]
    split
    · exact hF k
    · exact knowL_stays h0 hF k t

def Local (P : Program) (R : World → World → Prop) (ops : Array Oper) (w0 : World) (n0 : Nat) (F : Nat → Known) (K0 : Tmp → Known) (k : Nat) : Prop :=
  ∀ o, ops[k]? = some o → ∀ a w, R w0 w → a.tmps.size = n0 → (∀ t, (o.looksAt ops).contains t = true → know (dstOf ops) F K0 k t (a.tmps.getD t undef) w) →
    if Region.wanted o (yielded ops a.tmps) = true then does P R o a w (F k) else F k undef w
/-- what is known of the world behind the first k operations -/
def facts (ops : Array Oper) (F : Nat → Known) (I0 : World → Prop) : Nat → World → Prop
  | 0 => I0
  | k + 1 => also (dstOf ops k) (F k) (facts ops F I0 k)

theorem stays_undef : Stays R (fun _ _ => True) := fun _ _ _ h _ => h

/-- the walk gives all of that -/
theorem found {Q : (Tmp → Known) → (World → Prop) → Prop} {I0 : World → Prop} : ∀ (l : List Oper) (i : Nat) (F : Nat → Known) (K0 : Tmp → Known), (∀ j, l[j]? = ops[i + j]?) → (∀ t, Stays R (K0 t)) → (∀ k, Stays R (F k)) → (∀ k, k < i → Local P R ops w0 n0 F K0 k) →
    wpFlow P R ops w0 n0 Q l (know (dstOf ops) F K0 i) (facts ops F I0 i) → ∃ F' : Nat → Known, (∀ k, Stays R (F' k)) ∧ (∀ k, k < i + l.length → Local P R ops w0 n0 F' K0 k) ∧ Q (know (dstOf ops) F' K0 (i + l.length)) (facts ops F' I0 (i + l.length))
  | [], i, F, K0, _, _, hF, hloc, h => ⟨F, hF, by simpa using hloc, by simpa [wpFlow] using h⟩
  | o :: l, i, F, K0, hl, h0, hF, hloc, h => by
    obtain ⟨Φ, hst, hdo, hrest⟩ := h
    have hoi : ops[i]? = some o := by simpa using (hl 0).symm
    have hΦ := hst (know_stays h0 hF i)
    let F' : Nat → Known := fun k => if k = i then Φ else F k
    have hF' : ∀ k, Stays R (F' k) := fun k => by
      show Stays R (if k = i then Φ else F k)
      split
      · exact hΦ
      · exact hF k
    have hkn : ∀ k, k ≤ i → ∀ t, know (dstOf ops) F' K0 k t = know (dstOf ops) F K0 k t := by
      intro k
      induction k with
      | zero => intro _ t; rfl
      | succ k ih =>
        intro hk t
        rw [know, know, ih (by omega)]
        have : F' k = F k := if_neg (by omega)
        rw [this]
    have hloc' : ∀ k, k < i + 1 → Local P R ops w0 n0 F' K0 k := by
      intro k hk o' ho' a w hg hs hlook
      by_cases hki : k = i
      · subst hki
        rw [hoi] at ho'
        injection ho' with ho'
        subst ho'
        have e : F' k = Φ := if_pos rfl
        rw [e]
        exact hdo a w hg hs (fun t ht => by rw [← hkn k (Nat.le_refl _)]; exact hlook t ht)
      · have e : F' k = F k := if_neg hki
        rw [e]
        exact hloc k (by omega) o' ho' a w hg hs (fun t ht => by rw [← hkn k (by omega)]; exact hlook t ht)
    have hnext : upd (know (dstOf ops) F K0 i) o.dst Φ = know (dstOf ops) F' K0 (i + 1) := by
      funext t
      rw [know, hkn i (Nat.le_refl _)]
      have e : F' i = Φ := if_pos rfl
      have hd : dstOf ops i = o.dst := by simp [dstOf, hoi]
      rw [e, hd]
      unfold upd
      cases hdst : o.dst with
      | none => simp
      | some d =>
        by_cases hdt : d = t
        · subst hdt; simp
        · have : Nat.beq d t = false := by rw [Bool.eq_false_iff]; intro hh; exact hdt (Nat.eq_of_beq_eq_true hh)
          simp [this, hdt]
    have hfc : ∀ k, k ≤ i → facts ops F' I0 k = facts ops F I0 k := by
      intro k
      induction k with
      | zero => intro _; rfl
      | succ k ih =>
        intro hk
        rw [facts, facts, ih (by omega)]
        have : F' k = F k := if_neg (by omega)
        rw [this]
    have hnextI : also o.dst Φ (facts ops F I0 i) = facts ops F' I0 (i + 1) := by
      rw [facts, hfc i (Nat.le_refl _)]
      have e : F' i = Φ := if_pos rfl
      have hd : dstOf ops i = o.dst := by simp [dstOf, hoi]
      rw [e, hd]
    rw [hnext, hnextI] at hrest
    have := found l (i + 1) F' K0 (fun j => by have := hl (j + 1); simpa [Nat.add_assoc, Nat.add_comm 1 j] using this) h0 hF' hloc' hrest
    rw [List.length_cons, show i + (l.length + 1) = i + 1 + l.length from by omega]
    exact this

def Inv (R : World → World → Prop) (ops : Array Oper) (w0 : World) (n0 : Nat) (d0 : List Deferred) (F : Nat → Known) (K0 : Tmp → Known) (L : Nat → Bool) (a : Act) (w : World) : Prop :=
  R w0 w ∧ a.tmps.size = n0 ∧ a.defers = d0 ∧ (∀ t, knowL (dstOf ops) F K0 L ops.size t (a.tmps.getD t undef) w) ∧ ∀ k, k < ops.size → L k = true → ∃ u, F k u w

theorem Inv.step {d0 : List Deferred} {F : Nat → Known} {K0 : Tmp → Known} {listed : Array Bool} {a : Act} {w w' : World} {i : Nat} {o : Oper} {u : Value} (hB : growB ops n0 = true) (h0 : ∀ t, Stays R (K0 t)) (hF : ∀ k, Stays R (F k))
    (hsz : listed.size = ops.size) (hi : ops[i]? = some o) (hun : lis listed i = false) (hcl : Closed ops (lis listed)) (hinv : Inv R ops w0 n0 d0 F K0 (lis listed) a w) (hR2 : ∀ a b c, R a b → R b c → R a c) (hg : R w w') (hu : F i u w') :
    Inv R ops w0 n0 d0 F K0 (lis (listed.setIfInBounds i true)) (a.put o.dst u) w' := by
  obtain ⟨hg0, hs, hd, hk, hw⟩ := hinv
  have hin : i < ops.size := (Array.getElem?_eq_some_iff.1 hi).1
  refine ⟨hR2 _ _ _ hg0 hg, by rw [put_size]; exact hs, by rw [put_defers]; exact hd, fun t => ?_, fun k hk2 hl => ?_⟩
  rotate_left
  · by_cases hki : k = i
    · subst hki
      exact ⟨u, hu⟩
    · rw [lis_set_ne (Ne.symm hki)] at hl
      obtain ⟨z, hz⟩ := hw k hk2 hl
      exact ⟨z, hF k _ _ _ hz hg⟩
  by_cases ht : o.dst = some t
  · have hlt : t < n0 := ((growB_spec hB).2 i o hi).1 t ht
    have hdi : dstOf ops i = some t := by simp [dstOf, hi, ht]
    rw [knowL_skip ops.size (i + 1) (by omega) ?_, knowL, if_pos ⟨hdi, lis_set_self (listed := listed) (by omega)⟩]
    · rw [ht, put_getD_self (show t < a.tmps.size by rw [hs]; exact hlt)]; exact hu
    · intro j hij hjn hdj
      obtain ⟨oj, hj⟩ : ∃ oj, ops[j]? = some oj := ⟨ops[j], by simp [hjn]⟩
      have hdj' : oj.dst = some t := by simpa [dstOf, hj] using hdj
      rw [lis_set_ne (by omega)]
      rcases ((growB_spec hB).2 j oj hj).2.2 i o (by omega) hi with ⟨e, he, hb, hei⟩ | hap
      · rw [Bool.eq_false_iff]
        intro hl
        have := hcl j oj hj hl e he hb
        rw [hei, hun] at this
        cases this
      · exact absurd hdj' (apart_second hap ht)
  · rw [put_getD_ne ht, knowL_congr (L' := lis listed) ops.size ?_]
    · exact knowL_stays h0 hF _ _ _ _ _ (hk t) hg
    · intro j hjn hdj
      refine lis_set_ne (fun e => ht ?_)
      subst e
      simpa [dstOf, hi] using hdj

theorem any_of_flow {Q : Exit → Act → World → Prop} {d0 : List Deferred} {F : Nat → Known} {K0 : Tmp → Known} (hB : growB ops n0 = true) (h0 : ∀ t, Stays R (K0 t)) (hF : ∀ k, Stays R (F k)) (hloc : ∀ k, k < ops.size → Local P R ops w0 n0 F K0 k)
    (hR1 : ∀ a, R a a) (hR2 : ∀ a b c, R a b → R b c → R a c)
    (hQ : ∀ a w, R w0 w → a.tmps.size = n0 → a.defers = d0 → (∀ t, know (dstOf ops) F K0 ops.size t (a.tmps.getD t undef) w) → (∀ k, k < ops.size → ∃ u, F k u w) → Q .normal a w) :
    ∀ (fuel : Nat) (listed : Array Bool) (S : List Nat) (a : Act) (w : World), listed.size = ops.size → (∀ j, j < ops.size → lis listed j = false → j ∈ S) → S.length ≤ fuel → Closed ops (lis listed) → Inv R ops w0 n0 d0 F K0 (lis listed) a w →
      wpAny P .any ops Q fuel listed a w := by
  have hspec := (growB_spec hB).2
  have fin : ∀ (listed : Array Bool) (a : Act) (w : World), listed.size = ops.size → (∀ j, j < ops.size → lis listed j = true) → Inv R ops w0 n0 d0 F K0 (lis listed) a w → Q .normal a w := by
    intro listed a w hsz hall ⟨hg, hs, hd, hk, hw⟩
    refine hQ a w hg hs hd (fun t => ?_) (fun k hk2 => hw k hk2 (hall k hk2))
    rw [← knowL_all (L := lis listed) ops.size t (fun j hj _ => hall j hj)]
    exact hk t
  have hready : ∀ (listed : Array Bool) (j : Nat), listed.size = ops.size → j < ops.size → lis listed j = false → (∀ k, k < j → lis listed k = true) → j ∈ Region.ready .any ops listed := by
    intro listed j hsz hj hl hbel
    refine mem_ready.2 ⟨?_, ops[j], by simp [hj], fun e he hb => hbel _ ((hspec j ops[j] (by simp [hj])).2.1 e he hb)⟩
    have hj' : j < listed.size := by omega
    simpa [lis, hj'] using hl
  intro fuel
  induction fuel with
  | zero =>
    intro listed S a w hsz hS hlen hcl hinv
    have hnil : S = [] := List.eq_nil_of_length_eq_zero (by omega)
    subst hnil
    have hall : ∀ j, j < ops.size → lis listed j = true := fun j hj => by
      cases hl : lis listed j with
      | true => rfl
      | false => exact absurd (hS j hj hl) (by simp)
    refine ⟨?_, fin listed a w hsz hall hinv⟩
    rw [List.eq_nil_iff_forall_not_mem]
    intro j hj
    obtain ⟨hu, o, ho, _⟩ := mem_ready.1 hj
    have hjn : j < ops.size := (Array.getElem?_eq_some_iff.1 ho).1
    have := hall j hjn
    have hj' : j < listed.size := by omega
    simp [lis, hj'] at this hu
    rw [this] at hu
    cases hu
  | succ fuel ih =>
    intro listed S a w hsz hS hlen hcl hinv
    refine ⟨fun hr => ?_, fun i hi => ?_⟩
    · have hall : ∀ j, j < ops.size → lis listed j = true := by
        intro j
        induction j using Nat.strongRecOn with
        | ind j ihj =>
          intro hj
          cases hl : lis listed j with
          | true => rfl
          | false =>
            have := hready listed j hsz hj hl (fun k hk => ihj k hk (by omega))
            rw [hr] at this
            exact absurd this (by simp)
      exact fin listed a w hsz hall hinv
    · obtain ⟨hun0, o, ho, hdeps⟩ := mem_ready.1 hi
      have hin : i < ops.size := (Array.getElem?_eq_some_iff.1 ho).1
      have hin' : i < listed.size := by omega
      have hun : lis listed i = false := by simpa [lis, hin'] using hun0
      have hdeps' : ∀ e ∈ o.after, Region.binds .any e = true → lis listed e.on = true := hdeps
      have hlook : ∀ t, (o.looksAt ops).contains t = true → know (dstOf ops) F K0 i t (a.tmps.getD t undef) w := by
        intro t ht
        have hk := hinv.2.2.2.1 t
        rw [knowL_skip ops.size i (by omega) ?_, knowL_all i t ?_] at hk
        · exact hk
        · intro j hji hdj
          obtain ⟨oj, hj⟩ : ∃ oj, ops[j]? = some oj := ⟨ops[j]'(by omega), by simp [show j < ops.size by omega]⟩
          have hdj' : oj.dst = some t := by simpa [dstOf, hj] using hdj
          rcases (hspec i o ho).2.2 j oj hji hj with ⟨e, he, hb, hej⟩ | hap
          · rw [← hej]; exact hdeps' e he hb
          · rw [apart_first hap hdj'] at ht; cases ht
        · intro j hij hjn hdj
          by_cases he : j = i
          · subst he; exact hun
          · obtain ⟨oj, hj⟩ : ∃ oj, ops[j]? = some oj := ⟨ops[j], by simp [hjn]⟩
            have hdj' : oj.dst = some t := by simpa [dstOf, hj] using hdj
            rcases (hspec j oj hj).2.2 i o (by omega) ho with ⟨e, he', hb, hei⟩ | hap
            · rw [Bool.eq_false_iff]
              intro hl
              have := hcl j oj hj hl e he' hb
              rw [hei, hun] at this
              cases this
            · rw [apart_third hap hdj'] at ht; cases ht
      have hcl' : Closed ops (lis (listed.setIfInBounds i true)) := by
        intro j oj hj hl e he hb
        by_cases hji : j = i
        · subst hji
          rw [ho] at hj
          injection hj with hj
          subst hj
          have h1 := hdeps' e he hb
          by_cases hej : e.on = j
          · rw [hej]; exact lis_set_self hin'
          · rw [lis_set_ne (Ne.symm hej)]; exact h1
        · rw [lis_set_ne (Ne.symm hji)] at hl
          have h1 := hcl j oj hj hl e he hb
          by_cases hej : e.on = i
          · rw [hej]; exact lis_set_self hin'
          · rw [lis_set_ne (Ne.symm hej)]; exact h1
      have hsz' : (listed.setIfInBounds i true).size = ops.size := by simpa using hsz
      have hiS : i ∈ S := hS i hin hun
      have hS' : ∀ j, j < ops.size → lis (listed.setIfInBounds i true) j = false → j ∈ S.erase i := by
        intro j hj hl
        by_cases hji : j = i
        · subst hji; rw [lis_set_self hin'] at hl; cases hl
        · rw [lis_set_ne (Ne.symm hji)] at hl
          exact (List.mem_erase_of_ne hji).2 (hS j hj hl)
      have hlen' : (S.erase i).length ≤ fuel := by rw [List.length_erase_of_mem hiS]; omega
      have next : ∀ (u : Value) (w' : World), R w w' → F i u w' → wpAny P .any ops Q fuel (listed.setIfInBounds i true) (a.put o.dst u) w' := fun u w' hg hu =>
        ih _ _ _ _ hsz' hS' hlen' hcl' (Inv.step hB h0 hF hsz ho hun hcl hinv hR2 hg hu)
      have hl := hloc i hin o ho a w hinv.1 hinv.2.1 hlook
      unfold wpOp
      simp only [ho]
      split
      · rename_i hw
        rw [if_pos hw] at hl
        refine .inl ?_
        unfold does at hl
        unfold Oper.wp
        generalize (execOp a.eval o).run P w = r at *
        cases r with
        | ok n w' =>
          cases n <;> simp only [upon] at hl <;> simp only [Oper.upon]
          case value u => exact next u w' hl.1 hl.2
          case skip => exact next undef w' hl.1 hl.2
          case enter f args =>
            exact Calls.mono hl fun e w'' ⟨u, he, hg', hu⟩ => by subst he; exact next u w'' hg' hu
        | halt x w' => simp only [upon] at hl
      · rename_i hw
        rw [if_neg hw] at hl
        exact next undef w (hR1 w) hl
end

/-- what the walk has found of the world is so -/
theorem facts_of {ops : Array Oper} {F : Nat → Known} {I0 : World → Prop} {w : World} (h0 : I0 w) : ∀ k, (∀ j, j < k → ∃ u, F j u w) → facts ops F I0 k w
  | 0, _ => h0
  | k + 1, h => by
    rw [facts]
    unfold also
    cases dstOf ops k
    rotate_left
    · exact facts_of h0 k (fun j hj => h j (by omega))
    · exact ⟨facts_of h0 k (fun j hj => h j (by omega)), h k (by omega)⟩

/-- **A region whose order is open, walked once, along R.** -/
theorem wp_region_flow {P : Program} {R : World → World → Prop} {ops : Array Oper} {id : Nat} {Q : Exit → Act → World → Prop} {a : Act} {w : World} (hR1 : ∀ a, R a a) (hR2 : ∀ a b c, R a b → R b c → R a c) (hm : P.follows .mixedOrders = true) (hB : growB ops a.tmps.size = true)
    (h : wpFlow P R ops w.drew a.tmps.size (fun K I => ∀ a' w', R w.drew w' → a'.tmps.size = a.tmps.size → a'.defers = a.defers → (∀ t, K t (a'.tmps.getD t undef) w') → I w' → Q .normal a' w') ops.toList (fun t v _ => v = a.tmps.getD t undef) (fun _ => True)) :
    (Code.region id ops true).wp P Q a w := by
  refine wp_region_any hm ?_
  show wpAny P .any ops Q ops.size (Array.replicate ops.size false) a w.drew
  have h0 : ∀ t : Tmp, Stays R (fun v (_ : World) => v = a.tmps.getD t undef) := fun t v w w' h _ => h
  obtain ⟨F, hF, hloc, hQ⟩ := found (P := P) (R := R) (ops := ops) (w0 := w.drew) (n0 := a.tmps.size) (I0 := fun _ => True) ops.toList 0 (fun _ _ _ => True) (fun t v _ => v = a.tmps.getD t undef) (fun j => by simp) h0 (fun _ => stays_undef) (fun k hk => absurd hk (by omega)) h
  simp only [Array.length_toList, Nat.zero_add] at hloc hQ
  refine any_of_flow (d0 := a.defers) hB h0 hF hloc hR1 hR2 (fun a' w' hr hs hd hk hf => hQ a' w' hr hs hd hk (facts_of (I0 := fun _ => True) trivial _ hf)) ops.size _ (List.range ops.size) a w.drew (by simp) (fun j hj _ => by simpa using hj) (by simp) ?_ ?_
  · intro j oj hj hl
    have hjn : j < ops.size := (Array.getElem?_eq_some_iff.1 hj).1
    simp [lis, hjn] at hl
  · refine ⟨hR1 _, rfl, rfl, fun t => ?_, fun k hk hl => by simp [lis, hk] at hl⟩
    rw [knowL_skip ops.size 0 (by omega) (fun j _ hjn _ => by simp [lis, hjn])]
    rfl

end Go.Proofs.Ythpaoeiackbdoaa.Flow

/-
  A region whose order is open and that stores: its steps; 'Hit': only these cells have changed, and hold what is laid. No program.
-/
namespace Go.Proofs.Ythpaoeiackbdoaa.Flow
open Go Go.RowKit Go.Proofs.Ythpaoeiackbdoaa
open Go.Proofs.Ythpaoeiackbdoaa.Grow (Known upd know knowL knowL_skip know_far dstOf growB lis writesB Is Kn looks_op)

theorem wp_region_flow_kept {P : Program} {R : World → World → Prop} {l : List Oper} {id : Nat} {Q : Exit → Act → World → Prop} {a : Act} {w : World} (hR1 : ∀ a, R a a) (hR2 : ∀ a b c, R a b → R b c → R a c) (n0 : Nat) (D : List Nat) (hn0 : a.tmps.size = n0) (hD : writesB l D = true) (hm : P.follows .mixedOrders = true) (hB : growB l.toArray n0 = true)
    (h : wpFlow P R l.toArray w.drew n0 (fun K I => ∀ a' w', R w.drew w' → a'.tmps.size = n0 → a'.defers = a.defers → (∀ t, D.contains t = false → a'.tmps.getD t undef = a.tmps.getD t undef) → (∀ t, K t (a'.tmps.getD t undef) w') → I w' → Q .normal a' w') l
      (fun t => Is (a.tmps.getD t undef)) (fun _ => True)) : (Code.region id l.toArray true).wp P Q a w := by
  subst hn0
  refine wp_region_any hm ?_
  show wpAny P .any l.toArray Q l.toArray.size (Array.replicate l.toArray.size false) a w.drew
  have h0 : ∀ t : Tmp, Stays R (Is (a.tmps.getD t undef)) := fun t v w w' h _ => h
  obtain ⟨F, hF, hloc, hQ⟩ := found (P := P) (R := R) (ops := l.toArray) (w0 := w.drew) (n0 := a.tmps.size) (I0 := fun _ => True) l 0 (fun _ _ _ => True) (fun t => Is (a.tmps.getD t undef)) (fun j => by simp) h0 (fun _ => stays_undef) (fun k hk => absurd hk (by omega)) h
  simp only [Nat.zero_add] at hloc hQ
  have hn : l.toArray.size = l.length := by simp
  refine any_of_flow (d0 := a.defers) hB h0 hF (fun k hk => hloc k (by omega)) hR1 hR2 (fun a' w' hg hs hd hk hf => ?_) l.toArray.size _ (List.range l.toArray.size) a w.drew (by simp) (fun j hj _ => by simpa using hj) (by simp) ?_ ?_
  · rw [hn] at hk hf
    refine hQ a' w' hg hs hd (fun t ht => ?_) hk (facts_of (I0 := fun _ => True) trivial _ hf)
    have h1 := hk t
    rw [know_far l.length (fun k hk hd => ?_)] at h1
    · exact h1
    · simp only [dstOf, List.getElem?_toArray, Option.bind_eq_some_iff] at hd
      obtain ⟨o, ho, hod⟩ := hd
      have h2 := List.all_eq_true.1 hD o (List.mem_of_getElem? ho)
      rw [hod] at h2
      simp only at h2
      rw [ht] at h2
      cases h2
  · intro j oj hj hl
    have hjn : j < l.toArray.size := (Array.getElem?_eq_some_iff.1 hj).1
    simp only [List.size_toArray] at hjn
    simp [lis, hjn] at hl
  · refine ⟨hR1 _, rfl, rfl, fun t => ?_, fun k hk hl => by simp only [List.size_toArray] at hk; simp [lis, hk] at hl⟩
    rw [knowL_skip l.toArray.size 0 (by omega) (fun j _ hjn _ => by simp only [List.size_toArray] at hjn; simp [lis, hjn])]
    rfl

section
variable {P : Program} {R : World → World → Prop} {ops : Array Oper} {w0 : World} {n0 : Nat} {Q : (Tmp → Known) → (World → Prop) → Prop} {o : Oper} {rest : List Oper} {K : Tmp → Known} {I : World → Prop}

theorem step (Φ : Known) (hg : o.guard = none) (hst : Stays R Φ) (hdo : ∀ a w, R w0 w → (∀ t, (o.looksAt ops).contains t = true → K t (a.tmps.getD t undef) w) → does P R o a w Φ) (h : wpFlow P R ops w0 n0 Q rest (upd K o.dst Φ) (also o.dst Φ I)) : wpFlow P R ops w0 n0 Q (o :: rest) K I :=
  ⟨Φ, fun _ => hst, fun a w hr _ hl => by
    have hw : Region.wanted o (yielded ops a.tmps) = true := by simp [Region.wanted, hg]
    rw [if_pos hw]
    exact hdo a w hr hl, h⟩
/-- a plain value out of one, out of two -/
theorem val1 {x : Operand} {u : Value} (z : Value) (hR1 : ∀ a, R a a) (hg : o.guard = none) (hxo : x ∈ o.op.operands) (hx : Kn K x (Is u)) (hr : ∀ (a : Act) (w : World), R w0 w → a.eval x = u → (execOp a.eval o).run P w = .ok (.value z) w)
    (h : wpFlow P R ops w0 n0 Q rest (upd K o.dst (Is z)) (also o.dst (Is z) I)) : wpFlow P R ops w0 n0 Q (o :: rest) K I := by
  refine step (Is z) hg (fun _ _ _ h _ => h) (fun a w hrw hl => ?_) h
  have h1 : a.eval x = u := looks_op (Ψ := Is u) hxo hx hl
  unfold does
  rw [hr a w hrw h1]
  exact ⟨hR1 w, rfl⟩
theorem val2 {x y : Operand} {u v : Value} (z : Value) (hR1 : ∀ a, R a a) (hg : o.guard = none) (hxo : x ∈ o.op.operands) (hyo : y ∈ o.op.operands) (hx : Kn K x (Is u)) (hy : Kn K y (Is v)) (hr : ∀ (a : Act) (w : World), R w0 w → a.eval x = u → a.eval y = v → (execOp a.eval o).run P w = .ok (.value z) w)
    (h : wpFlow P R ops w0 n0 Q rest (upd K o.dst (Is z)) (also o.dst (Is z) I)) : wpFlow P R ops w0 n0 Q (o :: rest) K I := by
  refine step (Is z) hg (fun _ _ _ h _ => h) (fun a w hrw hl => ?_) h
  have h1 : a.eval x = u := looks_op (Ψ := Is u) hxo hx hl
  have h2 : a.eval y = v := looks_op (Ψ := Is v) hyo hy hl
  unfold does
  rw [hr a w hrw h1 h2]
  exact ⟨hR1 w, rfl⟩
theorem move {x : Operand} {u : Value} (hR1 : ∀ a, R a a) (ho : o.op = .move x ∨ o.op = .assign x) (hg : o.guard = none) (hx : Kn K x (Is u)) (h : wpFlow P R ops w0 n0 Q rest (upd K o.dst (Is u)) (also o.dst (Is u) I)) : wpFlow P R ops w0 n0 Q (o :: rest) K I := by
  refine val1 u hR1 hg (x := x) (by rcases ho with ho | ho <;> simp [ho, Op.operands]) hx (fun a w _ h1 => ?_) h
  unfold execOp
  rcases ho with ho | ho <;> rw [ho] <;> simp only [h1] <;> rfl
/-- a call that changes nothing -/
theorem call2 {f : FuncId} {x y : Operand} {ats : Array TypeId} {u v z : Value} {fn : Func} (hR1 : ∀ a, R a a) (ho : o.op = .call { callee := .value (.func f), args := #[x, y], argTypes := ats }) (hg : o.guard = none) (hf : P.funcs[f]? = some fn) (hn : (fn.name == "runtime.NumGoroutine") = false) (hb : fn.body.isNone = false)
    (hx : Kn K x (Is u)) (hy : Kn K y (Is v)) (hc : ∀ w, Calls P f #[u, v] w fun e w' => e = .returned z ∧ w' = w) (h : wpFlow P R ops w0 n0 Q rest (upd K o.dst (Is z)) (also o.dst (Is z) I)) : wpFlow P R ops w0 n0 Q (o :: rest) K I := by
  refine step (Is z) hg (fun _ _ _ h _ => h) (fun a w hrw hl => ?_) h
  have h1 : a.eval x = u := looks_op (Ψ := Is u) (by simp [ho, Op.operands, Call.operands]) hx hl
  have h2 : a.eval y = v := looks_op (Ψ := Is v) (by simp [ho, Op.operands, Call.operands]) hy hl
  obtain ⟨dst, op, ty, pos, after, guard⟩ := o
  simp only at ho
  subst ho
  unfold does
  rw [execOp_call_go, Grow.enters hf hn hb]
  show Calls _ _ _ _ _
  simp only [List.map_toArray, List.map_cons, List.map_nil, h1, h2]
  exact (hc w).mono fun e w' ⟨he, hw⟩ => ⟨z, he, by rw [hw]; exact hR1 w, rfl⟩
/-- a store -/
theorem store {t : TypeId} {x y : Operand} {u v : Value} (Φ : Known) (ho : o.op = .store t x y) (hg : o.guard = none) (hx : Kn K x (Is u)) (hy : Kn K y (Is v)) (hst : Stays R Φ)
    (hr : ∀ (w : World), R w0 w → ∃ w', (Instr.storeAt t u v).run P w = .ok () w' ∧ R w w' ∧ Φ undef w') (h : wpFlow P R ops w0 n0 Q rest (upd K o.dst Φ) (also o.dst Φ I)) : wpFlow P R ops w0 n0 Q (o :: rest) K I := by
  refine step Φ hg hst (fun a w hrw hl => ?_) h
  have h1 : a.eval x = u := looks_op (Ψ := Is u) (by simp [ho, Op.operands]) hx hl
  have h2 : a.eval y = v := looks_op (Ψ := Is v) (by simp [ho, Op.operands]) hy hl
  obtain ⟨w', h3, h4, h5⟩ := hr w hrw
  unfold does execOp
  simp only [ho, h1, h2, Sem.run_bind, h3]
  exact ⟨h4, h5⟩
end

/-- only the cells of M have changed, and hold what M lays -/
structure Hit (M : Nat → Nat → Option Value) (w w' : World) : Prop where
  os : w'.os = w.os
  tape : w'.tape = w.tape
  output : w'.output = w.output
  size : w.heap.size ≤ w'.heap.size
  block : ∀ k, k < w.heap.size → (∀ i, M k i = none) → w'.heap[k]? = w.heap[k]?
  cell : ∀ k cs t fr, w.heap[k]? = some (.cells cs t fr) → ∃ cs', w'.heap[k]? = some (.cells cs' t fr) ∧ cs'.size = cs.size ∧ ∀ i v, cs'[i]? = some v → cs[i]? = some v ∨ M k i = some v
theorem Hit.refl (M : Nat → Nat → Option Value) (w : World) : Hit M w w := ⟨rfl, rfl, rfl, Nat.le_refl _, fun _ _ _ => rfl, fun _ cs _ _ h => ⟨cs, h, rfl, fun _ _ h => .inl h⟩⟩
theorem Hit.trans {M : Nat → Nat → Option Value} (a b c : World) (h : Hit M a b) (k : Hit M b c) : Hit M a c :=
  ⟨k.os.trans h.os, k.tape.trans h.tape, k.output.trans h.output, Nat.le_trans h.size k.size, fun j hj hm => (k.block j (Nat.lt_of_lt_of_le hj h.size) hm).trans (h.block j hj hm), fun j cs t fr hc => by
    obtain ⟨cs1, e1, s1, f1⟩ := h.cell j cs t fr hc
    obtain ⟨cs2, e2, s2, f2⟩ := k.cell j cs1 t fr e1
    refine ⟨cs2, e2, s2.trans s1, fun i v hv => ?_⟩
    rcases f2 i v hv with hv | hv
    · exact f1 i v hv
    · exact .inr hv⟩
/-- the cell holds what is laid -/
def Laid (g i : Nat) (v : Value) : Known := fun _ w => ∃ cs t, Bl w g t cs ∧ cs[i]? = some v
theorem Laid.stays {M : Nat → Nat → Option Value} {g i : Nat} {v : Value} (hM : ∀ z, M g i = some z → z = v) : Stays (Hit M) (Laid g i v) := fun _ w w' ⟨cs, t, hb, hc⟩ hr => by
  obtain ⟨cs', e, hs, hf⟩ := hr.cell g cs t (0, 0) hb
  refine ⟨cs', t, e, ?_⟩
  have hi : i < cs'.size := by rw [hs]; exact (Array.getElem?_eq_some_iff.1 hc).1
  rcases hf i _ (Array.getElem?_eq_getElem hi) with h | h
  · rw [Array.getElem?_eq_getElem hi, ← h, hc]
  · rw [Array.getElem?_eq_getElem hi, hM _ h]
theorem Hit.set {M : Nat → Nat → Option Value} {w : World} {g i : Nat} {v : Value} {cs : Array Value} {t : TypeId} (hb : Bl w g t cs) (hM : M g i = some v) : Hit M w (w.setCell ⟨g, i, none⟩ v) := by
  have hbut := But.set (But.refl w g) i v
  refine ⟨hbut.os, hbut.tape, hbut.output, hbut.size, fun k hk hm => hbut.block k hk (fun e => by injection e with e; have h2 := hm i; rw [e, hM] at h2; cases h2), fun k cs' t' fr hk => ?_⟩
  by_cases hkg : k = g
  · subst hkg
    have e : (Obj.cells cs' t' fr) = Obj.cells cs t (0, 0) := by
      have h2 : w.heap[k]? = some (.cells cs t (0, 0)) := hb
      rw [hk] at h2
      injection h2
    injection e with e1 e2 e3
    subst e1 e2 e3
    refine ⟨cs'.setIfInBounds i v, hb.put i v, by simp, fun j z hz => ?_⟩
    by_cases hj : j = i
    · subst hj
      by_cases hlt : j < cs'.size
      · rw [Array.getElem?_setIfInBounds_self_of_lt hlt] at hz
        injection hz with hz
        subst hz
        exact .inr hM
      · rw [Array.getElem?_eq_none (by simpa using hlt)] at hz
        cases hz
    · rw [Array.getElem?_setIfInBounds_ne (Ne.symm hj)] at hz
      exact .inl hz
  · exact ⟨cs', (hbut.block k (Array.getElem?_eq_some_iff.1 hk).1 (fun e => hkg (by injection e))).trans hk, rfl, fun _ _ h => .inl h⟩

theorem Hit.far {M : Nat → Nat → Option Value} {w w' : World} {p : Addr} {v : Value} (h : Hit M w w') (hc : w.cell? p = some v) (hM : ∀ i, M p.block i = none) : w'.cell? p = some v := by
  rw [World.cell?_of_block (h.block p.block (World.block_lt_of_cell? w p hc) hM)]
  exact hc
/-- a block of which one cell is hit -/
theorem Hit.row {M : Nat → Nat → Option Value} {w w' : World} {g i : Nat} {v : Value} {cs : Array Value} {t : TypeId} (h : Hit M w w') (hb : Bl w g t cs) (hM : ∀ j z, M g j = some z → j = i ∧ z = v) {u : Value} (hl : Laid g i v u w') : Bl w' g t (cs.setIfInBounds i v) := by
  obtain ⟨cs', e, hs, hf⟩ := h.cell g cs t (0, 0) hb
  obtain ⟨cs2, t2, e2, hi⟩ := hl
  have e3 : cs2 = cs' := by
    have : w'.heap[g]? = some (.cells cs2 t2 (0, 0)) := e2
    rw [e] at this
    injection this with this
    injection this with h1 _ _
    exact h1.symm
  subst e3
  have : cs2 = cs.setIfInBounds i v := by
    apply Array.ext
    · simp [hs]
    · intro j h1 h2
      by_cases hj : j = i
      · subst hj
        rw [Array.getElem?_eq_getElem h1] at hi
        injection hi with hi
        rw [hi]
        simp
      · rw [Array.getElem_setIfInBounds_ne (by rw [← hs]; exact h1) (Ne.symm hj)]
        rcases hf j _ (Array.getElem?_eq_getElem h1) with h3 | h3
        · obtain ⟨h4, h5⟩ := Array.getElem?_eq_some_iff.1 h3
          exact h5.symm
        · exact absurd (hM j _ h3).1 hj
  rw [← this]
  exact e
/-- .. at any time it is a block of that many cells -/
theorem Hit.some_ {M : Nat → Nat → Option Value} {w w' : World} {g : Nat} {cs : Array Value} {t : TypeId} (h : Hit M w w') (hb : Bl w g t cs) : ∃ cs', Bl w' g t cs' ∧ cs'.size = cs.size := by
  obtain ⟨cs', e, hs, _⟩ := h.cell g cs t (0, 0) hb
  exact ⟨cs', e, hs⟩

end Go.Proofs.Ythpaoeiackbdoaa.Flow

/-
  A region whose order is open, that stores what is not known ahead: only granted cells change, and only to what is granted them. No program.
-/
namespace Go.Proofs.Ythpaoeiackbdoaa.Flow
open Go Go.RowKit Go.Proofs.Ythpaoeiackbdoaa
open Go.Proofs.Ythpaoeiackbdoaa.Grow (Known upd Is Kn looks_op)

/-- only blocks of H have changed, there only cells that G grants, to what it grants; and what is new -/
structure HitG (H : Nat → Prop) (G : Nat → Nat → Value → World → Prop) (w w' : World) : Prop where
  os : w'.os = w.os
  tape : w'.tape = w.tape
  output : w'.output = w.output
  size : w.heap.size ≤ w'.heap.size
  block : ∀ k, k < w.heap.size → ¬ H k → w'.heap[k]? = w.heap[k]?
  cell : ∀ k cs t fr, w.heap[k]? = some (.cells cs t fr) → ∃ cs', w'.heap[k]? = some (.cells cs' t fr) ∧ cs'.size = cs.size ∧ ∀ i v, cs'[i]? = some v → cs[i]? = some v ∨ G k i v w'

section
variable {H : Nat → Prop} {G : Nat → Nat → Value → World → Prop}
theorem HitG.refl (w : World) : HitG H G w w := ⟨rfl, rfl, rfl, Nat.le_refl _, fun _ _ _ => rfl, fun _ cs _ _ h => ⟨cs, h, rfl, fun _ _ h => .inl h⟩⟩
theorem HitG.trans (hs : ∀ k i, Stays (HitG H G) (G k i)) (a b c : World) (h : HitG H G a b) (k : HitG H G b c) : HitG H G a c :=
  ⟨k.os.trans h.os, k.tape.trans h.tape, k.output.trans h.output, Nat.le_trans h.size k.size, fun j hj hm => (k.block j (Nat.lt_of_lt_of_le hj h.size) hm).trans (h.block j hj hm), fun j cs t fr hc => by
    obtain ⟨cs1, e1, s1, f1⟩ := h.cell j cs t fr hc
    obtain ⟨cs2, e2, s2, f2⟩ := k.cell j cs1 t fr e1
    refine ⟨cs2, e2, s2.trans s1, fun i v hv => ?_⟩
    rcases f2 i v hv with hv | hv
    · rcases f1 i v hv with hv | hv
      · exact .inl hv
      · exact .inr (hs j i v b c hv k)
    · exact .inr hv⟩
theorem HitG.of_gr {w w' : World} (h : Gr w w') : HitG H G w w' :=
  ⟨h.os, h.tape, h.output, h.size, fun k hk _ => h.block k hk, fun k cs _ _ hc => ⟨cs, (h.block k (Array.getElem?_eq_some_iff.1 hc).1).trans hc, rfl, fun _ _ h => .inl h⟩⟩
theorem HitG.drewN {w w' : World} (h : HitG H G (w.drewN 1) w') : HitG H G w w' := ⟨h.os, h.tape, h.output, h.size, h.block, h.cell⟩
/-- one block has changed, where it may -/
theorem HitG.of_but {w w' : World} {g : Nat} {t : TypeId} {cs cs' : Array Value} (hb : But w w' g) (h1 : Bl w g t cs) (h2 : Bl w' g t cs') (hsz : cs'.size = cs.size) (hH : H g) (hG : ∀ i v, cs'[i]? = some v → cs[i]? = some v ∨ G g i v w') : HitG H G w w' :=
  ⟨hb.os, hb.tape, hb.output, hb.size, fun k hk hm => hb.block k hk (fun e => by injection e with e; exact hm (e ▸ hH)), fun k c t' fr hk => by
    by_cases hkg : k = g
    · subst hkg
      have e : (Obj.cells c t' fr) = Obj.cells cs t (0, 0) := by
        have h3 : w.heap[k]? = some (.cells cs t (0, 0)) := h1
        rw [hk] at h3
        injection h3
      injection e with e1 e2 e3
      subst e1 e2 e3
      exact ⟨cs', h2, hsz, hG⟩
    · exact ⟨c, (hb.block k (Array.getElem?_eq_some_iff.1 hk).1 (fun e => hkg (by injection e))).trans hk, rfl, fun _ _ h => .inl h⟩⟩
theorem HitG.set {w : World} {g i : Nat} {v : Value} {t : TypeId} {cs : Array Value} (hb : Bl w g t cs) (hH : H g) (hG : G g i v (w.setCell ⟨g, i, none⟩ v)) : HitG H G w (w.setCell ⟨g, i, none⟩ v) := by
  refine HitG.of_but (But.set (But.refl w g) i v) hb (hb.put i v) (by simp) hH (fun j z hz => ?_)
  by_cases hj : j = i
  · subst hj
    by_cases hlt : j < cs.size
    · rw [Array.getElem?_setIfInBounds_self_of_lt hlt] at hz
      injection hz with hz
      subst hz
      exact .inr hG
    · rw [Array.getElem?_eq_none (by simpa using hlt)] at hz
      cases hz
  · rw [Array.getElem?_setIfInBounds_ne (Ne.symm hj)] at hz
    exact .inl hz
/-- nothing has changed below -/
theorem HitG.gr {a w w' : World} (hg : Gr a w) (h : HitG H G w w') (hH : ∀ k, H k → a.heap.size ≤ k) : Gr a w' :=
  ⟨h.os.trans hg.os, h.tape.trans hg.tape, h.output.trans hg.output, Nat.le_trans hg.size h.size, fun b hb => (h.block b (Nat.lt_of_lt_of_le hb hg.size) (fun hk => by have := hH b hk; omega)).trans (hg.block b hb)⟩
theorem HitG.bl {w w' : World} {g : Nat} {t : TypeId} {cs : Array Value} (h : HitG H G w w') (hb : Bl w g t cs) (hH : ¬ H g) : Bl w' g t cs := (h.block g (Bl.lt hb) hH).trans hb
theorem HitG.some_ {w w' : World} {g : Nat} {t : TypeId} {cs : Array Value} (h : HitG H G w w') (hb : Bl w g t cs) : ∃ cs', Bl w' g t cs' ∧ cs'.size = cs.size := by
  obtain ⟨cs', e, hs, _⟩ := h.cell g cs t (0, 0) hb
  exact ⟨cs', e, hs⟩
end

/-- a cell of a block of these -/
def Sees (w : World) (g i : Nat) (t : TypeId) (v : Value) : Prop := ∃ cs, Bl w g t cs ∧ cs[i]? = some v
theorem Sees.cell {w : World} {g i : Nat} {t : TypeId} {v : Value} (h : Sees w g i t v) : w.cell? ⟨g, i, none⟩ = some v := by
  obtain ⟨cs, hb, hc⟩ := h
  exact (hb.cell i).trans hc
theorem Sees.one {w : World} {g i : Nat} {t t' : TypeId} {u v : Value} (h : Sees w g i t u) (k : Sees w g i t' v) : u = v ∧ t = t' := by
  obtain ⟨cs, hb, hc⟩ := h
  obtain ⟨cs', hb', hc'⟩ := k
  have e : (Obj.cells cs t (0, 0)) = Obj.cells cs' t' (0, 0) := by
    have h3 : w.heap[g]? = some (.cells cs t (0, 0)) := hb
    have h4 : w.heap[g]? = some (.cells cs' t' (0, 0)) := hb'
    rw [h4] at h3
    injection h3 with h3
    exact h3.symm
  injection e with e1 e2 _
  subst e1
  rw [hc] at hc'
  injection hc' with hc'
  exact ⟨hc', e2⟩
theorem Sees.same {w : World} {g i j : Nat} {t t' : TypeId} {u v : Value} (h : Sees w g i t u) (k : Sees w g j t' v) : t = t' := by
  obtain ⟨cs, hb, _⟩ := h
  obtain ⟨cs', hb', _⟩ := k
  have h3 : w.heap[g]? = some (.cells cs t (0, 0)) := hb
  have h4 : w.heap[g]? = some (.cells cs' t' (0, 0)) := hb'
  rw [h4] at h3
  injection h3 with h3
  injection h3 with _ e _
  exact e.symm
theorem Sees.gr {w w' : World} {g i : Nat} {t : TypeId} {v : Value} (h : Sees w g i t v) (hg : Gr w w') : Sees w' g i t v := by
  obtain ⟨cs, hb, hc⟩ := h
  exact ⟨cs, hb.gr hg, hc⟩
/-- a cell that is not granted is as it was -/
theorem Sees.kept {H : Nat → Prop} {G : Nat → Nat → Value → World → Prop} {w w' : World} {g i : Nat} {t : TypeId} {v : Value} (h : Sees w g i t v) (hh : HitG H G w w') (hG : ∀ u, ¬ G g i u w') : Sees w' g i t v := by
  obtain ⟨cs, hb, hc⟩ := h
  obtain ⟨cs', e, hs, hf⟩ := hh.cell g cs t (0, 0) hb
  have hi : i < cs'.size := by rw [hs]; exact (Array.getElem?_eq_some_iff.1 hc).1
  refine ⟨cs', e, ?_⟩
  rcases hf i _ (Array.getElem?_eq_getElem hi) with h1 | h1
  · rw [Array.getElem?_eq_getElem hi, ← h1, hc]
  · exact absurd h1 (hG _)
/-- the cell is there still -/
theorem Sees.there {H : Nat → Prop} {G : Nat → Nat → Value → World → Prop} {w w' : World} {g i : Nat} {t : TypeId} {v : Value} (h : Sees w g i t v) (hh : HitG H G w w') : ∃ u, Sees w' g i t u := by
  obtain ⟨cs, hb, hc⟩ := h
  obtain ⟨cs', e, hs, hf⟩ := hh.cell g cs t (0, 0) hb
  have hi : i < cs'.size := by rw [hs]; exact (Array.getElem?_eq_some_iff.1 hc).1
  exact ⟨cs'[i], cs', e, Array.getElem?_eq_getElem hi⟩

/-- the cell holds what is so -/
def LaidG (g i : Nat) (t : TypeId) (Ψ : Known) : Known := fun _ w => ∃ v, Sees w g i t v ∧ Ψ v w
theorem LaidG.stays {H : Nat → Prop} {G : Nat → Nat → Value → World → Prop} {g i : Nat} {t : TypeId} {Ψ : Known} (hs : Stays (HitG H G) Ψ) (hG : ∀ v w, G g i v w → Ψ v w) : Stays (HitG H G) (LaidG g i t Ψ) := fun _ w w' ⟨v, ⟨cs, hb, hc⟩, hv⟩ hr => by
  obtain ⟨cs', e, hz, hf⟩ := hr.cell g cs t (0, 0) hb
  have hi : i < cs'.size := by rw [hz]; exact (Array.getElem?_eq_some_iff.1 hc).1
  refine ⟨cs'[i], ⟨cs', e, Array.getElem?_eq_getElem hi⟩, ?_⟩
  rcases hf i _ (Array.getElem?_eq_getElem hi) with h1 | h1
  · rw [hc] at h1
    injection h1 with h1
    rw [← h1]
    exact hs v w w' hv hr
  · exact hG _ _ h1

/-- a row of the call's own, from block B on, that begins with these cells -/
def RowN (B : Nat) (t : TypeId) (n : Nat) (xs : List Value) : Known := fun v w => ∃ (r c : Nat) (cs : Array Value), v = .slice (some ⟨r, 0, none⟩) n c ∧ n ≤ c ∧ B ≤ r ∧ Bl w r t cs ∧ ∀ (i : Nat) (u : Value), xs[i]? = some u → cs[i]? = some u
theorem RowN.stays {H : Nat → Prop} {G : Nat → Nat → Value → World → Prop} {B : Nat} {t : TypeId} {n : Nat} {xs : List Value} (hH : ∀ k, H k → k < B) : Stays (HitG H G) (RowN B t n xs) := fun _ w w' ⟨r, c, cs, h1, h2, h3, h4, h5⟩ hr =>
  ⟨r, c, cs, h1, h2, h3, hr.bl h4 (fun h => by have := hH r h; omega), h5⟩
/-- what the call owns is such a row -/
theorem RowN.of_own {B : Nat} {t : TypeId} {k n : Nat} {v : Value} {w : World} {xs : List Value} (h : w.ownsRow B t k v n xs) (hn : 0 < n) : RowN B t n xs v w := by
  rcases h.2 with ⟨_, h0⟩ | ⟨g, cap, cur, hv, hg, hb, hnc, _, _, ht⟩
  · omega
  · refine ⟨g, cap, cur, hv, hnc, hg, hb, fun i u hu => ?_⟩
    rw [← ht] at hu
    rw [List.getElem?_take] at hu
    split at hu
    · simpa using hu
    · cases hu

section
variable {P : Program} {R : World → World → Prop} {ops : Array Oper} {w0 : World} {n0 : Nat} {Q : (Tmp → Known) → (World → Prop) → Prop} {o : Oper} {rest : List Oper} {K : Tmp → Known} {I : World → Prop}
/-- an operation out of two operands, of which something is known -/
theorem with2 {x y : Operand} {Ψ Ψ' : Known} (Φ : Known) (hg : o.guard = none) (hxo : x ∈ o.op.operands) (hyo : y ∈ o.op.operands) (hx : Kn K x Ψ) (hy : Kn K y Ψ') (hst : Stays R Φ) (hdo : ∀ (a : Act) (w : World), R w0 w → Ψ (a.eval x) w → Ψ' (a.eval y) w → does P R o a w Φ)
    (h : wpFlow P R ops w0 n0 Q rest (upd K o.dst Φ) (also o.dst Φ I)) : wpFlow P R ops w0 n0 Q (o :: rest) K I :=
  step Φ hg hst (fun a w hrw hl => hdo a w hrw (looks_op hxo hx hl) (looks_op hyo hy hl)) h
/-- 'append(x, y...)' -/
theorem app {t : TypeId} {x y : Operand} {Ψ Ψ' : Known} (Φ : Known) (ho : o.op = .call { callee := .builtin .append, args := #[x, y], argTypes := #[t, t] }) (hg : o.guard = none) (hx : Kn K x Ψ) (hy : Kn K y Ψ') (hst : Stays R Φ)
    (hr : ∀ (u v : Value) (w : World), R w0 w → Ψ u w → Ψ' v w → ∃ z w', (Builtin.append_ #[t, t] o.type #[u, v]).run P w = .ok z w' ∧ R w w' ∧ Φ z w') (h : wpFlow P R ops w0 n0 Q rest (upd K o.dst Φ) (also o.dst Φ I)) : wpFlow P R ops w0 n0 Q (o :: rest) K I := by
  refine with2 Φ hg (x := x) (y := y) (by simp [ho, Op.operands, Call.operands]) (by simp [ho, Op.operands, Call.operands]) hx hy hst (fun a w hrw h1 h2 => ?_) h
  obtain ⟨z, w', h3, h4, h5⟩ := hr _ _ w hrw h1 h2
  unfold does execOp
  simp only [ho, resolve, invoke, builtin, Sem.run_bind, Sem.run_pure, Result.andThen_ok, List.map_toArray, List.map_cons, List.map_nil, h3]
  exact ⟨h4, h5⟩
end

end Go.Proofs.Ythpaoeiackbdoaa.Flow
