/-
  Open regions that build on a row of the call's own, or change one block. No program.
-/
import Derived.Test.YthpaoeiackbdoaaBaseG
import Derived.Test.YthpaoeiackbdoaaBaseW
import Derived.StillTail
import Derived.Laws.Tables

/-
  A region whose order is open, that builds on a row of its own: operations that read, make memory, or call what makes memory, beside a chain of operations that hand the row on (a move, an append, an append ..), each the last one's.
  One walk in the order of the text serves every order. What is known of a temporary stays when the world grows and when the row is built on; what is known of the row stays when the world grows. No program.
-/
namespace Go.Proofs.Ythpaoeiackbdoaa.Mine
open Go Go.RowKit Go.Proofs.Ythpaoeiackbdoaa
open Go.Proofs.Ythpaoeiackbdoaa.Grow (lis lis_set_ne lis_set_self growB growB_spec apart_first apart_second apart_third put_getD_self put_getD_ne put_size put_defers Closed dstOf)

/-- what is known of a value in a world, beside the block of the row that is being built -/
abbrev Known := Value → World → Option Nat → Prop
/-- the world has grown, but for the row's block; the row stands where it stood, or in a new block -/
structure RS (w : World) (o : Option Nat) (w' : World) (o' : Option Nat) : Prop where
  gb : w.grownBy w' o
  at_ : o' = o ∨ ∃ k, o' = some k ∧ w.heap.size ≤ k
theorem RS.refl (w : World) (o : Option Nat) : RS w o w o := ⟨World.grownBy.refl w _, .inl rfl⟩
theorem RS.trans {a b c : World} {x y z : Option Nat} (h : RS a x b y) (k : RS b y c z) : RS a x c z := by
  have hs := h.gb.size
  refine ⟨⟨k.gb.os.trans h.gb.os, k.gb.tape.trans h.gb.tape, k.gb.output.trans h.gb.output, Nat.le_trans hs k.gb.size, fun j hj hne => ?_⟩, ?_⟩
  · refine (k.gb.block j (by omega) ?_).trans (h.gb.block j hj hne)
    rcases h.at_ with h1 | ⟨m, h1, h2⟩
    · rw [h1]; exact hne
    · rw [h1]
      intro e
      injection e with e
      omega
  · rcases k.at_ with h1 | ⟨m, h1, h2⟩
    · rw [h1]; exact h.at_
    · exact .inr ⟨m, h1, by omega⟩
theorem RS.of_gr {w w' : World} {o : Option Nat} (h : Gr w w') : RS w o w' o := ⟨⟨h.os, h.tape, h.output, h.size, fun k hk _ => h.block k hk⟩, .inl rfl⟩
/-- the row's block is there -/
def Wf (w : World) (o : Option Nat) : Prop := ∀ k, o = some k → k < w.heap.size
theorem Wf.gr {w w' : World} {o : Option Nat} (h : Wf w o) (hg : Gr w w') : Wf w' o := fun k hk => Nat.lt_of_lt_of_le (h k hk) hg.size

def Stays (Φ : Known) : Prop := ∀ v w o w' o', Φ v w o → Wf w o → RS w o w' o' → Φ v w' o'
def Keeps (Φ : Known) : Prop := ∀ v w o w', Φ v w o → Gr w w' → Φ v w' o
/-- nothing -/
def top : Known := fun _ _ _ => True
theorem top_stays : Stays top := fun _ _ _ _ _ _ _ _ => trivial

def upon (P : Program) (w : World) (ob : Option Nat) (Φ : Known) : Result Next → Prop
  | .ok (.value u) w' => Gr w w' ∧ Φ u w' ob
  | .ok .skip w' => Gr w w' ∧ Φ undef w' ob
  | .ok (.enter f args) w' => Gr w w' ∧ Calls P f args w' (fun e w'' => ∃ u, e = .returned u ∧ Gr w w'' ∧ Φ u w'' ob)
  | _ => False
def does (P : Program) (o : Oper) (a : Act) (w : World) (ob : Option Nat) (Φ : Known) : Prop := upon P w ob Φ ((execOp a.eval o).run P w)
/-- an operation of the chain -/
def uponC (P : Program) (w : World) (ob : Option Nat) (Φ : Known) : Result Next → Prop
  | .ok (.value u) w' => ∃ ob', RS w ob w' ob' ∧ Wf w' ob' ∧ Φ u w' ob'
  | .ok (.enter f args) w' => Calls P f args w' (fun e w'' => ∃ u ob', e = .returned u ∧ RS w ob w'' ob' ∧ Wf w'' ob' ∧ Φ u w'' ob')
  | _ => False
def doesC (P : Program) (o : Oper) (a : Act) (w : World) (ob : Option Nat) (Φ : Known) : Prop := uponC P w ob Φ ((execOp a.eval o).run P w)

def upd (K : Tmp → Known) (d : Option Tmp) (Φ : Known) : Tmp → Known := fun t => match d with | some d => bif Nat.beq d t then Φ else K t | none => K t

/-- operation o is none of the chain's -/
def PlainAt (P : Program) (ops : Array Oper) (w0 : World) (n0 : Nat) (o : Oper) (K : Tmp → Known) (Φ : Known) : Prop :=
  ∀ a w ob ob0, RS w0 ob0 w ob → Wf w ob → a.tmps.size = n0 → (∀ t, (o.looksAt ops).contains t = true → K t (a.tmps.getD t undef) w ob) → if Region.wanted o (yielded ops a.tmps) = true then does P o a w ob Φ else Φ undef w ob
/-- it is one of the chain's -/
def ChainAt (P : Program) (ops : Array Oper) (w0 : World) (n0 : Nat) (o : Oper) (K : Tmp → Known) (c : Tmp) (C Φ : Known) : Prop :=
  ∀ a w ob ob0, RS w0 ob0 w ob → Wf w ob → a.tmps.size = n0 → (∀ t, (o.looksAt ops).contains t = true → K t (a.tmps.getD t undef) w ob) → C (a.tmps.getD c undef) w ob → doesC P o a w ob Φ

/-- the walk in the order of the text -/
def wpMine (P : Program) (ops : Array Oper) (w0 : World) (n0 : Nat) (Q : (Tmp → Known) → Tmp → Known → Prop) : List Oper → (Tmp → Known) → Tmp → Known → Prop
  | [], K, c, C => Q K c C
  | o :: rest, K, c, C =>
    (∃ Φ : Known, ((∀ t, Stays (K t)) → Stays Φ) ∧ o.dst ≠ some c ∧ PlainAt P ops w0 n0 o K Φ ∧ wpMine P ops w0 n0 Q rest (upd K o.dst Φ) c C) ∨
    (∃ (Φ Ψ : Known) (d : Tmp), o.dst = some d ∧ o.guard = none ∧ ((o.looksAt ops).contains c = true ∨ n0 ≤ c) ∧ Keeps Φ ∧ (Stays Ψ ∧ ∀ v w ob, Φ v w ob → Ψ v w ob) ∧ ChainAt P ops w0 n0 o K c C Φ ∧ wpMine P ops w0 n0 Q rest (upd K (some d) Ψ) d Φ)

section
variable {P : Program} {ops : Array Oper} {w0 : World} {n0 : Nat}

/-- what the walk has found, operation by operation: is it of the chain? -/
structure Found where
  F : Nat → Known
  ch : Nat → Bool
  G : Nat → Known
/-- what is told of a value, whatever the chain does -/
def Found.at_ (f : Found) (k : Nat) : Known := if f.ch k = true then f.G k else f.F k

def know (dst : Nat → Option Tmp) (f : Found) (K0 : Tmp → Known) : Nat → Tmp → Known
  | 0, t => K0 t
  | k + 1, t => if dst k = some t then f.at_ k else know dst f K0 k t
def knowL (dst : Nat → Option Tmp) (f : Found) (K0 : Tmp → Known) (L : Nat → Bool) : Nat → Tmp → Known
  | 0, t => K0 t
  | k + 1, t => if dst k = some t ∧ L k = true then f.at_ k else knowL dst f K0 L k t
/-- the chain's head: which operation made it -/
def head (f : Found) : Nat → Option Nat
  | 0 => none
  | k + 1 => if f.ch k = true then some k else head f k
def headL (f : Found) (L : Nat → Bool) : Nat → Option Nat
  | 0 => none
  | k + 1 => if f.ch k = true ∧ L k = true then some k else headL f L k
def hTmp (dst : Nat → Option Tmp) (c0 : Tmp) : Option Nat → Tmp
  | none => c0
  | some k => (dst k).getD 0
def hKnown (f : Found) (C0 : Known) : Option Nat → Known
  | none => C0
  | some k => f.F k

theorem knowL_all {dst : Nat → Option Tmp} {f : Found} {K0 : Tmp → Known} {L : Nat → Bool} : ∀ (k : Nat) (t : Tmp), (∀ j, j < k → dst j = some t → L j = true) → knowL dst f K0 L k t = know dst f K0 k t
  | 0, _, _ => rfl
  | k + 1, t, h => by
    rw [knowL, know, knowL_all k t (fun j hj => h j (by omega))]
    by_cases hd : dst k = some t
    · rw [if_pos ⟨hd, h k (by omega) hd⟩, if_pos hd]
    · rw [if_neg (fun hh => hd hh.1), if_neg hd]
theorem knowL_skip {dst : Nat → Option Tmp} {f : Found} {K0 : Tmp → Known} {L : Nat → Bool} {t : Tmp} : ∀ (n i : Nat), i ≤ n → (∀ j, i ≤ j → j < n → dst j = some t → L j = false) → knowL dst f K0 L n t = knowL dst f K0 L i t
  | 0, i, hi, _ => by obtain rfl : i = 0 := by omega
                      rfl
  | n + 1, i, hi, h => by
    by_cases he : i = n + 1
    · subst he; rfl
    · rw [knowL, if_neg (fun hh => by have := h n (by omega) (by omega) hh.1; rw [this] at hh; exact absurd hh.2 (by simp)), knowL_skip n i (by omega) (fun j h1 h2 => h j h1 (by omega))]
theorem knowL_congr {dst : Nat → Option Tmp} {f : Found} {K0 : Tmp → Known} {L L' : Nat → Bool} {t : Tmp} : ∀ (n : Nat), (∀ j, j < n → dst j = some t → L j = L' j) → knowL dst f K0 L n t = knowL dst f K0 L' n t
  | 0, _ => rfl
  | n + 1, h => by
    rw [knowL, knowL, knowL_congr n (fun j hj => h j (by omega))]
    by_cases hd : dst n = some t
    · rw [h n (by omega) hd]
    · rw [if_neg (fun hh => hd hh.1), if_neg (fun hh => hd hh.1)]
theorem know_stays {dst : Nat → Option Tmp} {f : Found} {K0 : Tmp → Known} (h0 : ∀ t, Stays (K0 t)) (hF : ∀ k, Stays (f.at_ k)) : ∀ k t, Stays (know dst f K0 k t)
  | 0, t => h0 t
  | k + 1, t => by
    rw [know]
    split
    · exact hF k
    · exact know_stays h0 hF k t
theorem knowL_stays {dst : Nat → Option Tmp} {f : Found} {K0 : Tmp → Known} {L : Nat → Bool} (h0 : ∀ t, Stays (K0 t)) (hF : ∀ k, Stays (f.at_ k)) : ∀ k t, Stays (knowL dst f K0 L k t)
  | 0, t => h0 t
  | k + 1, t => by
    rw [knowL]
    split
    · exact hF k
    · exact knowL_stays h0 hF k t

/-! Heads. -/
theorem head_lt {f : Found} : ∀ (k : Nat) {p : Nat}, head f k = some p → p < k ∧ f.ch p = true ∧ ∀ q, p < q → q < k → f.ch q = false
  | k + 1, p, h => by
    rw [head] at h
    by_cases hc : f.ch k = true
    · rw [if_pos hc] at h
      injection h with h
      subst h
      exact ⟨by omega, hc, fun q h1 h2 => by omega⟩
    · rw [if_neg hc] at h
      obtain ⟨h1, h2, h3⟩ := head_lt k h
      refine ⟨by omega, h2, fun q h4 h5 => ?_⟩
      by_cases hq : q = k
      · subst hq; simpa using hc
      · exact h3 q h4 (by omega)
theorem head_none {f : Found} : ∀ (k : Nat), head f k = none → ∀ q, q < k → f.ch q = false
  | 0, _, q, hq => by omega
  | k + 1, h, q, hq => by
    rw [head] at h
    by_cases hc : f.ch k = true
    · rw [if_pos hc] at h; cases h
    · rw [if_neg hc] at h
      by_cases hqk : q = k
      · subst hqk; simpa using hc
      · exact head_none k h q (by omega)
theorem headL_lt {f : Found} {L : Nat → Bool} : ∀ (k : Nat) {p : Nat}, headL f L k = some p → p < k ∧ f.ch p = true ∧ L p = true ∧ ∀ q, p < q → q < k → f.ch q = true → L q = false
  | k + 1, p, h => by
    rw [headL] at h
    by_cases hc : f.ch k = true ∧ L k = true
    · rw [if_pos hc] at h
      injection h with h
      subst h
      exact ⟨by omega, hc.1, hc.2, fun q h1 h2 => by omega⟩
    · rw [if_neg hc] at h
      obtain ⟨h1, h2, h3, h4⟩ := headL_lt k h
      refine ⟨by omega, h2, h3, fun q h5 h6 h7 => ?_⟩
      by_cases hq : q = k
      · subst hq
        cases hl : L q
        · rfl
        · exact absurd ⟨h7, hl⟩ hc
      · exact h4 q h5 (by omega) h7
theorem headL_none {f : Found} {L : Nat → Bool} : ∀ (k : Nat), headL f L k = none → ∀ q, q < k → f.ch q = true → L q = false
  | 0, _, q, hq, _ => by omega
  | k + 1, h, q, hq, hc => by
    rw [headL] at h
    by_cases hk : f.ch k = true ∧ L k = true
    · rw [if_pos hk] at h; cases h
    · rw [if_neg hk] at h
      by_cases hqk : q = k
      · subst hqk
        cases hl : L q
        · rfl
        · exact absurd ⟨hc, hl⟩ hk
      · exact headL_none k h q (by omega) hc
/-- the head is the last that is listed -/
theorem headL_is {f : Found} {L : Nat → Bool} {p : Nat} (hc : f.ch p = true) (hL : L p = true) : ∀ (n : Nat), p < n → (∀ q, p < q → q < n → f.ch q = true → L q = false) → headL f L n = some p
  | n + 1, hp, h => by
    rw [headL]
    by_cases hn : n = p
    · subst hn; rw [if_pos ⟨hc, hL⟩]
    · rw [if_neg (fun hh => by have := h n (by omega) (by omega) hh.1; rw [this] at hh; exact absurd hh.2 (by simp))]
      exact headL_is hc hL n (by omega) fun q h1 h2 => h q h1 (by omega)
theorem headL_no {f : Found} {L : Nat → Bool} : ∀ (n : Nat), (∀ q, q < n → f.ch q = true → L q = false) → headL f L n = none
  | 0, _ => rfl
  | n + 1, h => by
    rw [headL, if_neg (fun hh => by have := h n (by omega) hh.1; rw [this] at hh; exact absurd hh.2 (by simp))]
    exact headL_no n fun q hq => h q (by omega)
theorem headL_all {f : Found} {L : Nat → Bool} (n : Nat) (h : ∀ q, q < n → L q = true) : headL f L n = head f n := by
  induction n with
  | zero => rfl
  | succ n ih =>
    rw [headL, head, ih fun q hq => h q (by omega)]
    by_cases hc : f.ch n = true
    · rw [if_pos ⟨hc, h n (by omega)⟩, if_pos hc]
    · rw [if_neg (fun hh => hc hh.1), if_neg hc]

/-- what is asked of operation k, by what is known when all that stand ahead of it have come up -/
def Local (P : Program) (ops : Array Oper) (w0 : World) (n0 : Nat) (f : Found) (K0 : Tmp → Known) (c0 : Tmp) (C0 : Known) (k : Nat) : Prop :=
  ∀ o, ops[k]? = some o →
    if f.ch k = true then (∃ d, o.dst = some d) ∧ o.guard = none ∧ ((o.looksAt ops).contains (hTmp (dstOf ops) c0 (head f k)) = true ∨ n0 ≤ hTmp (dstOf ops) c0 (head f k)) ∧ Keeps (f.F k) ∧ (∀ v w ob, f.F k v w ob → f.G k v w ob) ∧ ChainAt P ops w0 n0 o (know (dstOf ops) f K0 k) (hTmp (dstOf ops) c0 (head f k)) (hKnown f C0 (head f k)) (f.F k)
    else o.dst ≠ some (hTmp (dstOf ops) c0 (head f k)) ∧ PlainAt P ops w0 n0 o (know (dstOf ops) f K0 k) (f.F k)

/-- agree on the first n -/
def Same (f f' : Found) (n : Nat) : Prop := ∀ k, k < n → f'.F k = f.F k ∧ f'.ch k = f.ch k ∧ f'.G k = f.G k
theorem Same.know {f f' : Found} {n : Nat} (h : Same f f' n) (dst : Nat → Option Tmp) (K0 : Tmp → Known) : ∀ k, k ≤ n → ∀ t, Mine.know dst f' K0 k t = Mine.know dst f K0 k t
  | 0, _, _ => rfl
  | k + 1, hk, t => by
    rw [Mine.know, Mine.know, h.know dst K0 k (by omega)]
    have e : f'.at_ k = f.at_ k := by unfold Found.at_; rw [(h k (by omega)).1, (h k (by omega)).2.1, (h k (by omega)).2.2]
    rw [e]
theorem Same.head {f f' : Found} {n : Nat} (h : Same f f' n) : ∀ k, k ≤ n → Mine.head f' k = Mine.head f k
  | 0, _ => rfl
  | k + 1, hk => by rw [Mine.head, Mine.head, h.head k (by omega), (h k (by omega)).2.1]
theorem Same.hKnown {f f' : Found} {n : Nat} (h : Same f f' n) (C0 : Known) (k : Nat) (hk : k ≤ n) : Mine.hKnown f' C0 (Mine.head f k) = Mine.hKnown f C0 (Mine.head f k) := by
  cases hp : Mine.head f k with
  | none => rfl
  | some p => exact (h p (by have := (head_lt k hp).1; omega)).1
theorem Same.local_ {f f' : Found} {n : Nat} (h : Same f f' n) {K0 : Tmp → Known} {c0 : Tmp} {C0 : Known} {k : Nat} (hk : k < n) (hl : Local P ops w0 n0 f K0 c0 C0 k) : Local P ops w0 n0 f' K0 c0 C0 k := by
  intro o ho
  have := hl o ho
  have e1 : Mine.know (dstOf ops) f' K0 k = Mine.know (dstOf ops) f K0 k := funext fun t => h.know _ _ k (by omega) t
  rw [(h k hk).1, (h k hk).2.1, (h k hk).2.2, e1, h.head k (by omega), h.hKnown C0 k (by omega)]
  exact this

/-- the walk gives all of that -/
theorem found {Q : (Tmp → Known) → Tmp → Known → Prop} {K0 : Tmp → Known} {c0 : Tmp} {C0 : Known} (h0 : ∀ t, Stays (K0 t)) : ∀ (l : List Oper) (i : Nat) (f : Found), (∀ j, j < l.length → l[j]? = ops[i + j]?) → (∀ k, Stays (f.at_ k)) → (∀ k, k < i → Local P ops w0 n0 f K0 c0 C0 k) →
    wpMine P ops w0 n0 Q l (know (dstOf ops) f K0 i) (hTmp (dstOf ops) c0 (head f i)) (hKnown f C0 (head f i)) →
    ∃ f' : Found, (∀ k, Stays (f'.at_ k)) ∧ (∀ k, i + l.length ≤ k → f'.ch k = f.ch k) ∧ (∀ k, k < i + l.length → Local P ops w0 n0 f' K0 c0 C0 k) ∧ Q (know (dstOf ops) f' K0 (i + l.length)) (hTmp (dstOf ops) c0 (head f' (i + l.length))) (hKnown f' C0 (head f' (i + l.length)))
  | [], i, f, _, hF, hloc, h => ⟨f, hF, fun _ _ => rfl, by simpa using hloc, by simpa [wpMine] using h⟩
  | o :: l, i, f, hl, hF, hloc, h => by
    have hoi : ops[i]? = some o := by simpa using (hl 0 (by simp)).symm
    have hd : dstOf ops i = o.dst := by simp [dstOf, hoi]
    have hnl : ∀ j, j < l.length → l[j]? = ops[i + 1 + j]? := fun j hj => by have := hl (j + 1) (by simpa using hj); simpa [Nat.add_assoc, Nat.add_comm 1 j] using this
    rcases h with ⟨Φ, hst, hdc, hdo, hrest⟩ | ⟨Φ, Ψ, d, hdd, hgd, hlk, hkp, hΨ, hdo, hrest⟩
    · have hΦ := hst (know_stays h0 hF i)
      let f' : Found := ⟨fun k => if k = i then Φ else f.F k, fun k => if k = i then false else f.ch k, f.G⟩
      have hs : Same f f' i := fun k hk => ⟨if_neg (by omega), if_neg (by omega), rfl⟩
      have eF : f'.F i = Φ := if_pos rfl
      have eC : f'.ch i = false := if_pos rfl
      have hF' : ∀ k, Stays (f'.at_ k) := fun k => by
        by_cases hk : k = i
        · subst hk
          unfold Found.at_
          rw [eC, eF]
          exact hΦ
        · have : f'.at_ k = f.at_ k := by
            unfold Found.at_
            rw [show f'.F k = f.F k from if_neg hk, show f'.ch k = f.ch k from if_neg hk]
          rw [this]
          exact hF k
      have e1 : know (dstOf ops) f' K0 i = know (dstOf ops) f K0 i := funext fun t => hs.know _ _ i (Nat.le_refl _) t
      have hloc' : ∀ k, k < i + 1 → Local P ops w0 n0 f' K0 c0 C0 k := fun k hk => by
        by_cases hki : k = i
        · subst hki
          intro o' ho'
          rw [hoi] at ho'
          injection ho' with ho'
          subst ho'
          rw [eC, eF, e1, hs.head k (Nat.le_refl _)]
          exact ⟨hdc, hdo⟩
        · exact hs.local_ (by omega) (hloc k (by omega))
      have e2 : head f' (i + 1) = head f i := by rw [head, eC]; exact hs.head i (Nat.le_refl _)
      have e3 : upd (know (dstOf ops) f K0 i) o.dst Φ = know (dstOf ops) f' K0 (i + 1) := by
        funext t
        rw [know, e1, hd]
        have : f'.at_ i = Φ := by unfold Found.at_; rw [eC, eF]; rfl
        rw [this]
        unfold upd
        cases hdst : o.dst with
        | none => simp
        | some d =>
          by_cases hdt : d = t
          · subst hdt; simp
          · have : Nat.beq d t = false := by rw [Bool.eq_false_iff]; intro hh; exact hdt (Nat.eq_of_beq_eq_true hh)
            simp [this, hdt]
      rw [e3, ← hs.hKnown C0 i (Nat.le_refl _), ← e2] at hrest
      obtain ⟨g, g1, g2, g3⟩ := found h0 l (i + 1) f' hnl hF' hloc' hrest
      rw [List.length_cons, show i + (l.length + 1) = i + 1 + l.length from by omega]
      exact ⟨g, g1, fun k hk => (g2 k hk).trans (if_neg (by omega)), g3⟩
    · let f' : Found := ⟨fun k => if k = i then Φ else f.F k, fun k => if k = i then true else f.ch k, fun k => if k = i then Ψ else f.G k⟩
      have hs : Same f f' i := fun k hk => ⟨if_neg (by omega), if_neg (by omega), if_neg (by omega)⟩
      have eF : f'.F i = Φ := if_pos rfl
      have eC : f'.ch i = true := if_pos rfl
      have eG : f'.G i = Ψ := if_pos rfl
      have hF' : ∀ k, Stays (f'.at_ k) := fun k => by
        by_cases hk : k = i
        · subst hk
          unfold Found.at_
          rw [eC, eG]
          exact hΨ.1
        · have : f'.at_ k = f.at_ k := by
            unfold Found.at_
            rw [show f'.F k = f.F k from if_neg hk, show f'.ch k = f.ch k from if_neg hk, show f'.G k = f.G k from if_neg hk]
          rw [this]
          exact hF k
      have e1 : know (dstOf ops) f' K0 i = know (dstOf ops) f K0 i := funext fun t => hs.know _ _ i (Nat.le_refl _) t
      have hloc' : ∀ k, k < i + 1 → Local P ops w0 n0 f' K0 c0 C0 k := fun k hk => by
        by_cases hki : k = i
        · subst hki
          intro o' ho'
          rw [hoi] at ho'
          injection ho' with ho'
          subst ho'
          rw [eC, eF, eG, e1, hs.head k (Nat.le_refl _), hs.hKnown C0 k (Nat.le_refl _)]
          exact ⟨⟨d, hdd⟩, hgd, hlk, hkp, hΨ.2, hdo⟩
        · exact hs.local_ (by omega) (hloc k (by omega))
      have e2 : head f' (i + 1) = some i := by rw [head, eC]; rfl
      have e3 : upd (know (dstOf ops) f K0 i) (some d) Ψ = know (dstOf ops) f' K0 (i + 1) := by
        funext t
        rw [know, e1, hd, hdd]
        have : f'.at_ i = Ψ := by unfold Found.at_; rw [eC, eG]; rfl
        rw [this]
        unfold upd
        by_cases hdt : d = t
        · subst hdt; simp
        · have : Nat.beq d t = false := by rw [Bool.eq_false_iff]; intro hh; exact hdt (Nat.eq_of_beq_eq_true hh)
          simp [this, hdt]
      have e4 : hTmp (dstOf ops) c0 (head f' (i + 1)) = d := by rw [e2]; show (dstOf ops i).getD 0 = d; rw [hd, hdd]; rfl
      have e5 : hKnown f' C0 (head f' (i + 1)) = Φ := by rw [e2]; exact eF
      rw [e3] at hrest
      have hrest' : wpMine P ops w0 n0 Q l (know (dstOf ops) f' K0 (i + 1)) (hTmp (dstOf ops) c0 (head f' (i + 1))) (hKnown f' C0 (head f' (i + 1))) := by rw [e4, e5]; exact hrest
      obtain ⟨g, g1, g2, g3⟩ := found h0 l (i + 1) f' hnl hF' hloc' hrest'
      rw [List.length_cons, show i + (l.length + 1) = i + 1 + l.length from by omega]
      exact ⟨g, g1, fun k hk => (g2 k hk).trans (if_neg (by omega)), g3⟩
end

end Go.Proofs.Ythpaoeiackbdoaa.Mine

/-
  A region that builds on a row of its own: whatever the order, what the walk in the text's order has found. No program.
-/
namespace Go.Proofs.Ythpaoeiackbdoaa.Mine
open Go Go.RowKit Go.Proofs.Ythpaoeiackbdoaa
open Go.Proofs.Ythpaoeiackbdoaa.Grow (lis lis_set_ne lis_set_self growB growB_spec apart_first apart_second apart_third put_getD_self put_getD_ne put_size put_defers Closed dstOf)

section
variable {P : Program} {ops : Array Oper} {w0 : World} {n0 : Nat}

theorem dstOf_some {k : Nat} {o : Oper} (h : ops[k]? = some o) : dstOf ops k = o.dst := by simp [dstOf, h]
theorem op_at {k : Nat} (h : k < ops.size) : ∃ o, ops[k]? = some o := ⟨ops[k], by simp [h]⟩

/-- the chain's operations by their own words -/
structure Chain (ops : Array Oper) (n0 : Nat) (f : Found) (c0 : Tmp) (nh : Nat) : Prop where
  grow : growB ops n0 = true
  le : nh ≤ ops.size
  out : ∀ k, nh ≤ k → f.ch k = false
  dst : ∀ k o, ops[k]? = some o → f.ch k = true → o.dst = some (hTmp (dstOf ops) c0 (some k))
  look : ∀ k o, ops[k]? = some o → f.ch k = true → (o.looksAt ops).contains (hTmp (dstOf ops) c0 (head f k)) = true ∨ n0 ≤ hTmp (dstOf ops) c0 (head f k)
  plain : ∀ k o, k < nh → ops[k]? = some o → f.ch k = false → o.dst ≠ some (hTmp (dstOf ops) c0 (head f k))

section
variable {f : Found} {c0 : Tmp} {L : Nat → Bool} {nh : Nat}

theorem head_ge {i q : Nat} (hi : f.ch i = true) (h : i < q) : ∃ p, head f q = some p ∧ i ≤ p := by
  cases hh : head f q with
  | none => rw [head_none q hh i h] at hi; cases hi
  | some p =>
    refine ⟨p, rfl, ?_⟩
    by_cases hp : i ≤ p
    · exact hp
    · rw [(head_lt q hh).2.2 i (by omega) h] at hi; cases hi

/-- a chain's operation waits for the one ahead -/
theorem Chain.edge (hC : Chain ops n0 f c0 nh) {i p : Nat} {o : Oper} (ho : ops[i]? = some o) (hi : f.ch i = true) (hh : head f i = some p) : ∃ e ∈ o.after, Region.binds .any e = true ∧ e.on = p := by
  have hp := head_lt i hh
  have hin : i < ops.size := (Array.getElem?_eq_some_iff.1 ho).1
  obtain ⟨op, hop⟩ := op_at (ops := ops) (show p < ops.size by omega)
  rcases ((growB_spec hC.grow).2 i o ho).2.2 p op hp.1 hop with h | h
  · exact h
  · have h1 := hC.look i o ho hi
    rw [hh] at h1
    rcases h1 with h1 | h1
    · rw [apart_first h (hC.dst p op hop hp.2.1)] at h1
      cases h1
    · exact absurd (((growB_spec hC.grow).2 p op hop).1 _ (hC.dst p op hop hp.2.1)) (Nat.not_lt.2 h1)

theorem Chain.later (hC : Chain ops n0 f c0 nh) (hcl : Closed ops L) {i : Nat} (hi : f.ch i = true) (hun : L i = false) : ∀ q, i < q → f.ch q = true → L q = false := by
  intro q
  induction q using Nat.strongRecOn with
  | ind q ih =>
    intro hq hc
    cases hl : L q
    · rfl
    · exfalso
      have hqn : q < ops.size := by
        have := hC.le
        by_cases h : q < nh
        · omega
        · rw [hC.out q (by omega)] at hc; cases hc
      obtain ⟨o, ho⟩ := op_at hqn
      obtain ⟨p, hp, hip⟩ := head_ge hi hq
      obtain ⟨e, he, hb, hon⟩ := hC.edge ho hc hp
      have h1 := hcl q o ho hl e he hb
      rw [hon] at h1
      have hpl := head_lt q hp
      by_cases hpi : p = i
      · subst hpi; rw [hun] at h1; cases h1
      · rw [ih p hpl.1 (by omega) hpl.2.1] at h1; cases h1

/-- the chain's operation that is ready stands on the head -/
theorem Chain.ready (hC : Chain ops n0 f c0 nh) (hcl : Closed ops L) {i : Nat} {o : Oper} (ho : ops[i]? = some o) (hi : f.ch i = true) (hun : L i = false) (hdeps : ∀ e ∈ o.after, Region.binds .any e = true → L e.on = true) : headL f L ops.size = head f i := by
  have hin : i < ops.size := (Array.getElem?_eq_some_iff.1 ho).1
  cases hh : head f i with
  | none =>
    refine headL_no _ fun q hq hc => ?_
    by_cases hqi : q < i
    · rw [head_none i hh q hqi] at hc; cases hc
    · by_cases he : q = i
      · subst he; exact hun
      · exact hC.later hcl hi hun q (by omega) hc
  | some p =>
    obtain ⟨e, he, hb, hon⟩ := hC.edge ho hi hh
    have hp := head_lt i hh
    have hLp := hdeps e he hb
    rw [hon] at hLp
    refine headL_is hp.2.1 hLp _ (by omega) fun q h1 h2 hc => ?_
    by_cases hqi : q < i
    · rw [hp.2.2 q h1 hqi] at hc; cases hc
    · by_cases he' : q = i
      · subst he'; exact hun
      · exact hC.later hcl hi hun q (by omega) hc

/-- the next one behind a head -/
theorem next_of {h : Option Nat} : ∀ (p' : Nat), f.ch p' = true → (∀ p, h = some p → p < p' ∧ f.ch p = true) → ∃ q, q ≤ p' ∧ f.ch q = true ∧ head f q = h ∧ ∀ p, h = some p → p < q := by
  intro p'
  induction p' using Nat.strongRecOn with
  | ind p' ih =>
    intro hc hh
    by_cases he : head f p' = h
    · exact ⟨p', Nat.le_refl _, hc, he, fun p hp => (hh p hp).1⟩
    · cases hp' : head f p' with
      | none =>
        cases h with
        | none => exact absurd hp' he
        | some p =>
          have := hh p rfl
          rw [head_none p' hp' p this.1] at this
          cases this.2
      | some m =>
        have hm := head_lt p' hp'
        obtain ⟨q, h1, h2, h3, h4⟩ := ih m hm.1 hm.2.1 (fun p hp => by
          have h5 := hh p hp
          refine ⟨?_, h5.2⟩
          by_cases h6 : p < m
          · exact h6
          · exfalso
            by_cases h7 : p = m
            · subst h7; exact he (by rw [hp', hp])
            · have := hm.2.2 p (by omega) h5.1
              rw [h5.2] at this
              cases this)
        exact ⟨q, by omega, h2, h3, h4⟩

/-- what is none of the chain's leaves the head alone -/
theorem Chain.safe (hC : Chain ops n0 f c0 nh) (hcl : Closed ops L) {i : Nat} {o : Oper} (hin' : i < nh) (ho : ops[i]? = some o) (hi : f.ch i = false) (hun : L i = false) (hdeps : ∀ e ∈ o.after, Region.binds .any e = true → L e.on = true) :
    o.dst ≠ some (hTmp (dstOf ops) c0 (headL f L ops.size)) := by
  intro hd
  have hin : i < ops.size := (Array.getElem?_eq_some_iff.1 ho).1
  have key : ∀ q, q < i → f.ch q = true → head f q = headL f L ops.size → L q = false → False := fun q hq hc hh hl => by
    obtain ⟨oq, hoq⟩ := op_at (ops := ops) (show q < ops.size by omega)
    have hlk := hC.look q oq hoq hc
    rw [hh] at hlk
    rcases ((growB_spec hC.grow).2 i o ho).2.2 q oq hq hoq with ⟨e, he, hb, hon⟩ | hap
    · have := hdeps e he hb
      rw [hon, hl] at this
      cases this
    · rcases hlk with hlk | hlk
      · rw [apart_third hap hd] at hlk
        cases hlk
      · exact absurd (((growB_spec hC.grow).2 i o ho).1 _ hd) (Nat.not_lt.2 hlk)
  cases hh : headL f L ops.size with
  | none =>
    rw [hh] at hd key
    cases hhi : head f i with
    | none => exact hC.plain i o hin' ho hi (by rw [hhi]; exact hd)
    | some p' =>
      have hp' := head_lt i hhi
      obtain ⟨q, h1, h2, h3, _⟩ := next_of (f := f) (h := none) p' hp'.2.1 (fun p hp => by cases hp)
      exact key q (by omega) h2 h3 (headL_none _ hh q (by omega) h2)
  | some p =>
    rw [hh] at hd key
    have hp := headL_lt _ hh
    obtain ⟨op, hop⟩ := op_at (ops := ops) hp.1
    have hdp := hC.dst p op hop hp.2.1
    by_cases hip : i < p
    · rcases ((growB_spec hC.grow).2 p op hop).2.2 i o hip ho with ⟨e, he, hb, hon⟩ | hap
      · have := hcl p op hop hp.2.2.1 e he hb
        rw [hon, hun] at this
        cases this
      · exact apart_second hap hd hdp
    · have hne : i ≠ p := fun e => by subst e; rw [hp.2.1] at hi; cases hi
      obtain ⟨p', hp', hpp⟩ := head_ge hp.2.1 (show p < i by omega)
      have hp2 := head_lt i hp'
      by_cases he : p' = p
      · subst he
        exact hC.plain i o hin' ho hi (by rw [hp']; exact hd)
      · obtain ⟨q, h1, h2, h3, h4⟩ := next_of (f := f) (h := some p) p' hp2.2.1 (fun r hr => by injection hr with hr; subst hr; exact ⟨by omega, hp.2.1⟩)
        exact key q (by omega) h2 h3 (hp.2.2.2 q (h4 p rfl) (by omega) h2)
end

theorem headL_out {f : Found} {L : Nat → Bool} {nh : Nat} (h : ∀ k, nh ≤ k → f.ch k = false) : ∀ (n : Nat), nh ≤ n → headL f L n = headL f L nh
  | 0, hn => by rw [show nh = 0 from by omega]
  | n + 1, hn => by
    by_cases he : nh = n + 1
    · rw [he]
    · rw [headL, if_neg (fun hh => by rw [h n (by omega)] at hh; cases hh.1), headL_out h n (by omega)]
theorem headL_congr {f : Found} {L L' : Nat → Bool} : ∀ (n : Nat), (∀ q, q < n → f.ch q = true → L q = L' q) → headL f L n = headL f L' n
  | 0, _ => rfl
  | n + 1, h => by
    rw [headL, headL, headL_congr n fun q hq => h q (by omega)]
    by_cases hc : f.ch n = true
    · rw [h n (by omega) hc]
    · rw [if_neg (fun hh => hc hh.1), if_neg (fun hh => hc hh.1)]

def Inv (ops : Array Oper) (w0 : World) (ob0 : Option Nat) (n0 : Nat) (d0 : List Deferred) (f : Found) (K0 : Tmp → Known) (c0 : Tmp) (C0 : Known) (L : Nat → Bool) (a : Act) (w : World) : Prop :=
  ∃ ob, RS w0 ob0 w ob ∧ Wf w ob ∧ a.tmps.size = n0 ∧ a.defers = d0 ∧ (∀ t, knowL (dstOf ops) f K0 L ops.size t (a.tmps.getD t undef) w ob) ∧ hKnown f C0 (headL f L ops.size) (a.tmps.getD (hTmp (dstOf ops) c0 (headL f L ops.size)) undef) w ob

/-- what is known of the written slot, and of the others -/
theorem know_step {d0 : List Deferred} {f : Found} {K0 : Tmp → Known} {listed : Array Bool} {a : Act} {w w' : World} {ob ob' : Option Nat} {i : Nat} {o : Oper} {u : Value} (hB : growB ops n0 = true) (h0 : ∀ t, Stays (K0 t)) (hF : ∀ k, Stays (f.at_ k))
    (hsz : listed.size = ops.size) (hi : ops[i]? = some o) (hun : lis listed i = false) (hcl : Closed ops (lis listed)) (hs : a.tmps.size = n0) (_ : a.defers = d0) (hwf : Wf w ob) (hk : ∀ t, knowL (dstOf ops) f K0 (lis listed) ops.size t (a.tmps.getD t undef) w ob) (hg : RS w ob w' ob') (hu : f.at_ i u w' ob') :
    ∀ t, knowL (dstOf ops) f K0 (lis (listed.setIfInBounds i true)) ops.size t ((a.put o.dst u).tmps.getD t undef) w' ob' := by
  have hin : i < ops.size := (Array.getElem?_eq_some_iff.1 hi).1
  intro t
  by_cases ht : o.dst = some t
  · have hlt : t < n0 := ((growB_spec hB).2 i o hi).1 t ht
    have hdi : dstOf ops i = some t := by simp [dstOf, hi, ht]
    rw [knowL_skip ops.size (i + 1) (by omega) ?_, knowL, if_pos ⟨hdi, lis_set_self (listed := listed) (by omega)⟩]
    · rw [ht, put_getD_self (show t < a.tmps.size by rw [hs]; exact hlt)]; exact hu
    · intro j hij hjn hdj
      obtain ⟨oj, hj⟩ := op_at hjn
      have hdj' : oj.dst = some t := by simpa [dstOf, hj] using hdj
      rw [lis_set_ne (by omega)]
      rcases ((growB_spec hB).2 j oj hj).2.2 i o (by omega) hi with ⟨e, he, hb, hei⟩ | hap
      · rw [Bool.eq_false_iff]
        intro hl
        have := hcl j oj hj hl e he hb
        rw [hei, hun] at this
        cases this
      · exact absurd hdj' (apart_second hap ht)
  · rw [put_getD_ne ht, knowL_congr (L' := lis listed) ops.size ?_]
    · exact knowL_stays h0 hF _ _ _ _ _ _ _ (hk t) hwf hg
    · intro j hjn hdj
      refine lis_set_ne (fun e => ht ?_)
      subst e
      simpa [dstOf, hi] using hdj

theorem any_of_mine {Q : Exit → Act → World → Prop} {d0 : List Deferred} {ob0 : Option Nat} {f : Found} {K0 : Tmp → Known} {c0 : Tmp} {C0 : Known} {nh : Nat} (hC : Chain ops n0 f c0 nh) (h0 : ∀ t, Stays (K0 t)) (hF : ∀ k, Stays (f.at_ k)) (hC0 : Keeps C0) (hloc : ∀ k, k < nh → Local P ops w0 n0 f K0 c0 C0 k)
    {g : Nat} (hs' : Region.sinkB .any ops nh = true ∨ nh = ops.size) (hc' : Region.chainB .any ops nh = true ∨ nh = ops.size)
    (hQ : ∀ listed a w ob, HeadInv .any ops nh listed → (∀ j, j < nh → lis listed j = true) → RS w0 ob0 w ob → Wf w ob → a.tmps.size = n0 → a.defers = d0 → (∀ t, know (dstOf ops) f K0 nh t (a.tmps.getD t undef) w ob) → hKnown f C0 (head f nh) (a.tmps.getD (hTmp (dstOf ops) c0 (head f nh)) undef) w ob → wpAny P .any ops Q g listed a w) :
    ∀ (fuel : Nat) (listed : Array Bool) (S : List Nat) (a : Act) (w : World), HeadInv .any ops nh listed → S.Nodup → (∀ j, j ∈ S ↔ j < nh ∧ lis listed j = false) → S.length = fuel → Inv ops w0 ob0 n0 d0 f K0 c0 C0 (lis listed) a w →
      wpAny P .any ops Q (fuel + g) listed a w := by
  have hB := hC.grow
  have hspec := (growB_spec hB).2
  have keeps : ∀ L, Keeps (hKnown f C0 (headL f L ops.size)) := fun L => by
    cases hh : headL f L ops.size with
    | none => exact hC0
    | some p =>
      have hp := headL_lt _ hh
      obtain ⟨op, hop⟩ := op_at (ops := ops) hp.1
      have hpn : p < nh := by
        by_cases h : p < nh
        · exact h
        · rw [hC.out p (by omega)] at hp; cases hp.2.1
      have := hloc p hpn op hop
      rw [if_pos hp.2.1] at this
      exact this.2.2.2.1
  have hready : ∀ (listed : Array Bool) (j : Nat), listed.size = ops.size → j < ops.size → lis listed j = false → (∀ k, k < j → lis listed k = true) → j ∈ Region.ready .any ops listed := by
    intro listed j hsz hj hl hbel
    refine mem_ready.2 ⟨?_, ops[j], by simp [hj], fun e he hb => hbel _ ((hspec j ops[j] (by simp [hj])).2.1 e he hb)⟩
    have hj' : j < listed.size := by omega
    simpa [lis, hj'] using hl
  intro fuel
  induction fuel with
  | zero =>
    intro listed S a w hhi _ hS hlen ⟨ob, hg, hwf, hs, hd, hk, hc⟩
    have hnil : S = [] := List.eq_nil_of_length_eq_zero hlen
    subst hnil
    have hall : ∀ j, j < nh → lis listed j = true := fun j hj => by
      cases hl : lis listed j with
      | true => rfl
      | false => exact absurd ((hS j).2 ⟨hj, hl⟩) (by simp)
    have htl : ∀ j, nh ≤ j → j < ops.size → lis listed j = false := fun j h1 h2 => getD_both (hhi.tail j h1 h2)
    rw [Nat.zero_add]
    have hhd : headL f (lis listed) ops.size = head f nh := by
      rw [headL_out hC.out ops.size hC.le]
      exact headL_all nh hall
    rw [hhd] at hc
    refine hQ listed a w ob hhi hall hg hwf hs hd (fun t => ?_) hc
    rw [← knowL_all (L := lis listed) nh t (fun j hj _ => hall j hj), ← knowL_skip ops.size nh hC.le (fun j h1 h2 _ => htl j h1 h2)]
    exact hk t
  | succ fuel ih =>
    intro listed S a w hhi hnd hS hlen hinv
    have hsz : listed.size = ops.size := hhi.size
    have hcl : Closed ops (lis listed) := hhi.closed
    obtain ⟨j0, hj0⟩ : ∃ j, j ∈ S := List.exists_mem_of_length_pos (by omega)
    have hj0' := (hS j0).1 hj0
    rw [show fuel + 1 + g = (fuel + g) + 1 from by omega]
    refine ⟨fun hr => ?_, fun i hi => ?_⟩
    · exfalso
      have hall : ∀ j, j < nh → lis listed j = true := by
        intro j
        induction j using Nat.strongRecOn with
        | ind j ihj =>
          intro hj
          cases hl : lis listed j with
          | true => rfl
          | false =>
            have := hready listed j hsz (by have := hC.le; omega) hl (fun k hk => ihj k hk (by omega))
            rw [hr] at this
            exact absurd this (by simp)
      rw [hall j0 hj0'.1] at hj0'
      cases hj0'.2
    · have hinh : i < nh := by
        by_cases h : i < nh
        · exact h
        · exfalso
          have hin : i < ops.size := by
            obtain ⟨_, o, ho, _⟩ := mem_ready.1 hi
            exact (Array.getElem?_eq_some_iff.1 ho).1
          rcases hs' with h1 | h1
          · rcases hc' with h2 | h2
            · exact tail_waits h1 h2 (by omega) hhi _ j0 rfl hj0'.1 (getD_in (by have := hC.le; omega) hj0'.2) i (by omega) hi
            · omega
          · omega
      obtain ⟨hun0, o, ho, hdeps⟩ := mem_ready.1 hi
      have hin : i < ops.size := (Array.getElem?_eq_some_iff.1 ho).1
      have hin' : i < listed.size := by omega
      have hun : lis listed i = false := by simpa [lis, hin'] using hun0
      have hdeps' : ∀ e ∈ o.after, Region.binds .any e = true → lis listed e.on = true := hdeps
      obtain ⟨ob, hrs, hwf, hs, hd, hk, hch⟩ := hinv
      have hlook : ∀ t, (o.looksAt ops).contains t = true → know (dstOf ops) f K0 i t (a.tmps.getD t undef) w ob := by
        intro t ht
        have hk := hk t
        rw [knowL_skip ops.size i (by omega) ?_, knowL_all i t ?_] at hk
        · exact hk
        · intro j hji hdj
          obtain ⟨oj, hj⟩ : ∃ oj, ops[j]? = some oj := ⟨ops[j]'(by omega), by simp [show j < ops.size by omega]⟩
          have hdj' : oj.dst = some t := by simpa [dstOf, hj] using hdj
          rcases (hspec i o ho).2.2 j oj hji hj with ⟨e, he, hb, hej⟩ | hap
          · rw [← hej]; exact hdeps' e he hb
          · rw [apart_first hap hdj'] at ht; cases ht
        · intro j hij hjn hdj
          by_cases he : j = i
          · subst he; exact hun
          · obtain ⟨oj, hj⟩ : ∃ oj, ops[j]? = some oj := ⟨ops[j], by simp [hjn]⟩
            have hdj' : oj.dst = some t := by simpa [dstOf, hj] using hdj
            rcases (hspec j oj hj).2.2 i o (by omega) ho with ⟨e, he', hb, hei⟩ | hap
            · rw [Bool.eq_false_iff]
              intro hl
              have := hcl j oj hj hl e he' hb
              rw [hei, hun] at this
              cases this
            · rw [apart_third hap hdj'] at ht; cases ht
      have hhi' : HeadInv .any ops nh (listed.setIfInBounds i true) := hhi.set hi hinh
      have hiS : i ∈ S := (hS i).2 ⟨hinh, hun⟩
      have hS' : ∀ j, j ∈ S.erase i ↔ j < nh ∧ lis (listed.setIfInBounds i true) j = false := by
        intro j
        rw [hnd.mem_erase_iff, hS j]
        by_cases hji : j = i
        · subst hji
          rw [lis_set_self hin']
          simp
        · rw [lis_set_ne (Ne.symm hji)]
          simp [hji]
      have hlen' : (S.erase i).length = fuel := by rw [List.length_erase_of_mem hiS]; omega
      have hnd' : (S.erase i).Nodup := hnd.erase i
      have hl := hloc i hinh o ho
      cases hci : f.ch i with
      | false =>
        rw [hci] at hl
        simp only [Bool.false_eq_true, if_false] at hl
        have hat : f.at_ i = f.F i := by unfold Found.at_; rw [hci]; rfl
        have hsafe := hC.safe hcl hinh ho hci hun hdeps'
        have hhd : headL f (lis (listed.setIfInBounds i true)) ops.size = headL f (lis listed) ops.size := headL_congr _ fun q _ hq => lis_set_ne (fun e => by subst e; rw [hci] at hq; cases hq)
        have next : ∀ (u : Value) (w' : World), Gr w w' → f.F i u w' ob → wpAny P .any ops Q (fuel + g) (listed.setIfInBounds i true) (a.put o.dst u) w' := fun u w' hg hu =>
          ih _ _ _ _ hhi' hnd' hS' hlen' ⟨ob, hrs.trans (RS.of_gr hg), hwf.gr hg, by rw [put_size]; exact hs, by rw [put_defers]; exact hd,
            know_step (d0 := d0) hB h0 hF hsz ho hun hcl hs hd hwf hk (RS.of_gr hg) (by rw [hat]; exact hu),
            by rw [hhd, put_getD_ne hsafe]; exact keeps _ _ _ _ _ hch hg⟩
        have hl2 := hl.2 a w ob ob0 hrs hwf hs hlook
        unfold wpOp
        simp only [ho]
        split
        · rename_i hw
          rw [if_pos hw] at hl2
          refine .inl ?_
          unfold does at hl2
          unfold Oper.wp
          generalize (execOp a.eval o).run P w = r at *
          cases r with
          | ok n w' =>
            cases n <;> simp only [upon] at hl2 <;> simp only [Oper.upon]
            case value u => exact next u w' hl2.1 hl2.2
            case skip => exact next undef w' hl2.1 hl2.2
            case enter fn args =>
              obtain ⟨hg1, hc⟩ := hl2
              exact hc.mono fun e w'' ⟨u, he, hg', hu⟩ => by subst he; exact next u w'' hg' hu
          | halt x w' => simp only [upon] at hl2
        · rename_i hw
          rw [if_neg hw] at hl2
          exact next undef w (Gr.refl w) hl2
      | true =>
        rw [if_pos hci] at hl
        obtain ⟨⟨d, hdd⟩, hgd, _, _, hFG, hca⟩ := hl
        have hat : f.at_ i = f.G i := by unfold Found.at_; rw [hci]; rfl
        have hhi := hC.ready hcl ho hci hun hdeps'
        rw [hhi] at hch
        have hdl : d < n0 := (hspec i o ho).1 d hdd
        have hdi : dstOf ops i = some d := by rw [dstOf_some ho, hdd]
        have hhd : headL f (lis (listed.setIfInBounds i true)) ops.size = some i := headL_is hci (lis_set_self hin') _ hin fun q h1 h2 hq => by
          rw [lis_set_ne (by omega)]
          exact hC.later hcl hci hun q h1 hq
        have hw : Region.wanted o (yielded ops a.tmps) = true := by simp [Region.wanted, hgd]
        have hl2 := hca a w ob ob0 hrs hwf hs hlook hch
        unfold wpOp
        simp only [ho]
        rw [if_pos hw]
        refine .inl ?_
        unfold doesC at hl2
        unfold Oper.wp
        generalize (execOp a.eval o).run P w = r at *
        cases r with
        | ok n w' =>
          cases n <;> simp only [uponC] at hl2 <;> simp only [Oper.upon]
          case value u =>
            obtain ⟨ob', hr, hwf', hu⟩ := hl2
            refine ih _ _ _ _ hhi' hnd' hS' hlen' ⟨ob', hrs.trans hr, hwf', by rw [put_size]; exact hs, by rw [put_defers]; exact hd, know_step (d0 := d0) hB h0 hF hsz ho hun hcl hs hd hwf hk hr (by rw [hat]; exact hFG _ _ _ hu), ?_⟩
            rw [hhd]
            show f.F i ((a.put o.dst u).tmps.getD ((dstOf ops i).getD 0) undef) w' ob'
            rw [hdi, hdd]
            show f.F i ((a.put (some d) u).tmps.getD d undef) w' ob'
            rw [put_getD_self (by rw [hs]; exact hdl)]
            exact hu
          case enter fn args =>
            refine hl2.mono fun e w'' ⟨u, ob', he, hr, hwf', hu⟩ => ?_
            subst he
            refine ih _ _ _ _ hhi' hnd' hS' hlen' ⟨ob', hrs.trans hr, hwf', by rw [put_size]; exact hs, by rw [put_defers]; exact hd, know_step (d0 := d0) hB h0 hF hsz ho hun hcl hs hd hwf hk hr (by rw [hat]; exact hFG _ _ _ hu), ?_⟩
            rw [hhd]
            show f.F i ((a.put o.dst u).tmps.getD ((dstOf ops i).getD 0) undef) w'' ob'
            rw [hdi, hdd]
            show f.F i ((a.put (some d) u).tmps.getD d undef) w'' ob'
            rw [put_getD_self (by rw [hs]; exact hdl)]
            exact hu
        | halt x w' => simp only [uponC] at hl2
end

end Go.Proofs.Ythpaoeiackbdoaa.Mine

/-
  A region that builds on a row of its own, walked once; the steps of such a walk. No program.
-/
namespace Go.Proofs.Ythpaoeiackbdoaa.Mine
open Go Go.RowKit Go.Proofs.Ythpaoeiackbdoaa
open Go.Proofs.Ythpaoeiackbdoaa.Grow (lis growB growB_spec dstOf writesB)

section
variable {P : Program} {ops : Array Oper} {w0 : World} {n0 : Nat}

theorem upd_stays {K : Tmp → Known} {Φ : Known} {d : Option Tmp} (h : ∀ t, Stays (K t)) (hΦ : Stays Φ) : ∀ t, Stays (upd K d Φ t) := fun t => by
  cases d with
  | none => exact h t
  | some d =>
    show Stays (bif Nat.beq d t then Φ else K t)
    cases Nat.beq d t
    · exact h t
    · exact hΦ

theorem upd_weak {K K' : Tmp → Known} {d : Option Tmp} {Φ : Known} (hi : ∀ t v w o, K t v w o → K' t v w o) : ∀ t v w o, upd K d Φ t v w o → upd K' d Φ t v w o := fun t v w o hk => by
  unfold upd at hk ⊢
  cases d with
  | none => exact hi t v w o hk
  | some d =>
    cases hb : Nat.beq d t
    · simp only [hb, cond_false] at hk ⊢; exact hi t v w o hk
    · simp only [hb, cond_true] at hk ⊢; exact hk
theorem weaker {Q : (Tmp → Known) → Tmp → Known → Prop} : ∀ (l : List Oper) (K K' : Tmp → Known) (c : Tmp) (C : Known), (∀ t, Stays (K' t)) → (∀ t v w o, K t v w o → K' t v w o) →
    (∀ K K' c C, (∀ t v w o, K t v w o → K' t v w o) → Q K' c C → Q K c C) → wpMine P ops w0 n0 Q l K' c C → wpMine P ops w0 n0 Q l K c C
  | [], K, K', c, C, _, hi, hQ, h => hQ K K' c C hi h
  | o :: l, K, K', c, C, hst, hi, hQ, h => by
    rcases h with ⟨Φ, h1, h2, h3, h4⟩ | ⟨Φ, Ψ, d, h1, h2, h3, h4, hΨ, h5, h6⟩
    · exact .inl ⟨Φ, fun _ => h1 hst, h2, fun a w ob ob0 hg hwf hs hl => h3 a w ob ob0 hg hwf hs (fun t ht => hi t _ _ _ (hl t ht)), weaker l _ _ c C (upd_stays hst (h1 hst)) (upd_weak hi) hQ h4⟩
    · exact .inr ⟨Φ, Ψ, d, h1, h2, h3, h4, hΨ, fun a w ob ob0 hg hwf hs hl => h5 a w ob ob0 hg hwf hs (fun t ht => hi t _ _ _ (hl t ht)), weaker l _ _ d Φ (upd_stays hst hΨ.1) (upd_weak hi) hQ h6⟩

theorem know_far {dst : Nat → Option Tmp} {f : Found} {K0 : Tmp → Known} {t : Tmp} : ∀ n, (∀ k, k < n → dst k ≠ some t) → know dst f K0 n t = K0 t
  | 0, _ => rfl
  | n + 1, h => by rw [know, if_neg (h n (by omega)), know_far n (fun k hk => h k (by omega))]
end

/-- what is known at the start, slot by slot, as far as it is wanted -/
def Ahead (w0 : World) (ob : Option Nat) (a : Act) (K : Tmp → Known) : Prop := (∀ t, Stays (K t)) ∧ ∀ t, K t (a.tmps.getD t undef) w0 ob
theorem Ahead.none_ (w0 : World) (ob : Option Nat) (a : Act) : Ahead w0 ob a (fun _ => top) := ⟨fun _ => top_stays, fun _ => trivial⟩
theorem Ahead.more {w0 : World} {ob : Option Nat} {a : Act} {K : Tmp → Known} {Φ : Known} (h : Ahead w0 ob a K) (t : Tmp) (hst : Stays Φ) (hv : Φ (a.tmps.getD t undef) w0 ob) : Ahead w0 ob a (upd K (some t) Φ) := by
  refine ⟨upd_stays h.1 hst, fun s => ?_⟩
  show (bif Nat.beq t s then Φ else K s) _ _ _
  cases hb : Nat.beq t s
  · exact h.2 s
  · obtain rfl := Nat.eq_of_beq_eq_true hb
    exact hv

/-- the first n have come up, and no other -/
def firsts (n m : Nat) : Array Bool := (List.replicate n true ++ List.replicate (m - n) false).toArray
theorem firsts_is {n m : Nat} {listed : Array Bool} (hn : n ≤ m) (hs : listed.size = m) (h1 : ∀ j, j < n → lis listed j = true) (h2 : ∀ j, n ≤ j → j < m → listed.getD j true = false) : listed = firsts n m := by
  have hfs : (firsts n m).size = m := by simp [firsts]; omega
  refine Array.ext (by rw [hs, hfs]) fun j hj hj' => ?_
  by_cases hjn : j < n
  · have h3 := h1 j hjn
    simp only [lis, Array.getD_eq_getD_getElem?, Array.getElem?_eq_getElem hj, Option.getD_some] at h3
    rw [h3]
    simp [firsts, hjn]
  · have h3 := h2 j (by omega) (by omega)
    simp only [Array.getD_eq_getD_getElem?, Array.getElem?_eq_getElem hj, Option.getD_some] at h3
    rw [h3]
    simp [firsts, List.getElem_append, hjn]

/-- the walk through the first operations, and what is asked of the others -/
theorem mine_head_any {P : Program} {l : List Oper} {Q : Exit → Act → World → Prop} {a : Act} {w : World} (n0 : Nat) (D : List Nat) (nh : Nat) (hle : nh ≤ l.length) (hs' : Region.sinkB .any l.toArray nh = true ∨ nh = l.toArray.size) (hc' : Region.chainB .any l.toArray nh = true ∨ nh = l.toArray.size)
    (hn : a.tmps.size = n0) (hD : writesB l D = true) (hB : growB l.toArray n0 = true)
    {K : Tmp → Known} {ob0 : Option Nat} (hK : Ahead w.drew ob0 a K) (c0 : Tmp) {C0 : Known} (hC0 : Keeps C0) (hwf : Wf w.drew ob0) (hc : C0 (a.tmps.getD c0 undef) w.drew ob0)
    (h : wpMine P l.toArray w.drew n0 (fun K c C => ∀ a' w' ob, RS w.drew ob0 w' ob → Wf w' ob → a'.tmps.size = n0 → a'.defers = a.defers → (∀ t, D.contains t = false → a'.tmps.getD t undef = a.tmps.getD t undef) → (∀ t, K t (a'.tmps.getD t undef) w' ob) → C (a'.tmps.getD c undef) w' ob → wpAny P .any l.toArray Q (l.toArray.size - nh) (firsts nh l.toArray.size) a' w') (l.take nh) K c0 C0) :
    wpAny P .any l.toArray Q l.toArray.size (Array.replicate l.toArray.size false) a w.drew := by
  subst hn
  show wpAny P .any l.toArray Q l.toArray.size (Array.replicate l.toArray.size false) a w.drew
  have hn : l.toArray.size = l.length := by simp
  have htl : (l.take nh).length = nh := by simp; omega
  let K0 : Tmp → Known := fun t v w o => v = a.tmps.getD t undef ∧ K t v w o
  have h0 : ∀ t, Stays (K0 t) := fun t v w o w' o' hh hwf hr => ⟨hh.1, hK.1 t _ _ _ _ _ hh.2 hwf hr⟩
  have h' := weaker (l.take nh) K0 K c0 C0 hK.1 (fun _ _ _ _ hh => hh.2) (fun K K' c C hi hq a' w' ob hr hw hs hd hu hk hc => hq a' w' ob hr hw hs hd hu (fun t => hi t _ _ _ (hk t)) hc) h
  let f0 : Found := ⟨fun _ => top, fun _ => false, fun _ => top⟩
  obtain ⟨f, hF, hout, hloc, hQ⟩ := found (P := P) (ops := l.toArray) (w0 := w.drew) (n0 := a.tmps.size) (c0 := c0) (C0 := C0) h0 (l.take nh) 0 f0 (fun j hj => by rw [htl] at hj; simp [hj]) (fun _ => top_stays) (fun k hk => absurd hk (by omega)) h'
  simp only [Nat.zero_add] at hloc hQ hout
  rw [htl] at hloc hQ hout
  have hC : Chain l.toArray a.tmps.size f c0 nh := by
    have hin : ∀ k, f.ch k = true → k < nh := fun k hk => by
      by_cases hkn : k < nh
      · exact hkn
      · rw [hout k (by omega)] at hk; cases hk
    refine ⟨hB, by rw [hn]; exact hle, hout, fun k o ho hk => ?_, fun k o ho hk => ?_, fun k o hkn ho hk => ?_⟩
    · have hl := hloc k (hin k hk) o ho
      rw [hk] at hl
      simp only [if_true] at hl
      obtain ⟨⟨d, hd⟩, _⟩ := hl
      rw [hd]
      show some d = some ((dstOf l.toArray k).getD 0)
      rw [dstOf_some ho, hd]
      rfl
    · have hl := hloc k (hin k hk) o ho
      rw [hk] at hl
      simp only [if_true] at hl
      exact hl.2.2.1
    · have hl := hloc k hkn o ho
      rw [hk] at hl
      simp only [Bool.false_eq_true, if_false] at hl
      exact hl.1
  have hno : ∀ j, j < l.toArray.size → lis (Array.replicate l.toArray.size false) j = false := fun j hj => by simp only [List.size_toArray] at hj; simp [lis, hj]
  have hfit : nh + (l.toArray.size - nh) = l.toArray.size := by omega
  have hinv0 : HeadInv .any l.toArray nh (Array.replicate l.toArray.size false) :=
    ⟨by simp, fun j oj _ hl => (by rw [getD_replicate_false] at hl; cases hl), fun t _ ht => getD_in (by simpa using ht) (getD_replicate_false _ _)⟩
  have H := any_of_mine (d0 := a.defers) (ob0 := ob0) (Q := Q) (g := l.toArray.size - nh) hC h0 hF hC0 hloc hs' hc' (fun listed a' w' ob hhi hall hr hwf hs hd hk hcc => ?_) nh (Array.replicate l.toArray.size false) (List.range nh) a w.drew hinv0 List.nodup_range (fun j => ?_) (by simp) ?_
  · rw [hfit] at H
    exact H
  · rw [firsts_is (by omega) hhi.size hall hhi.tail]
    refine hQ a' w' ob hr hwf hs hd (fun t ht => ?_) hk hcc
    have h1 := hk t
    rw [know_far nh (fun k hk hd => ?_)] at h1
    · exact h1.1
    · simp only [dstOf, List.getElem?_toArray, Option.bind_eq_some_iff] at hd
      obtain ⟨o, ho, hod⟩ := hd
      have h2 := List.all_eq_true.1 hD o (List.mem_of_getElem? ho)
      rw [hod] at h2
      simp only at h2
      rw [ht] at h2
      cases h2
  · simp only [List.mem_range]
    exact ⟨fun hj => ⟨hj, hno j (by omega)⟩, fun hj => hj.1⟩
  · have hh : headL f (lis (Array.replicate l.toArray.size false)) l.toArray.size = none := headL_no _ fun q hq _ => hno q hq
    refine ⟨ob0, RS.refl _ _, hwf, rfl, rfl, fun t => ?_, ?_⟩
    · rw [knowL_skip l.toArray.size 0 (by omega) (fun j _ hjn _ => hno j hjn)]
      exact ⟨rfl, hK.2 t⟩
    · rw [hh]
      exact hc
theorem mine_head {P : Program} {l : List Oper} {id : Nat} {Q : Exit → Act → World → Prop} {a : Act} {w : World} (n0 : Nat) (D : List Nat) (nh : Nat) (hle : nh ≤ l.length) (hs' : Region.sinkB .any l.toArray nh = true ∨ nh = l.toArray.size) (hc' : Region.chainB .any l.toArray nh = true ∨ nh = l.toArray.size)
    (hn : a.tmps.size = n0) (hD : writesB l D = true) (hm : P.follows .mixedOrders = true) (hB : growB l.toArray n0 = true)
    {K : Tmp → Known} {ob0 : Option Nat} (hK : Ahead w.drew ob0 a K) (c0 : Tmp) {C0 : Known} (hC0 : Keeps C0) (hwf : Wf w.drew ob0) (hc : C0 (a.tmps.getD c0 undef) w.drew ob0)
    (h : wpMine P l.toArray w.drew n0 (fun K c C => ∀ a' w' ob, RS w.drew ob0 w' ob → Wf w' ob → a'.tmps.size = n0 → a'.defers = a.defers → (∀ t, D.contains t = false → a'.tmps.getD t undef = a.tmps.getD t undef) → (∀ t, K t (a'.tmps.getD t undef) w' ob) → C (a'.tmps.getD c undef) w' ob → wpAny P .any l.toArray Q (l.toArray.size - nh) (firsts nh l.toArray.size) a' w') (l.take nh) K c0 C0) :
    (Code.region id l.toArray true).wp P Q a w := wp_region_any hm (mine_head_any n0 D nh hle hs' hc' hn hD hB hK c0 hC0 hwf hc h)

/-- more of the end -/
theorem wpMine_mono {P : Program} {ops : Array Oper} {w0 : World} {n0 : Nat} {Q Q' : (Tmp → Known) → Tmp → Known → Prop} (hQ : ∀ K c C, Q K c C → Q' K c C) : ∀ (l : List Oper) (K : Tmp → Known) (c : Tmp) (C : Known), wpMine P ops w0 n0 Q l K c C → wpMine P ops w0 n0 Q' l K c C
  | [], K, c, C, h => hQ K c C h
  | o :: l, K, c, C, h => by
    rcases h with ⟨Φ, h1, h2, h3, h4⟩ | ⟨Φ, Ψ, d, h1, h2, h3, h4, hΨ, h5, h6⟩
    · exact .inl ⟨Φ, h1, h2, h3, wpMine_mono hQ l _ _ _ h4⟩
    · exact .inr ⟨Φ, Ψ, d, h1, h2, h3, h4, hΨ, h5, wpMine_mono hQ l _ _ _ h6⟩

/-- **A region whose order is open and that builds on a row of its own, walked once.** -/
theorem wp_region_mine {P : Program} {l : List Oper} {id : Nat} {Q : Exit → Act → World → Prop} {a : Act} {w : World} (n0 : Nat) (D : List Nat) (hn : a.tmps.size = n0) (hD : writesB l D = true) (hm : P.follows .mixedOrders = true) (hB : growB l.toArray n0 = true)
    {K : Tmp → Known} {ob0 : Option Nat} (hK : Ahead w.drew ob0 a K) (c0 : Tmp) {C0 : Known} (hC0 : Keeps C0) (hwf : Wf w.drew ob0) (hc : C0 (a.tmps.getD c0 undef) w.drew ob0)
    (h : wpMine P l.toArray w.drew n0 (fun K c C => ∀ a' w' ob, RS w.drew ob0 w' ob → a'.tmps.size = n0 → a'.defers = a.defers → (∀ t, D.contains t = false → a'.tmps.getD t undef = a.tmps.getD t undef) → (∀ t, K t (a'.tmps.getD t undef) w' ob) → C (a'.tmps.getD c undef) w' ob → Q .normal a' w') l K c0 C0) :
    (Code.region id l.toArray true).wp P Q a w := by
  refine mine_head n0 D l.length (Nat.le_refl _) (.inr (by simp)) (.inr (by simp)) hn hD hm hB hK c0 hC0 hwf hc ?_
  rw [List.take_length]
  refine wpMine_mono (fun K c C hq a' w' ob hr hw hs hd hu hk hcc => ?_) l K c0 C0 h
  have := hq a' w' ob hr hs hd hu hk hcc
  rw [show l.toArray.size - l.length = 0 from by simp]
  refine ⟨?_, this⟩
  refine List.eq_nil_iff_forall_not_mem.2 fun j hj => ?_
  obtain ⟨h1, o, ho, _⟩ := mem_ready.1 hj
  have hjl : j < l.length := by have := (Array.getElem?_eq_some_iff.1 ho).1; simpa using this
  have h2 : (firsts l.length l.toArray.size).getD j true = true := by
    simp [firsts, hjl]
  rw [h2] at h1
  cases h1

def tailB (ops : Array Oper) (n : Nat) : Bool := decide (n ≤ ops.size) && Region.sinkB .any ops n && Region.chainB .any ops n && Region.seqB .any ops (ops.size - n) n (firsts n ops.size)

/-- likewise, where the last operations have one order: they are walked as they stand -/
theorem any_mine_tail {P : Program} {l : List Oper} {Q : Exit → Act → World → Prop} {a : Act} {w : World} (nh n0 : Nat) (D : List Nat) (hn : a.tmps.size = n0) (hD : writesB l D = true) (hB : growB l.toArray n0 = true) (hT : tailB l.toArray nh = true)
    {K : Tmp → Known} {ob0 : Option Nat} (hK : Ahead w.drew ob0 a K) (c0 : Tmp) {C0 : Known} (hC0 : Keeps C0) (hwf : Wf w.drew ob0) (hc : C0 (a.tmps.getD c0 undef) w.drew ob0)
    (h : wpMine P l.toArray w.drew n0 (fun K c C => ∀ a' w' ob, RS w.drew ob0 w' ob → Wf w' ob → a'.tmps.size = n0 → a'.defers = a.defers → (∀ t, D.contains t = false → a'.tmps.getD t undef = a.tmps.getD t undef) → (∀ t, K t (a'.tmps.getD t undef) w' ob) → C (a'.tmps.getD c undef) w' ob → wpList P l.toArray Q (l.drop nh) a' w') (l.take nh) K c0 C0) :
    wpAny P .any l.toArray Q l.toArray.size (Array.replicate l.toArray.size false) a w.drew := by
  simp only [tailB, Bool.and_eq_true, decide_eq_true_eq] at hT
  obtain ⟨⟨⟨hle, hs⟩, hc'⟩, hq⟩ := hT
  have hdl : (l.drop nh).length = l.toArray.size - nh := by simp
  refine mine_head_any n0 D nh (by simpa using hle) (.inl hs) (.inl hc') hn hD hB hK c0 hC0 hwf hc ?_
  refine wpMine_mono (fun K c C hh a' w' ob hr hw hs hd hu hk hcc => ?_) _ K c0 C0 h
  have := wpAny_of_seq (md := .any) (Q' := Q) (l.drop nh) nh (firsts nh l.toArray.size) a' w' (fun j => by simp [List.getElem?_drop]) (by rw [hdl]; exact hq) (hh a' w' ob hr hw hs hd hu hk hcc)
  rwa [hdl] at this
/-- **Likewise, where the last operations have one order: they are walked as they stand.** -/
theorem wp_region_mine_tail {P : Program} {l : List Oper} {id : Nat} {Q : Exit → Act → World → Prop} {a : Act} {w : World} (nh n0 : Nat) (D : List Nat) (hn : a.tmps.size = n0) (hD : writesB l D = true) (hm : P.follows .mixedOrders = true) (hB : growB l.toArray n0 = true) (hT : tailB l.toArray nh = true)
    {K : Tmp → Known} {ob0 : Option Nat} (hK : Ahead w.drew ob0 a K) (c0 : Tmp) {C0 : Known} (hC0 : Keeps C0) (hwf : Wf w.drew ob0) (hc : C0 (a.tmps.getD c0 undef) w.drew ob0)
    (h : wpMine P l.toArray w.drew n0 (fun K c C => ∀ a' w' ob, RS w.drew ob0 w' ob → Wf w' ob → a'.tmps.size = n0 → a'.defers = a.defers → (∀ t, D.contains t = false → a'.tmps.getD t undef = a.tmps.getD t undef) → (∀ t, K t (a'.tmps.getD t undef) w' ob) → C (a'.tmps.getD c undef) w' ob → wpList P l.toArray Q (l.drop nh) a' w') (l.take nh) K c0 C0) :
    (Code.region id l.toArray true).wp P Q a w := wp_region_any hm (any_mine_tail nh n0 D hn hD hB hT hK c0 hC0 hwf hc h)

end Go.Proofs.Ythpaoeiackbdoaa.Mine

/-
  The steps of a walk through a region that builds on a row of its own. No program.
-/
namespace Go.Proofs.Ythpaoeiackbdoaa.Mine
open Go Go.RowKit Go.Proofs.Ythpaoeiackbdoaa

/-- just this value -/
abbrev Is (c : Value) : Known := fun v _ _ => v = c
theorem Is.stays (c : Value) : Stays (Is c) := fun _ _ _ _ _ h _ _ => h
/-- a slice that reads as these bytes, and does not lie in the row's block -/
abbrev Sl (l : List UInt8) : Known := fun v w o => ∃ A c, v = .slice A l.length c ∧ By w A c l ∧ Apart o A l
theorem Sl.stays (l : List UInt8) : Stays (Sl l) := fun _ w o w' o' ⟨A, c, h1, h2, h3⟩ _ hr => ⟨A, c, h1, h2.but_row hr.gb h3, by
  rcases hr.at_ with e | ⟨k, e, hk⟩
  · rw [e]; exact h3
  · rw [e]
    intro hl ad hA e2
    have := h2.rd.lt hl hA
    injection e2 with e2
    omega⟩
/-- a pointer to a block of these cells, which is not the row's -/
abbrev Bx (g : Nat) (e : TypeId) (cs : Array Value) : Known := fun v w o => v = .pointer (some ⟨g, 0, none⟩) ∧ Bl w g e cs ∧ some g ≠ o
theorem Bx.stays (g : Nat) (e : TypeId) (cs : Array Value) : Stays (Bx g e cs) := fun _ w o w' o' ⟨h1, h2, h3⟩ _ hr => ⟨h1, (hr.gb.block g h2.lt h3).trans h2, by
  rcases hr.at_ with e | ⟨k, e, hk⟩
  · rw [e]; exact h3
  · rw [e]
    intro e2
    injection e2 with e2
    have := h2.lt
    omega⟩
/-- a pointer to a cell that holds this, which is not in the row's block -/
abbrev Ce (u : Value) : Known := fun v w o => ∃ a, v = .pointer (some a) ∧ w.cell? a = some u ∧ some a.block ≠ o
theorem Ce.stays (u : Value) : Stays (Ce u) := fun _ w o w' o' ⟨a, h1, h2, h3⟩ _ hr => ⟨a, h1, by
  rw [World.cell?_of_block (hr.gb.block _ (World.block_lt_of_cell? w _ h2) h3)]
  exact h2, by
  rcases hr.at_ with e | ⟨k, e, hk⟩
  · rw [e]; exact h3
  · rw [e]
    intro e2
    injection e2 with e2
    have := World.block_lt_of_cell? w _ h2
    omega⟩

/-- the row itself: bytes of the call's own, from block B on -/
abbrev Row (e : TypeId) (B : Nat) (l : List UInt8) : Known := fun v w o => OwnE e w B v l ∧ v.ownBlock = o
theorem Row.keeps (e : TypeId) (B : Nat) (l : List UInt8) : Keeps (Row e B l) := fun _ _ _ _ ⟨h1, h2⟩ hg => ⟨h1.gr hg, h2⟩
theorem Row.wf {e : TypeId} {B : Nat} {l : List UInt8} {v : Value} {w : World} {o : Option Nat} (h : Row e B l v w o) : Wf w o := fun k hk => h.1.lt k (by rw [h.2]; exact hk)
theorem top_keeps : Keeps top := fun _ _ _ _ _ _ => trivial

/-- what is known of an operand -/
def Kn (K : Tmp → Known) : Operand → Known → Prop
  | .tmp t, Φ => K t = Φ
  | .const v, Φ => ∀ w o, Φ v w o
  | _, _ => False

section
variable {P : Program} {ops : Array Oper} {w0 : World} {n0 : Nat} {Q : (Tmp → Known) → Tmp → Known → Prop} {o : Oper} {rest : List Oper} {K : Tmp → Known} {Φ : Known} {c : Tmp} {C : Known}

theorem looks_op {x : Operand} {Ψ : Known} (hx : x ∈ o.op.operands) (hk : Kn K x Ψ) {a : Act} {w : World} {ob : Option Nat} (hl : ∀ t, (o.looksAt ops).contains t = true → K t (a.tmps.getD t undef) w ob) : Ψ (a.eval x) w ob := by
  cases x with
  | tmp t =>
    have : (o.looksAt ops).contains t = true := by
      simp only [List.contains_eq_mem, decide_eq_true_eq]
      exact List.mem_append_left _ (List.mem_filterMap.2 ⟨.tmp t, by simpa using hx, rfl⟩)
    have h := hl t this
    rw [show K t = Ψ from hk] at h
    exact h
  | const v => exact hk w ob
  | global g => exact absurd hk (by simp [Kn])
  | func f => exact absurd hk (by simp [Kn])
theorem looks_tmp {t : Tmp} (hx : Operand.tmp t ∈ o.op.operands) : (o.looksAt ops).contains t = true := by
  simp only [List.contains_eq_mem, decide_eq_true_eq]
  exact List.mem_append_left _ (List.mem_filterMap.2 ⟨.tmp t, by simpa using hx, rfl⟩)

/-- one that is none of the chain's -/
theorem step (hg : o.guard = none) (hd : o.dst ≠ some c) (hst : Stays Φ)
    (hdo : ∀ a w ob, Wf w ob → (∀ t, (o.looksAt ops).contains t = true → K t (a.tmps.getD t undef) w ob) → does P o a w ob Φ) (h : wpMine P ops w0 n0 Q rest (upd K o.dst Φ) c C) : wpMine P ops w0 n0 Q (o :: rest) K c C :=
  .inl ⟨Φ, fun _ => hst, hd, fun a w ob _ _ hwf _ hl => by
    have hw : Region.wanted o (yielded ops a.tmps) = true := by simp [Region.wanted, hg]
    rw [if_pos hw]
    exact hdo a w ob hwf hl, h⟩

theorem move (x : Operand) (ho : o.op = .move x ∨ o.op = .assign x) (hg : o.guard = none) (hd : o.dst ≠ some c) (hk : Kn K x Φ) (hst : Stays Φ) (h : wpMine P ops w0 n0 Q rest (upd K o.dst Φ) c C) : wpMine P ops w0 n0 Q (o :: rest) K c C := by
  refine step hg hd hst (fun a w ob _ hl => ?_) h
  have hv : Φ (a.eval x) w ob := looks_op (by rcases ho with ho | ho <;> simp [ho, Op.operands]) hk hl
  unfold does execOp
  rcases ho with ho | ho <;> rw [ho] <;> exact ⟨Gr.refl w, hv⟩

/-- 'x.F', x in a block -/
theorem field {t : TypeId} {x : Operand} {i g j : Nat} {e : TypeId} {cs : Array Value} {u : Value} (ho : o.op = .fieldAddr t x i) (hg : o.guard = none) (hd : o.dst ≠ some c) (hx : Kn K x (Bx g e cs)) (hr : ∀ w, (Instr.fieldAt t (.pointer (some ⟨g, 0, none⟩)) i).run P w = .ok (.pointer (some ⟨g, j, none⟩)) w)
    (hu : cs[j]? = some u) (h : wpMine P ops w0 n0 Q rest (upd K o.dst (Ce u)) c C) : wpMine P ops w0 n0 Q (o :: rest) K c C := by
  refine step hg hd (Ce.stays u) (fun a w ob _ hl => ?_) h
  obtain ⟨h1, h2, h3⟩ : a.eval x = .pointer (some ⟨g, 0, none⟩) ∧ Bl w g e cs ∧ some g ≠ ob := looks_op (Ψ := Bx g e cs) (by simp [ho, Op.operands]) hx hl
  unfold does execOp
  simp only [ho, h1]
  rw [Sem.run_bind, hr w]
  exact ⟨Gr.refl w, _, rfl, by rw [h2.cell]; exact hu, h3⟩
theorem load {t : TypeId} {x : Operand} {u : Value} (ho : o.op = .load t x) (hg : o.guard = none) (hd : o.dst ≠ some c) (ha : ∀ w, (isAgg t).run P w = .ok false w) (hx : Kn K x (Ce u)) (h : wpMine P ops w0 n0 Q rest (upd K o.dst (Is u)) c C) : wpMine P ops w0 n0 Q (o :: rest) K c C := by
  refine step hg hd (Is.stays u) (fun a w ob _ hl => ?_) h
  obtain ⟨ad, h1, hc, _⟩ : ∃ ad, a.eval x = .pointer (some ad) ∧ w.cell? ad = some u ∧ some ad.block ≠ ob := looks_op (Ψ := Ce u) (by simp [ho, Op.operands]) hx hl
  unfold does execOp
  have hr : (Instr.loadAt t (.pointer (some ad))).run P w = .ok u w := by simp [Instr.loadAt, Instr.sureAddr, loadVar, ha w, hc]
  simp only [ho, h1]
  rw [Sem.run_bind, hr]
  exact ⟨Gr.refl w, rfl⟩
theorem look_bi {bi : Builtin} {x : Operand} {ats : Array TypeId} (ho : o.op = .call { callee := .builtin bi, args := #[x], argTypes := ats }) : x ∈ o.op.operands := by simp [ho, Op.operands, Call.operands]
theorem len {x : Operand} {t : TypeId} {A : Option Addr} {n m : Nat} (ho : o.op = .call { callee := .builtin .len, args := #[x], argTypes := #[t] }) (hg : o.guard = none) (hd : o.dst ≠ some c) (ht : P.underlying t = some (.slice (P.elem t))) (hx : Kn K x (Is (.slice A n m)))
    (h : wpMine P ops w0 n0 Q rest (upd K o.dst (Is (.int .i64 (n : Int)))) c C) : wpMine P ops w0 n0 Q (o :: rest) K c C := by
  refine step hg hd (Is.stays _) (fun a w ob _ hl => ?_) h
  have h1 : a.eval x = .slice A n m := looks_op (Ψ := Is (.slice A n m)) (look_bi ho) hx hl
  unfold does execOp
  simp only [ho, resolve, invoke, builtin, Sem.run_bind, Sem.run_pure, Result.andThen_ok, List.map_toArray, List.map_cons, List.map_nil, h1, run_len_slice w t _ _ _ _ ht]
  exact ⟨Gr.refl w, rfl⟩

/-- a call that hands back bytes of its own -/
theorem call_own {f : FuncId} {x : Operand} {ats : Array TypeId} {u : Value} {fn : Func} {e : TypeId} {r : List UInt8} (ho : o.op = .call { callee := .value (.func f), args := #[x], argTypes := ats }) (hg : o.guard = none) (hd : o.dst ≠ some c) (hf : P.funcs[f]? = some fn) (hn : (fn.name == "runtime.NumGoroutine") = false) (hb : fn.body.isNone = false)
    (hx : Kn K x (Is u)) (hc : ∀ w, Calls P f #[u] w fun en w' => ∃ y, en = .returned y ∧ OwnE e w' w.heap.size y r ∧ Gr w w') (h : wpMine P ops w0 n0 Q rest (upd K o.dst (Sl r)) c C) : wpMine P ops w0 n0 Q (o :: rest) K c C := by
  refine step hg hd (Sl.stays r) (fun a w ob hwf hl => ?_) h
  have h1 : a.eval x = u := looks_op (Ψ := Is u) (by simp [ho, Op.operands, Call.operands]) hx hl
  obtain ⟨dst, op, ty, pos, after, guard⟩ := o
  simp only at ho
  subst ho
  unfold does
  rw [execOp_call_go, Grow.enters hf hn hb]
  refine ⟨Gr.refl w, ?_⟩
  simp only [List.map_toArray, List.map_cons, List.map_nil, h1]
  refine (hc w).mono fun en w' ⟨y, he, ho, hgr⟩ => ?_
  have ho2 := ho
  obtain ⟨A, c2, rfl, hby⟩ := ho.by_
  refine ⟨_, he, hgr, A, c2, rfl, hby, fun hl ad hA e2 => ?_⟩
  subst hA
  have h3 := (World.ownsRow.lt ho2 ad.block rfl).1
  have h4 := hwf _ e2.symm
  omega
/-- a call that hands back a plain value -/
theorem call_is {f : FuncId} {x : Operand} {ats : Array TypeId} {u z : Value} {fn : Func} (ho : o.op = .call { callee := .value (.func f), args := #[x], argTypes := ats }) (hg : o.guard = none) (hd : o.dst ≠ some c) (hf : P.funcs[f]? = some fn) (hn : (fn.name == "runtime.NumGoroutine") = false) (hb : fn.body.isNone = false)
    (hx : Kn K x (Is u)) (hc : ∀ w, Calls P f #[u] w fun en w' => en = .returned z ∧ Gr w w') (h : wpMine P ops w0 n0 Q rest (upd K o.dst (Is z)) c C) : wpMine P ops w0 n0 Q (o :: rest) K c C := by
  refine step hg hd (Is.stays z) (fun a w ob _ hl => ?_) h
  have h1 : a.eval x = u := looks_op (Ψ := Is u) (by simp [ho, Op.operands, Call.operands]) hx hl
  obtain ⟨dst, op, ty, pos, after, guard⟩ := o
  simp only at ho
  subst ho
  unfold does
  rw [execOp_call_go, Grow.enters hf hn hb]
  refine ⟨Gr.refl w, ?_⟩
  simp only [List.map_toArray, List.map_cons, List.map_nil, h1]
  exact (hc w).mono fun en w' ⟨he, hgr⟩ => ⟨_, he, hgr, rfl⟩
/-- '[]byte{b}' -/
theorem lit1 {t e : TypeId} {x : Operand} {b : UInt8} (ho : o.op = .buildSlice t 1 #[(0, x)]) (hg : o.guard = none) (hd : o.dst ≠ some c) (hx : Kn K x (Is (bv b))) (hr : ∀ w, (Instr.buildSlice t 1 #[(0, bv b)]).run P w = .ok (.slice (some ⟨w.heap.size, 0, none⟩) 1 1) (w.alloc (.cells #[bv b] e)))
    (h : wpMine P ops w0 n0 Q rest (upd K o.dst (Sl [b])) c C) : wpMine P ops w0 n0 Q (o :: rest) K c C := by
  refine step hg hd (Sl.stays [b]) (fun a w ob hwf hl => ?_) h
  have h1 : a.eval x = bv b := looks_op (Ψ := Is (bv b)) (by simp [ho, Op.operands]) hx hl
  unfold does execOp
  simp only [ho, List.map_toArray, List.map_cons, List.map_nil, h1]
  rw [Sem.run_bind, hr w]
  refine ⟨(Gr.refl w).alloc _, some ⟨w.heap.size, 0, none⟩, 1, rfl, by_new w e [b] (by simp [maxLen]), fun _ ad hA e2 => ?_⟩
  injection hA with hA
  subst hA
  have := hwf _ e2.symm
  simp at this

/-! The chain's. -/
theorem chain {d : Tmp} (hd : o.dst = some d) (hg : o.guard = none) (hk : (o.looksAt ops).contains c = true ∨ n0 ≤ c) (hkp : Keeps Φ)
    (hdo : ∀ a w ob ob0, RS w0 ob0 w ob → Wf w ob → (∀ t, (o.looksAt ops).contains t = true → K t (a.tmps.getD t undef) w ob) → C (a.tmps.getD c undef) w ob → doesC P o a w ob Φ) (h : wpMine P ops w0 n0 Q rest (upd K (some d) top) d Φ) : wpMine P ops w0 n0 Q (o :: rest) K c C :=
  .inr ⟨Φ, top, d, hd, hg, hk, hkp, ⟨top_stays, fun _ _ _ _ => trivial⟩, fun a w ob ob0 hr hwf _ hl hC => hdo a w ob ob0 hr hwf hl hC, h⟩
/-- and what it hands back is also known for itself -/
theorem chain_and {d : Tmp} {Ψ : Known} (hd : o.dst = some d) (hg : o.guard = none) (hk : (o.looksAt ops).contains c = true ∨ n0 ≤ c) (hkp : Keeps Φ) (hst : Stays Ψ) (hw : ∀ v w ob, Φ v w ob → Ψ v w ob)
    (hdo : ∀ a w ob ob0, RS w0 ob0 w ob → Wf w ob → (∀ t, (o.looksAt ops).contains t = true → K t (a.tmps.getD t undef) w ob) → C (a.tmps.getD c undef) w ob → doesC P o a w ob Φ) (h : wpMine P ops w0 n0 Q rest (upd K (some d) Ψ) d Φ) : wpMine P ops w0 n0 Q (o :: rest) K c C :=
  .inr ⟨Φ, Ψ, d, hd, hg, hk, hkp, ⟨hst, hw⟩, fun a w ob ob0 hr hwf _ hl hC => hdo a w ob ob0 hr hwf hl hC, h⟩
/-- the row is handed on -/
theorem chain_move {d : Tmp} {e : TypeId} {B : Nat} {l : List UInt8} (ho : o.op = .move (.tmp c) ∨ o.op = .assign (.tmp c)) (hd : o.dst = some d) (hg : o.guard = none) (h : wpMine P ops w0 n0 Q rest (upd K (some d) top) d (Row e B l)) : wpMine P ops w0 n0 Q (o :: rest) K c (Row e B l) := by
  refine chain hd hg (.inl (looks_tmp (by rcases ho with ho | ho <;> simp [ho, Op.operands]))) (Row.keeps e B l) (fun a w ob ob0 _ hwf _ hC => ?_) h
  unfold doesC execOp
  rcases ho with ho | ho <;> rw [ho] <;> exact ⟨ob, RS.refl w ob, hwf, hC⟩
/-- the row begins as what a call hands back -/
theorem chain_call {d : Tmp} {f : FuncId} {x : Operand} {ats : Array TypeId} {u : Value} {fn : Func} {e : TypeId} {r : List UInt8} (ho : o.op = .call { callee := .value (.func f), args := #[x], argTypes := ats }) (hd : o.dst = some d) (hg : o.guard = none) (hk : n0 ≤ c) (hf : P.funcs[f]? = some fn) (hn : (fn.name == "runtime.NumGoroutine") = false) (hb : fn.body.isNone = false)
    (hx : Kn K x (Is u)) (hc : ∀ w, Calls P f #[u] w fun en w' => ∃ y, en = .returned y ∧ OwnE e w' w.heap.size y r ∧ Gr w w') (h : wpMine P ops w0 n0 Q rest (upd K (some d) top) d (Row e w0.heap.size r)) : wpMine P ops w0 n0 Q (o :: rest) K c (fun _ _ o => o = none) := by
  refine chain hd hg (.inr hk) (Row.keeps e w0.heap.size r) (fun a w ob ob0 hrs hwf hl hC => ?_) h
  have hC' : ob = none := hC
  subst hC'
  have h1 : a.eval x = u := looks_op (Ψ := Is u) (by simp [ho, Op.operands, Call.operands]) hx hl
  obtain ⟨dst, op, ty, pos, after, guard⟩ := o
  simp only at ho
  subst ho
  unfold doesC
  rw [execOp_call_go, Grow.enters hf hn hb]
  show Calls _ _ _ _ _
  simp only [List.map_toArray, List.map_cons, List.map_nil, h1]
  refine (hc w).mono fun en w' ⟨y, he, how, hgr⟩ => ?_
  refine ⟨y, y.ownBlock, he, ⟨⟨hgr.os, hgr.tape, hgr.output, hgr.size, fun k hk _ => hgr.block k hk⟩, ?_⟩, fun k hk => (World.ownsRow.lt how k hk).2, how.base hrs.gb.size, rfl⟩
  cases hy : y.ownBlock with
  | none => exact .inl rfl
  | some k => exact .inr ⟨k, rfl, (World.ownsRow.lt how k hy).1⟩
/-- 'append(row, x...)' -/
theorem chain_app {d : Tmp} {x : Operand} {t e : TypeId} {i : TypeInfo} {l r : List UInt8} {B : Nat} (ho : o.op = .call { callee := .builtin .append, args := #[.tmp c, x], argTypes := #[t, t] }) (hd : o.dst = some d) (hg : o.guard = none) (ht : P.underlying t = some (.slice e)) (hi : P.info? e = some i)
    (hz : i.zero = some (.int .u8 0)) (hsize : i.size = 1) (hby : i.bytes = 1) (hx : Kn K x (Sl r)) (hl : l.length + r.length ≤ 1000000000) (hB : B ≤ w0.heap.size)
    (h : wpMine P ops w0 n0 Q rest (upd K (some d) top) d (Row e B (l ++ r))) : wpMine P ops w0 n0 Q (o :: rest) K c (Row e B l) := by
  refine chain hd hg (.inl (looks_tmp (by simp [ho, Op.operands, Call.operands]))) (Row.keeps e B _) (fun a w ob ob0 hrs hwf hlk hC => ?_) h
  obtain ⟨A, c2, h1, h2, h3⟩ : ∃ A c2, a.eval x = .slice A r.length c2 ∧ By w A c2 r ∧ Apart ob A r := looks_op (Ψ := Sl r) (by simp [ho, Op.operands, Call.operands]) hx hlk
  obtain ⟨hown, hob⟩ := hC
  have hbase : B ≤ w.heap.size := Nat.le_trans hB hrs.gb.size
  have hcells : ∀ ad, A = some ad → ∀ j u, (bvs r)[j]? = some u → w.cell? (ad.add j) = some u := fun ad hA j u hj => by
    simp only [bvs, List.getElem?_map, Option.map_eq_some_iff] at hj
    obtain ⟨b, hb, rfl⟩ := hj
    obtain ⟨hj', rfl⟩ := List.getElem?_eq_some_iff.1 hb
    obtain ⟨ad', h4, h5⟩ := h2.rd j hj'
    rw [hA] at h4
    injection h4 with h4
    subst h4
    exact h5
  have hs : a.eval (.tmp c) = a.tmps.getD c undef := rfl
  generalize hv : a.tmps.getD c undef = v at hown hob hs
  rcases A with _ | ad
  · have hr0 : r = [] := by
      cases r with
      | nil => rfl
      | cons b r => obtain ⟨ad, h4, _⟩ := h2.rd 0 (by simp); cases h4
    subst hr0
    have hc0 := h2.nil rfl
    subst hc0
    have hrun := run_append_owned_none (P := P) (w := w) B t o.type e i 1 ht hi v l.length (bvs l) hown
    unfold doesC execOp
    simp only [ho, resolve, invoke, builtin, Sem.run_bind, Sem.run_pure, Result.andThen_ok, List.map_toArray, List.map_cons, List.map_nil, hs, h1, List.length_nil, hrun]
    exact ⟨ob, RS.refl w ob, hwf, by rw [List.append_nil]; exact hown, hob⟩
  · obtain ⟨v', w', hr, h4, h5, _, h7⟩ := run_append_own_at (P := P) w B t o.type e i _ 1 1 ht hi hz hsize hby rfl (by decide) v l.length (bvs l) hown ad r.length c2 (bvs r) (by simp [bvs]) (hcells ad rfl) (bvs_one _) (by unfold maxLen; omega) (by omega) hbase
    unfold doesC execOp
    simp only [ho, resolve, invoke, builtin, Sem.run_bind, Sem.run_pure, Result.andThen_ok, List.map_toArray, List.map_cons, List.map_nil, hs, h1, hr]
    have hn : OwnE e w' B v' (l ++ r) := by unfold OwnE; rw [bvs_app, List.length_append]; exact h4
    refine ⟨v'.ownBlock, ⟨by rw [← hob]; exact h5, ?_⟩, fun k hk => (World.ownsRow.lt hn k hk).2, hn, rfl⟩
    rcases h7 with h7 | h7
    · exact .inl (by rw [h7, hob])
    · exact .inr ⟨_, h7, Nat.le_refl _⟩
end

end Go.Proofs.Ythpaoeiackbdoaa.Mine

/-
  Open regions in which a call changes one block that was there before: what is known of the others stays. No program.
-/
namespace Go.Proofs.Ythpaoeiackbdoaa.Mine
open Go Go.RowKit Go.Proofs.Ythpaoeiackbdoaa

/-- a slice of one cell each, not in the changing block -/
abbrev Cl (ad : Addr) (n c : Nat) (xs : List Value) : Known := fun v w o => v = .slice (some ad) n c ∧ n = xs.length ∧ (∀ j u, xs[j]? = some u → w.cell? (ad.add j) = some u) ∧ ad.block < w.heap.size ∧ some ad.block ≠ o
theorem Cl.stays (ad : Addr) (n c : Nat) (xs : List Value) : Stays (Cl ad n c xs) := fun _ w o w' o' ⟨h1, hn, h2, h3, h4⟩ _ hr => ⟨h1, hn, fun j u hu => by
  have hb : w'.heap[(ad.add j).block]? = w.heap[(ad.add j).block]? := by rw [add_block]; exact hr.gb.block _ h3 h4
  rw [World.cell?_of_block hb]
  exact h2 j u hu, Nat.lt_of_lt_of_le h3 hr.gb.size, by
  rcases hr.at_ with e | ⟨k, e, hk⟩
  · rw [e]; exact h4
  · rw [e]
    intro e2
    injection e2 with e2
    omega⟩
/-- a pointer to a new block of these cells -/
abbrev Nw (B : Nat) (e : TypeId) (cs : Array Value) : Known := fun v w o => ∃ g, v = .pointer (some ⟨g, 0, none⟩) ∧ B ≤ g ∧ Bl w g e cs ∧ some g ≠ o
theorem Nw.stays (B : Nat) (e : TypeId) (cs : Array Value) : Stays (Nw B e cs) := fun v w o w' o' ⟨g, h1, hB, h2, h3⟩ hwf hr => by
  have h := Bx.stays g e cs v w o w' o' ⟨h1, h2, h3⟩ hwf hr
  exact ⟨g, h.1, hB, h.2⟩
/-- the changing block: what is known of it -/
abbrev At (g : Nat) (I : World → Prop) : Known := fun _ w o => o = some g ∧ I w
abbrev Pz (z : Value) (g : Nat) (I : World → Prop) : Known := fun v w o => v = z ∧ o = some g ∧ I w
theorem Pz.keeps (z : Value) (g : Nat) {I : World → Prop} (h : ∀ w w', I w → Gr w w' → I w') : Keeps (Pz z g I) := fun _ w _ w' hh hg => ⟨hh.1, hh.2.1, h w w' hh.2.2 hg⟩
theorem At.keeps (g : Nat) {I : World → Prop} (h : ∀ w w', I w → Gr w w' → I w') : Keeps (At g I) := fun _ w _ w' hh hg => ⟨hh.1, h w w' hh.2 hg⟩
theorem RS.of_but {w w' : World} {g : Nat} (h : But w w' g) : RS w (some g) w' (some g) := ⟨h, .inl rfl⟩
theorem RS.but {w w' : World} {g : Nat} {o : Option Nat} (h : RS w (some g) w' o) : But w w' g := h.gb

section
variable {P : Program} {ops : Array Oper} {w0 : World} {n0 : Nat} {Q : (Tmp → Known) → Tmp → Known → Prop} {o : Oper} {rest : List Oper} {K : Tmp → Known} {Φ : Known} {c : Tmp} {C : Known}

theorem index {t : TypeId} {x y : Operand} {k : IntKind} {ad : Addr} {m c2 : Nat} {xs : List Value} {n : Int} {u : Value} (j : Nat) (ho : o.op = .indexAddr t x y) (hg : o.guard = none) (hd : o.dst ≠ some c) (ht : P.underlying t = some (.slice (P.elem t))) (hsz : ∀ w, (sizeOf (P.elem t)).run P w = .ok 1 w)
    (hx : Kn K x (Cl ad m c2 xs)) (hy : Kn K y (Is (.int k n))) (hn : n = (j : Int)) (hu : xs[j]? = some u) (h : wpMine P ops w0 n0 Q rest (upd K o.dst (Ce u)) c C) : wpMine P ops w0 n0 Q (o :: rest) K c C := by
  subst hn
  refine step hg hd (Ce.stays _) (fun a w ob _ hl => ?_) h
  obtain ⟨h1, hm, hc, _, hne⟩ : Cl ad m c2 xs (a.eval x) w ob := looks_op (by simp [ho, Op.operands]) hx hl
  have h2 : a.eval y = .int k (j : Int) := looks_op (Ψ := Is (.int k (j : Int))) (by simp [ho, Op.operands]) hy hl
  have hj : j < xs.length := (List.getElem?_eq_some_iff.1 hu).1
  unfold does execOp
  simp only [ho, h1, h2, Sem.run_bind, run_indexAt_slice w t _ _ _ _ _ ht]
  rw [if_pos (by omega), hsz w]
  simp only [Result.andThen_ok, Int.toNat_natCast, Nat.mul_one]
  exact ⟨Gr.refl w, _, rfl, hc j u hu, by rw [add_block]; exact hne⟩
/-- a plain value out of two -/
theorem is2 {x y : Operand} {u v : Value} (z : Value) (hg : o.guard = none) (hd : o.dst ≠ some c) (hxo : x ∈ o.op.operands) (hyo : y ∈ o.op.operands) (hx : Kn K x (Is u)) (hy : Kn K y (Is v))
    (hr : ∀ (a : Act) (w : World), a.eval x = u → a.eval y = v → (execOp a.eval o).run P w = .ok (.value z) w) (h : wpMine P ops w0 n0 Q rest (upd K o.dst (Is z)) c C) : wpMine P ops w0 n0 Q (o :: rest) K c C := by
  refine step hg hd (Is.stays z) (fun a w ob _ hl => ?_) h
  have h1 : a.eval x = u := looks_op (Ψ := Is u) hxo hx hl
  have h2 : a.eval y = v := looks_op (Ψ := Is v) hyo hy hl
  unfold does
  rw [hr a w h1 h2]
  exact ⟨Gr.refl w, rfl⟩
/-- 'var x T' -/
theorem alloc {e : TypeId} {cs : Array Value} (hg : o.guard = none) (hd : o.dst ≠ some c) (hr : ∀ (a : Act) (w : World), (execOp a.eval o).run P w = .ok (.value (.pointer (some ⟨w.heap.size, 0, none⟩))) (w.alloc (.cells cs e)))
    (h : wpMine P ops w0 n0 Q rest (upd K o.dst (Nw w0.heap.size e cs)) c C) : wpMine P ops w0 n0 Q (o :: rest) K c C :=
  .inl ⟨Nw w0.heap.size e cs, fun _ => Nw.stays _ _ _, hd, fun a w ob ob0 hrs hwf _ _ => by
    have hw : Region.wanted o (yielded ops a.tmps) = true := by simp [Region.wanted, hg]
    rw [if_pos hw]
    unfold does
    rw [hr a w]
    refine ⟨(Gr.refl w).alloc _, w.heap.size, rfl, hrs.gb.size, Bl.new w e cs, fun e2 => ?_⟩
    have := hwf _ e2.symm
    omega, h⟩
/-- the call that changes the block -/
theorem pick {d : Tmp} {f : FuncId} {xs : Array Operand} {ats : Array TypeId} {us : Array Value} {z : Value} {fn : Func} {g : Nat} {I I' : World → Prop} (ho : o.op = .call { callee := .value (.func f), args := xs, argTypes := ats }) (hd : o.dst = some d) (hg : o.guard = none) (hk : n0 ≤ c) (hf : P.funcs[f]? = some fn) (hn : (fn.name == "runtime.NumGoroutine") = false) (hb : fn.body.isNone = false)
    (hx : ∀ (a : Act) (w : World) (ob : Option Nat), (∀ t, (o.looksAt ops).contains t = true → K t (a.tmps.getD t undef) w ob) → xs.map a.eval = us) (hI : ∀ w w', I' w → Gr w w' → I' w') (hc : ∀ w, I w → Calls P f us w fun en w' => en = .returned z ∧ But w w' g ∧ I' w')
    (h : wpMine P ops w0 n0 Q rest (upd K (some d) (Is z)) d (Pz z g I')) : wpMine P ops w0 n0 Q (o :: rest) K c (At g I) := by
  refine .inr ⟨Pz z g I', Is z, d, hd, hg, .inr hk, Pz.keeps z g hI, ⟨Is.stays z, fun _ _ _ hh => hh.1⟩, fun a w ob ob0 hrs hwf _ hl hC => ?_, h⟩
  obtain ⟨rfl, hIw⟩ := hC
  have h1 := hx a w _ hl
  obtain ⟨dst, op, ty, pos, after, guard⟩ := o
  simp only at ho
  subst ho
  unfold doesC
  rw [execOp_call_go, Grow.enters hf hn hb]
  show Calls _ _ _ _ _
  rw [h1, Array.empty_append, Array.append_empty]
  exact (hc w hIw).mono fun en w' ⟨he, hbt, hIw'⟩ => ⟨z, some g, he, RS.of_but hbt, fun k hk2 => Nat.lt_of_lt_of_le (hwf k hk2) hbt.size, rfl, rfl, hIw'⟩
theorem pick1 {d : Tmp} {f : FuncId} {x : Operand} {ats : Array TypeId} {u z : Value} {fn : Func} {g : Nat} {I I' : World → Prop} (ho : o.op = .call { callee := .value (.func f), args := #[x], argTypes := ats }) (hd : o.dst = some d) (hg : o.guard = none) (hk : n0 ≤ c) (hf : P.funcs[f]? = some fn) (hn : (fn.name == "runtime.NumGoroutine") = false) (hb : fn.body.isNone = false)
    (hx : Kn K x (Is u)) (hI : ∀ w w', I' w → Gr w w' → I' w') (hc : ∀ w, I w → Calls P f #[u] w fun en w' => en = .returned z ∧ But w w' g ∧ I' w') (h : wpMine P ops w0 n0 Q rest (upd K (some d) (Is z)) d (Pz z g I')) : wpMine P ops w0 n0 Q (o :: rest) K c (At g I) :=
  pick ho hd hg hk hf hn hb (fun a w ob hl => by
    have h1 : a.eval x = u := looks_op (Ψ := Is u) (by simp [ho, Op.operands, Call.operands]) hx hl
    simp only [List.map_toArray, List.map_cons, List.map_nil, h1]) hI hc h
theorem pick2 {d : Tmp} {f : FuncId} {x y : Operand} {ats : Array TypeId} {u v z : Value} {fn : Func} {g : Nat} {I I' : World → Prop} (ho : o.op = .call { callee := .value (.func f), args := #[x, y], argTypes := ats }) (hd : o.dst = some d) (hg : o.guard = none) (hk : n0 ≤ c) (hf : P.funcs[f]? = some fn) (hn : (fn.name == "runtime.NumGoroutine") = false) (hb : fn.body.isNone = false)
    (hx : Kn K x (Is u)) (hy : Kn K y (Is v)) (hI : ∀ w w', I' w → Gr w w' → I' w') (hc : ∀ w, I w → Calls P f #[u, v] w fun en w' => en = .returned z ∧ But w w' g ∧ I' w') (h : wpMine P ops w0 n0 Q rest (upd K (some d) (Is z)) d (Pz z g I')) : wpMine P ops w0 n0 Q (o :: rest) K c (At g I) :=
  pick ho hd hg hk hf hn hb (fun a w ob hl => by
    have h1 : a.eval x = u := looks_op (Ψ := Is u) (by simp [ho, Op.operands, Call.operands]) hx hl
    have h2 : a.eval y = v := looks_op (Ψ := Is v) (by simp [ho, Op.operands, Call.operands]) hy hl
    simp only [List.map_toArray, List.map_cons, List.map_nil, h1, h2]) hI hc h
end

end Go.Proofs.Ythpaoeiackbdoaa.Mine

/-
  More steps of a walk through a region that builds on a row of its own: the row lies in a cell; nil checks. No program.
-/
namespace Go.Proofs.Ythpaoeiackbdoaa.Mine
open Go Go.RowKit Go.Proofs.Ythpaoeiackbdoaa

/-- the row, wherever it stands: this value -/
abbrev RowOf (e : TypeId) (B : Nat) (row : Value) (l : List UInt8) : Known := fun _ w o => OwnE e w B row l ∧ row.ownBlock = o
theorem RowOf.keeps (e : TypeId) (B : Nat) (row : Value) (l : List UInt8) : Keeps (RowOf e B row l) := fun _ _ _ _ ⟨h1, h2⟩ hg => ⟨h1.gr hg, h2⟩

section
variable {P : Program} {ops : Array Oper} {w0 : World} {n0 : Nat} {Q : (Tmp → Known) → Tmp → Known → Prop} {o : Oper} {rest : List Oper} {K : Tmp → Known} {Φ : Known} {c : Tmp} {C : Known}

theorem nil {x : Operand} {g : Nat} {e : TypeId} {cs : Array Value} (ho : o.op = .nilCheck x) (hg : o.guard = none) (hd : o.dst ≠ some c) (hx : Kn K x (Bx g e cs)) (h : wpMine P ops w0 n0 Q rest (upd K o.dst (Bx g e cs)) c C) : wpMine P ops w0 n0 Q (o :: rest) K c C := by
  refine step hg hd (Bx.stays g e cs) (fun a w ob _ hl => ?_) h
  obtain ⟨h1, h2, h3⟩ : Bx g e cs (a.eval x) w ob := looks_op (Ψ := Bx g e cs) (by simp [ho, Op.operands]) hx hl
  unfold does execOp
  simp only [ho, h1]
  exact ⟨Gr.refl w, rfl, h2, h3⟩
/-- the row is loaded from the cell in which it lies -/
theorem chain_load {d : Tmp} {t : TypeId} {x : Operand} {e : TypeId} {B : Nat} {row : Value} {l : List UInt8} (ho : o.op = .load t x) (hd : o.dst = some d) (hg : o.guard = none) (hk : n0 ≤ c) (ha : ∀ w, (isAgg t).run P w = .ok false w) (hx : Kn K x (Ce row))
    (h : wpMine P ops w0 n0 Q rest (upd K (some d) top) d (Row e B l)) : wpMine P ops w0 n0 Q (o :: rest) K c (RowOf e B row l) := by
  refine chain hd hg (.inr hk) (Row.keeps e B l) (fun a w ob ob0 _ hwf hl hC => ?_) h
  obtain ⟨ad, h1, hc, _⟩ : ∃ ad, a.eval x = .pointer (some ad) ∧ w.cell? ad = some row ∧ some ad.block ≠ ob := looks_op (Ψ := Ce row) (by simp [ho, Op.operands]) hx hl
  have hr : (Instr.loadAt t (.pointer (some ad))).run P w = .ok row w := by simp [Instr.loadAt, Instr.sureAddr, loadVar, ha w, hc]
  unfold doesC execOp
  simp only [ho, h1]
  rw [Sem.run_bind, hr]
  exact ⟨ob, RS.refl w ob, hwf, hC.1, hC.2⟩
/-- 'x.F', where it lies -/
theorem field_is {t : TypeId} {x : Operand} {i g j : Nat} {e : TypeId} {cs : Array Value} (ho : o.op = .fieldAddr t x i) (hg : o.guard = none) (hd : o.dst ≠ some c) (hx : Kn K x (Bx g e cs)) (hr : ∀ w, (Instr.fieldAt t (.pointer (some ⟨g, 0, none⟩)) i).run P w = .ok (.pointer (some ⟨g, j, none⟩)) w)
    (h : wpMine P ops w0 n0 Q rest (upd K o.dst (Is (.pointer (some ⟨g, j, none⟩)))) c C) : wpMine P ops w0 n0 Q (o :: rest) K c C := by
  refine step hg hd (Is.stays _) (fun a w ob _ hl => ?_) h
  obtain ⟨h1, h2, h3⟩ : Bx g e cs (a.eval x) w ob := looks_op (Ψ := Bx g e cs) (by simp [ho, Op.operands]) hx hl
  unfold does execOp
  simp only [ho, h1]
  rw [Sem.run_bind, hr w]
  exact ⟨Gr.refl w, rfl⟩
end

end Go.Proofs.Ythpaoeiackbdoaa.Mine

namespace Go.Proofs.Ythpaoeiackbdoaa
open Go Go.RowKit
/-- a slice is stored into a cell -/
theorem wpList_store_slice {P : Program} {ops : Array Oper} {rest : List Oper} {o : Oper} {a : Act} {w : World} {Q : Exit → Act → World → Prop} (hgd : o.guard = none) (ty : TypeId) (x y : Operand) (ho : o.op = .store ty x y) (hd : o.dst = none) (hsz : ∀ w, (sizeOf ty).run P w = .ok 1 w) {g i : Nat} {t : TypeId} {cs : Array Value}
    (hx : a.eval x = .pointer (some ⟨g, i, none⟩)) {A : Option Addr} {n c : Nat} (hy : a.eval y = .slice A n c) (hb : Bl w g t cs) (hi : i < cs.size) (h : wpList P ops Q rest a (w.setCell ⟨g, i, none⟩ (.slice A n c))) : wpList P ops Q (o :: rest) a w :=
  wpList_plain hgd fun _ hK => by
    have c1 : w.cell? ⟨g, i, none⟩ = some cs[i] := (hb.cell i).trans (Array.getElem?_eq_getElem hi)
    have c2 := hb.frozen i
    have hr : (Instr.storeAt ty (.pointer (some ⟨g, i, none⟩)) (.slice A n c)).run P w = .ok () (w.setCell ⟨g, i, none⟩ (.slice A n c)) := by simp [Instr.storeAt, Instr.sureAddr, storeVar, hsz, c1, c2, go_sem]
    unfold Oper.wp execOp
    simp only [ho, hx, hy, Sem.run_bind, hr, Result.andThen_ok]
    exact hK _ _ (by rw [hd]; exact h)

theorem ones_flat (l : List UInt8) : (l.map fun b => [bv b]).flatten = bvs l := by
  induction l with
  | nil => rfl
  | cons b l ih => rw [List.map_cons, List.flatten_cons, ih]; rfl
theorem OwnE.ones {e : TypeId} {w : World} {B : Nat} {v : Value} {l : List UInt8} (h : OwnE e w B v l) : OwnR e 1 w B v (l.map fun b => [bv b]) := by
  refine ⟨fun r hr => ?_, ?_⟩
  · obtain ⟨b, _, rfl⟩ := List.mem_map.1 hr
    rfl
  · rw [ones_flat, List.length_map]
    exact h
theorem OwnR.bytes {e : TypeId} {w : World} {B : Nat} {v : Value} {l : List UInt8} (h : OwnR e 1 w B v (l.map fun b => [bv b])) : OwnE e w B v l := by
  have := h.2
  rw [ones_flat, List.length_map] at this
  exact this
/-- one byte more, behind whatever base: 'append(own, x)', x in a new block of its own -/
theorem wpList_pushB {P : Program} {ops : Array Oper} {rest : List Oper} {o : Oper} {a : Act} {Q : Exit → Act → World → Prop} (hgd : o.guard = none) (s x : Operand) (t : TypeId)
    (ho : o.op = .call { callee := .builtin .append, args := #[s, x], argTypes := #[t, t] }) (e : TypeId) (i : TypeInfo) (ht : P.underlying t = some (.slice e)) (hi : P.info? e = some i)
    (hz : i.zero = some (.int .u8 0)) (hsize : i.size = 1) (hby : i.bytes = 1) {w : World} {B : Nat} {v : Value} {l : List UInt8} {b : UInt8} {X : Int} (hX : Hid (X = (b.toNat : Int)))
    (hs : a.eval s = v) (hown : OwnE e w B v l) (hB : B ≤ w.heap.size)
    (hx : a.eval x = .slice (some ⟨w.heap.size, 0, none⟩) 1 1) (hl : l.length ≤ 1000000000)
    (h : ∀ v' w', OwnE e w' B v' (l ++ [b]) → Mine.RS w v.ownBlock w' v'.ownBlock → wpList P ops Q rest (a.put o.dst v') w') : wpList P ops Q (o :: rest) a (w.alloc (.cells #[.int .u8 X] e)) := by
  have hX' : X = (b.toNat : Int) := hX
  subst hX'
  refine wpList_pushR hgd s x t ho e i _ 1 1 ht hi hz hsize hby rfl (by decide) (cs := #[bv b]) rfl (fun u hu => ?_) hs hown.ones hB hx (by rw [List.length_map]; unfold maxLen; omega) (by rw [List.length_map]; omega) (fun v' w' h1 h2 => ?_)
  · simp at hu; subst hu; rfl
  · refine h v' w' (OwnR.bytes ?_) ⟨h2.1, h2.2⟩
    rw [List.map_append]
    exact h1

end Go.Proofs.Ythpaoeiackbdoaa
