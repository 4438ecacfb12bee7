/-
  Reading on: a reader that stops for good where there is too little comes to what the list's reader says. No program.
-/
import Derived.Test.YtjpdhijhmpdbnaaTakeMath
namespace Go.Proofs.Ytjpdhijhmpdbnaa.TakeMath
open Go NumPlain KeyMath TxnMath

/-- a reader of the list, as a walk along it -/
structure Sim {α : Type} (l : List UInt8) (f : RdS → α × RdS) (p : List UInt8 → Option (α × List UInt8)) : Prop where
  bad : ∀ s, s.bad = true → (f s).2.bad = true
  no : ∀ s, s.bad = false → p (l.drop s.at_) = none → (f s).2.bad = true
  yes : ∀ s v r, s.bad = false → p (l.drop s.at_) = some (v, r) → (f s).1 = v ∧ (f s).2.bad = false ∧ r = l.drop (f s).2.at_
  le : ∀ s, s.at_ ≤ l.length → (f s).2.at_ ≤ l.length

def thenS {α β : Type} (f : RdS → α × RdS) (g : α → RdS → β × RdS) (s : RdS) : β × RdS := g (f s).1 (f s).2
def thenP {α β : Type} (p : List UInt8 → Option (α × List UInt8)) (q : α → List UInt8 → Option (β × List UInt8)) (l : List UInt8) : Option (β × List UInt8) := match p l with
  | none => none
  | some (v, r) => q v r
def giveS {α : Type} (v : α) (s : RdS) : α × RdS := (v, s)
def giveP {α : Type} (v : α) (l : List UInt8) : Option (α × List UInt8) := some (v, l)
theorem Sim.give {α : Type} {l : List UInt8} (v : α) : Sim l (giveS v) (giveP v) :=
  ⟨fun _ h => h, (fun _ _ h => by cases h), (fun s u r h e => by unfold giveP at e; simp only [Option.some.injEq, Prod.mk.injEq] at e; obtain ⟨rfl, rfl⟩ := e; exact ⟨rfl, h, rfl⟩), fun _ h => h⟩
theorem Sim.fail {α : Type} {l : List UInt8} (v : α) : Sim l (fun s => (v, ⟨s.at_, true⟩)) (fun _ => none) :=
  ⟨fun _ _ => rfl, fun _ _ _ => rfl, (fun _ _ _ _ h => by cases h), fun _ h => h⟩
theorem Sim.then_ {α β : Type} {l : List UInt8} {f : RdS → α × RdS} {p : List UInt8 → Option (α × List UInt8)} {g : α → RdS → β × RdS} {q : α → List UInt8 → Option (β × List UInt8)} (h : Sim l f p) (k : ∀ v, Sim l (g v) (q v)) : Sim l (thenS f g) (thenP p q) := by
  refine ⟨fun s hs => (k _).bad _ (h.bad s hs), fun s hs hp => ?_, fun s v r hs hp => ?_, fun s hs => (k _).le _ (h.le s hs)⟩
  · unfold thenP at hp
    cases e : p (l.drop s.at_) with
    | none => exact (k _).bad _ (h.no s hs e)
    | some vr =>
      obtain ⟨v, r⟩ := vr
      rw [e] at hp
      obtain ⟨h1, h2, h3⟩ := h.yes s v r hs e
      simp only [] at hp
      rw [h3] at hp
      unfold thenS
      rw [h1]
      exact (k v).no _ h2 hp
  · unfold thenP at hp
    cases e : p (l.drop s.at_) with
    | none => rw [e] at hp; cases hp
    | some ur =>
      obtain ⟨u, r'⟩ := ur
      rw [e] at hp
      obtain ⟨h1, h2, h3⟩ := h.yes s u r' hs e
      simp only [] at hp
      rw [h3] at hp
      unfold thenS
      rw [h1]
      exact (k u).yes _ v r h2 hp

/-- one that does nothing more once there was too little -/
def nx {α : Type} (z : α) (f : RdS → α × RdS) (s : RdS) : α × RdS := if s.bad then (z, s) else f s
theorem nx_bad {α : Type} {z : α} {f : RdS → α × RdS} {s : RdS} (h : s.bad = true) : nx z f s = (z, s) := by unfold nx; rw [h]; rfl
theorem nx_go {α : Type} {z : α} {f : RdS → α × RdS} {s : RdS} (h : s.bad = false) : nx z f s = f s := by unfold nx; rw [h]; rfl
def flgS (l : List UInt8) (s : RdS) : Bool × RdS := match flagOf (l.drop s.at_) with
  | none => (false, ⟨s.at_, true⟩)
  | some (b, _) => (b, ⟨s.at_ + 1, s.bad⟩)
def nN (l : List UInt8) : RdS → Int × RdS := nx 0 (numS l)
def nT (l : List UInt8) : RdS → ByteArray × RdS := nx ⟨#[]⟩ (txtS l)
def nF (l : List UInt8) : RdS → Bool × RdS := nx false (flgS l)

theorem simN (l : List UInt8) : Sim l (nN l) numOf := by
  refine ⟨fun s h => by unfold nN; rw [nx_bad h]; exact h, fun s h e => ?_, fun s v r h e => ?_, fun s hs => ?_⟩
  · unfold nN; rw [nx_go h]; unfold numS
    unfold numOf at e
    cases ht : takeF 9 (l.drop s.at_) with
    | none => rfl
    | some vk => obtain ⟨v, k⟩ := vk; rw [ht] at e; cases e
  · unfold nN; rw [nx_go h]; unfold numS
    unfold numOf at e
    cases ht : takeF 9 (l.drop s.at_) with
    | none => rw [ht] at e; cases e
    | some vk =>
      obtain ⟨u, k⟩ := vk
      rw [ht] at e
      simp only [Option.some.injEq, Prod.mk.injEq] at e
      obtain ⟨rfl, rfl⟩ := e
      exact ⟨rfl, h, by rw [List.drop_drop]⟩
  · unfold nN nx
    split
    · exact hs
    · exact (numS_lim l s).2.2.2 hs
theorem simT (l : List UInt8) : Sim l (nT l) textOf := by
  refine ⟨fun s h => by unfold nT; rw [nx_bad h]; exact h, fun s h e => ?_, fun s v r h e => ?_, fun s hs => ?_⟩
  · unfold nT; rw [nx_go h]; unfold txtS
    unfold textOf at e
    cases ht : takeT (l.drop s.at_) with
    | none => rfl
    | some vk => obtain ⟨v, k⟩ := vk; rw [ht] at e; cases e
  · unfold nT; rw [nx_go h]; unfold txtS
    unfold textOf at e
    cases ht : takeT (l.drop s.at_) with
    | none => rw [ht] at e; cases e
    | some vk =>
      obtain ⟨u, k⟩ := vk
      rw [ht] at e
      simp only [Option.some.injEq, Prod.mk.injEq] at e
      obtain ⟨rfl, rfl⟩ := e
      exact ⟨rfl, h, by rw [List.drop_drop]⟩
  · unfold nT nx
    split
    · exact hs
    · exact (txtS_lim l s).2.2 hs
theorem flagOf_cases (l : List UInt8) : flagOf l = none ∨ ∃ b r, flagOf l = some (b, r) ∧ l = flagB b :: r := by
  cases h : flagOf l with
  | none => exact .inl rfl
  | some br => obtain ⟨b, r⟩ := br; exact .inr ⟨b, r, rfl, flagOf_some h⟩
theorem simF (l : List UInt8) : Sim l (nF l) flagOf := by
  refine ⟨fun s h => by unfold nF; rw [nx_bad h]; exact h, fun s h e => ?_, fun s v r h e => ?_, fun s hs => ?_⟩
  · unfold nF; rw [nx_go h]; unfold flgS; rw [e]
  · unfold nF; rw [nx_go h]; unfold flgS; rw [e]
    refine ⟨rfl, h, ?_⟩
    have := flagOf_some e
    rw [← List.drop_drop, this]
    rfl
  · unfold nF nx
    split
    · exact hs
    · unfold flgS
      rcases flagOf_cases (l.drop s.at_) with h | ⟨b, r, h, h2⟩
      · rw [h]; exact hs
      · rw [h]
        have := congrArg List.length h2
        rw [List.length_drop, List.length_cons] at this
        simp only []
        omega

def nR (l : List UInt8) : RdS → RdT × RdS := thenS (nT l) fun k => thenS (nN l) fun v => thenS (nT l) fun x => thenS (nF l) fun f => giveS ⟨k, v, x, f⟩
def nW (l : List UInt8) : RdS → WrT × RdS := thenS (nT l) fun k => thenS (nT l) fun x => thenS (nF l) fun f => giveS ⟨k, x, f⟩
def repS {α : Type} (one : RdS → α × RdS) : Nat → RdS → List α × RdS
  | 0 => giveS []
  | n + 1 => thenS one fun x => thenS (repS one n) fun r => giveS (x :: r)
/-- a list of at most so many -/
def nL {α : Type} (l : List UInt8) (one : RdS → α × RdS) (most : Int) : RdS → List α × RdS := thenS (nN l) fun n => if most < n then fun s => ([], ⟨s.at_, true⟩) else repS one n.toNat
def nTx (l : List UInt8) : RdS → TxT × RdS := thenS (nN l) fun s => thenS (nN l) fun q => thenS (nL l (nR l) 6) fun r => thenS (nL l (nW l) 4) fun w => giveS ⟨s, q, r, w⟩

theorem rdOf_as : rdOf = thenP textOf fun k => thenP numOf fun v => thenP textOf fun x => thenP flagOf fun f => giveP ⟨k, v, x, f⟩ := by
  funext l
  unfold rdOf thenP giveP
  cases textOf l with
  | none => rfl
  | some a =>
    obtain ⟨a, l⟩ := a
    simp only [Option.bind_eq_bind, Option.bind_some]
    cases numOf l with
    | none => rfl
    | some a =>
      obtain ⟨a, l⟩ := a
      simp only [Option.bind_some]
      cases textOf l with
      | none => rfl
      | some a =>
        obtain ⟨a, l⟩ := a
        simp only [Option.bind_some]
        cases flagOf l with
        | none => rfl
        | some a => rfl
theorem wrOf_as : wrOf = thenP textOf fun k => thenP textOf fun x => thenP flagOf fun f => giveP ⟨k, x, f⟩ := by
  funext l
  unfold wrOf thenP giveP
  cases textOf l with
  | none => rfl
  | some a =>
    obtain ⟨a, l⟩ := a
    simp only [Option.bind_eq_bind, Option.bind_some]
    cases textOf l with
    | none => rfl
    | some a =>
      obtain ⟨a, l⟩ := a
      simp only [Option.bind_some]
      cases flagOf l with
      | none => rfl
      | some a => rfl
theorem manyOf_as {α : Type} (one : List UInt8 → Option (α × List UInt8)) (n : Nat) : manyOf one (n + 1) = thenP one fun x => thenP (manyOf one n) fun r => giveP (x :: r) := by
  funext l
  show manyOf one (n + 1) l = _
  rw [manyOf]
  unfold thenP giveP
  cases one l with
  | none => rfl
  | some a =>
    obtain ⟨a, l⟩ := a
    simp only [Option.bind_eq_bind, Option.bind_some]
    cases manyOf one n l with
    | none => rfl
    | some a => rfl
/-- the transaction at the front, may it be or not -/
def txAny : List UInt8 → Option (TxT × List UInt8) := thenP numOf fun s => thenP numOf fun q => thenP (thenP numOf fun n => if 6 < n then fun _ => none else manyOf rdOf n.toNat) fun r => thenP (thenP numOf fun n => if 4 < n then fun _ => none else manyOf wrOf n.toNat) fun w => giveP ⟨s, q, r, w⟩
theorem txOf_as (l : List UInt8) : txOf l = match txAny l with
    | none => none
    | some (t, r) => if mayT t then some (t, r) else none := by
  unfold txOf txAny thenP giveP
  cases numOf l with
  | none => rfl
  | some a =>
    obtain ⟨a, l⟩ := a
    simp only [Option.bind_eq_bind, Option.bind_some]
    cases numOf l with
    | none => rfl
    | some b =>
      obtain ⟨b, l⟩ := b
      simp only [Option.bind_some]
      cases numOf l with
      | none => rfl
      | some n =>
        obtain ⟨n, l⟩ := n
        simp only [Option.bind_some]
        by_cases hn : 6 < n
        · rw [if_pos hn, if_pos hn]
        · rw [if_neg hn, if_neg hn]
          cases manyOf rdOf n.toNat l with
          | none => rfl
          | some r =>
            obtain ⟨r, l⟩ := r
            simp only [Option.bind_some]
            cases numOf l with
            | none => rfl
            | some m =>
              obtain ⟨m, l⟩ := m
              simp only [Option.bind_some]
              by_cases hm : 4 < m
              · rw [if_pos hm, if_pos hm]
              · rw [if_neg hm, if_neg hm]
                cases manyOf wrOf m.toNat l with
                | none => rfl
                | some w =>
                  obtain ⟨w, l⟩ := w
                  simp only [Option.bind_some]
                  rfl

theorem simR (l : List UInt8) : Sim l (nR l) rdOf := by
  rw [rdOf_as]
  exact (simT l).then_ fun _ => (simN l).then_ fun _ => (simT l).then_ fun _ => (simF l).then_ fun _ => Sim.give _
theorem simW (l : List UInt8) : Sim l (nW l) wrOf := by
  rw [wrOf_as]
  exact (simT l).then_ fun _ => (simT l).then_ fun _ => (simF l).then_ fun _ => Sim.give _
theorem simRep {α : Type} {l : List UInt8} {f : RdS → α × RdS} {p : List UInt8 → Option (α × List UInt8)} (h : Sim l f p) : ∀ n, Sim l (repS f n) (manyOf p n)
  | 0 => Sim.give _
  | n + 1 => by
    rw [manyOf_as]
    exact h.then_ fun _ => (simRep h n).then_ fun _ => Sim.give _
theorem simL {α : Type} {l : List UInt8} {f : RdS → α × RdS} {p : List UInt8 → Option (α × List UInt8)} (h : Sim l f p) (most : Int) : Sim l (nL l f most) (thenP numOf fun n => if most < n then fun _ => none else manyOf p n.toNat) :=
  (simN l).then_ fun n => by
    by_cases hn : most < n
    · rw [if_pos hn, if_pos hn]; exact Sim.fail _
    · rw [if_neg hn, if_neg hn]; exact simRep h _
theorem simTx (l : List UInt8) : Sim l (nTx l) txAny :=
  (simN l).then_ fun _ => (simN l).then_ fun _ => (simL (simR l) 6).then_ fun _ => (simL (simW l) 4).then_ fun _ => Sim.give _

/-- what the reader has come to is what is taken -/
theorem run_no {l : List UInt8} (h : (nTx l ⟨0, false⟩).2.bad = true ∨ mayT (nTx l ⟨0, false⟩).1 = false) : takenT l = ⟨0, 0, [], []⟩ ∧ takenK l = 0 ∧ takenB l = false := by
  have e : txOf l = none := by
    rw [txOf_as]
    cases ha : txAny l with
    | none => rfl
    | some tr =>
      obtain ⟨t, r⟩ := tr
      obtain ⟨h1, h2, h3⟩ := (simTx l).yes ⟨0, false⟩ t r rfl ha
      rcases h with h | h
      · rw [h2] at h; cases h
      · rw [h1] at h
        simp only [h]
        rfl
  unfold takenT takenK takenB
  rw [e]
  exact ⟨rfl, rfl, rfl⟩
theorem run_yes {l : List UInt8} (h1 : (nTx l ⟨0, false⟩).2.bad = false) (h2 : mayT (nTx l ⟨0, false⟩).1 = true) : takenT l = (nTx l ⟨0, false⟩).1 ∧ takenK l = (nTx l ⟨0, false⟩).2.at_ ∧ takenB l = true := by
  have hs := simTx l
  cases ha : txAny l with
  | none =>
    have := hs.no ⟨0, false⟩ rfl ha
    rw [this] at h1
    cases h1
  | some tr =>
    obtain ⟨t, r⟩ := tr
    obtain ⟨g1, g2, g3⟩ := hs.yes ⟨0, false⟩ t r rfl ha
    have e : txOf l = some (t, r) := by
      rw [txOf_as, ha]
      simp only []
      rw [← g1, if_pos h2]
    obtain ⟨k1, _, _⟩ := txOf_some e
    have hle := hs.le ⟨0, false⟩ (Nat.zero_le _)
    have hlen := congrArg List.length k1
    rw [List.length_append, g3, List.length_drop] at hlen
    unfold takenT takenK takenB
    rw [e]
    exact ⟨g1.symm, by simp only []; omega, rfl⟩

/-! What is read is within limits. -/
theorem nN_lim (l : List UInt8) (s : RdS) : 0 ≤ (nN l s).1 ∧ (nN l s).1 ≤ 9223372036854775807 := by
  unfold nN nx
  split
  · simp
  · exact ⟨(numS_lim l s).1, (numS_lim l s).2.1⟩
theorem nT_lim (l : List UInt8) (s : RdS) : (nT l s).1.size ≤ 255 := by
  unfold nT nx
  split
  · simp [ByteArray.size]
  · exact (txtS_lim l s).1
theorem nR_lim (l : List UInt8) (s : RdS) : RdFine (nR l s).1 := ⟨nT_lim l _, nT_lim l _, (nN_lim l _).1, (nN_lim l _).2⟩
theorem nW_lim (l : List UInt8) (s : RdS) : WrFine (nW l s).1 := ⟨nT_lim l _, nT_lim l _⟩
theorem repS_all {α : Type} {one : RdS → α × RdS} {ok : α → Prop} (h : ∀ s, ok (one s).1) : ∀ n s, (∀ x ∈ (repS one n s).1, ok x) ∧ (repS one n s).1.length = n
  | 0, s => ⟨(fun x hx => by cases hx), rfl⟩
  | n + 1, s => by
    obtain ⟨h1, h2⟩ := repS_all h n (one s).2
    refine ⟨fun x hx => ?_, ?_⟩
    · rcases List.mem_cons.1 (show x ∈ (one s).1 :: (repS one n (one s).2).1 from hx) with rfl | hx
      · exact h s
      · exact h1 x hx
    · show ((one s).1 :: (repS one n (one s).2).1).length = n + 1
      rw [List.length_cons, h2]
theorem nL_lim {α : Type} {l : List UInt8} {one : RdS → α × RdS} {ok : α → Prop} (h : ∀ s, ok (one s).1) {most : Int} (hm : 0 ≤ most) (s : RdS) : (∀ x ∈ (nL l one most s).1, ok x) ∧ ((nL l one most s).1.length : Int) ≤ most := by
  have hn := nN_lim l s
  unfold nL thenS
  simp only []
  by_cases hc : most < (nN l s).1
  · rw [if_pos hc]
    exact ⟨(fun x hx => by cases hx), by simpa using hm⟩
  · rw [if_neg hc]
    obtain ⟨h1, h2⟩ := repS_all h (nN l s).1.toNat (nN l s).2
    exact ⟨h1, by rw [h2]; omega⟩
/-- one round more -/
theorem repS_next {α : Type} (one : RdS → α × RdS) (n : Nat) (s : RdS) : repS one (n + 1) s = ((one s).1 :: (repS one n (one s).2).1, (repS one n (one s).2).2) := rfl

end Go.Proofs.Ytjpdhijhmpdbnaa.TakeMath
