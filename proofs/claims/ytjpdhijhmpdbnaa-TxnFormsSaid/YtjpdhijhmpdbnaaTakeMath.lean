/-
  Taking a transaction as the document's answer does: reading on, then putting again. No program.
-/
import Derived.Test.YtjpdhijhmpdbnaaTxnMath
namespace Go.Proofs.Ytjpdhijhmpdbnaa.TakeMath
open Go NumPlain KeyMath TxnMath

/-- a reader: where it is; was there too little? -/
structure RdS where
  at_ : Nat
  bad : Bool
def numS (l : List UInt8) (s : RdS) : Int × RdS := match takeF 9 (l.drop s.at_) with
  | none => (0, ⟨s.at_, true⟩)
  | some (v, k) => ((v : Int), ⟨s.at_ + k, s.bad⟩)
def txtS (l : List UInt8) (s : RdS) : ByteArray × RdS := match takeT (l.drop s.at_) with
  | none => (⟨#[]⟩, ⟨s.at_, true⟩)
  | some (t, k) => (⟨t.toArray⟩, ⟨s.at_ + k, s.bad⟩)
def flagS (l : List UInt8) (s : RdS) : Bool × RdS := if l.length ≤ s.at_ then (false, ⟨s.at_, true⟩) else (l.getD s.at_ 0 == 1, ⟨s.at_ + 1, s.bad⟩)
def rdS (l : List UInt8) (s : RdS) : RdT × RdS :=
  (⟨(txtS l s).1, (numS l (txtS l s).2).1, (txtS l (numS l (txtS l s).2).2).1, (flagS l (txtS l (numS l (txtS l s).2).2).2).1⟩, (flagS l (txtS l (numS l (txtS l s).2).2).2).2)
def wrS (l : List UInt8) (s : RdS) : WrT × RdS :=
  (⟨(txtS l s).1, (txtS l (txtS l s).2).1, (flagS l (txtS l (txtS l s).2).2).1⟩, (flagS l (txtS l (txtS l s).2).2).2)
def loopS {α : Type} (one : RdS → α × RdS) (M : Nat) : Nat → Int → List α → RdS → List α × RdS
  | 0, _, xs, s => (xs, s)
  | f + 1, n, xs, s => if 0 < n ∧ s.bad = false ∧ xs.length ≤ M then loopS one M f (n - 1) (xs ++ [(one s).1]) (one s).2 else (xs, s)
def readsS (l : List UInt8) (n : Int) (s : RdS) : List RdT × RdS := loopS (rdS l) 6 7 n [] s
def writesS (l : List UInt8) (n : Int) (s : RdS) : List WrT × RdS := loopS (wrS l) 4 5 n [] s

/-- what is read, and where the reader is behind it -/
def runS (l : List UInt8) : TxT × RdS :=
  let a := numS l ⟨0, false⟩
  let b := numS l a.2
  let n := numS l b.2
  let r := readsS l n.1 n.2
  let m := numS l r.2
  let w := writesS l m.1 m.2
  (⟨a.1, b.1, r.1, w.1⟩, w.2)
/-- what is taken: the transaction, how many bytes, is it? -/
def takenT (l : List UInt8) : TxT := match txOf l with | none => ⟨0, 0, [], []⟩ | some (t, _) => t
def takenK (l : List UInt8) : Nat := match txOf l with | none => 0 | some (t, _) => (encT t).length
def takenB (l : List UInt8) : Bool := (txOf l).isSome
/-- does what was read put again come to what stood there? -/
def goodS (l : List UInt8) : Bool := !(runS l).2.bad && !(putTx (runS l).1).isEmpty && putTx (runS l).1 == l.take (runS l).2.at_

theorem loopS_stop {α : Type} {one : RdS → α × RdS} {M f : Nat} {n : Int} {xs : List α} {s : RdS} (h : ¬ (0 < n ∧ s.bad = false ∧ xs.length ≤ M)) : loopS one M f n xs s = (xs, s) := by
  cases f with
  | zero => rfl
  | succ f => rw [loopS, if_neg h]
theorem loopS_next {α : Type} {one : RdS → α × RdS} {M : Nat} {n : Int} {xs : List α} {s : RdS} (h : 0 < n ∧ s.bad = false ∧ xs.length ≤ M) :
    loopS one M (M + 1 - xs.length) n xs s = loopS one M (M + 1 - (xs ++ [(one s).1]).length) (n - 1) (xs ++ [(one s).1]) (one s).2 := by
  rw [show M + 1 - xs.length = (M + 1 - (xs ++ [(one s).1]).length) + 1 by rw [List.length_append, List.length_singleton]; omega, loopS, if_pos h]

/-! What there is is within limits. -/
theorem numS_lim (l : List UInt8) (s : RdS) : 0 ≤ (numS l s).1 ∧ (numS l s).1 ≤ 9223372036854775807 ∧ s.at_ ≤ (numS l s).2.at_ ∧ (s.at_ ≤ l.length → (numS l s).2.at_ ≤ l.length) := by
  unfold numS
  cases h : takeF 9 (l.drop s.at_) with
  | none => exact ⟨by simp, by simp, Nat.le_refl _, id⟩
  | some vk =>
    obtain ⟨v, k⟩ := vk
    obtain ⟨_, h2, _, h4, _⟩ := takeF_some9 _ v k h
    rw [List.length_drop] at *
    refine ⟨by simp, by simp; omega, by simp, fun _ => by simp; omega⟩
theorem txtS_lim (l : List UInt8) (s : RdS) : (txtS l s).1.size ≤ 255 ∧ s.at_ ≤ (txtS l s).2.at_ ∧ (s.at_ ≤ l.length → (txtS l s).2.at_ ≤ l.length) := by
  unfold txtS
  cases h : takeT (l.drop s.at_) with
  | none => exact ⟨by simp [ByteArray.size], Nat.le_refl _, id⟩
  | some tk =>
    obtain ⟨t, k⟩ := tk
    have h2 : textOf (l.drop s.at_) = some (⟨t.toArray⟩, (l.drop s.at_).drop k) := by unfold textOf; rw [h]
    obtain ⟨h3, h4⟩ := textOf_some h2
    refine ⟨h3, by simp, fun hle => ?_⟩
    unfold takeT at h
    cases hf : takeF 9 (l.drop s.at_) with
    | none => rw [hf] at h; cases h
    | some vk =>
      obtain ⟨v, k'⟩ := vk
      obtain ⟨_, _, _, h8, _⟩ := takeF_some9 _ v k' hf
      rw [hf] at h
      simp only [] at h
      by_cases hb : 255 < v ∨ (l.drop s.at_).length - k' < v
      · rw [if_pos hb] at h; cases h
      · rw [if_neg hb] at h
        simp only [Option.some.injEq, Prod.mk.injEq] at h
        obtain ⟨_, rfl⟩ := h
        rw [List.length_drop] at *
        simp
        omega
theorem flagS_lim (l : List UInt8) (s : RdS) : s.at_ ≤ (flagS l s).2.at_ ∧ (s.at_ ≤ l.length → (flagS l s).2.at_ ≤ l.length) := by
  unfold flagS
  split
  · exact ⟨Nat.le_refl _, id⟩
  · exact ⟨by simp, fun _ => by simp; omega⟩

structure RdFine (x : RdT) : Prop where
  key : x.key.size ≤ 255
  val : x.val.size ≤ 255
  lo : 0 ≤ x.ver
  hi : x.ver ≤ 9223372036854775807
structure WrFine (x : WrT) : Prop where
  key : x.key.size ≤ 255
  val : x.val.size ≤ 255
theorem rdS_lim (l : List UInt8) (s : RdS) : RdFine (rdS l s).1 ∧ s.at_ ≤ (rdS l s).2.at_ ∧ (s.at_ ≤ l.length → (rdS l s).2.at_ ≤ l.length) := by
  unfold rdS
  obtain ⟨a1, a2, a3⟩ := txtS_lim l s
  obtain ⟨b0, b1, b2, b3⟩ := numS_lim l (txtS l s).2
  obtain ⟨c1, c2, c3⟩ := txtS_lim l (numS l (txtS l s).2).2
  obtain ⟨d1, d2⟩ := flagS_lim l (txtS l (numS l (txtS l s).2).2).2
  exact ⟨⟨a1, c1, b0, b1⟩, by simp only []; omega, fun h => d2 (c3 (b3 (a3 h)))⟩
theorem wrS_lim (l : List UInt8) (s : RdS) : WrFine (wrS l s).1 ∧ s.at_ ≤ (wrS l s).2.at_ ∧ (s.at_ ≤ l.length → (wrS l s).2.at_ ≤ l.length) := by
  unfold wrS
  obtain ⟨a1, a2, a3⟩ := txtS_lim l s
  obtain ⟨c1, c2, c3⟩ := txtS_lim l (txtS l s).2
  obtain ⟨d1, d2⟩ := flagS_lim l (txtS l (txtS l s).2).2
  exact ⟨⟨a1, c1⟩, by simp only []; omega, fun h => d2 (c3 (a3 h))⟩
theorem loopS_lim {α : Type} {one : RdS → α × RdS} {ok : α → Prop} {N M : Nat} (ho : ∀ s, ok (one s).1 ∧ (s.at_ ≤ N → (one s).2.at_ ≤ N)) : ∀ (f : Nat) (n : Int) (xs : List α) (s : RdS), (∀ x ∈ xs, ok x) → xs.length ≤ M + 1 → s.at_ ≤ N →
    (∀ x ∈ (loopS one M f n xs s).1, ok x) ∧ (loopS one M f n xs s).1.length ≤ M + 1 ∧ (loopS one M f n xs s).2.at_ ≤ N
  | 0, _, xs, s, h, hl, hs => ⟨h, hl, hs⟩
  | f + 1, n, xs, s, h, hl, hs => by
    rw [loopS]
    by_cases hc : 0 < n ∧ s.bad = false ∧ xs.length ≤ M
    · rw [if_pos hc]
      refine loopS_lim ho f (n - 1) _ _ (fun x hx => ?_) (by rw [List.length_append, List.length_singleton]; omega) ((ho s).2 hs)
      rcases List.mem_append.1 hx with hx | hx
      · exact h x hx
      · rw [List.mem_singleton.1 hx]; exact (ho s).1
    · rw [if_neg hc]
      exact ⟨h, hl, hs⟩

theorem readsS_lim (l : List UInt8) (n : Int) (s : RdS) (h : s.at_ ≤ l.length) : (readsS l n s).2.at_ ≤ l.length ∧ (readsS l n s).1.length ≤ 7 := by
  obtain ⟨_, d2, d3⟩ := loopS_lim (one := rdS l) (ok := RdFine) (N := l.length) (M := 6) (fun s => ⟨(rdS_lim l s).1, (rdS_lim l s).2.2⟩) 7 n [] s (fun x hx => absurd hx (by simp)) (by simp) h
  exact ⟨d3, d2⟩
theorem writesS_lim (l : List UInt8) (n : Int) (s : RdS) (h : s.at_ ≤ l.length) : (writesS l n s).2.at_ ≤ l.length ∧ (writesS l n s).1.length ≤ 5 := by
  obtain ⟨_, d2, d3⟩ := loopS_lim (one := wrS l) (ok := WrFine) (N := l.length) (M := 4) (fun s => ⟨(wrS_lim l s).1, (wrS_lim l s).2.2⟩) 5 n [] s (fun x hx => absurd hx (by simp)) (by simp) h
  exact ⟨d3, d2⟩

/-! Where there is one it is read. -/
def At (l : List UInt8) (s : RdS) (r : List UInt8) : Prop := l.drop s.at_ = r ∧ s.at_ ≤ l.length ∧ s.bad = false
theorem At.len {l r : List UInt8} {s : RdS} (h : At l s r) : s.at_ + r.length = l.length := by
  obtain ⟨h1, h2, _⟩ := h
  rw [← h1, List.length_drop]
  omega
theorem At.go {l x r : List UInt8} {s : RdS} (h : At l s (x ++ r)) : At l ⟨s.at_ + x.length, s.bad⟩ r := by
  have hl := h.len
  rw [List.length_append] at hl
  refine ⟨?_, by simp only []; omega, h.2.2⟩
  simp only []
  rw [← List.drop_drop, h.1, List.drop_left]
theorem numS_at {l r : List UInt8} {s : RdS} {z : Int} (h0 : 0 ≤ z) (h1 : z ≤ 9223372036854775807) (h : At l s (natOf z ++ r)) : (numS l s).1 = z ∧ At l (numS l s).2 r := by
  obtain ⟨n, rfl⟩ := Int.eq_ofNat_of_zero_le h0
  have e : natOf ((n : Nat) : Int) = putN n := rfl
  have ht : takeF 9 (l.drop s.at_) = some (n, (putN n).length) := by rw [h.1, e, takeF_putN n r (by omega)]
  have g := h.go
  unfold numS
  rw [ht]
  exact ⟨rfl, g⟩
theorem txtS_at {l r : List UInt8} {s : RdS} {x : ByteArray} (hx : x.size ≤ 255) (h : At l s (txtOf x ++ r)) : (txtS l s).1 = x ∧ At l (txtS l s).2 r := by
  have e : x.data.toList.length = x.size := by rw [Array.length_toList]; rfl
  have ht : takeT (l.drop s.at_) = some (x.data.toList, (putT x.data.toList).length) := by
    rw [h.1]
    exact takeT_putT _ _ (by omega)
  have g := h.go
  unfold txtS
  rw [ht]
  exact ⟨by simp, g⟩
theorem flagS_at {l r : List UInt8} {s : RdS} {b : Bool} (h : At l s (flagB b :: r)) : (flagS l s).1 = b ∧ At l (flagS l s).2 r := by
  have hl := h.len
  rw [List.length_cons] at hl
  have g : At l ⟨s.at_ + 1, s.bad⟩ r := At.go (x := [flagB b]) h
  have e : l.getD s.at_ 0 = flagB b := by
    have h1 := congrArg (fun m => m[0]?) h.1
    simp only [List.getElem?_drop, Nat.add_zero, List.getElem?_cons_zero] at h1
    rw [List.getD_eq_getElem?_getD, h1]
    rfl
  unfold flagS
  rw [if_neg (by omega), e]
  exact ⟨by cases b <;> rfl, g⟩
theorem rdS_at {l r : List UInt8} {s : RdS} {x : RdT} (hk : x.key.size ≤ 255) (h0 : 0 ≤ x.ver) (h1 : x.ver ≤ 9223372036854775807) (hv : x.val.size ≤ 255) (h : At l s (encR x ++ r)) : (rdS l s).1 = x ∧ At l (rdS l s).2 r := by
  unfold encR at h
  simp only [List.append_assoc, List.singleton_append] at h
  obtain ⟨e1, a1⟩ := txtS_at hk h
  obtain ⟨e2, a2⟩ := numS_at h0 h1 a1
  obtain ⟨e3, a3⟩ := txtS_at hv a2
  obtain ⟨e4, a4⟩ := flagS_at a3
  unfold rdS
  simp only [e1, e2, e3, e4]
  exact ⟨trivial, a4⟩
theorem wrS_at {l r : List UInt8} {s : RdS} {x : WrT} (hk : x.key.size ≤ 255) (hv : x.val.size ≤ 255) (h : At l s (encW x ++ r)) : (wrS l s).1 = x ∧ At l (wrS l s).2 r := by
  unfold encW at h
  simp only [List.append_assoc, List.singleton_append] at h
  obtain ⟨e1, a1⟩ := txtS_at hk h
  obtain ⟨e3, a3⟩ := txtS_at hv a1
  obtain ⟨e4, a4⟩ := flagS_at a3
  unfold wrS
  simp only [e1, e3, e4]
  exact ⟨trivial, a4⟩
theorem loopS_at {α : Type} {one : RdS → α × RdS} {enc : α → List UInt8} {l r : List UInt8} {M : Nat} : ∀ (ys : List α) (f : Nat) (xs : List α) (s : RdS), (∀ x ∈ ys, ∀ s r, At l s (enc x ++ r) → (one s).1 = x ∧ At l (one s).2 r) →
    xs.length + ys.length ≤ M + 1 → ys.length ≤ f → At l s (ys.flatMap enc ++ r) → (loopS one M f (ys.length : Int) xs s).1 = xs ++ ys ∧ At l (loopS one M f (ys.length : Int) xs s).2 r
  | [], f, xs, s, _, _, _, h => by
    rw [loopS_stop (by simp)]
    exact ⟨by simp, h⟩
  | y :: ys, 0, _, _, _, _, hf, _ => by simp at hf
  | y :: ys, f + 1, xs, s, ho, hM, hf, h => by
    rw [List.length_cons] at hM hf
    rw [List.flatMap_cons, List.append_assoc] at h
    obtain ⟨e1, a1⟩ := ho y (by simp) s _ h
    rw [loopS, if_pos ⟨by rw [List.length_cons]; omega, h.2.2, by omega⟩, e1]
    have := loopS_at (M := M) ys f (xs ++ [y]) (one s).2 (fun x hx => ho x (by simp [hx])) (by rw [List.length_append, List.length_singleton]; omega) (by omega) a1
    rw [show (((y :: ys).length : Nat) : Int) - 1 = (ys.length : Int) by rw [List.length_cons]; omega]
    rw [List.append_assoc] at this
    exact this
theorem runS_at {t : TxT} (h : mayT t = true) (hv : ∀ x ∈ t.reads, x.ver ≤ 9223372036854775807) {l r : List UInt8} (hl : l = encT t ++ r) : (runS l).1 = t ∧ At l (runS l).2 r := by
  obtain ⟨h1, h2, h3, h4, h5, h6, h7, h8, h9, h10⟩ := mayT_parts h
  have hk := rising_may h9
  have hw := rising_may h10
  have h0 : At l ⟨0, false⟩ (encT t ++ r) := ⟨by simpa using hl, by simp, rfl⟩
  unfold encT at h0
  simp only [List.append_assoc] at h0
  obtain ⟨e1, a1⟩ := numS_at (by omega) (by omega) h0
  obtain ⟨e2, a2⟩ := numS_at (by omega) (by omega) a1
  obtain ⟨e3, a3⟩ := numS_at (z := (t.reads.length : Int)) (by omega) (by omega) a2
  obtain ⟨e4, a4⟩ := loopS_at (one := rdS l) (enc := encR) (M := 6) t.reads 7 [] _ (fun x hx s r hh => rdS_at (by have := mayK_size (hk x.key (List.mem_map.2 ⟨x, hx, rfl⟩)); omega) (rdOk_parts (h1 x hx)).1 (hv x hx) (by have := (rdOk_parts (h1 x hx)).2; omega) hh) (by simp; omega) (by omega) a3
  obtain ⟨e5, a5⟩ := numS_at (z := (t.writes.length : Int)) (by omega) (by omega) a4
  obtain ⟨e6, a6⟩ := loopS_at (one := wrS l) (enc := encW) (M := 4) t.writes 5 [] _ (fun x hx s r hh => wrS_at (by have := mayK_size (hw x.key (List.mem_map.2 ⟨x, hx, rfl⟩)); omega) (by have := wrOk_parts (h2 x hx); omega) hh) (by simp; omega) (by omega) a5
  unfold runS readsS writesS
  simp only [e1, e2, e3]
  rw [List.nil_append] at e4 e6
  simp only [e4, e5, e6]
  exact ⟨trivial, a6⟩

theorem runS_lim (l : List UInt8) : (∀ x ∈ (runS l).1.reads, RdFine x) ∧ (∀ x ∈ (runS l).1.writes, WrFine x) ∧ (runS l).1.reads.length ≤ 7 ∧ (runS l).1.writes.length ≤ 5 ∧ 0 ≤ (runS l).1.ses ∧ (runS l).1.ses ≤ 9223372036854775807 ∧ 0 ≤ (runS l).1.seq ∧ (runS l).1.seq ≤ 9223372036854775807 ∧ (runS l).2.at_ ≤ l.length := by
  unfold runS readsS writesS
  obtain ⟨a0, a1, _, a3⟩ := numS_lim l ⟨0, false⟩
  obtain ⟨b0, b1, _, b3⟩ := numS_lim l (numS l ⟨0, false⟩).2
  obtain ⟨_, _, _, c3⟩ := numS_lim l (numS l (numS l ⟨0, false⟩).2).2
  obtain ⟨d1, d2, d3⟩ := loopS_lim (one := rdS l) (ok := RdFine) (N := l.length) (M := 6) (fun s => ⟨(rdS_lim l s).1, (rdS_lim l s).2.2⟩) 7 (numS l (numS l (numS l ⟨0, false⟩).2).2).1 [] (numS l (numS l (numS l ⟨0, false⟩).2).2).2 (fun x hx => absurd hx (by simp)) (by simp) (c3 (b3 (a3 (by simp))))
  have h3 := (numS_lim l (loopS (rdS l) 6 7 (numS l (numS l (numS l ⟨0, false⟩).2).2).1 [] (numS l (numS l (numS l ⟨0, false⟩).2).2).2).2).2.2.2 d3
  obtain ⟨e1, e2, e3⟩ := loopS_lim (one := wrS l) (ok := WrFine) (N := l.length) (M := 4) (fun s => ⟨(wrS_lim l s).1, (wrS_lim l s).2.2⟩) 5 (numS l (loopS (rdS l) 6 7 (numS l (numS l (numS l ⟨0, false⟩).2).2).1 [] (numS l (numS l (numS l ⟨0, false⟩).2).2).2).2).1 [] (numS l (loopS (rdS l) 6 7 (numS l (numS l (numS l ⟨0, false⟩).2).2).1 [] (numS l (numS l (numS l ⟨0, false⟩).2).2).2).2).2 (fun x hx => absurd hx (by simp)) (by simp) h3
  exact ⟨d1, e1, d2, e2, a0, a1, b0, b1, e3⟩

/-- **what is read put again comes to what stood there just where there is a transaction** -/
theorem taken_yes {l : List UInt8} (h : goodS l = true) : takenT l = (runS l).1 ∧ takenK l = (runS l).2.at_ ∧ takenB l = true := by
  obtain ⟨f1, _, _, _, _, _, _, _, f9⟩ := runS_lim l
  unfold goodS at h
  simp only [Bool.and_eq_true, Bool.not_eq_true', beq_iff_eq] at h
  obtain ⟨⟨h1, h2⟩, h3⟩ := h
  unfold putTx at h2 h3
  by_cases hm : mayT (runS l).1 = true
  · rw [if_pos hm] at h3
    have hl : l = encT (runS l).1 ++ l.drop (runS l).2.at_ := by rw [h3, List.take_append_drop]
    have ht : txOf l = some ((runS l).1, l.drop (runS l).2.at_) := by
      have := txOf_put hm (fun x hx => (f1 x hx).hi) (l.drop (runS l).2.at_)
      rwa [← hl] at this
    unfold takenT takenK takenB
    rw [ht]
    refine ⟨rfl, ?_, rfl⟩
    simp only []
    rw [h3, List.length_take]
    omega
  · rw [if_neg hm] at h2
    simp at h2
theorem taken_no {l : List UInt8} (h : goodS l = false) : takenT l = ⟨0, 0, [], []⟩ ∧ takenK l = 0 ∧ takenB l = false := by
  cases ht : txOf l with
  | none =>
    unfold takenT takenK takenB
    rw [ht]
    exact ⟨rfl, rfl, rfl⟩
  | some tr =>
    exfalso
    obtain ⟨t, r⟩ := tr
    obtain ⟨hl, hm, hv⟩ := txOf_some ht
    obtain ⟨e1, a1⟩ := runS_at hm hv hl
    have hlen := a1.len
    have hk : (runS l).2.at_ = (encT t).length := by
      have := congrArg List.length hl
      rw [List.length_append] at this
      omega
    unfold goodS at h
    rw [e1, a1.2.2, hk] at h
    unfold putTx at h
    rw [if_pos hm] at h
    have hne : (encT t).isEmpty = false := by
      unfold encT natOf
      have := (putN_len t.ses.toNat).1
      cases hp : putN t.ses.toNat with
      | nil => rw [hp] at this; simp at this
      | cons a b => simp
    have htk : l.take (encT t).length = encT t := by
      rw [hl, List.take_left]
    rw [hne, htk] at h
    simp at h

end Go.Proofs.Ytjpdhijhmpdbnaa.TakeMath
