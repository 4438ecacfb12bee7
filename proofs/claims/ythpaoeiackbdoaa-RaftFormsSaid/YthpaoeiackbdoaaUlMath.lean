/-
  Logs in terms, as lists: the terms of places, what a log has, joins, who is newer. No program.
-/
import Derived.Test.YthpaoeiackbdoaaEntOwn
namespace Go.Proofs.Ythpaoeiackbdoaa
open Go Go.RowKit TxnMath KeyMath MsgMath

def thereL (l : List EntT) (i : Int) : Bool := decide (1 ≤ i) && decide (i ≤ (l.length : Int))
def termL (l : List EntT) (i : Int) : Int := if thereL l i = true then (l[(i - 1).toNat]?.map EntT.term).getD 0 else 0
def hasL (l : List EntT) (i t : Int) : Bool := decide (i = 0) || (thereL l i && decide (termL l i = t))
def newerL (l : List EntT) (i t : Int) : Bool := decide (termL l l.length < t) || (decide (t = termL l l.length) && decide ((l.length : Int) ≤ i))
/-- how many, from the first one on, are such -/
def frontL (R : EntT → EntT → Bool) : List EntT → List EntT → Nat
  | x :: a, y :: b => if R x y = true then frontL R a b + 1 else 0
  | _, _ => 0
def sameTm (x y : EntT) : Bool := decide (x.term = y.term)
def sameEn (x y : EntT) : Bool := decide (x = y)
def joinL (l : List EntT) (i : Int) (m : List EntT) : List EntT :=
  if i < 0 ∨ (l.length : Int) < i then l
  else if frontL sameTm (l.drop i.toNat) m = m.length then l
  else l.take (i.toNat + frontL sameTm (l.drop i.toNat) m) ++ m.drop (frontL sameTm (l.drop i.toNat) m)

theorem there_yes {l : List EntT} {i : Int} (h1 : 1 ≤ i) (h2 : i ≤ (l.length : Int)) : thereL l i = true := by simp [thereL, h1, h2]
theorem there_no1 {l : List EntT} {i : Int} (h1 : ¬ 1 ≤ i) : thereL l i = false := by simp [thereL, h1]
theorem there_no2 {l : List EntT} {i : Int} (h2 : ¬ i ≤ (l.length : Int)) : thereL l i = false := by simp [thereL, h2]
theorem there_at {l : List EntT} {i : Int} (h : thereL l i = true) : 1 ≤ i ∧ i ≤ (l.length : Int) := by simpa [thereL] using h
theorem term_no {l : List EntT} {i : Int} (h : thereL l i = false) : termL l i = 0 := by simp [termL, h]
theorem term_at {l : List EntT} {k : Nat} (hk : k < l.length) : termL l ((k : Int) + 1) = l[k].term := by
  unfold termL
  rw [there_yes (by omega) (by omega), if_pos rfl, show ((k : Int) + 1 - 1).toNat = k by omega, List.getElem?_eq_getElem hk]
  rfl
theorem front_le (R : EntT → EntT → Bool) : ∀ a b, frontL R a b ≤ a.length ∧ frontL R a b ≤ b.length
  | [], b => by simp [frontL]
  | x :: a, [] => by simp [frontL]
  | x :: a, y :: b => by
    have := front_le R a b
    unfold frontL
    split <;> simp <;> omega
/-- so far all are such, and the next ones are not, or one of the two ends -/
theorem front_is (R : EntT → EntT → Bool) : ∀ (a b : List EntT) (k : Nat), (∀ j (h1 : j < a.length) (h2 : j < b.length), j < k → R a[j] b[j] = true) → k ≤ a.length → k ≤ b.length →
    (k = a.length ∨ k = b.length ∨ ∃ (h1 : k < a.length) (h2 : k < b.length), R a[k] b[k] = false) → frontL R a b = k
  | [], b, k, _, h1, _, _ => by have : k = 0 := by simpa using h1
                                subst this; simp [frontL]
  | x :: a, [], k, _, _, h2, _ => by have : k = 0 := by simpa using h2
                                     subst this; simp [frontL]
  | x :: a, y :: b, 0, _, _, _, h => by
    rcases h with h | h | ⟨_, _, h⟩
    · simp at h
    · simp at h
    · simp only [List.getElem_cons_zero] at h
      simp [frontL, h]
  | x :: a, y :: b, k + 1, h, h1, h2, h3 => by
    have h0 := h 0 (by simp) (by simp) (by omega)
    simp only [List.getElem_cons_zero] at h0
    have ih := front_is R a b k (fun j hj1 hj2 hjk => by
      have := h (j + 1) (by simpa using hj1) (by simpa using hj2) (by omega)
      simpa using this) (by simpa using h1) (by simpa using h2) (by
      rcases h3 with h3 | h3 | ⟨q1, q2, h3⟩
      · exact .inl (by simpa using h3)
      · exact .inr (.inl (by simpa using h3))
      · exact .inr (.inr ⟨by simpa using q1, by simpa using q2, by simpa using h3⟩))
    unfold frontL
    rw [if_pos h0, ih]
theorem front_all (R : EntT → EntT → Bool) : ∀ (a b : List EntT) (j : Nat), j < frontL R a b → ∃ (h1 : j < a.length) (h2 : j < b.length), R a[j] b[j] = true
  | [], b, j, h => by simp [frontL] at h
  | x :: a, [], j, h => by simp [frontL] at h
  | x :: a, y :: b, j, h => by
    unfold frontL at h
    split at h
    · next hr =>
      cases j with
      | zero => exact ⟨by simp, by simp, by simpa using hr⟩
      | succ j =>
        obtain ⟨h1, h2, h3⟩ := front_all R a b j (by omega)
        exact ⟨by simpa using h1, by simpa using h2, by simpa using h3⟩
    · omega
/-- .. and the one behind is not -/
theorem front_stop (R : EntT → EntT → Bool) : ∀ (a b : List EntT), (h1 : frontL R a b < a.length) → (h2 : frontL R a b < b.length) → R a[frontL R a b] b[frontL R a b] = false
  | [], b, h1, _ => by simp at h1
  | x :: a, [], _, h2 => by simp at h2
  | x :: a, y :: b, h1, h2 => by
    by_cases hr : R x y = true
    · have e : frontL R (x :: a) (y :: b) = frontL R a b + 1 := by simp [frontL, hr]
      have q1 : frontL R a b < a.length := by rw [e] at h1; simpa using h1
      have q2 : frontL R a b < b.length := by rw [e] at h2; simpa using h2
      have := front_stop R a b q1 q2
      simp only [e, List.getElem_cons_succ]
      exact this
    · have e : frontL R (x :: a) (y :: b) = 0 := by simp [frontL, hr]
      simp only [e, List.getElem_cons_zero]
      simpa using hr
/-- alike in all: as long, and so far -/
theorem same_front (a b : List EntT) : (decide (a.length = b.length) && decide (frontL sameEn a b = a.length)) = decide (a = b) := by
  by_cases h : a = b
  · subst h
    have : frontL sameEn a a = a.length := front_is sameEn a a a.length (fun j h1 _ _ => by simp [sameEn]) (Nat.le_refl _) (Nat.le_refl _) (.inl rfl)
    simp [this]
  · rw [decide_eq_false h]
    by_cases hl : a.length = b.length
    · by_cases hf : frontL sameEn a b = a.length
      · exfalso
        refine h (List.ext_getElem hl fun j h1 h2 => ?_)
        obtain ⟨_, _, h3⟩ := front_all sameEn a b j (by omega)
        simpa [sameEn] using h3
      · simp [hf]
    · simp [hl]

end Go.Proofs.Ythpaoeiackbdoaa

/-
  How long a join is, and what stands in it. No program.
-/
namespace Go.Proofs.Ythpaoeiackbdoaa
open Go Go.RowKit TxnMath KeyMath MsgMath

theorem join_mem {l m : List EntT} {i : Int} : ∀ e ∈ joinL l i m, e ∈ l ∨ e ∈ m := by
  intro e he
  unfold joinL at he
  split at he
  · exact .inl he
  · split at he
    · exact .inl he
    · rcases List.mem_append.1 he with he | he
      · exact .inl (List.mem_of_mem_take he)
      · exact .inr (List.mem_of_mem_drop he)
theorem join_len {l m : List EntT} {i : Int} : (joinL l i m).length ≤ l.length + m.length := by
  unfold joinL
  split
  · omega
  · split
    · omega
    · rw [List.length_append, List.length_take, List.length_drop]; omega

end Go.Proofs.Ythpaoeiackbdoaa
