/-
  Seats as lists: which session's, whose turn it is, and what follows. No program.
-/
import Derived.Test.YtgocapmclhimdaaBaseM
namespace Go.Proofs.Ytgocapmclhimdaa.SeMath
open Go

structure SeT where
  ses : Int
  seq : Int
  pos : Int
deriving DecidableEq
def noSe : SeT := ⟨0, 0, 0⟩
/-- where the first one stands that is so; behind all, if none is -/
def firstI (p : SeT → Bool) : List SeT → Nat
  | [] => 0
  | c :: r => if p c then 0 else firstI p r + 1
def ownB (x : Int) (s : SeT) : Bool := decide (s.ses = x)
def aheadB (x : Int) (s : SeT) : Bool := decide (x < s.ses)
def findS (y : Int) : List SeT → SeT
  | [] => noSe
  | s :: r => if s.ses = y then s else findS y r
def hasS (y : Int) : List SeT → Bool
  | [] => false
  | s :: r => if s.ses = y then true else hasS y r
/-- whose turn it is, where seats rise -/
def turnL (n : SeT) : List SeT → List SeT
  | [] => [n]
  | s :: r => if s.ses < n.ses then s :: turnL n r else if s.ses = n.ses then if s.seq < n.seq then n :: r else s :: r else n :: s :: r
def turnB (n : SeT) : List SeT → Bool
  | [] => true
  | s :: r => if s.ses < n.ses then turnB n r else if s.ses = n.ses then decide (s.seq < n.seq) else true
def Rise (l : List SeT) : Prop := l.Pairwise fun a b => a.ses < b.ses

theorem firstI_le (p : SeT → Bool) : ∀ l : List SeT, firstI p l ≤ l.length
  | [] => Nat.le_refl _
  | c :: r => by unfold firstI; have := firstI_le p r; split <;> simp <;> omega
theorem firstI_drop (p : SeT → Bool) {l : List SeT} {k : Nat} (h : k < l.length) : firstI p (l.drop k) = if p l[k] then 0 else firstI p (l.drop (k + 1)) + 1 := by
  rw [List.drop_eq_getElem_cons h, firstI]
theorem find_first (y : Int) : ∀ l : List SeT, (firstI (ownB y) l = l.length ∧ findS y l = noSe ∧ hasS y l = false) ∨ ∃ h : firstI (ownB y) l < l.length, findS y l = l[firstI (ownB y) l] ∧ hasS y l = true
  | [] => .inl ⟨rfl, rfl, rfl⟩
  | s :: r => by
    by_cases h : s.ses = y
    · have e : firstI (ownB y) (s :: r) = 0 := by unfold firstI ownB; simp [h]
      refine .inr ⟨by rw [e]; simp, ?_, by simp [hasS, h]⟩
      simp only [e]
      simp [findS, h]
    · have e : firstI (ownB y) (s :: r) = firstI (ownB y) r + 1 := by rw [firstI]; simp [ownB, h]
      rcases find_first y r with ⟨h1, h2, h3⟩ | ⟨h1, h2, h3⟩
      · exact .inl ⟨by rw [e, h1]; rfl, by simp [findS, h, h2], by simp [hasS, h, h3]⟩
      · refine .inr ⟨by rw [e]; simpa using h1, ?_, by simp [hasS, h, h3]⟩
        simp only [e]
        simp [findS, h, h2]

/-- as the program does it -/
theorem turn_none (n : SeT) : ∀ {l : List SeT}, Rise l → firstI (ownB n.ses) l = l.length → l.take (firstI (aheadB n.ses) l) ++ n :: l.drop (firstI (aheadB n.ses) l) = turnL n l ∧ turnB n l = true
  | [], _, _ => ⟨rfl, rfl⟩
  | s :: r, hr, h => by
    have hr2 : Rise r := (List.pairwise_cons.1 hr).2
    have hs : s.ses ≠ n.ses := fun e => by rw [firstI, if_pos (by simp [ownB, e])] at h; simp at h
    have h' : firstI (ownB n.ses) r = r.length := by rw [firstI, if_neg (by simp [ownB, hs])] at h; simpa using h
    obtain ⟨i1, i2⟩ := turn_none n hr2 h'
    by_cases hlt : s.ses < n.ses
    · have e : firstI (aheadB n.ses) (s :: r) = firstI (aheadB n.ses) r + 1 := by rw [firstI, if_neg (by simp [aheadB]; omega)]
      rw [e]
      unfold turnL turnB
      rw [if_pos hlt, if_pos hlt]
      exact ⟨by simp [i1], i2⟩
    · have e : firstI (aheadB n.ses) (s :: r) = 0 := by rw [firstI, if_pos (by simp [aheadB]; omega)]
      rw [e]
      unfold turnL turnB
      rw [if_neg hlt, if_neg hs, if_neg hlt, if_neg hs]
      exact ⟨rfl, rfl⟩
theorem turn_own (n : SeT) : ∀ {l : List SeT}, Rise l → ∀ h : firstI (ownB n.ses) l < l.length,
    turnB n l = decide (l[firstI (ownB n.ses) l].seq < n.seq) ∧ turnL n l = if l[firstI (ownB n.ses) l].seq < n.seq then l.set (firstI (ownB n.ses) l) n else l
  | [], _, h => by simp at h
  | s :: r, hr, h => by
    obtain ⟨hs1, hr2⟩ := List.pairwise_cons.1 hr
    by_cases hs : s.ses = n.ses
    · have e : firstI (ownB n.ses) (s :: r) = 0 := by rw [firstI, if_pos (by simp [ownB, hs])]
      simp only [e]
      unfold turnL turnB
      rw [if_neg (by omega), if_pos hs, if_neg (by omega), if_pos hs]
      exact ⟨rfl, by simp⟩
    · have e : firstI (ownB n.ses) (s :: r) = firstI (ownB n.ses) r + 1 := by rw [firstI, if_neg (by simp [ownB, hs])]
      have h2 : firstI (ownB n.ses) r < r.length := by rw [e] at h; simpa using h
      obtain ⟨i1, i2⟩ := turn_own n hr2 h2
      have hlt : s.ses < n.ses := by
        rcases find_first n.ses r with ⟨h1, _⟩ | ⟨h1, h3, h4⟩
        · omega
        · have := hs1 _ (List.getElem_mem h1)
          have e2 : ∀ {l : List SeT} (h : firstI (ownB n.ses) l < l.length), l[firstI (ownB n.ses) l].ses = n.ses := fun {l} h => by
            induction l with
            | nil => simp at h
            | cons a t ih =>
              by_cases ha : a.ses = n.ses
              · have e : firstI (ownB n.ses) (a :: t) = 0 := by rw [firstI, if_pos (by simp [ownB, ha])]
                simp only [e]; exact ha
              · have e : firstI (ownB n.ses) (a :: t) = firstI (ownB n.ses) t + 1 := by rw [firstI, if_neg (by simp [ownB, ha])]
                have h2 : firstI (ownB n.ses) t < t.length := by rw [e] at h; simpa using h
                simp only [e]
                exact ih h2
          rw [e2 h1] at this
          exact this
      simp only [e]
      unfold turnL turnB
      rw [if_pos hlt, if_pos hlt, i1, i2]
      refine ⟨rfl, ?_⟩
      simp only [List.getElem_cons_succ, List.set_cons_succ]
      split <;> rfl

/-- as the document does it: where the first one stands that is not below -/
def notBelow (x : Int) (s : SeT) : Bool := decide (¬ s.ses < x)
theorem ref_none (n : SeT) : ∀ {l : List SeT}, (∀ h : firstI (notBelow n.ses) l < l.length, l[firstI (notBelow n.ses) l].ses ≠ n.ses) → l.take (firstI (notBelow n.ses) l) ++ n :: l.drop (firstI (notBelow n.ses) l) = turnL n l ∧ turnB n l = true
  | [], _ => ⟨rfl, rfl⟩
  | s :: r, h => by
    by_cases hlt : s.ses < n.ses
    · have e : firstI (notBelow n.ses) (s :: r) = firstI (notBelow n.ses) r + 1 := by rw [firstI, if_neg (by simp [notBelow]; omega)]
      obtain ⟨i1, i2⟩ := ref_none n (l := r) (fun h2 => by
        have := h (by rw [e]; simpa using h2)
        simp only [e] at this
        exact this)
      rw [e]
      unfold turnL turnB
      rw [if_pos hlt, if_pos hlt]
      exact ⟨by simp [i1], i2⟩
    · have e : firstI (notBelow n.ses) (s :: r) = 0 := by rw [firstI, if_pos (by simp [notBelow]; omega)]
      have hs : s.ses ≠ n.ses := by
        have := h (by rw [e]; simp)
        simp only [e] at this
        exact this
      rw [e]
      unfold turnL turnB
      rw [if_neg hlt, if_neg hs, if_neg hlt, if_neg hs]
      exact ⟨rfl, rfl⟩
theorem ref_own (n : SeT) : ∀ {l : List SeT} (h : firstI (notBelow n.ses) l < l.length), l[firstI (notBelow n.ses) l].ses = n.ses →
    turnB n l = decide (l[firstI (notBelow n.ses) l].seq < n.seq) ∧ turnL n l = if l[firstI (notBelow n.ses) l].seq < n.seq then l.set (firstI (notBelow n.ses) l) n else l
  | [], h, _ => by simp at h
  | s :: r, h, he => by
    by_cases hlt : s.ses < n.ses
    · have e : firstI (notBelow n.ses) (s :: r) = firstI (notBelow n.ses) r + 1 := by rw [firstI, if_neg (by simp [notBelow]; omega)]
      have h2 : firstI (notBelow n.ses) r < r.length := by rw [e] at h; simpa using h
      simp only [e] at he
      obtain ⟨i1, i2⟩ := ref_own n h2 (by simpa using he)
      simp only [e]
      unfold turnL turnB
      rw [if_pos hlt, if_pos hlt, i1, i2]
      refine ⟨rfl, ?_⟩
      simp only [List.getElem_cons_succ, List.set_cons_succ]
      split <;> rfl
    · have e : firstI (notBelow n.ses) (s :: r) = 0 := by rw [firstI, if_pos (by simp [notBelow]; omega)]
      simp only [e] at he ⊢
      have hs : s.ses = n.ses := by simpa using he
      unfold turnL turnB
      rw [if_neg hlt, if_pos hs, if_neg hlt, if_pos hs]
      exact ⟨rfl, by simp⟩

theorem turnL_mem (n : SeT) : ∀ (l : List SeT) {x : SeT}, x ∈ turnL n l → x = n ∨ x ∈ l
  | [], x, h => by simpa [turnL] using h
  | s :: r, x, h => by
    unfold turnL at h
    split at h
    · rcases List.mem_cons.1 h with h | h
      · exact .inr (by simp [h])
      · rcases turnL_mem n r h with h | h
        · exact .inl h
        · exact .inr (by simp [h])
    · split at h
      · split at h
        · rcases List.mem_cons.1 h with h | h
          · exact .inl h
          · exact .inr (by simp [h])
        · exact .inr h
      · rcases List.mem_cons.1 h with h | h
        · exact .inl h
        · exact .inr h
theorem turn_rise (n : SeT) : ∀ {l : List SeT}, Rise l → Rise (turnL n l)
  | [], _ => by simp [turnL, Rise]
  | s :: r, h => by
    obtain ⟨h1, h2⟩ := List.pairwise_cons.1 h
    unfold turnL
    split
    · rename_i hlt
      refine List.pairwise_cons.2 ⟨fun x hx => ?_, turn_rise n h2⟩
      rcases turnL_mem n r hx with rfl | hx
      · exact hlt
      · exact h1 x hx
    · split
      · rename_i he
        split
        · exact List.pairwise_cons.2 ⟨fun x hx => by have := h1 x hx; omega, h2⟩
        · exact h
      · rename_i h3 h4
        refine List.pairwise_cons.2 ⟨fun x hx => ?_, h⟩
        rcases List.mem_cons.1 hx with rfl | hx
        · omega
        · have := h1 x hx; omega
theorem turn_len (n : SeT) : ∀ l : List SeT, (turnL n l).length ≤ l.length + 1
  | [] => by simp [turnL]
  | s :: r => by
    have := turn_len n r
    unfold turnL
    split
    · simpa using this
    · split
      · split <;> simp
      · simp
/-- all others stay -/
theorem find_other (n : SeT) {y : Int} (hy : y ≠ n.ses) : ∀ l : List SeT, findS y (turnL n l) = findS y l
  | [] => by simp [turnL, findS]; intro h; exact absurd h.symm hy
  | s :: r => by
    unfold turnL
    split
    · simp only [findS, find_other n hy r]
    · split
      · rename_i he
        split
        · simp only [findS]
          rw [if_neg (fun e => hy e.symm), if_neg (fun e => hy (by omega))]
        · rfl
      · rw [findS, if_neg (fun e => hy e.symm)]
/-- whose turn it is has it -/
theorem find_own (n : SeT) : ∀ l : List SeT, findS n.ses (turnL n l) = (if turnB n l then n else findS n.ses l) ∧ hasS n.ses (turnL n l) = true
  | [] => by simp [turnL, turnB, findS, hasS]
  | s :: r => by
    unfold turnL turnB
    by_cases h1 : s.ses < n.ses
    · rw [if_pos h1, if_pos h1]
      have hne : ¬ s.ses = n.ses := by omega
      simp only [findS, hasS, if_neg hne]
      exact find_own n r
    · rw [if_neg h1, if_neg h1]
      by_cases h2 : s.ses = n.ses
      · rw [if_pos h2, if_pos h2]
        by_cases h3 : s.seq < n.seq
        · simp [h3, findS, hasS]
        · simp [h3, findS, hasS, h2]
      · rw [if_neg h2, if_neg h2]
        simp [findS, hasS]
/-- of two turns of one session the later one's number is greater -/
theorem turn_bigger (n : SeT) (hn : 0 < n.seq) : ∀ {l : List SeT}, Rise l → turnB n l = decide ((findS n.ses l).seq < n.seq)
  | [], _ => by simp [turnB, findS, noSe, hn]
  | s :: r, h => by
    obtain ⟨h1, h2⟩ := List.pairwise_cons.1 h
    unfold turnB findS
    by_cases hlt : s.ses < n.ses
    · rw [if_pos hlt, if_neg (by omega)]
      exact turn_bigger n hn h2
    · rw [if_neg hlt]
      by_cases he : s.ses = n.ses
      · rw [if_pos he, if_pos he]
      · rw [if_neg he, if_neg he]
        have : ∀ {l : List SeT}, (∀ x ∈ l, s.ses < x.ses) → findS n.ses l = noSe := fun {l} hl => by
          induction l with
          | nil => rfl
          | cons a t ih =>
            have := hl a (by simp)
            rw [findS, if_neg (by omega)]
            exact ih (fun x hx => hl x (by simp [hx]))
        rw [this h1]
        simp [noSe, hn]

/-! Rows of three cells. -/
theorem ins_set {α : Type} {a b c : α} : ∀ {rs : List (List α)}, (∀ r ∈ rs, r.length = 3) → ∀ {j : Nat}, j < rs.length → ((rs.flatten.set (j * 3) a).set (j * 3 + 1) b).set (j * 3 + 2) c = (rs.set j [a, b, c]).flatten
  | [], _, j, h => by simp at h
  | r :: rs, hr, j, h => by
    have h3 := hr r (by simp)
    match r, h3 with
    | [x, y, z], _ =>
      rcases j with _ | j
      · simp
      · have ih := ins_set (a := a) (b := b) (c := c) (rs := rs) (fun r h => hr r (by simp [h])) (j := j) (by simpa using h)
        simp only [List.set_cons_succ, List.flatten_cons, ← ih]
        rw [show (j + 1) * 3 = j * 3 + 1 + 1 + 1 by omega]
        simp

end Go.Proofs.Ytgocapmclhimdaa.SeMath
