/-
  Batches. No program.
-/
import Derived.Test.YtncdmecppfmmgaaProg
namespace Go.Proofs.Ytncdmecppfmmgaa.EpMath

/-- the numbers from b on that are below e -/
def risL (b e : Nat) : List Int := (List.range (e - b)).map fun i => ((b + i : Nat) : Int)
theorem risL_len (b e : Nat) : (risL b e).length = e - b := by simp [risL]
theorem risL_at {b e i : Nat} (h : i < (risL b e).length) : (risL b e)[i] = ((b + i : Nat) : Int) := by simp [risL]
theorem risL_nil {b e : Nat} (h : e ≤ b) : risL b e = [] := by
  have : e - b = 0 := by omega
  simp [risL, this]
theorem risL_more {b e : Nat} (h : b ≤ e) : risL b (e + 1) = risL b e ++ [(e : Int)] := by
  have h1 : e + 1 - b = (e - b) + 1 := by omega
  have h2 : b + (e - b) = e := by omega
  simp [risL, h1, List.range_succ]
  omega
theorem risL_shift (b e c : Nat) : risL (c + b) (c + e) = (risL b e).map fun x => x + (c : Int) := by
  have h : c + e - (c + b) = e - b := by omega
  unfold risL
  rw [h, List.map_map]
  refine List.map_congr_left fun i _ => ?_
  simp only [Function.comp]
  omega

/-- behind k entries: the batches that are shut, and where the next one begins -/
def cloL (l : List Bool) : Nat → List (List Int) × Nat
  | 0 => ([], 1)
  | k + 1 => if l.getD k false = true then ((cloL l k).1 ++ [risL (cloL l k).2 (k + 1)], k + 2) else cloL l k
theorem clo_yes {l : List Bool} {k : Nat} (h : l.getD k false = true) : cloL l (k + 1) = ((cloL l k).1 ++ [risL (cloL l k).2 (k + 1)], k + 2) := by rw [cloL, if_pos h]
theorem clo_no {l : List Bool} {k : Nat} (h : l.getD k false = false) : cloL l (k + 1) = cloL l k := by rw [cloL, if_neg (by rw [h]; decide)]
theorem clo_begin (l : List Bool) : ∀ k, 1 ≤ (cloL l k).2 ∧ (cloL l k).2 ≤ k + 1
  | 0 => ⟨Nat.le_refl _, Nat.le_refl _⟩
  | k + 1 => by
    have := clo_begin l k
    cases h : l.getD k false
    · rw [clo_no h]; omega
    · rw [clo_yes h]; exact ⟨by omega, by omega⟩
theorem clo_len (l : List Bool) : ∀ k, (cloL l k).1.length ≤ k
  | 0 => Nat.le_refl _
  | k + 1 => by
    have := clo_len l k
    cases h : l.getD k false
    · rw [clo_no h]; omega
    · rw [clo_yes h]; simp; omega
theorem clo_congr {l m : List Bool} : ∀ k, (∀ j, j < k → l.getD j false = m.getD j false) → cloL l k = cloL m k
  | 0, _ => rfl
  | k + 1, h => by
    have h1 := h k (by omega)
    have h2 := clo_congr k (fun j hj => h j (by omega))
    cases e : l.getD k false
    · rw [clo_no e, clo_no (h1 ▸ e), h2]
    · rw [clo_yes e, clo_yes (h1 ▸ e), h2]

/-- the batches -/
def cutL (l : List Bool) : List (List Int) := (cloL l l.length).1 ++ [risL (cloL l l.length).2 (l.length + 1)]
theorem cut_len (l : List Bool) : (cutL l).length = (cloL l l.length).1.length + 1 := by simp [cutL]
theorem cut_bnd (l : List Bool) : (cutL l).length ≤ l.length + 1 := by have := clo_len l l.length; rw [cut_len]; omega
theorem clo_row (l : List Bool) : ∀ k, ∀ r ∈ (cloL l k).1, r.length ≤ k
  | 0, r, h => by simp [cloL] at h
  | k + 1, r, h => by
    cases e : l.getD k false
    · rw [clo_no e] at h
      have := clo_row l k r h
      omega
    · rw [clo_yes e] at h
      rcases List.mem_append.1 h with h | h
      · have := clo_row l k r h
        omega
      · rw [List.mem_singleton] at h
        subst h
        rw [risL_len]
        omega
theorem cut_row (l : List Bool) : ∀ r ∈ cutL l, r.length ≤ l.length + 1 := fun r h => by
  rcases List.mem_append.1 h with h | h
  · have := clo_row l _ r h
    omega
  · rw [List.mem_singleton] at h
    subst h
    rw [risL_len]
    omega

/-- a log that goes on: the shut batches stand -/
theorem clo_grows (l : List Bool) (m : Nat) : ∀ d, ∃ rest, (cloL l (m + d)).1 = (cloL l m).1 ++ rest ∧
    (rest = [] ∧ (cloL l (m + d)).2 = (cloL l m).2 ∨ ∃ e r, rest = risL (cloL l m).2 e :: r ∧ m + 1 ≤ e)
  | 0 => ⟨[], by simp, .inl ⟨rfl, rfl⟩⟩
  | d + 1 => by
    obtain ⟨rest, h1, h2⟩ := clo_grows l m d
    rw [← Nat.add_assoc]
    cases e : l.getD (m + d) false
    · rw [clo_no e]
      exact ⟨rest, h1, h2⟩
    · rw [clo_yes e]
      refine ⟨rest ++ [risL (cloL l (m + d)).2 (m + d + 1)], by simp [h1], .inr ?_⟩
      rcases h2 with ⟨rfl, hb⟩ | ⟨e', r, rfl, hr⟩
      · exact ⟨m + d + 1, [], by rw [hb]; rfl, by omega⟩
      · exact ⟨e', r ++ [risL (cloL l (m + d)).2 (m + d + 1)], by simp, hr⟩
theorem cut_take (l : List Bool) (m : Nat) (hm : m ≤ l.length) : cutL (l.take m) = (cloL l m).1 ++ [risL (cloL l m).2 (m + 1)] := by
  have hl : (l.take m).length = m := by simp; omega
  have h : cloL (l.take m) m = cloL l m := clo_congr m fun j hj => by simp [hj]
  unfold cutL
  rw [hl, h]
/-- .. and the last one goes on -/
theorem cut_grows (l : List Bool) (m : Nat) (hm : m ≤ l.length) : ∃ e r, cutL l = (cloL l m).1 ++ risL (cloL l m).2 e :: r ∧ m + 1 ≤ e := by
  obtain ⟨rest, h1, h2⟩ := clo_grows l m (l.length - m)
  rw [show m + (l.length - m) = l.length by omega] at h1 h2
  unfold cutL
  rw [h1]
  rcases h2 with ⟨rfl, hb⟩ | ⟨e, r, rfl, hr⟩
  · exact ⟨l.length + 1, [], by rw [hb]; simp, by omega⟩
  · exact ⟨e, r ++ [risL (cloL l l.length).2 (l.length + 1)], by simp, hr⟩

/-- the two, batch by batch -/
theorem cut_pre (l : List Bool) (m : Nat) (hm : m ≤ l.length) : (cutL (l.take m)).length ≤ (cutL l).length ∧ ∀ (i : Nat) (h : i < (cutL (l.take m)).length) (h2 : i < (cutL l).length), (i + 1 < (cutL (l.take m)).length → (cutL (l.take m))[i].length = (cutL l)[i].length) ∧
    (cutL (l.take m))[i].length ≤ (cutL l)[i].length ∧ ∀ (k : Nat) (h3 : k < (cutL (l.take m))[i].length) (h4 : k < (cutL l)[i].length), (cutL (l.take m))[i][k] = (cutL l)[i][k] := by
  have e1 := cut_take l m hm
  obtain ⟨e, r, e2, he⟩ := cut_grows l m hm
  have hb := clo_begin l m
  generalize cutL (l.take m) = P at *
  generalize cutL l = R at *
  subst e1 e2
  generalize (cloL l m).1 = C
  generalize (cloL l m).2 = b at hb ⊢
  refine ⟨by simp, fun i h h2 => ?_⟩
  by_cases hi : i < C.length
  · simp only [List.getElem_append_left hi]
    exact ⟨fun _ => trivial, Nat.le_refl _, fun k _ _ => trivial⟩
  · have : i = C.length := by simp at h; omega
    subst this
    simp only [List.getElem_append_right (Nat.le_refl _), Nat.sub_self, List.getElem_cons_zero]
    refine ⟨fun h => by simp at h, by rw [risL_len, risL_len]; omega, fun k h3 h4 => ?_⟩
    rw [risL_at, risL_at]

/-- behind a Seal the batches begin anew -/
theorem clo_joins (x y : List Bool) : ∀ k, k ≤ y.length → cloL (x ++ true :: y) (x.length + 1 + k) = (cutL x ++ (cloL y k).1.map (·.map fun n => n + ((x.length + 1 : Nat) : Int)), x.length + 1 + (cloL y k).2)
  | 0, _ => by
    have h0 : (x ++ true :: y).getD x.length false = true := by simp
    have h1 : cloL (x ++ true :: y) x.length = cloL x x.length := clo_congr _ fun j hj => by simp [List.getElem?_append, hj]
    rw [Nat.add_zero, clo_yes h0, h1]
    simp [cutL, cloL]
  | k + 1, hk => by
    have ih := clo_joins x y k (by omega)
    have hs : (x ++ true :: y).getD (x.length + 1 + k) false = y.getD k false := by
      simp only [List.getD_eq_getElem?_getD]
      rw [List.getElem?_append_right (by omega), show x.length + 1 + k - x.length = k + 1 by omega]
      rfl
    rw [← Nat.add_assoc]
    cases e : y.getD k false
    · rw [clo_no (hs.trans e), clo_no e, ih]
    · rw [clo_yes (hs.trans e), clo_yes e, ih]
      simp only [List.map_append, List.map_cons, List.map_nil, List.append_assoc]
      rw [show x.length + 1 + k + 1 = x.length + 1 + (k + 1) by omega, risL_shift]
      simp only [Prod.mk.injEq, true_and]
      omega
theorem cut_joins (x y : List Bool) : cutL (x ++ true :: y) = cutL x ++ (cutL y).map (·.map fun n => n + ((x.length + 1 : Nat) : Int)) := by
  have hl : (x ++ true :: y).length = x.length + 1 + y.length := by simp; omega
  have h := clo_joins x y y.length (Nat.le_refl _)
  conv => lhs; unfold cutL
  rw [hl, h]
  simp only [cutL, List.map_append, List.map_cons, List.map_nil, List.append_assoc]
  rw [show x.length + 1 + y.length + 1 = x.length + 1 + (y.length + 1) by omega, risL_shift]

/-- how many Seals -/
def sealN (l : List Bool) (k : Nat) : Nat := (cloL l k).1.length
theorem seal_yes {l : List Bool} {k : Nat} (h : l.getD k false = true) : sealN l (k + 1) = sealN l k + 1 := by unfold sealN; rw [clo_yes h]; simp
theorem seal_no {l : List Bool} {k : Nat} (h : l.getD k false = false) : sealN l (k + 1) = sealN l k := by unfold sealN; rw [clo_no h]
end Go.Proofs.Ytncdmecppfmmgaa.EpMath
