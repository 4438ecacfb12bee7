/-
  Heaps of numbers as lists; how far a majority is. No program.
-/
import Derived.Test.YthpaoeiackbdoaaBaseW
namespace Go.Proofs.Ythpaoeiackbdoaa.BalMath
open Go

/-- the number at a place -/
def at_ (l : List Int) (i : Nat) : Int := l.getD i 0
theorem at_of {l : List Int} {i : Nat} (h : i < l.length) : at_ l i = l[i] := by simp [at_, h]

def swapI (l : List Int) (i j : Nat) : List Int := (l.set i (at_ l j)).set j (at_ l i)
theorem swapI_len (l : List Int) (i j : Nat) : (swapI l i j).length = l.length := by simp [swapI]
theorem swapI_l {l : List Int} {i j : Nat} (hi : i < l.length) : at_ (swapI l i j) i = at_ l j := by
  unfold swapI at_
  by_cases h : i = j
  · subst h; simp [hi]
  · simp [hi, Ne.symm h]
theorem swapI_r {l : List Int} {i j : Nat} (hj : j < l.length) : at_ (swapI l i j) j = at_ l i := by
  unfold swapI at_
  simp [hj]
theorem swapI_o {l : List Int} {i j k : Nat} (h1 : k ≠ i) (h2 : k ≠ j) : at_ (swapI l i j) k = at_ l k := by
  unfold swapI at_
  simp [Ne.symm h1, Ne.symm h2]

/-- as many of each kind -/
def cnt (p : Int → Bool) (l : List Int) : Nat := l.countP p
def one (p : Int → Bool) (x : Int) : Nat := if p x then 1 else 0
theorem cnt_set {l : List Int} {i : Nat} (p : Int → Bool) (x : Int) (h : i < l.length) : cnt p (l.set i x) + one p (at_ l i) = cnt p l + one p x := by
  induction l generalizing i with
  | nil => simp at h
  | cons a l ih =>
    cases i with
    | zero =>
      simp only [List.set_cons_zero, cnt, List.countP_cons, at_, List.getD_cons_zero, one]
      omega
    | succ i =>
      have := ih (i := i) (by simpa using h)
      simp only [List.set_cons_succ, cnt, List.countP_cons, at_, List.getD_cons_succ] at *
      omega
theorem cnt_swap {l : List Int} {i j : Nat} (p : Int → Bool) (hi : i < l.length) (hj : j < l.length) : cnt p (swapI l i j) = cnt p l := by
  have h1 := cnt_set p (at_ l j) hi
  have h2 := cnt_set (l := l.set i (at_ l j)) (i := j) p (at_ l i) (by simpa using hj)
  have h3 : at_ (l.set i (at_ l j)) j = at_ l j := by
    by_cases h : i = j
    · subst h; simp [at_, hi]
    · simp [at_, h]
  rw [h3] at h2
  unfold swapI
  omega
theorem cnt_app (p : Int → Bool) (l r : List Int) : cnt p (l ++ r) = cnt p l + cnt p r := by simp [cnt]
theorem cnt_mem {l : List Int} {x : Int} : x ∈ l ↔ 0 < cnt (fun y => decide (y = x)) l := by
  unfold cnt
  rw [List.countP_pos_iff]
  constructor
  · intro h; exact ⟨x, h, by simp⟩
  · rintro ⟨a, h, he⟩
    simp at he
    exact he ▸ h

/-- the first n are a heap -/
def Heap (n : Nat) (l : List Int) : Prop := ∀ k, 0 < k → k < n → at_ l ((k - 1) / 2) ≤ at_ l k
theorem Heap.least {n : Nat} {l : List Int} (h : Heap n l) : ∀ k, k < n → at_ l 0 ≤ at_ l k := by
  intro k
  induction k using Nat.strongRecOn with
  | ind k ih =>
    intro hk
    rcases Nat.eq_zero_or_pos k with rfl | h0
    · exact Int.le_refl _
    · exact Int.le_trans (ih ((k - 1) / 2) (by omega) (by omega)) (h k h0 hk)

/-- but for j, which may be too low -/
structure Up (l : List Int) (j : Nat) : Prop where
  rest : ∀ k, 0 < k → k < l.length → k ≠ j → at_ l ((k - 1) / 2) ≤ at_ l k
  over : 0 < j → ∀ k, 0 < k → k < l.length → (k - 1) / 2 = j → at_ l ((j - 1) / 2) ≤ at_ l k
theorem Up.done {l : List Int} {j : Nat} (h : Up l j) (hd : j = 0 ∨ at_ l ((j - 1) / 2) ≤ at_ l j) : Heap l.length l := fun k hk hkl => by
  by_cases e : k = j
  · subst e
    rcases hd with hd | hd
    · omega
    · exact hd
  · exact h.rest k hk hkl e
theorem Up.start {l : List Int} (h : Heap l.length l) (x : Int) : Up (l ++ [x]) l.length := by
  have hat : ∀ k, k < l.length → at_ (l ++ [x]) k = at_ l k := fun k hk => by simp [at_, List.getElem?_append_left hk]
  refine ⟨fun k hk hkl hne => ?_, fun _ k hk hkl e => ?_⟩
  · simp at hkl
    have hkl' : k < l.length := by omega
    rw [hat k hkl', hat _ (by omega)]
    exact h k hk hkl'
  · simp at hkl
    omega
theorem Up.step {l : List Int} {i j : Nat} (h : Up l j) (hj : j < l.length) (h0 : 0 < j) (hi : i = (j - 1) / 2) (hlt : at_ l j < at_ l i) : Up (swapI l i j) i := by
  have hil : i < l.length := by omega
  have hij : i ≠ j := by omega
  have hL := swapI_l (j := j) hil
  have hR := swapI_r (i := i) hj
  have hO : ∀ k, k ≠ i → k ≠ j → at_ (swapI l i j) k = at_ l k := fun k a b => swapI_o a b
  refine ⟨fun k hk hkl hne => ?_, fun h0i k hk hkl e => ?_⟩
  · rw [swapI_len] at hkl
    by_cases hkj : k = j
    · subst hkj
      rw [← hi, hL, hR]
      omega
    · rw [hO k hne hkj]
      have hr := h.rest k hk hkl hkj
      by_cases hp : (k - 1) / 2 = i
      · rw [hp] at hr ⊢
        rw [hL]
        omega
      · by_cases hp2 : (k - 1) / 2 = j
        · rw [hp2, hR]
          have := h.over h0 k hk hkl hp2
          rw [← hi] at this
          exact this
        · rw [hO _ hp hp2]
          exact hr
  · rw [swapI_len] at hkl
    have hq : at_ l ((i - 1) / 2) ≤ at_ l i := h.rest i h0i hil hij
    rw [hO ((i - 1) / 2) (by omega) (by omega)]
    by_cases hkj : k = j
    · subst hkj; rw [hR]; exact hq
    · rw [hO k (by omega) hkj]
      have := h.rest k hk hkl hkj
      rw [e] at this
      omega

/-- but for i, which may be too high -/
structure Down (n : Nat) (l : List Int) (i : Nat) : Prop where
  rest : ∀ k, 0 < k → k < n → (k - 1) / 2 ≠ i → at_ l ((k - 1) / 2) ≤ at_ l k
  over : 0 < i → ∀ k, 0 < k → k < n → (k - 1) / 2 = i → at_ l ((i - 1) / 2) ≤ at_ l k
theorem Down.none_ {n : Nat} {l : List Int} {i : Nat} (h : Down n l i) (hi : n ≤ 2 * i + 1) : Heap n l := fun k hk hkn => h.rest k hk hkn (by omega)
theorem Down.done {n : Nat} {l : List Int} {i : Nat} (h : Down n l i) (hd : ∀ k, 0 < k → k < n → (k - 1) / 2 = i → at_ l i ≤ at_ l k) : Heap n l := fun k hk hkn => by
  by_cases e : (k - 1) / 2 = i
  · rw [e]; exact hd k hk hkn e
  · exact h.rest k hk hkn e
theorem Down.start {l : List Int} {k : Nat} (h : Heap l.length l) (hk : l.length = k + 1) : Down k (swapI l 0 k) 0 := by
  refine ⟨fun j hj hjk hne => ?_, fun h0 => by omega⟩
  rw [swapI_o (by omega) (by omega), swapI_o (by omega) (by omega)]
  exact h j hj (by omega)
theorem Down.step {n : Nat} {l : List Int} {i j : Nat} (h : Down n l i) (hn : n ≤ l.length) (hjn : j < n) (hj0 : 0 < j) (hj : (j - 1) / 2 = i) (hmin : ∀ k, 0 < k → k < n → (k - 1) / 2 = i → at_ l j ≤ at_ l k) (hlt : at_ l j < at_ l i) : Down n (swapI l i j) j := by
  have hil : i < l.length := by omega
  have hjl : j < l.length := by omega
  have hij : i ≠ j := by omega
  have hL := swapI_l (j := j) hil
  have hR := swapI_r (i := i) hjl
  have hO : ∀ k, k ≠ i → k ≠ j → at_ (swapI l i j) k = at_ l k := fun k a b => swapI_o a b
  refine ⟨fun k hk hkn hne => ?_, fun _ k hk hkn e => ?_⟩
  · by_cases hp : (k - 1) / 2 = i
    · rw [hp, hL]
      by_cases hkj : k = j
      · subst hkj; rw [hR]; omega
      · rw [hO k (by omega) hkj]
        exact hmin k hk hkn hp
    · rw [hO _ hp hne]
      by_cases hki : k = i
      · subst hki
        rw [hL]
        exact h.over hk j hj0 hjn hj
      · have hkj : k ≠ j := fun e => hp (by rw [e]; exact hj)
        rw [hO k hki hkj]
        exact h.rest k hk hkn hp
  · rw [hj, hL, hO k (by omega) (by omega)]
    have := h.rest k hk hkn (by omega)
    rw [e] at this
    exact this
theorem Heap.front {n : Nat} {l : List Int} (h : Heap n l) : Heap n (l.take n) := fun k hk hkn => by
  have hat : ∀ j, j < n → at_ (l.take n) j = at_ l j := fun j hj => by simp [at_, hj]
  rw [hat _ (by omega), hat k hkn]
  exact h k hk hkn
theorem cnt_front {l : List Int} {k : Nat} (p : Int → Bool) (hk : l.length = k + 1) : cnt p l = cnt p (l.take k) + one p (at_ l k) := by
  have h : l = l.take k ++ [at_ l k] := by
    have h1 := List.take_append_drop k l
    rw [List.drop_eq_getElem_cons (by omega), List.drop_of_length_le (by omega)] at h1
    rw [at_of (by omega)]
    exact h1.symm
  rw [h, cnt_app]
  have h1 : (l.take k ++ [at_ l k]).take k = l.take k := by rw [List.take_append_of_le_length (by simp; omega), List.take_take, Nat.min_self]
  have h2 : at_ (l.take k ++ [at_ l k]) k = at_ l k := by rw [← h]
  rw [h1, h2]
  simp [cnt, one, List.countP_cons]
theorem cnt_push (p : Int → Bool) (l : List Int) (x : Int) : cnt p (l ++ [x]) = cnt p l + one p x := by
  rw [cnt_app]; simp [cnt, one, List.countP_cons]
theorem cnt_cons (p : Int → Bool) (l : List Int) (x : Int) : cnt p (x :: l) = cnt p l + one p x := by
  simp [cnt, one, List.countP_cons]

/-- the greatest m of some, and the others -/
structure Sel (pre l : List Int) (m : Nat) : Prop where
  heap : Heap l.length l
  len : l.length = min pre.length m
  out : ∃ D : List Int, (∀ p, cnt p pre = cnt p l + cnt p D) ∧ ∀ d ∈ D, ∀ h ∈ l, d ≤ h
theorem Sel.nil (m : Nat) : Sel [] [] m := ⟨fun k _ h => by simp at h, by simp, [], fun p => rfl, fun d h => by simp at h⟩
theorem len_cnt (l : List Int) : l.length = cnt (fun _ => true) l := by simp [cnt]
/-- one more, and there is room -/
theorem Sel.push {pre l l' : List Int} {m : Nat} {x : Int} (h : Sel pre l m) (hh : Heap l'.length l') (hc : ∀ p, cnt p l' = cnt p l + one p x) (hm : l'.length ≤ m) : Sel (pre ++ [x]) l' m := by
  have hl : l'.length = l.length + 1 := by rw [len_cnt, hc, ← len_cnt]; simp [one]
  have hlen := h.len
  refine ⟨hh, by simp; omega, ?_⟩
  obtain ⟨D, h1, h2⟩ := h.out
  have hD : D = [] := by
    have := h1 (fun _ => true)
    rw [← len_cnt, ← len_cnt, ← len_cnt] at this
    exact List.eq_nil_of_length_eq_zero (by omega)
  subst hD
  exact ⟨[], fun p => by rw [cnt_push, h1, hc]; simp [cnt], fun d hd => by simp at hd⟩
/-- one more, and the least is left out -/
theorem Sel.pop {pre l l' l2 : List Int} {m : Nat} {x : Int} (h : Sel pre l m) (hh : Heap l'.length l') (hc : ∀ p, cnt p l' = cnt p l + one p x) (hm : m < l'.length) (hh2 : Heap l2.length l2) (hc2 : ∀ p, cnt p l' = cnt p l2 + one p (at_ l' 0)) : Sel (pre ++ [x]) l2 m := by
  have hl : l'.length = l.length + 1 := by rw [len_cnt, hc, ← len_cnt]; simp [one]
  have hl2 : l'.length = l2.length + 1 := by rw [len_cnt, hc2, ← len_cnt]; simp [one]
  have hlen := h.len
  refine ⟨hh2, by simp; omega, ?_⟩
  obtain ⟨D, h1, h2⟩ := h.out
  refine ⟨at_ l' 0 :: D, fun p => by rw [cnt_push, cnt_cons, h1]; have := hc p; have := hc2 p; omega, fun d hd z hz => ?_⟩
  have hin : ∀ z ∈ l2, z ∈ l' := fun z hz => by
    rw [cnt_mem] at hz ⊢
    have := hc2 (fun y => decide (y = z))
    omega
  have hle : ∀ z ∈ l', at_ l' 0 ≤ z := fun z hz => by
    obtain ⟨k, hk, rfl⟩ := List.getElem_of_mem hz
    rw [← at_of hk]
    exact hh.least k hk
  rcases List.mem_cons.1 hd with rfl | hd
  · exact hle z (hin z hz)
  · rcases Int.lt_or_le z d with hzd | hzd
    · exfalso
      have hzl : ¬ z ∈ l := fun e => by have := h2 d hd z e; omega
      have hmz : ¬ at_ l' 0 ∈ l := fun e => by have := h2 d hd _ e; have := hle z (hin z hz); omega
      have c1 : cnt (fun y => decide (y = z)) l = 0 := by
        have := mt (cnt_mem (l := l) (x := z)).2 hzl
        omega
      have e1 := hc (fun y => decide (y = z))
      have e2 := hc2 (fun y => decide (y = z))
      have c3 := (cnt_mem (l := l2) (x := z)).1 hz
      have c4 : cnt (fun y => decide (y = at_ l' 0)) l = 0 := by
        have := mt (cnt_mem (l := l) (x := at_ l' 0)).2 hmz
        omega
      have e3 := hc (fun y => decide (y = at_ l' 0))
      have e4 := hc2 (fun y => decide (y = at_ l' 0))
      have c5 : one (fun y => decide (y = at_ l' 0)) (at_ l' 0) = 1 := by simp [one]
      have hx1 : at_ l' 0 = x := by
        rcases Decidable.em (x = at_ l' 0) with e | e
        · exact e.symm
        · have : one (fun y => decide (y = at_ l' 0)) x = 0 := by simp [one, e]
          omega
      have hx2 : x = z := by
        rcases Decidable.em (x = z) with e | e
        · exact e
        · have : one (fun y => decide (y = z)) x = 0 := by simp [one, e]
          omega
      have c6 : one (fun y => decide (y = z)) (at_ l' 0) = 1 := by simp [one, hx1, hx2]
      have c7 : one (fun y => decide (y = z)) x = 1 := by simp [one, hx2]
      omega
    · exact hzd

/-- half of n, and one -/
def majN (n : Nat) : Nat := n / 2 + 1
/-- how many are so far -/
def geN (l : List Int) (x : Int) : Nat := cnt (fun y => decide (x ≤ y)) l
def gtN (l : List Int) (x : Int) : Nat := cnt (fun y => decide (x < y)) l
/-- the greatest that a majority has -/
def mostL (l : List Int) : Int := (l.filter (fun x => decide (majN l.length ≤ geN l x))).foldl max 0
theorem foldl_max_le {l : List Int} {a b : Int} (ha : a ≤ b) (h : ∀ x ∈ l, x ≤ b) : l.foldl max a ≤ b := by
  induction l generalizing a with
  | nil => exact ha
  | cons x l ih =>
    rw [List.foldl_cons]
    exact ih (by have := h x (by simp); omega) (fun y hy => h y (by simp [hy]))
theorem le_foldl_max {l : List Int} {a : Int} : a ≤ l.foldl max a := by
  induction l generalizing a with
  | nil => exact Int.le_refl _
  | cons x l ih => rw [List.foldl_cons]; exact Int.le_trans (by omega) (ih (a := max a x))
theorem mem_foldl_max {l : List Int} {a x : Int} (h : x ∈ l) : x ≤ l.foldl max a := by
  induction l generalizing a with
  | nil => simp at h
  | cons y l ih =>
    rw [List.foldl_cons]
    rcases List.mem_cons.1 h with rfl | h
    · exact Int.le_trans (by omega) (le_foldl_max (a := max a x))
    · exact ih h
theorem geN_gtN {l : List Int} {x y : Int} (h : x < y) : geN l y ≤ gtN l x := by
  unfold geN gtN cnt
  exact List.countP_mono_left (fun z _ hz => by simp at hz ⊢; omega)
theorem mostL_of {l : List Int} {x : Int} (hx : x ∈ l) (h0 : 0 ≤ x) (h1 : majN l.length ≤ geN l x) (h2 : gtN l x < majN l.length) : mostL l = x := by
  refine Int.le_antisymm (foldl_max_le h0 fun y hy => ?_) (mem_foldl_max (by simp [List.mem_filter, hx, h1]))
  rw [List.mem_filter] at hy
  have hy2 : majN l.length ≤ geN l y := by simpa using hy.2
  rcases Int.lt_or_le x y with h | h
  · have := geN_gtN (l := l) h
    omega
  · exact h
theorem mostL_nil : mostL [] = 0 := rfl
/-- the least of the greatest -/
theorem Sel.most {l h : List Int} (hs : Sel l h (majN l.length)) (hl : 0 < l.length) (h0 : ∀ x ∈ l, 0 ≤ x) : mostL l = at_ h 0 ∧ 0 < h.length ∧ at_ h 0 ∈ l ∧ majN l.length ≤ geN l (at_ h 0) ∧ gtN l (at_ h 0) < majN l.length := by
  have hlen : h.length = majN l.length := by have := hs.len; unfold majN at *; omega
  have hpos : 0 < h.length := by rw [hlen]; unfold majN; omega
  obtain ⟨D, h1, h2⟩ := hs.out
  have hm : at_ h 0 ∈ h := by rw [at_of hpos]; exact List.getElem_mem _
  have hml : at_ h 0 ∈ l := by
    rw [cnt_mem] at hm ⊢
    have := h1 (fun y => decide (y = at_ h 0))
    omega
  have hge : geN h (at_ h 0) = h.length := by
    unfold geN cnt
    rw [List.countP_eq_length]
    intro z hz
    obtain ⟨k, hk, rfl⟩ := List.getElem_of_mem hz
    rw [← at_of hk]
    simpa using hs.heap.least k hk
  have a1 : majN l.length ≤ geN l (at_ h 0) := by
    have := h1 (fun y => decide (at_ h 0 ≤ y))
    unfold geN at *
    omega
  have hgt : gtN h (at_ h 0) < h.length := by
    have hle : gtN h (at_ h 0) ≤ h.length := List.countP_le_length
    rcases Nat.lt_or_ge (gtN h (at_ h 0)) h.length with h3 | h3
    · exact h3
    · exfalso
      have h4 : cnt (fun y => decide (at_ h 0 < y)) h = h.length := by unfold gtN at *; omega
      unfold cnt at h4
      rw [List.countP_eq_length] at h4
      have := h4 _ hm
      simp at this
  have hD : cnt (fun y => decide (at_ h 0 < y)) D = 0 := by
    unfold cnt
    rw [List.countP_eq_zero]
    intro d hd
    have := h2 d hd _ hm
    simp; omega
  have a2 : gtN l (at_ h 0) < majN l.length := by
    have := h1 (fun y => decide (at_ h 0 < y))
    unfold gtN at *
    omega
  exact ⟨mostL_of hml (h0 _ hml) a1 a2, hpos, hml, a1, a2⟩

/-- what Most tells -/
def MostP (l : List Int) (x : Int) : Prop := x = mostL l ∧ (0 < l.length → x ∈ l ∧ majN l.length ≤ geN l x ∧ gtN l x < majN l.length)
/-- it rises as they do -/
theorem most_rises {l r : List Int} {x y : Int} (hlen : l.length = r.length) (hge : ∀ z, geN l z ≤ geN r z) (hx : majN l.length ≤ geN l x) (hy : gtN r y < majN r.length) : x ≤ y := by
  rcases Int.lt_or_le y x with h | h
  · have h1 := geN_gtN (l := r) h
    have h2 := hge x
    rw [hlen] at hx
    omega
  · exact h
/-- how many votes are yes -/
def manyL (l : List Bool) : Nat := l.countP id

end Go.Proofs.Ythpaoeiackbdoaa.BalMath
