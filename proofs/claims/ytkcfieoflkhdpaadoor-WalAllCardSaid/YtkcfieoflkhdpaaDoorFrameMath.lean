/-
  The frames of layer 3, as lists of bytes: what Put, Take and All come to, and what follows. No program.
-/
import Derived.Test.YtkcfieoflkhdpaaDoorCrcMath
namespace Go.Proofs.YtkcfieoflkhdpaaDoor.FrameMath
open CrcMath

/-- how many bytes, in two, the highest first -/
def head (l : List UInt8) : List UInt8 := [UInt8.ofNat (l.length / 256), UInt8.ofNat (l.length % 256)]
/-- 32 bits in four bytes, the highest first -/
def be4 (s : BitVec 32) : List UInt8 := [byteAt s 3, byteAt s 2, byteAt s 1, byteAt s 0]
def enc (l : List UInt8) : List UInt8 := head l ++ be4 (sum (head l ++ l)) ++ l

theorem enc_length (l : List UInt8) : (enc l).length = l.length + 6 := by
  simp [enc, head, be4]

/-- how many the first two bytes say -/
def flen (b : List UInt8) : Nat := (b.getD 0 0).toNat * 256 + (b.getD 1 0).toNat
def ftext (b : List UInt8) : List UInt8 := (b.drop 6).take (flen b)
/-- is there a frame at the front? -/
def Is (b : List UInt8) : Prop := 6 ≤ b.length ∧ flen b ≤ 60000 ∧ flen b + 6 ≤ b.length ∧ b.take (flen b + 6) = enc (ftext b)
instance (b : List UInt8) : Decidable (Is b) := by unfold Is; infer_instance

theorem load_length {b : List UInt8} (h : flen b + 6 ≤ b.length) : (ftext b).length = flen b := by
  unfold ftext
  rw [List.length_take, List.length_drop]
  omega

theorem len_enc {l r : List UInt8} (h : l.length ≤ 60000) : flen (enc l ++ r) = l.length := by
  simp only [flen, enc, head]
  simp
  have e1 : (l.length / 256) % 256 = l.length / 256 := Nat.mod_eq_of_lt (by omega)
  rw [e1]
  omega
theorem drop_enc (l r : List UInt8) : (enc l ++ r).drop 6 = l ++ r := by
  unfold enc head be4
  rfl
theorem load_enc {l r : List UInt8} (h : l.length ≤ 60000) : ftext (enc l ++ r) = l := by
  unfold ftext
  rw [len_enc h, drop_enc, List.take_left']
  rfl
theorem is_enc {l r : List UInt8} (h : l.length ≤ 60000) : Is (enc l ++ r) := by
  have hl := enc_length l
  refine ⟨by rw [List.length_append]; omega, by rw [len_enc h]; exact h, by rw [len_enc h, List.length_append]; omega, ?_⟩
  rw [len_enc h, load_enc h, List.take_left' hl]
theorem is_split {b : List UInt8} (h : Is b) : b = enc (ftext b) ++ b.drop (flen b + 6) ∧ (ftext b).length ≤ 60000 := by
  obtain ⟨_, h2, h3, h4⟩ := h
  refine ⟨?_, by rw [load_length h3]; exact h2⟩
  rw [← h4, List.take_append_drop]

/-- the loads at the front, one behind the other -/
def all (b : List UInt8) : List (List UInt8) := if h : Is b then ftext b :: all (b.drop (flen b + 6)) else []
termination_by b.length
decreasing_by
  have := h.1
  rw [List.length_drop]
  omega
/-- how many bytes these are -/
def fspan (ls : List (List UInt8)) : Nat := (ls.map fun l => l.length + 6).sum
def rows (ls : List (List UInt8)) : List UInt8 := ls.flatMap enc

theorem all_is {b : List UInt8} (h : Is b) : all b = ftext b :: all (b.drop (flen b + 6)) := by rw [all, dif_pos h]
theorem all_not {b : List UInt8} (h : ¬ Is b) : all b = [] := by rw [all, dif_neg h]
theorem size_cons (l : List UInt8) (ls : List (List UInt8)) : fspan (l :: ls) = l.length + 6 + fspan ls := by simp [fspan]
theorem size_append (a b : List (List UInt8)) : fspan (a ++ b) = fspan a + fspan b := by simp [fspan]
theorem rows_cons (l : List UInt8) (ls : List (List UInt8)) : rows (l :: ls) = enc l ++ rows ls := by simp [rows]
theorem rows_length (ls : List (List UInt8)) : (rows ls).length = fspan ls := by
  induction ls with
  | nil => rfl
  | cons l ls ih => rw [rows_cons, List.length_append, enc_length, ih, size_cons]
theorem all_enc {l r : List UInt8} (h : l.length ≤ 60000) : all (enc l ++ r) = l :: all r := by
  rw [all_is (is_enc h), load_enc h, len_enc h, List.drop_left' (enc_length l)]
theorem all_rows {ls : List (List UInt8)} (r : List UInt8) (h : ∀ l ∈ ls, l.length ≤ 60000) : all (rows ls ++ r) = ls ++ all r := by
  induction ls with
  | nil => rfl
  | cons l ls ih =>
    rw [rows_cons, List.append_assoc, all_enc (h l (by simp)), ih fun x hx => h x (by simp [hx])]
    rfl
theorem is_not_nil : ¬ Is [] := fun h => absurd h.1 (by simp)
theorem all_nil : all [] = [] := all_not is_not_nil

theorem all_span (b : List UInt8) : fspan (all b) ≤ b.length := by
  induction b using all.induct with
  | case1 b h ih =>
    rw [all_is h, size_cons, load_length h.2.2.1]
    rw [List.length_drop] at ih
    have := h.2.2.1
    omega
  | case2 b h =>
    rw [all_not h]
    exact Nat.zero_le _
theorem many_span : ∀ ls : List (List UInt8), ls.length ≤ fspan ls
  | [] => Nat.le_refl _
  | x :: r => by
    have := many_span r
    rw [size_cons, List.length_cons]
    omega

/-- what is cut off is none -/
theorem not_is_cut {l : List UInt8} (h : l.length ≤ 60000) (n : Nat) (hn : n < l.length + 6) : ¬ Is ((enc l).take n) := by
  intro hi
  obtain ⟨h1, _, h3, _⟩ := hi
  have hl := enc_length l
  rw [List.length_take] at h1 h3
  have e : flen ((enc l).take n) = flen (enc l) := by
    unfold flen
    rw [List.getD_eq_getElem?_getD, List.getD_eq_getElem?_getD, List.getD_eq_getElem?_getD, List.getD_eq_getElem?_getD, List.getElem?_take_of_lt (by omega), List.getElem?_take_of_lt (by omega)]
  have e2 : flen (enc l) = l.length := by
    have := len_enc (r := []) h
    rwa [List.append_nil] at this
  rw [e, e2] at h3
  omega
/-- how many of them are whole in the first n bytes -/
def whole : List (List UInt8) → Nat → Nat
  | [], _ => 0
  | l :: ls, n => if l.length + 6 ≤ n then whole ls (n - (l.length + 6)) + 1 else 0
theorem whole_le : ∀ (ls : List (List UInt8)) (n : Nat), whole ls n ≤ ls.length
  | [], _ => Nat.le_refl _
  | l :: ls, n => by
    unfold whole
    split
    · have := whole_le ls (n - (l.length + 6)); simp; omega
    · simp
theorem all_cut : ∀ (ls : List (List UInt8)) (n : Nat), (∀ l ∈ ls, l.length ≤ 60000) → all ((rows ls).take n) = ls.take (whole ls n)
  | [], n, _ => by
    rw [show (rows []).take n = [] from by simp [rows], all_nil]
    simp
  | l :: ls, n, h => by
    have hl := enc_length l
    have h0 := h l (by simp)
    rw [rows_cons]
    unfold whole
    split
    · rename_i hn
      rw [List.take_append, List.take_of_length_le (by omega), all_enc h0, hl, all_cut ls _ fun x hx => h x (by simp [hx]), List.take_succ_cons]
    · rename_i hn
      rw [List.take_append_of_le_length (by omega), all_not (not_is_cut h0 n (by omega))]
      simp
/-- where the k-th ends -/
def ends (ls : List (List UInt8)) (k : Nat) : Nat := fspan (ls.take k)
theorem ends_le : ∀ (ls : List (List UInt8)) (n k : Nat), k ≤ ls.length → (fspan (ls.take k) ≤ n ↔ k ≤ whole ls n)
  | [], n, k, hk => by
    have : k = 0 := by simpa using hk
    subst this
    simp [fspan]
  | l :: ls, n, 0, _ => by simp [fspan]
  | l :: ls, n, k + 1, hk => by
    rw [List.take_succ_cons, size_cons]
    unfold whole
    have hk' : k ≤ ls.length := by simpa using hk
    split
    · rename_i hn
      have := ends_le ls (n - (l.length + 6)) k hk'
      omega
    · rename_i hn
      omega

/-- 32 bits are their bytes -/
theorem be4_inj {s t : BitVec 32} (h : be4 s = be4 t) : s = t := by
  have hb : ∀ k, k < 4 → (byteAt s k).toNat = (byteAt t k).toNat := by
    intro k hk
    simp only [be4, List.cons.injEq, and_true] at h
    match k, hk with
    | 0, _ => rw [h.2.2.2]
    | 1, _ => rw [h.2.2.1]
    | 2, _ => rw [h.2.1]
    | 3, _ => rw [h.1]
  have e : ∀ (x : BitVec 32) k, (byteAt x k).toNat = x.toNat / 2 ^ (8 * k) % 256 := fun x k => by
    unfold byteAt
    rw [UInt8.toNat_ofNat', Nat.shiftRight_eq_div_pow, Nat.mod_mod]
  have h0 := hb 0 (by omega)
  have h1 := hb 1 (by omega)
  have h2 := hb 2 (by omega)
  have h3 := hb 3 (by omega)
  rw [e, e] at h0 h1 h2 h3
  have := s.isLt
  have := t.isLt
  apply BitVec.eq_of_toNat_eq
  simp at h0 h1 h2 h3
  omega

/-- one bit turned changes the sum -/
theorem sum_bit (l : List UInt8) (j r : Nat) (hj : j < l.length) (hr : r < 8) : sum (l.set j (l[j] ^^^ (1 <<< UInt8.ofNat r))) ≠ sum l := by
  intro he
  unfold sum at he
  have he' : fold (BitVec.allOnes 32) (l.set j (l[j] ^^^ (1 <<< UInt8.ofNat r))) = fold (BitVec.allOnes 32) l := by
    have := congrArg (~~~ ·) he
    simpa using this
  rw [fold_turn _ _ _ hj hr] at he'
  have hz : halves (8 * (l.length - j) - r) 1#32 = 0#32 := by
    have := congrArg (fold (BitVec.allOnes 32) l ^^^ ·) he'
    simp only [← BitVec.xor_assoc, BitVec.xor_self, BitVec.zero_xor] at this
    exact this
  exact absurd (halves_eq_zero _ hz) (by decide)

theorem bit_ne (b : UInt8) (r : Nat) (hr : r < 8) : b ^^^ (1 <<< UInt8.ofNat r) ≠ b := by
  intro h
  have h2 : wide (b ^^^ (1 <<< UInt8.ofNat r)) = wide b := by rw [h]
  rw [wide_xor] at h2
  have hw : wide (1 <<< UInt8.ofNat r) ≠ 0#32 := by
    have : ∀ r : Fin 8, wide (1 <<< UInt8.ofNat r.val) ≠ 0#32 := by decide
    exact this ⟨r, hr⟩
  apply hw
  have := congrArg (wide b ^^^ ·) h2
  simp only [← BitVec.xor_assoc, BitVec.xor_self, BitVec.zero_xor] at this
  exact this

/-- a frame of which one bit of the sum or the ftext is turned is none -/
theorem not_is_turned (l : List UInt8) (h : l.length ≤ 60000) (j r : Nat) (hj2 : 2 ≤ j) (hj : j < (enc l).length) (hr : r < 8) : ¬ Is ((enc l).set j ((enc l)[j] ^^^ (1 <<< UInt8.ofNat r))) := by
  intro hi
  have hl := enc_length l
  have hlen : flen ((enc l).set j ((enc l)[j] ^^^ (1 <<< UInt8.ofNat r))) = l.length := by
    have e2 : flen (enc l) = l.length := by
      have := len_enc (r := []) h
      rwa [List.append_nil] at this
    rw [← e2]
    unfold flen
    rw [List.getD_eq_getElem?_getD, List.getD_eq_getElem?_getD, List.getD_eq_getElem?_getD, List.getD_eq_getElem?_getD, List.getElem?_set_ne (by omega), List.getElem?_set_ne (by omega)]
  obtain ⟨_, _, h3, h4⟩ := hi
  rw [hlen] at h4
  rw [List.take_of_length_le (by rw [List.length_set]; omega)] at h4
  have hload : ftext ((enc l).set j ((enc l)[j] ^^^ (1 <<< UInt8.ofNat r))) = ((enc l).set j ((enc l)[j] ^^^ (1 <<< UInt8.ofNat r))).drop 6 := by
    unfold ftext
    rw [hlen, List.take_of_length_le (by rw [List.length_drop, List.length_set]; omega)]
  rw [hload] at h4
  by_cases h6 : j < 6
  · have hd : ((enc l).set j ((enc l)[j] ^^^ (1 <<< UInt8.ofNat r))).drop 6 = l := by
      rw [List.drop_set_of_lt h6]
      have := drop_enc l []
      rwa [List.append_nil, List.append_nil] at this
    rw [hd] at h4
    have h5 := congrArg (fun x => x[j]?) h4
    simp only [List.getElem?_set_self hj, List.getElem?_eq_getElem hj] at h5
    injection h5 with h5
    exact bit_ne _ r hr h5
  · have hj' : j - 6 < l.length := by omega
    have hget : (enc l)[j] = l[j - 6] := by
      have e : (enc l)[j]? = l[j - 6]? := by
        have := drop_enc l []
        rw [List.append_nil, List.append_nil] at this
        rw [← this, List.getElem?_drop]
        congr 1
        omega
      rw [List.getElem?_eq_getElem hj, List.getElem?_eq_getElem hj'] at e
      injection e
    have hd : ((enc l).set j ((enc l)[j] ^^^ (1 <<< UInt8.ofNat r))).drop 6 = l.set (j - 6) (l[j - 6] ^^^ (1 <<< UInt8.ofNat r)) := by
      rw [List.drop_set, if_neg h6, hget]
      congr 1
    rw [hd] at h4
    have hs := congrArg (fun x => (x.drop 2).take 4) h4
    have hhead : head (l.set (j - 6) (l[j - 6] ^^^ (1 <<< UInt8.ofNat r))) = head l := by unfold head; rw [List.length_set]
    have e1 : (((enc l).set j ((enc l)[j] ^^^ (1 <<< UInt8.ofNat r))).drop 2).take 4 = be4 (sum (head l ++ l)) := by
      rw [List.drop_set, if_neg (by omega), List.take_set_of_le (by omega)]
      rfl
    have e2 : ((enc (l.set (j - 6) (l[j - 6] ^^^ (1 <<< UInt8.ofNat r)))).drop 2).take 4 = be4 (sum (head l ++ l.set (j - 6) (l[j - 6] ^^^ (1 <<< UInt8.ofNat r)))) := by
      unfold enc
      rw [hhead]
      rfl
    simp only [e1, e2] at hs
    have hs' := be4_inj hs
    have hset : head l ++ l.set (j - 6) (l[j - 6] ^^^ (1 <<< UInt8.ofNat r)) = (head l ++ l).set (j - 4) ((head l ++ l)[j - 4]'(by rw [List.length_append]; simp [head]; omega) ^^^ (1 <<< UInt8.ofNat r)) := by
      rw [List.set_append_right _ _ (by simp [head]; omega), List.getElem_append_right (by simp [head]; omega)]
      simp only [head, List.length_cons, List.length_nil]
      have : j - 4 - (0 + 1 + 1) = j - 6 := by omega
      simp only [this]
    rw [hset] at hs'
    exact sum_bit (head l ++ l) (j - 4) r (by rw [List.length_append]; simp [head]; omega) hr hs'.symm

end Go.Proofs.YtkcfieoflkhdpaaDoor.FrameMath
