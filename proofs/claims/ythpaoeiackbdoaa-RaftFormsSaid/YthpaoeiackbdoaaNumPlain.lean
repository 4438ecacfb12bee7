/-
  Plain facts on numbers as groups of seven bits: 'putN n' are the bytes of n, 'takeF k l' the number that the bytes l begin with, of at most k bytes. No program.
-/
namespace Go.Proofs.Ythpaoeiackbdoaa.NumPlain

/-- the bytes of a number: at most k + 1 of them -/
def putF : Nat → Nat → List UInt8
  | 0, n => [UInt8.ofNat n]
  | k + 1, n => if n < 128 then [UInt8.ofNat n] else UInt8.ofNat (n % 128 + 128) :: putF k (n / 128)

def putN (n : Nat) : List UInt8 := putF 9 n

/-- the number that bytes begin with, and how many bytes: at most k -/
def takeF : Nat → List UInt8 → Option (Nat × Nat)
  | 0, _ => none
  | _ + 1, [] => none
  | k + 1, c :: r => if c.toNat < 128 then some (c.toNat, 1) else
      match takeF k r with
      | none => none
      | some (v, n) => if v = 0 then none else some (c.toNat % 128 + 128 * v, n + 1)

theorem putF_more (k n : Nat) (h : n < 128 ^ (k + 1)) : putF (k + 1) n = putF k n := by
  induction k generalizing n with
  | zero => simp at h; simp [putF, h]
  | succ k ih =>
    have hd : n / 128 < 128 ^ (k + 1) := by
      rw [Nat.div_lt_iff_lt_mul (by omega)]; rw [Nat.pow_succ] at h; exact h
    show (if n < 128 then [UInt8.ofNat n] else UInt8.ofNat (n % 128 + 128) :: putF (k + 1) (n / 128)) = (if n < 128 then [UInt8.ofNat n] else UInt8.ofNat (n % 128 + 128) :: putF k (n / 128))
    rw [ih _ hd]

theorem putN_small (n : Nat) (h : n < 128) : putN n = [UInt8.ofNat n] := by simp [putN, putF, h]

theorem putN_big (n : Nat) (h : 128 ≤ n) (hb : n < 9223372036854775808) : putN n = UInt8.ofNat (n % 128 + 128) :: putN (n / 128) := by
  have e : putN (n / 128) = putF 8 (n / 128) := putF_more 8 _ (by
    rw [Nat.div_lt_iff_lt_mul (by omega)]; have : (128 ^ (8 + 1) * 128 : Nat) = 1180591620717411303424 := by decide
    omega)
  rw [e, putN, putF, if_neg (by omega)]

theorem putF_len (k n : Nat) : 1 ≤ (putF k n).length ∧ (putF k n).length ≤ k + 1 := by
  induction k generalizing n with
  | zero => simp [putF]
  | succ k ih =>
    rw [putF]
    by_cases h : n < 128
    · simp [h]
    · have := ih (n / 128); simp only [if_neg h, List.length_cons]; omega

theorem putN_len (n : Nat) : 1 ≤ (putN n).length ∧ (putN n).length ≤ 10 := putF_len 9 n

theorem putN_len9 (n : Nat) (h : n < 9223372036854775808) : 1 ≤ (putN n).length ∧ (putN n).length ≤ 9 := by
  have e : putN n = putF 8 n := putF_more 8 n (by have : (128 ^ (8 + 1) : Nat) = 9223372036854775808 := by decide
                                                  omega)
  rw [e]; exact putF_len 8 n

theorem u8_small (n : Nat) (h : n < 256) : (UInt8.ofNat n).toNat = n := by simp [UInt8.toNat_ofNat']; omega

/-- what was put is taken, whatever stands behind -/
theorem takeF_putF (k n : Nat) (r : List UInt8) (h : n < 128 ^ (k + 1)) : takeF (k + 1) (putF k n ++ r) = some (n, (putF k n).length) := by
  induction k generalizing n with
  | zero =>
    simp at h
    simp [putF, takeF, u8_small n (by omega), h]
  | succ k ih =>
    rw [putF]
    by_cases hs : n < 128
    · simp [hs, takeF, u8_small n (by omega)]
    · have hd : n / 128 < 128 ^ (k + 1) := by
        rw [Nat.div_lt_iff_lt_mul (by omega)]; rw [Nat.pow_succ] at h; exact h
      have hu : (UInt8.ofNat (n % 128 + 128)).toNat = n % 128 + 128 := u8_small _ (by omega)
      have hne : n / 128 ≠ 0 := by omega
      rw [if_neg hs, List.cons_append, takeF, hu, if_neg (by omega), ih _ hd]
      simp only [hne, if_false, List.length_cons]
      congr 2
      omega

theorem takeF_putN (n : Nat) (r : List UInt8) (h : n < 9223372036854775808) : takeF 9 (putN n ++ r) = some (n, (putN n).length) := by
  have e : putN n = putF 8 n := putF_more 8 n (by have : (128 ^ (8 + 1) : Nat) = 9223372036854775808 := by decide
                                                  omega)
  rw [e]
  exact takeF_putF 8 n r (by have : (128 ^ (8 + 1) : Nat) = 9223372036854775808 := by decide
                             omega)

/-- what is taken is what was put -/
theorem takeF_some (k : Nat) (l : List UInt8) (v n : Nat) (h : takeF (k + 1) l = some (v, n)) : v < 128 ^ (k + 1) ∧ n ≤ l.length ∧ 1 ≤ n ∧ n ≤ k + 1 ∧ l.take n = putF k v := by
  induction k generalizing l v n with
  | zero =>
    cases l with
    | nil => simp [takeF] at h
    | cons c r =>
      simp only [takeF] at h
      by_cases hc : c.toNat < 128
      · simp [hc] at h; obtain ⟨rfl, rfl⟩ := h
        simp [putF, hc]
      · simp [hc] at h
  | succ k ih =>
    cases l with
    | nil => simp [takeF] at h
    | cons c r =>
      rw [takeF] at h
      have hc8 : c.toNat < 256 := c.toNat_lt
      have hp : 1 ≤ 128 ^ (k + 1) := Nat.pos_of_ne_zero (by simp)
      by_cases hc : c.toNat < 128
      · simp [hc] at h; obtain ⟨rfl, rfl⟩ := h
        refine ⟨?_, by simp, by omega, by omega, by simp [putF, hc]⟩
        rw [Nat.pow_succ]; omega
      · rw [if_neg hc] at h
        cases ht : takeF (k + 1) r with
        | none => simp [ht] at h
        | some p =>
          obtain ⟨v', n'⟩ := p
          simp only [ht] at h
          by_cases hv : v' = 0
          · simp [hv] at h
          · simp only [hv, if_false, Option.some.injEq, Prod.mk.injEq] at h
            obtain ⟨rfl, rfl⟩ := h
            obtain ⟨h1, h2, h3, h4, h5⟩ := ih _ _ _ ht
            refine ⟨by rw [Nat.pow_succ]; omega, by simp; omega, by omega, by omega, ?_⟩
            rw [putF, if_neg (by omega), List.take_succ_cons, h5]
            have e1 : (c.toNat % 128 + 128 * v') / 128 = v' := by omega
            have e2 : (c.toNat % 128 + 128 * v') % 128 + 128 = c.toNat := by omega
            rw [e1, e2]; simp

theorem takeF_some9 (l : List UInt8) (v n : Nat) (h : takeF 9 l = some (v, n)) : v < 9223372036854775808 ∧ n ≤ l.length ∧ 1 ≤ n ∧ n ≤ 9 ∧ l.take n = putN v := by
  have e9 : (128 ^ (8 + 1) : Nat) = 9223372036854775808 := by decide
  obtain ⟨h1, h2, h3, h4, h5⟩ := takeF_some 8 l v n h
  refine ⟨by omega, h2, h3, h4, ?_⟩
  rw [h5]; exact (putF_more 8 v h1).symm

/-- what holds when k bytes of L are read, all of them with one behind, and v is what they come to -/
def NumInv (L : List UInt8) (k v : Nat) : Prop :=
  v < 128 ^ k ∧ k ≤ 9 ∧ k ≤ L.length ∧
  takeF 9 L = match takeF (9 - k) (L.drop k) with
    | none => none
    | some (u, n) => if 0 < k ∧ u = 0 then none else some (v + 128 ^ k * u, n + k)

theorem NumInv.start (L : List UInt8) : NumInv L 0 0 := by
  refine ⟨by simp, by omega, by omega, ?_⟩
  cases h : takeF 9 L with
  | none => simp [h]
  | some p => simp [h]

theorem NumInv.more {L : List UInt8} {k v : Nat} (h : NumInv L k v) (hk : k < 9) (hl : k < L.length) (hc : 128 ≤ L[k].toNat) : NumInv L (k + 1) (v + L[k].toNat % 128 * 128 ^ k) := by
  obtain ⟨h1, h2, h3, h4⟩ := h
  refine ⟨?_, by omega, by omega, ?_⟩
  · have hm : L[k].toNat % 128 * 128 ^ k ≤ 127 * 128 ^ k := Nat.mul_le_mul_right _ (by omega)
    rw [Nat.pow_succ]; omega
  · rw [h4, List.drop_eq_getElem_cons hl, show 9 - k = (9 - (k + 1)) + 1 from by omega, takeF, if_neg (by omega)]
    cases ht : takeF (9 - (k + 1)) (L.drop (k + 1)) with
    | none => rfl
    | some p =>
      obtain ⟨u, n⟩ := p
      simp only
      by_cases hu : u = 0
      · simp [hu]
      · have hne : ¬ (L[k].toNat % 128 + 128 * u = 0) := by omega
        simp only [hu, hne, and_false, if_false]
        congr 2
        · rw [Nat.pow_succ, Nat.mul_add, Nat.mul_comm (L[k].toNat % 128), ← Nat.mul_assoc, Nat.add_assoc]
        · omega

theorem NumInv.last {L : List UInt8} {k v : Nat} (h : NumInv L k v) (hk : k < 9) (hl : k < L.length) (hc : L[k].toNat < 128) :
    takeF 9 L = if 0 < k ∧ L[k].toNat = 0 then none else some (v + L[k].toNat * 128 ^ k, k + 1) := by
  obtain ⟨h1, h2, h3, h4⟩ := h
  rw [h4, List.drop_eq_getElem_cons hl, show 9 - k = (9 - (k + 1)) + 1 from by omega, takeF, if_pos hc]
  simp only [Nat.mul_comm, Nat.add_comm 1 k]

theorem NumInv.short {L : List UInt8} {k v : Nat} (h : NumInv L k v) (hl : L.length = k) : takeF 9 L = none := by
  obtain ⟨h1, h2, h3, h4⟩ := h
  rw [h4, List.drop_of_length_le (by omega)]
  cases h9 : 9 - k with
  | zero => rfl
  | succ m => rfl

theorem NumInv.long {L : List UInt8} {v : Nat} (h : NumInv L 9 v) : takeF 9 L = none := by
  obtain ⟨h1, h2, h3, h4⟩ := h
  rw [h4]; rfl

theorem NumInv.more' {L : List UInt8} {k v : Nat} {cb : UInt8} (h : NumInv L k v) (hk : k < 9) (hg : L[k]? = some cb) (hc : 128 ≤ cb.toNat) : NumInv L (k + 1) (v + cb.toNat % 128 * 128 ^ k) := by
  obtain ⟨hl, rfl⟩ := List.getElem?_eq_some_iff.1 hg
  exact h.more hk hl hc
theorem NumInv.last' {L : List UInt8} {k v : Nat} {cb : UInt8} (h : NumInv L k v) (hk : k < 9) (hg : L[k]? = some cb) (hc : cb.toNat < 128) :
    takeF 9 L = if 0 < k ∧ cb.toNat = 0 then none else some (v + cb.toNat * 128 ^ k, k + 1) := by
  obtain ⟨hl, rfl⟩ := List.getElem?_eq_some_iff.1 hg
  exact h.last hk hl hc

/-- the text that bytes begin with, and how many bytes -/
def takeT (L : List UInt8) : Option (List UInt8 × Nat) :=
  match takeF 9 L with
  | none => none
  | some (n, k) => if 255 < n ∨ L.length - k < n then none else some ((L.drop k).take n, k + n)

/-- a text's bytes -/
def putT (s : List UInt8) : List UInt8 := if 255 < s.length then [] else putN s.length ++ s

theorem takeT_putT (s r : List UInt8) (h : s.length ≤ 255) : takeT (putT s ++ r) = some (s, (putT s).length) := by
  unfold takeT putT
  rw [if_neg (by omega), List.append_assoc, takeF_putN _ _ (by omega)]
  simp only [List.length_append]
  rw [if_neg (by omega), List.drop_left, List.take_left]

/-- bytes as a number, the lowest seven bits first -/
def valL : List UInt8 → Nat
  | [] => 0
  | c :: r => valL r * 128 + c.toNat % 128

theorem valL_lt (l : List UInt8) : valL l < 128 ^ l.length := by
  induction l with
  | nil => simp [valL]
  | cons c r ih => rw [valL, List.length_cons, Nat.pow_succ]; omega

theorem valL_snoc (l : List UInt8) (c : UInt8) : valL (l ++ [c]) = valL l + c.toNat % 128 * 128 ^ l.length := by
  induction l with
  | nil => simp [valL]
  | cons d r ih =>
    rw [List.cons_append, valL, ih, valL, List.length_cons, Nat.pow_succ, Nat.add_mul, ← Nat.mul_assoc]
    omega

theorem NumInv.of_all {l : List UInt8} : ∀ (m : Nat), m ≤ 9 → m ≤ l.length → (∀ j (h : j < l.length), j < m → 128 ≤ l[j].toNat) → NumInv l m (valL (l.take m))
  | 0, _, _, _ => NumInv.start l
  | m + 1, h9, hl, ha => by
    have ih := NumInv.of_all m (by omega) (by omega) (fun j h hj => ha j h (by omega))
    have hm : m < l.length := by omega
    have h := ih.more (by omega) hm (ha m hm (by omega))
    rw [List.take_succ_eq_append_getElem hm, valL_snoc, List.length_take, Nat.min_eq_left (by omega)]
    exact h

theorem takeF_long {l : List UInt8} (m : Nat) (h9 : m = 9 ∨ l.length = m) (hm : m ≤ 9) (hl : m ≤ l.length) (ha : ∀ j (h : j < l.length), j < m → 128 ≤ l[j].toNat) : takeF 9 l = none := by
  have h := NumInv.of_all m hm hl ha
  rcases h9 with rfl | h9
  · exact h.long
  · exact h.short h9

theorem takeF_at {l : List UInt8} (m : Nat) (hm : m < 9) (hl : m < l.length) (ha : ∀ j (h : j < l.length), j < m → 128 ≤ l[j].toNat) (hc : l[m].toNat < 128) :
    takeF 9 l = if putN (valL (l.take (m + 1))) = l.take (m + 1) then some (valL (l.take (m + 1)), m + 1) else none := by
  have h := (NumInv.of_all m (by omega) (by omega) ha).last hm hl hc
  have hv : valL (l.take (m + 1)) = valL (l.take m) + l[m].toNat * 128 ^ m := by
    rw [List.take_succ_eq_append_getElem hl, valL_snoc, List.length_take, Nat.min_eq_left (by omega), Nat.mod_eq_of_lt hc]
  have hlt := valL_lt (l.take (m + 1))
  rw [List.length_take, Nat.min_eq_left (by omega)] at hlt
  have h9 : 128 ^ (m + 1) ≤ 128 ^ 9 := Nat.pow_le_pow_right (by omega) (by omega)
  have e9 : (128 ^ 9 : Nat) = 9223372036854775808 := by decide
  rw [← hv] at h
  by_cases hz : 0 < m ∧ l[m].toNat = 0
  · rw [if_pos hz] at h
    rw [h, if_neg]
    intro he
    have h2 := takeF_putN (valL (l.take (m + 1))) (l.drop (m + 1)) (by omega)
    rw [he, List.take_append_drop, h] at h2
    cases h2
  · rw [if_neg hz] at h
    rw [h, if_pos]
    exact (takeF_some9 l _ _ h).2.2.2.2.symm

/-- what holds of v when the bytes from j on, of the first m + 1, are taken in -/
def HornerInv (l : List UInt8) (m j V : Nat) : Prop := j ≤ m + 1 ∧ V = valL ((l.take (m + 1)).drop j)
theorem HornerInv.start (l : List UInt8) (m : Nat) (hl : m < l.length) : HornerInv l m (m + 1) 0 :=
  ⟨by omega, by rw [List.drop_of_length_le (by rw [List.length_take]; omega)]; rfl⟩
theorem HornerInv.more {l : List UInt8} {m j V : Nat} {c : UInt8} (h : HornerInv l m (j + 1) V) (hl : m < l.length) (hg : l[j]? = some c) : HornerInv l m j (V * 128 + c.toNat % 128) := by
  obtain ⟨h1, rfl⟩ := h
  refine ⟨by omega, ?_⟩
  obtain ⟨hj, rfl⟩ := List.getElem?_eq_some_iff.1 hg
  have hj2 : j < (l.take (m + 1)).length := by rw [List.length_take]; omega
  rw [List.drop_eq_getElem_cons hj2, valL, List.getElem_take]
theorem HornerInv.bound {l : List UInt8} {m j V : Nat} (h : HornerInv l m (j + 1) V) (hm : m < 9) : (V : Int) * 128 + 127 ≤ 9223372036854775807 := by
  obtain ⟨h1, rfl⟩ := h
  have hlt := valL_lt ((l.take (m + 1)).drop (j + 1))
  have hlen : ((l.take (m + 1)).drop (j + 1)).length ≤ 8 := by rw [List.length_drop, List.length_take]; omega
  have h8 := Nat.pow_le_pow_right (n := 128) (by omega) hlen
  have e8 : (128 ^ 8 : Nat) = 72057594037927936 := by decide
  omega
theorem HornerInv.bound0 {l : List UInt8} {m V : Nat} (h : HornerInv l m 0 V) (hm : m < 9) : (V : Int) ≤ 9223372036854775807 := by
  obtain ⟨h1, rfl⟩ := h
  have hlt := valL_lt ((l.take (m + 1)).drop 0)
  have hlen : ((l.take (m + 1)).drop 0).length ≤ 9 := by rw [List.length_drop, List.length_take]; omega
  have h8 := Nat.pow_le_pow_right (n := 128) (by omega) hlen
  have e8 : (128 ^ 9 : Nat) = 9223372036854775808 := by decide
  omega
theorem HornerInv.last {l : List UInt8} {m V : Nat} (h : HornerInv l m 0 V) : V = valL (l.take (m + 1)) := h.2

theorem putF_mono (k : Nat) : ∀ (a b : Nat), a ≤ b → (putF k a).length ≤ (putF k b).length := by
  induction k with
  | zero => intro a b _; simp [putF]
  | succ k ih =>
    intro a b h
    rw [putF, putF]
    by_cases ha : a < 128
    · rw [if_pos ha]
      by_cases hb : b < 128
      · rw [if_pos hb]; simp
      · rw [if_neg hb]; simp
    · rw [if_neg ha, if_neg (by omega)]
      have := ih (a / 128) (b / 128) (Nat.div_le_div_right h)
      simp only [List.length_cons]
      omega
theorem putN_mono {a b : Nat} (h : a ≤ b) : (putN a).length ≤ (putN b).length := putF_mono 9 a b h
theorem putN_inj {a b : Nat} (ha : a < 9223372036854775808) (hb : b < 9223372036854775808) (h : putN a = putN b) : a = b := by
  have h1 := takeF_putN a [] ha
  have h2 := takeF_putN b [] hb
  rw [h, h2] at h1
  injection h1 with h1
  injection h1 with h1
  exact h1.symm

theorem takeF_more {L R : List UInt8} {v k : Nat} (h : takeF 9 L = some (v, k)) : takeF 9 (L ++ R) = some (v, k) := by
  obtain ⟨h1, h2, h3, h4, h5⟩ := takeF_some9 L v k h
  have e : L ++ R = putN v ++ (L.drop k ++ R) := by rw [← h5, ← List.append_assoc, List.take_append_drop]
  have hk : (putN v).length = k := by rw [← h5, List.length_take]; omega
  rw [e, takeF_putN v _ h1, hk]
theorem takeF_cut {v j : Nat} (hv : v < 9223372036854775808) (hj : j < (putN v).length) : takeF 9 ((putN v).take j) = none := by
  cases h : takeF 9 ((putN v).take j) with
  | none => rfl
  | some p =>
    obtain ⟨v', k⟩ := p
    have h2 := takeF_more (R := (putN v).drop j) h
    rw [List.take_append_drop] at h2
    have h3 := takeF_putN v [] hv
    rw [List.append_nil, h2] at h3
    injection h3 with h3
    injection h3 with h3 h4
    have := (takeF_some9 _ _ _ h).2.1
    rw [List.length_take] at this
    omega
theorem takeT_more {L R : List UInt8} {t : List UInt8} {k : Nat} (h : takeT L = some (t, k)) : takeT (L ++ R) = some (t, k) ∧ k ≤ L.length := by
  unfold takeT at h ⊢
  cases hf : takeF 9 L with
  | none => rw [hf] at h; cases h
  | some p =>
    obtain ⟨n, m⟩ := p
    have hm := (takeF_some9 L n m hf).2.1
    rw [hf] at h
    rw [takeF_more hf]
    simp only at h ⊢
    by_cases hc : 255 < n ∨ L.length - m < n
    · rw [if_pos hc] at h; cases h
    · rw [if_neg hc] at h
      injection h with h
      injection h with h1 h2
      refine ⟨?_, by omega⟩
      rw [if_neg (by rw [List.length_append]; omega)]
      congr 2
      rw [← h1, List.drop_append_of_le_length hm, List.take_append_of_le_length (by rw [List.length_drop]; omega)]
theorem takeT_cut {s : List UInt8} {j : Nat} (hs : s.length ≤ 255) (hj : j < (putT s).length) : takeT ((putT s).take j) = none := by
  cases h : takeT ((putT s).take j) with
  | none => rfl
  | some p =>
    obtain ⟨t, k⟩ := p
    obtain ⟨h2, h5⟩ := takeT_more (R := (putT s).drop j) h
    rw [List.take_append_drop] at h2
    have h3 := takeT_putT s [] hs
    rw [List.append_nil, h2] at h3
    injection h3 with h3
    injection h3 with h3 h4
    rw [List.length_take] at h5
    omega
theorem putT_len {s : List UInt8} (hs : s.length ≤ 255) : s.length < (putT s).length ∧ (putT s).length ≤ s.length + 10 := by
  unfold putT
  rw [if_neg (by omega), List.length_append]
  have := putN_len s.length
  omega

end Go.Proofs.Ythpaoeiackbdoaa.NumPlain
