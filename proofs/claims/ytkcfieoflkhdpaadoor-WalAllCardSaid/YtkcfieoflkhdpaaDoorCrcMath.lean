/-
  The sums of layer 2, as functions of 32 bits and lists of bytes: half halves, a byte, a row of bytes. No program.
-/
import Derived.WalkKit
namespace Go.Proofs.YtkcfieoflkhdpaaDoor.CrcMath

def poly : BitVec 32 := 0xEDB88320#32
/-- one of the eight times -/
def half (s : BitVec 32) : BitVec 32 := if s.getLsbD 0 then (s >>> 1) ^^^ poly else s >>> 1
def halves : Nat → BitVec 32 → BitVec 32
  | 0, s => s
  | n + 1, s => half (halves n s)
def wide (b : UInt8) : BitVec 32 := BitVec.ofNat 32 b.toNat
def upd (s : BitVec 32) (b : UInt8) : BitVec 32 := halves 8 (s ^^^ wide b)
def fold (s : BitVec 32) (l : List UInt8) : BitVec 32 := l.foldl upd s
def sum (l : List UInt8) : BitVec 32 := ~~~ fold (BitVec.allOnes 32) l

theorem xor4 (a b c d : BitVec 32) : (a ^^^ b) ^^^ (c ^^^ d) = (a ^^^ c) ^^^ (b ^^^ d) := by
  rw [BitVec.xor_assoc, BitVec.xor_assoc, ← BitVec.xor_assoc b c d, BitVec.xor_comm b c, BitVec.xor_assoc c b d]

theorem half_xor (a b : BitVec 32) : half (a ^^^ b) = half a ^^^ half b := by
  unfold half
  rw [BitVec.getLsbD_xor, BitVec.ushiftRight_xor_distrib]
  cases a.getLsbD 0 <;> cases b.getLsbD 0
  · rfl
  · exact BitVec.xor_assoc _ _ _
  · show (a >>> 1 ^^^ b >>> 1) ^^^ poly = (a >>> 1 ^^^ poly) ^^^ b >>> 1
    rw [BitVec.xor_assoc, BitVec.xor_assoc, BitVec.xor_comm poly]
  · show a >>> 1 ^^^ b >>> 1 = (a >>> 1 ^^^ poly) ^^^ (b >>> 1 ^^^ poly)
    rw [xor4, BitVec.xor_self, BitVec.xor_zero]
theorem half_zero : half 0#32 = 0#32 := by decide
theorem halves_zero : ∀ n, halves n 0#32 = 0#32
  | 0 => rfl
  | n + 1 => by rw [halves, halves_zero n, half_zero]
theorem halves_xor : ∀ n (a b : BitVec 32), halves n (a ^^^ b) = halves n a ^^^ halves n b
  | 0, _, _ => rfl
  | n + 1, a, b => by rw [halves, halves_xor n, half_xor]; rfl
theorem halves_add : ∀ m n (a : BitVec 32), halves (m + n) a = halves m (halves n a)
  | 0, n, a => by rw [Nat.zero_add]; rfl
  | m + 1, n, a => by rw [show m + 1 + n = (m + n) + 1 from by omega, halves, halves_add m n a]; rfl
theorem xor_eq_zero {a b : BitVec 32} (h : a ^^^ b = 0#32) : a = b := by
  have : a ^^^ b ^^^ b = 0#32 ^^^ b := by rw [h]
  rwa [BitVec.xor_assoc, BitVec.xor_self, BitVec.xor_zero, BitVec.zero_xor] at this
theorem half_eq_zero {a : BitVec 32} (h : half a = 0#32) : a = 0#32 := by
  unfold half at h
  cases hb : a.getLsbD 0
  · rw [hb] at h
    have h' : a >>> 1 = 0#32 := h
    refine BitVec.eq_of_getLsbD_eq fun i hi => ?_
    rw [BitVec.getLsbD_zero]
    match i with
    | 0 => exact hb
    | i + 1 =>
      have := congrArg (fun x => BitVec.getLsbD x i) h'
      simpa [Nat.add_comm] using this
  · rw [hb] at h
    have h' : a >>> 1 ^^^ poly = 0#32 := h
    have h2 := xor_eq_zero h'
    have := congrArg (fun x => BitVec.getLsbD x 31) h2
    simp [poly] at this
theorem halves_eq_zero : ∀ n {a : BitVec 32}, halves n a = 0#32 → a = 0#32
  | 0, _, h => h
  | n + 1, _, h => halves_eq_zero n (half_eq_zero h)

/-- bits that are not there don't count -/
theorem half_even {a : BitVec 32} (h : a.getLsbD 0 = false) : half a = a >>> 1 := by unfold half; rw [h]; rfl
theorem halves_shift : ∀ n {a : BitVec 32}, (∀ i, i < n → a.getLsbD i = false) → halves n a = a >>> n
  | 0, a, _ => by rw [halves, BitVec.ushiftRight_zero]
  | n + 1, a, h => by
    rw [halves, halves_shift n fun i hi => h i (by omega), half_even (by rw [BitVec.getLsbD_ushiftRight]; exact h n (by omega)), ← BitVec.shiftRight_add]
/-- the lowest n bits, and the others -/
theorem halves_split (n : Nat) (hn : n ≤ 32) (a : BitVec 32) : halves n a = halves n (BitVec.ofNat 32 (a.toNat % 2 ^ n)) ^^^ (a >>> n) := by
  have h : a = BitVec.ofNat 32 (a.toNat % 2 ^ n) ^^^ (a ^^^ BitVec.ofNat 32 (a.toNat % 2 ^ n)) := by
    rw [BitVec.xor_comm a, ← BitVec.xor_assoc, BitVec.xor_self, BitVec.zero_xor]
  have hlow : ∀ i, (BitVec.ofNat 32 (a.toNat % 2 ^ n)).getLsbD i = (decide (i < n) && a.getLsbD i) := fun i => by
    rw [BitVec.getLsbD_ofNat, Nat.testBit_mod_two_pow]
    by_cases hi : i < 32
    · simp [hi, BitVec.getLsbD]
    · have : ¬ i < n := by omega
      simp [hi, this]
  have e : halves n (a ^^^ BitVec.ofNat 32 (a.toNat % 2 ^ n)) = a >>> n := by
    rw [halves_shift n fun i hi => by rw [BitVec.getLsbD_xor, hlow]; simp [hi]]
    refine BitVec.eq_of_getLsbD_eq fun i hi => ?_
    rw [BitVec.getLsbD_ushiftRight, BitVec.getLsbD_ushiftRight, BitVec.getLsbD_xor, hlow, decide_eq_false (by omega), Bool.false_and, Bool.xor_false]
  rw [← e, ← halves_xor, ← h]
theorem halves_one (r : Nat) (hr : r < 32) (m : Nat) (h : r ≤ m) : halves m (1#32 <<< r) = halves (m - r) 1#32 := by
  rw [show m = (m - r) + r from by omega, halves_add, show m - r + r - r = m - r from by omega]
  congr 1
  rw [halves_shift r fun i hi => by rw [BitVec.getLsbD_shiftLeft]; simp [hi]]
  refine BitVec.eq_of_getLsbD_eq fun i hi => ?_
  rw [BitVec.getLsbD_ushiftRight, BitVec.getLsbD_shiftLeft]
  by_cases h0 : i = 0
  · subst h0; simp [hr]
  · have e : (1#32).getLsbD (r + i - r) = false := by
      rw [BitVec.getLsbD_one]
      simp
      omega
    have e2 : (1#32).getLsbD i = false := by
      rw [BitVec.getLsbD_one]
      simp
      omega
    rw [e, e2, Bool.and_false]

theorem upd_xor (s t : BitVec 32) (b : UInt8) : upd (s ^^^ t) b = upd s b ^^^ halves 8 t := by
  unfold upd
  rw [BitVec.xor_assoc, BitVec.xor_comm t, ← BitVec.xor_assoc, halves_xor]
theorem wide_xor (a b : UInt8) : wide (a ^^^ b) = wide a ^^^ wide b := by
  unfold wide
  rw [UInt8.toNat_xor]
  refine BitVec.eq_of_getLsbD_eq fun i hi => ?_
  rw [BitVec.getLsbD_xor, BitVec.getLsbD_ofNat, BitVec.getLsbD_ofNat, BitVec.getLsbD_ofNat, Nat.testBit_xor]
  simp [hi]
theorem upd_xor2 (s t : BitVec 32) (a b : UInt8) : upd (s ^^^ t) (a ^^^ b) = upd s a ^^^ upd t b := by
  unfold upd
  rw [wide_xor, xor4, halves_xor]
theorem fold_xor (t : BitVec 32) : ∀ (l : List UInt8) (s : BitVec 32), fold (s ^^^ t) l = fold s l ^^^ halves (8 * l.length) t := by
  intro l
  induction l generalizing t with
  | nil => intro s; rfl
  | cons b l ih =>
    intro s
    show fold (upd (s ^^^ t) b) l = fold (upd s b) l ^^^ _
    rw [upd_xor, ih, ← halves_add, List.length_cons, show 8 * (l.length + 1) = 8 * l.length + 8 from by omega]
theorem fold_xor2 : ∀ (l m : List UInt8) (s t : BitVec 32), l.length = m.length → fold (s ^^^ t) (List.zipWith (· ^^^ ·) l m) = fold s l ^^^ fold t m
  | [], [], _, _, _ => rfl
  | [], _ :: _, _, _, h => by cases h
  | _ :: _, [], _, _, h => by cases h
  | a :: l, b :: m, s, t, h => by
    show fold (upd (s ^^^ t) (a ^^^ b)) (List.zipWith (· ^^^ ·) l m) = fold (upd s a) l ^^^ fold (upd t b) m
    rw [upd_xor2, fold_xor2 l m _ _ (by simpa using h)]

/-- CrcLine: three texts of one length -/
theorem sum_line (a b c : List UInt8) (h1 : a.length = b.length) (h2 : b.length = c.length) : sum (List.zipWith (· ^^^ ·) (List.zipWith (· ^^^ ·) a b) c) = sum a ^^^ sum b ^^^ sum c := by
  have e : BitVec.allOnes 32 = (BitVec.allOnes 32 ^^^ BitVec.allOnes 32) ^^^ BitVec.allOnes 32 := by decide
  have n : ∀ x : BitVec 32, ~~~x = x ^^^ BitVec.allOnes 32 := fun x => by rw [BitVec.xor_allOnes]
  unfold sum
  rw [e, fold_xor2 _ _ _ _ (by rw [List.length_zipWith]; omega), fold_xor2 _ _ _ _ h1, ← e, n, n, n, n, xor4 (fold _ a), BitVec.xor_self, BitVec.xor_zero, ← BitVec.xor_assoc]

/-- one bit turned -/
theorem fold_turn (l : List UInt8) (j r : Nat) (hj : j < l.length) (hr : r < 8) (s : BitVec 32) : fold s (l.set j (l[j] ^^^ (1 <<< UInt8.ofNat r))) = fold s l ^^^ halves (8 * (l.length - j) - r) 1#32 := by
  induction l generalizing j s with
  | nil => simp at hj
  | cons b l ih =>
    match j with
    | 0 =>
      show fold (upd s (b ^^^ (1 <<< UInt8.ofNat r))) l = fold (upd s b) l ^^^ _
      have hw : wide (1 <<< UInt8.ofNat r) = 1#32 <<< r := by
        have : ∀ r : Fin 8, wide (1 <<< UInt8.ofNat r.val) = 1#32 <<< r.val := by decide
        exact this ⟨r, hr⟩
      have e : upd s (b ^^^ (1 <<< UInt8.ofNat r)) = upd s b ^^^ halves 8 (1#32 <<< r) := by
        unfold upd
        rw [wide_xor, ← BitVec.xor_assoc, halves_xor, hw]
      rw [e, fold_xor, ← halves_add, List.length_cons, show 8 * (l.length + 1 - 0) = 8 * l.length + 8 from by omega, halves_one r (by omega) _ (by omega)]
    | j + 1 =>
      have hj' : j < l.length := by simpa using hj
      show fold (upd s b) (l.set j (l[j] ^^^ _)) = fold (upd s b) l ^^^ _
      rw [ih j hj', List.length_cons, show l.length + 1 - (j + 1) = l.length - j from by omega]

/-- the first k of the 32 bits turned, from a place on -/
def mash (l : List UInt8) (bit : Nat) (by_ : BitVec 32) : Nat → List UInt8
  | 0 => l
  | k + 1 => if by_.getLsbD k then (mash l bit by_ k).set ((bit + k) / 8) ((mash l bit by_ k).getD ((bit + k) / 8) 0 ^^^ (1 <<< UInt8.ofNat ((bit + k) % 8))) else mash l bit by_ k
theorem mash_length (l : List UInt8) (bit : Nat) (by_ : BitVec 32) : ∀ k, (mash l bit by_ k).length = l.length
  | 0 => rfl
  | k + 1 => by
    unfold mash
    split
    · rw [List.length_set, mash_length l bit by_ k]
    · exact mash_length l bit by_ k
theorem low_more (a : BitVec 32) (k : Nat) (hk : k < 32) : BitVec.ofNat 32 (a.toNat % 2 ^ (k + 1)) = BitVec.ofNat 32 (a.toNat % 2 ^ k) ^^^ (if a.getLsbD k then 1#32 <<< k else 0#32) := by
  refine BitVec.eq_of_getLsbD_eq fun i hi => ?_
  rw [BitVec.getLsbD_xor, BitVec.getLsbD_ofNat, BitVec.getLsbD_ofNat, Nat.testBit_mod_two_pow, Nat.testBit_mod_two_pow]
  by_cases h : i = k
  · subst h
    cases hb : a.getLsbD i
    · have : a.toNat.testBit i = false := hb
      simp [this]
    · have : a.toNat.testBit i = true := hb
      simp [this, hi]
  · have e : (if a.getLsbD k then 1#32 <<< k else 0#32).getLsbD i = false := by
      split
      · rw [BitVec.getLsbD_shiftLeft]
        by_cases h1 : i < k
        · simp [h1]
        · have : ¬ i - k = 0 := by omega
          simp [this]
      · simp
    rw [e]
    by_cases h1 : i < k
    · simp [hi, h1, show i < k + 1 from by omega]
    · simp [h1, show ¬ i < k + 1 from by omega]
theorem fold_mash (l : List UInt8) (bit : Nat) (by_ : BitVec 32) (s : BitVec 32) (h : bit + 32 ≤ 8 * l.length) : ∀ k, k ≤ 32 → fold s (mash l bit by_ k) = fold s l ^^^ halves (8 * l.length - bit) (BitVec.ofNat 32 (by_.toNat % 2 ^ k))
  | 0, _ => by
    rw [Nat.pow_zero, Nat.mod_one, mash]
    show _ = _ ^^^ halves _ 0#32
    rw [halves_zero, BitVec.xor_zero]
  | k + 1, hk => by
    have ih := fold_mash l bit by_ s h k (by omega)
    rw [low_more by_ k (by omega), mash]
    cases hb : by_.getLsbD k
    · simp only [Bool.false_eq_true, if_false]
      rw [ih, BitVec.xor_zero]
    · simp only [if_true]
      have hlen := mash_length l bit by_ k
      have hj : (bit + k) / 8 < (mash l bit by_ k).length := by omega
      rw [List.getD_eq_getElem?_getD, List.getElem?_eq_getElem hj, Option.getD_some, fold_turn _ _ _ hj (by omega), ih, hlen, halves_xor, halves_one k (by omega) _ (by omega), BitVec.xor_assoc]
      congr 3
      omega
/-- CrcTurned -/
theorem sum_turned (l : List UInt8) (bit : Nat) (by_ : BitVec 32) (h : bit + 32 ≤ 8 * l.length) (h0 : by_ ≠ 0#32) : sum (mash l bit by_ 32) ≠ sum l := by
  intro he
  unfold sum at he
  have he' : fold (BitVec.allOnes 32) (mash l bit by_ 32) = fold (BitVec.allOnes 32) l := by
    have := congrArg (~~~ ·) he
    simpa using this
  rw [fold_mash l bit by_ _ h 32 (by omega)] at he'
  have e : BitVec.ofNat 32 (by_.toNat % 2 ^ 32) = by_ := by
    apply BitVec.eq_of_toNat_eq
    rw [BitVec.toNat_ofNat]
    have := by_.isLt
    omega
  rw [e] at he'
  have hz : halves (8 * l.length - bit) by_ = 0#32 := by
    have := congrArg (fold (BitVec.allOnes 32) l ^^^ ·) he'
    simp only [← BitVec.xor_assoc, BitVec.xor_self, BitVec.zero_xor] at this
    exact this
  exact h0 (halves_eq_zero _ hz)

/-- a table's way -/
theorem upd_table (s : BitVec 32) (b : UInt8) : upd s b = halves 8 (BitVec.ofNat 32 ((s ^^^ wide b).toNat % 256)) ^^^ (s >>> 8) := by
  unfold upd
  rw [halves_split 8 (by omega)]
  congr 1
  refine BitVec.eq_of_getLsbD_eq fun i hi => ?_
  rw [BitVec.getLsbD_ushiftRight, BitVec.getLsbD_ushiftRight, BitVec.getLsbD_xor]
  have : (wide b).getLsbD (8 + i) = false := by
    unfold wide
    rw [BitVec.getLsbD_ofNat]
    have hb : b.toNat < 2 ^ (8 + i) := Nat.lt_of_lt_of_le b.toNat_lt (Nat.pow_le_pow_right (by omega) (by omega))
    rw [Nat.testBit_lt_two_pow hb]
    simp
  rw [this, Bool.xor_false]

/-- the bytes of 32 bits, the lowest first -/
def byteAt (w : BitVec 32) (k : Nat) : UInt8 := UInt8.ofNat ((w.toNat >>> (8 * k)) % 256)
theorem wide_byteAt (w : BitVec 32) (k : Nat) : wide (byteAt w k) = BitVec.ofNat 32 ((w >>> (8 * k)).toNat % 2 ^ 8) := by
  unfold wide byteAt
  rw [BitVec.toNat_ushiftRight]
  congr 1
  rw [UInt8.toNat_ofNat']
  omega
theorem fold_own (w : BitVec 32) (s : BitVec 32) : ∀ k, fold s ((List.range k).map (byteAt w)) = halves (8 * k) (s ^^^ w) ^^^ (w >>> (8 * k))
  | 0 => by
    show s = (s ^^^ w) ^^^ (w >>> 0)
    rw [BitVec.ushiftRight_zero, BitVec.xor_assoc, BitVec.xor_self, BitVec.xor_zero]
  | k + 1 => by
    have ih := fold_own w s k
    rw [List.range_succ, List.map_append, List.map_singleton]
    have e : fold s ((List.range k).map (byteAt w) ++ [byteAt w k]) = upd (fold s ((List.range k).map (byteAt w))) (byteAt w k) := by
      unfold fold
      rw [List.foldl_append]
      rfl
    rw [e, ih, upd, wide_byteAt, BitVec.xor_assoc, halves_xor, ← halves_add, show 8 + 8 * k = 8 * (k + 1) from by omega]
    congr 1
    rw [halves_xor, halves_split 8 (by omega) (w >>> (8 * k)), BitVec.xor_comm, ← BitVec.xor_assoc, BitVec.xor_self, BitVec.zero_xor, ← BitVec.shiftRight_add]
    rfl
/-- CrcRest -/
theorem sum_rest (l : List UInt8) : sum (l ++ [byteAt (sum l) 0, byteAt (sum l) 1, byteAt (sum l) 2, byteAt (sum l) 3]) = 0x2144df1c#32 := by
  have h := fold_own (sum l) (fold (BitVec.allOnes 32) l) 4
  have e : fold (BitVec.allOnes 32) (l ++ [byteAt (sum l) 0, byteAt (sum l) 1, byteAt (sum l) 2, byteAt (sum l) 3]) = fold (fold (BitVec.allOnes 32) l) ((List.range 4).map (byteAt (sum l))) := by
    unfold fold
    rw [List.foldl_append]
    rfl
  rw [sum, e, h]
  have hx : fold (BitVec.allOnes 32) l ^^^ sum l = BitVec.allOnes 32 := by
    unfold sum
    rw [← BitVec.xor_allOnes, ← BitVec.xor_assoc, BitVec.xor_self, BitVec.zero_xor]
  have hz : sum l >>> (8 * 4) = 0#32 := by
    apply BitVec.eq_of_toNat_eq
    rw [BitVec.toNat_ushiftRight, Nat.shiftRight_eq_div_pow]
    have := (sum l).isLt
    show (sum l).toNat / 2 ^ 32 = 0
    omega
  rw [hx, hz, BitVec.xor_zero]
  decide +kernel

theorem forms : sum [0] = 0xd202ef8d#32 ∧ sum [97] = 0xe8b7be43#32 ∧ sum [97, 98, 99] = 0x352441c2#32 ∧ sum [0, 0, 0, 0] = 0x2144df1c#32 ∧ sum [255, 255, 255, 255] = 0xffffffff#32 ∧ sum [49, 50, 51, 52, 53, 54, 55, 56, 57] = 0xcbf43926#32 ∧ sum [] = 0#32 := by decide +kernel

end Go.Proofs.YtkcfieoflkhdpaaDoor.CrcMath
