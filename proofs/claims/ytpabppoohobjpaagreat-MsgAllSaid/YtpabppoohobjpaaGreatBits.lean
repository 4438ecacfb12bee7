/-
  Bit operations on ints that are not below 0. No program.
-/
import Derived.WalkKit
namespace Go.Proofs.YtpabppoohobjpaaGreat
open Go.RowKit

theorem ofInt64 (a : Nat) (ha : (a : Int) ≤ 9223372036854775807) : (BitVec.ofInt 64 (a : Int)).toNat = a := by
  rw [BitVec.ofInt_natCast, BitVec.toNat_ofNat]
  exact Nat.mod_eq_of_lt (by omega)
theorem and_i64 (a b : Nat) (ha : (a : Int) ≤ 9223372036854775807) (hb : (b : Int) ≤ 9223372036854775807) : bits .and .i64 (a : Int) (b : Int) = ((a &&& b : Nat) : Int) := by
  have hx : a &&& b < 2 ^ 63 := Nat.and_lt_two_pow _ (by omega)
  show IntKind.i64.wrap ((BitVec.ofInt 64 (a : Int) &&& BitVec.ofInt 64 (b : Int)).toNat : Int) = _
  rw [BitVec.toNat_and, ofInt64 a ha, ofInt64 b hb, IntKind.wrap_i64]
  omega
theorem or_i64 (a b : Nat) (ha : (a : Int) ≤ 9223372036854775807) (hb : (b : Int) ≤ 9223372036854775807) : bits .or .i64 (a : Int) (b : Int) = ((a ||| b : Nat) : Int) := by
  have hx : a ||| b < 2 ^ 63 := Nat.or_lt_two_pow (by omega) (by omega)
  show IntKind.i64.wrap ((BitVec.ofInt 64 (a : Int) ||| BitVec.ofInt 64 (b : Int)).toNat : Int) = _
  rw [BitVec.toNat_or, ofInt64 a ha, ofInt64 b hb, IntKind.wrap_i64]
  omega
/-- the low seven bits -/
theorem low7_i64 (m : Nat) (hm : (m : Int) ≤ 9223372036854775807) : bits .and .i64 (m : Int) 127 = ((m % 128 : Nat) : Int) := by
  have h := and_i64 m 127 hm (by omega)
  rw [show m &&& 127 = m % 128 from Nat.and_two_pow_sub_one_eq_mod m 7] at h
  exact h
theorem low7_u8 (m : Nat) (hm : m < 256) : bits .and .u8 (m : Int) 127 = ((m % 128 : Nat) : Int) := by
  have h := u8_and_nat m 127 hm (by omega)
  rw [show m &&& 127 = m % 128 from Nat.and_two_pow_sub_one_eq_mod m 7] at h
  exact h
/-- a set bit above -/
theorem or_above (m k n : Nat) (hm : m < 2 ^ k) : m ||| (n * 2 ^ k) = m + n * 2 ^ k := by
  have h := Nat.two_pow_add_eq_or_of_lt hm n
  rw [Nat.or_comm, Nat.mul_comm n, ← h, Nat.add_comm]

theorem pow7 (k : Nat) : 2 ^ (7 * k) = 128 ^ k := by rw [Nat.pow_mul]
/-- one group of seven bits more: 'v |= int(c&127) << (7*k)' -/
theorem group_more (x k b : Nat) (hx : x < 128 ^ k) (hk : k < 9) (hb : b < 256) :
    bits .or .i64 (x : Int) (wrap64 (wrap64 (bits .and .u8 (b : Int) 127) * 2 ^ (7 * k))) = ((x + b % 128 * 128 ^ k : Nat) : Int) := by
  have h9 : 128 ^ (k + 1) ≤ 128 ^ 9 := Nat.pow_le_pow_right (by omega) (by omega)
  have e9 : (128 ^ 9 : Nat) = 9223372036854775808 := by decide
  have hm : b % 128 * 128 ^ k ≤ 127 * 128 ^ k := Nat.mul_le_mul_right _ (by omega)
  rw [Nat.pow_succ] at h9
  have hb1 : b % 128 < 128 := Nat.mod_lt _ (by omega)
  rw [low7_u8 b hb, IntWalk.wrap64_in ((b % 128 : Nat) : Int) ⟨by omega, by omega⟩]
  have e : ((b % 128 : Nat) : Int) * 2 ^ (7 * k) = ((b % 128 * 128 ^ k : Nat) : Int) := by
    rw [Int.natCast_mul, ← pow7]
    simp
  rw [e, IntWalk.wrap64_in _ ⟨by omega, by omega⟩, or_i64 x _ (by omega) (by omega), ← pow7, or_above x (7 * k) _ (by rw [pow7]; exact hx)]
theorem bit7 (b : Nat) (hb : b < 256) : bits .and .u8 (b : Int) 128 = (((b / 128) * 128 : Nat) : Int) := by
  have h := u8_and_nat b 128 hb (by omega)
  have e : b &&& 128 = b / 128 * 128 := by
    have : ∀ n : Fin 256, n.val &&& 128 = n.val / 128 * 128 := by decide +kernel
    exact this ⟨b, hb⟩
  rw [e] at h
  exact h
theorem bit7_no (b : Nat) (hb : b < 128) : (bits .and .u8 (b : Int) 128 == 0) = true := by
  rw [bit7 b (by omega), beq_iff_eq]; omega
theorem bit7_yes (b : Nat) (hb : b < 256) (h : 128 ≤ b) : (bits .and .u8 (b : Int) 128 == 0) = false := by
  rw [bit7 b hb, beq_eq_false_iff_ne]; omega

end Go.Proofs.YtpabppoohobjpaaGreat
