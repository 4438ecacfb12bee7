/-
  The sums' halves as the walks have them: on ints. No program.
-/
import Derived.Test.YtkcfieoflkhdpaaDoorCrcMath
import Derived.Test.YtkcfieoflkhdpaaDoorBaseW
import Derived.Test.YtkcfieoflkhdpaaDoorBits
namespace Go.Proofs.YtkcfieoflkhdpaaDoor
open Go.RowKit CrcMath

/-- 32 bits as a value -/
def wv (s : BitVec 32) : Value := .int .u32 (s.toNat : Int)

theorem xor_w (a b : BitVec 32) : bits .xor .u32 (a.toNat : Int) (b.toNat : Int) = ((a ^^^ b).toNat : Int) := by
  rw [u32_xor_nat _ _ a.isLt b.isLt, BitVec.toNat_xor]
theorem xor_byte (s : BitVec 32) (b : UInt8) : bits .xor .u32 (s.toNat : Int) (b.toNat : Int) = ((s ^^^ wide b).toNat : Int) := by
  rw [u32_xor_nat _ _ s.isLt (Nat.lt_trans b.toNat_lt (by decide)), BitVec.toNat_xor]
  congr 2
  unfold wide
  rw [BitVec.toNat_ofNat, Nat.mod_eq_of_lt (Nat.lt_trans b.toNat_lt (by decide))]
theorem byte_mod (b : UInt8) : (b.toNat : Int) % 4294967296 = (b.toNat : Int) := by have := b.toNat_lt; omega
theorem xor_ones (s : BitVec 32) : bits .xor .u32 (s.toNat : Int) 4294967295 = ((~~~s).toNat : Int) := by
  have h := xor_w s (BitVec.allOnes 32)
  rw [BitVec.xor_allOnes] at h
  exact h
theorem xor_poly (s : BitVec 32) : bits .xor .u32 ((s.toNat : Int) / 2) 3988292384 = (((s >>> 1) ^^^ poly).toNat : Int) := by
  have h := xor_w (s >>> 1) poly
  rw [← h]
  congr 1
theorem half_low {s : BitVec 32} (h : (s.toNat : Int) % 2 = 0) : half s = s >>> 1 := half_even (by
  have e : s.getLsbD 0 = s.toNat.testBit 0 := rfl
  rw [e, Nat.testBit_zero]
  simp
  omega)
theorem half_odd {s : BitVec 32} (h : ¬ (s.toNat : Int) % 2 = 0) : half s = (s >>> 1) ^^^ poly := by
  have e : s.getLsbD 0 = s.toNat.testBit 0 := rfl
  unfold half
  rw [e, Nat.testBit_zero, if_pos (by simp; omega)]
theorem half_w (s : BitVec 32) : (s.toNat : Int) / (2 : Int) = ((s >>> 1).toNat : Int) := by
  rw [BitVec.toNat_ushiftRight, Nat.shiftRight_eq_div_pow]
  omega

/-- what Sum comes to -/
def SumPost (w : World) (l : List UInt8) (e : Ending) (w' : World) : Prop := e = .returned (wv (sum l)) ∧ Gr w w'

/-- the sum behind the first k bytes -/
def FoldIs (l : List UInt8) (k : Nat) (s : BitVec 32) : Prop := s = fold (BitVec.allOnes 32) (l.take k)
/-- behind j of the eight times of a byte -/
def TimesIs (l : List UInt8) (k j : Nat) (s : BitVec 32) : Prop := ∃ (c : BitVec 32) (b : UInt8), FoldIs l k c ∧ l[k]? = some b ∧ s = halves j (c ^^^ wide b)
theorem FoldIs.nil (l : List UInt8) : FoldIs l 0 (BitVec.allOnes 32) := rfl
theorem FoldIs.more {l : List UInt8} {k : Nat} {s : BitVec 32} {b : UInt8} (h : FoldIs l k s) (hb : l[k]? = some b) : FoldIs l (k + 1) (upd s b) := by
  unfold FoldIs at h ⊢
  obtain ⟨hk, rfl⟩ := List.getElem?_eq_some_iff.1 hb
  rw [List.take_succ_eq_append_getElem hk, h]
  unfold fold
  rw [List.foldl_append]
  rfl
theorem FoldIs.times {l : List UInt8} {k : Nat} {s : BitVec 32} {b : UInt8} (h : FoldIs l k s) (hb : l[k]? = some b) : TimesIs l k 0 (s ^^^ wide b) := ⟨s, b, h, hb, rfl⟩
theorem TimesIs.more {l : List UInt8} {k j : Nat} {s : BitVec 32} (h : TimesIs l k j s) : TimesIs l k (j + 1) (half s) := by
  obtain ⟨c, b, h1, h2, rfl⟩ := h
  exact ⟨c, b, h1, h2, rfl⟩
theorem TimesIs.fold {l : List UInt8} {k : Nat} {s : BitVec 32} (h : TimesIs l k 8 s) : FoldIs l (k + 1) s := by
  obtain ⟨c, b, h1, h2, rfl⟩ := h
  exact h1.more h2
theorem FoldIs.sum {l : List UInt8} {s : BitVec 32} (h : FoldIs l l.length s) : ~~~s = sum l := by
  unfold FoldIs at h
  rw [h, List.take_length]
  rfl

end Go.Proofs.YtkcfieoflkhdpaaDoor
