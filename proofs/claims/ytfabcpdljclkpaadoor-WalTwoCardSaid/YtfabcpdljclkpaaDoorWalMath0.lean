/-
  The names of pieces: a letter and four digits. No program.
-/
import Derived.Test.YtfabcpdljclkpaaDoorDiskMem
import Derived.Lib.ItoaNum
import Derived.Lib.ItoaMem
namespace Go.Proofs.YtfabcpdljclkpaaDoor.WalMath
open Go Go.RowKit MapS DiskMem

/-- one digit -/
def dgt (n : Nat) : UInt8 := UInt8.ofNat (48 + n % 10)
/-- the name of a piece -/
def pieceL (b : UInt8) (i : Nat) : List UInt8 := [b, dgt (i / 1000), dgt (i / 100), dgt (i / 10), dgt i]
def pname (b : UInt8) (i : Nat) : ByteArray := ⟨(pieceL b i).toArray⟩
theorem pname_list (b : UInt8) (i : Nat) : (pname b i).data.toList = pieceL b i := rfl
theorem pname_size (b : UInt8) (i : Nat) : (pname b i).size = 5 := rfl

theorem dec5 {i : Nat} (h : i ≤ 9999) : Lib.decDigits (10000 + i) = [49, dgt (i / 1000), dgt (i / 100), dgt (i / 10), dgt i] := by
  have e1 : ∀ u, ¬ u < 10 → Lib.decDigits u = Lib.decDigits (u / 10) ++ [UInt8.ofNat (48 + u % 10)] := fun u hu => by rw [Lib.decDigits, dif_neg hu]
  rw [e1 _ (by omega), e1 ((10000 + i) / 10) (by omega), e1 ((10000 + i) / 10 / 10) (by omega), e1 ((10000 + i) / 10 / 10 / 10) (by omega), Lib.decDigits, dif_pos (by omega)]
  unfold dgt
  simp only [List.cons_append, List.nil_append]
  rw [show (10000 + i) / 10 / 10 / 10 / 10 = 1 by omega, show (10000 + i) / 10 / 10 / 10 % 10 = i / 1000 % 10 by omega, show (10000 + i) / 10 / 10 % 10 = i / 100 % 10 by omega, show (10000 + i) / 10 % 10 = i / 10 % 10 by omega, show (10000 + i) % 10 = i % 10 by omega]
  rfl
theorem itoa5 {i : Nat} (h : i ≤ 9999) : Lib.itoa ((10000 : Int) + (i : Int)) = [49, dgt (i / 1000), dgt (i / 100), dgt (i / 10), dgt i] := by
  rw [show ((10000 : Int) + (i : Int)) = ((10000 + i : Nat) : Int) by omega, Lib.itoa_nonneg, dec5 h]

theorem dgt_toNat (n : Nat) : (dgt n).toNat = 48 + n % 10 := by
  unfold dgt
  rw [UInt8.toNat_ofNat']
  omega
theorem pieceL_inj {a b : UInt8} {i j : Nat} (hi : i ≤ 9999) (hj : j ≤ 9999) (h : pieceL a i = pieceL b j) : a = b ∧ i = j := by
  unfold pieceL at h
  injection h with h0 h
  injection h with h1 h
  injection h with h2 h
  injection h with h3 h
  injection h with h4 h
  have k1 := congrArg UInt8.toNat h1
  have k2 := congrArg UInt8.toNat h2
  have k3 := congrArg UInt8.toNat h3
  have k4 := congrArg UInt8.toNat h4
  rw [dgt_toNat, dgt_toNat] at k1 k2 k3 k4
  exact ⟨h0, by omega⟩
theorem pieceL_ok {b : UInt8} (h : 97 ≤ b.toNat ∧ b.toNat ≤ 122) (i : Nat) : okName (pieceL b i) := by
  refine ⟨by simp [pieceL], by simp [pieceL], fun c hc => ?_⟩
  simp only [pieceL, List.mem_cons, List.not_mem_nil, or_false] at hc
  rcases hc with rfl | rfl | rfl | rfl | rfl
  · omega
  all_goals (rw [dgt_toNat]; omega)

/-- what a letter's rune is as a text -/
theorem rune_text {b : UInt8} (h : 97 ≤ b.toNat ∧ b.toNat ≤ 122) : Utf8.encode ((b.toNat : Nat) : Int) = ⟨#[b]⟩ := by
  obtain ⟨n, hn⟩ : ∃ n, b.toNat = n := ⟨_, rfl⟩
  have hb : b = UInt8.ofNat n := by rw [← hn]; simp
  rw [hn] at h ⊢
  rw [hb]
  obtain ⟨h1, h2⟩ := h
  have key : ∀ m : Fin 26, Utf8.encode (((m.val + 97 : Nat)) : Int) = ⟨#[UInt8.ofNat (m.val + 97)]⟩ := by decide +kernel
  have := key ⟨n - 97, by omega⟩
  rwa [show n - 97 + 97 = n by omega] at this

end Go.Proofs.YtfabcpdljclkpaaDoor.WalMath
