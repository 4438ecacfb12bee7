/-
  frame's reader by its contracts: 'number' and 'frame'.
-/
import Derived.Test.YtkcfieoflkhdpaaDoorFrameWords
import Derived.Test.YtkcfieoflkhdpaaDoorCrcSum
import Derived.Test.YtkcfieoflkhdpaaDoorConcat
import Derived.Test.YtkcfieoflkhdpaaDoorBaseW
namespace Go.Proofs.YtkcfieoflkhdpaaDoor
open Go.RowKit CrcMath FrameMath
set_option maxRecDepth 100000

/-- the number whose bytes, the highest first, are these -/
def beVal (l : List UInt8) : Nat := l.foldl (fun v c => v * 256 + c.toNat) 0
theorem beVal_more (l : List UInt8) (b : UInt8) : beVal (l ++ [b]) = beVal l * 256 + b.toNat := by
  unfold beVal
  rw [List.foldl_append]
  rfl
theorem beVal_lt (l : List UInt8) : beVal l < 256 ^ l.length := by
  have h : ∀ (l : List UInt8) (v n : Nat), v < 256 ^ n → l.foldl (fun v c => v * 256 + c.toNat) v < 256 ^ (n + l.length) := by
    intro l
    induction l with
    | nil => intro v n h; simpa using h
    | cons b r ih =>
      intro v n h
      have hb := b.toNat_lt
      have h2 := ih (v * 256 + b.toNat) (n + 1) (by rw [Nat.pow_succ]; omega)
      rw [List.foldl_cons, List.length_cons, Nat.add_comm r.length 1, ← Nat.add_assoc]
      exact h2
  have := h l 0 0 (by simp)
  simpa [beVal] using this
def BeIs (l : List UInt8) (k y : Nat) : Prop := y = beVal (l.take k)
theorem BeIs.more {l : List UInt8} {k y : Nat} {b : UInt8} (h : BeIs l k y) (hb : l[k]? = some b) : BeIs l (k + 1) (y * 256 + b.toNat) := by
  unfold BeIs at h ⊢
  obtain ⟨hk, rfl⟩ := List.getElem?_eq_some_iff.1 hb
  rw [List.take_succ_eq_append_getElem hk, beVal_more, h]
theorem BeIs.lt {l : List UInt8} {k y : Nat} (h : BeIs l k y) (hk : k < l.length) (hl : l.length ≤ 4) : (y : Int) < 16777216 := by
  unfold BeIs at h
  have h1 := beVal_lt (l.take k)
  have h2 : (256 : Nat) ^ (l.take k).length ≤ 256 ^ 3 := Nat.pow_le_pow_right (by omega) (by rw [List.length_take]; omega)
  have h3 : (256 : Nat) ^ 3 = 16777216 := by decide
  omega
theorem or_u32 (y b : Nat) (hy : (y : Int) < 16777216) (hb : b < 256) : bits .or .u32 ((y : Int) * 256) (b : Int) = ((y * 256 + b : Nat) : Int) := by
  have h := u32_or_nat (y * 256) b (by omega) (by omega)
  rw [Nat.or_comm, or_above b 8 y hb, Int.natCast_mul] at h
  rw [show y * 256 + b = b + y * 2 ^ 8 from by omega]
  exact h

theorem number_ok (A : Option Addr) (n c : Nat) (l : List UInt8) (hn : n = l.length) (w : World) (hby : By w A c l) (h4 : l.length ≤ 4) :
    Calls Tryd.prog 59 #[.slice A n c] w fun e w' => e = .returned (.int .u32 (beVal l : Nat)) ∧ w' = w := by
  subst hn
  go_enter Tryd.func59, Tryd.ntmps59
  go_wp2_with fail
  go_loop [3, 8] (fun v i => ∃ (k y : Nat), i = .int .i64 k ∧ k ≤ l.length ∧ v = .int .u32 (y : Nat) ∧ Hid (BeIs l k y)) (fun _ i => l.length - (intOf i).toNat)
  case atStart => exact ⟨0, 0, rfl, by omega, rfl, rfl⟩
  case round =>
    obtain ⟨k, y, rfl, hk, rfl, HF⟩ := hrel
    by_cases hlt : k < l.length
    · have hlt' : (k : Int) < (l.length : Int) := by omega
      obtain ⟨ad, hA, hcell⟩ := hby.rd k hlt
      subst hA
      have hg : l[k]? = some l[k] := List.getElem?_eq_getElem hlt
      obtain ⟨b, hbb⟩ : ∃ b, l[k] = b := ⟨_, rfl⟩
      rw [hbb] at hg hcell
      have HM := hide (HF.out.more hg)
      have hy := HF.out.lt hlt h4
      have hbl := b.toNat_lt
      have hor := or_u32 y b.toNat hy (by omega)
      clear hg hbb
      unfold bv at hcell
      go_wp2_with fail
      go_round
      case rel => exact ⟨k + 1, _, by go_num, by omega, by first | rfl | (rw [hor]), HM⟩
      case measure => simp [intOf]; omega
    · have e : k = l.length := by omega
      subst e
      go_wp2_with fail
      go_ret
      refine ⟨?_, rfl⟩
      have h := HF.out
      unfold BeIs at h
      rw [List.take_length] at h
      rw [← h]
      rfl

end Go.Proofs.YtkcfieoflkhdpaaDoor
