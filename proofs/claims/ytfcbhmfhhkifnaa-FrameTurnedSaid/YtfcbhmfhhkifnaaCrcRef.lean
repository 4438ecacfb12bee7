/-
  The document's Sum by its contract.
-/
import Derived.Test.YtfcbhmfhhkifnaaCrcBits
import Derived.Test.YtfcbhmfhhkifnaaProg
namespace Go.Proofs.Ytfcbhmfhhkifnaa
open Go.RowKit CrcMath

theorem size_u8 : ∀ w, (sizeOf (Try.prog.elem 22)).run Try.prog w = .ok 1 w := fun w => by kernel_rfl

set_option maxRecDepth 100000 in
set_option maxHeartbeats 400000 in
theorem RefSum_ok (A : Option Addr) (n c : Nat) (l : List UInt8) (hn : n = l.length) (w : World) (hby : By w A c l) (hmax : (l.length : Int) ≤ 140737488351232) :
    Calls Try.prog 20 #[.slice A n c] w fun e w' => e = .returned (wv (sum l)) ∧ w' = w := by
  subst hn
  go_enter Try.func20, Try.ntmps20
  go_wp2_with fail
  go_loop [3, 4] (fun c i => ∃ (k : Nat) (s : BitVec 32), i = .int .i64 k ∧ k ≤ l.length ∧ c = wv s ∧ FoldIs l k s) (fun _ i => l.length - (intOf i).toNat)
  case atStart => exact ⟨0, _, rfl, by omega, rfl, FoldIs.nil l⟩
  case round =>
    obtain ⟨k, s, rfl, hk, rfl, hf⟩ := hrel
    have HF := hide hf
    clear hf
    by_cases hlt : k < l.length
    · have hlt' : (k : Int) < (l.length : Int) := by omega
      obtain ⟨ad, hA, hcell⟩ := hby.rd k hlt
      subst hA
      have hg : l[k]? = some l[k] := List.getElem?_eq_getElem hlt
      obtain ⟨b, hb⟩ : ∃ b, l[k] = b := ⟨_, rfl⟩
      rw [hb] at hg hcell
      unfold bv at hcell
      have HT := hide (HF.out.times hg)
      clear hg hb
      unfold wv
      go_wp2_with fail
      go_loop [3, 5] (fun c i => ∃ (j : Nat) (s : BitVec 32), i = .int .i64 j ∧ j ≤ 8 ∧ c = .int .u32 (s.toNat : Int) ∧ Hid (TimesIs l k j s)) (fun _ i => 8 - (intOf i).toNat)
      case atStart => exact ⟨0, _, rfl, by omega, by rw [byte_mod, xor_byte], HT⟩
      case round =>
        clear HF HT hcell
        obtain ⟨j, s, rfl, hj, rfl, HT⟩ := hrel
        by_cases hlt2 : j < 8
        · have hlt2' : (j : Int) < 8 := by omega
          have HM := hide HT.out.more
          by_cases hb0 : (s.toNat : Int) % 2 = 0
          · rw [half_low hb0] at HM
            go_wp2_with fail
            go_round
            case rel => exact ⟨j + 1, _, by go_num, by omega, by rw [half_w], HM⟩
            case measure => simp [intOf]; omega
          · rw [half_odd hb0] at HM
            have hb1 : (s.toNat : Int) % 2 = 1 := by omega
            go_wp2_with fail
            go_round
            case rel => exact ⟨j + 1, _, by go_num, by omega, by rw [xor_poly], HM⟩
            case measure => simp [intOf]; omega
        · have e : j = 8 := by omega
          subst e
          have HF := hide HT.out.fold
          clear HT
          go_wp2_with fail
          go_round
          case rel => exact ⟨k + 1, s, by go_num, by omega, rfl, HF.out⟩
          case measure => simp [intOf]; omega
    · have e : k = l.length := by omega
      subst e
      unfold wv
      go_wp2_with fail
      go_ret
      exact ⟨by rw [xor_ones, HF.out.sum]; rfl, rfl⟩

end Go.Proofs.Ytfcbhmfhhkifnaa
