/-
  The walk of 'CrcRest'.
-/
import Derived.Test.YteondijecaljlaaCrcBegun
import Derived.Test.YteondijecaljlaaLent
namespace Go.Proofs.Yteondijecaljlaa
open Go.RowKit CrcMath

theorem sum_tail (l : List UInt8) : wv (sum (l ++ [byteAt (sum l) 0, byteAt (sum l) 1, byteAt (sum l) 2, byteAt (sum l) 3])) = .int .u32 558161692 := by rw [sum_rest]; rfl

theorem byteAt_int (s : BitVec 32) (k : Nat) : ((byteAt s k).toNat : Int) = (s.toNat : Int) / (2 ^ (8 * k) : Nat) % (256 : Int) := by
  unfold byteAt
  rw [UInt8.toNat_ofNat', Nat.shiftRight_eq_div_pow]
  omega
theorem rd_tail (w : World) (e : TypeId) (s : BitVec 32) : Rd (w.alloc (.cells #[.int .u8 ((s.toNat : Int) % 256), .int .u8 ((s.toNat : Int) / 256 % 256), .int .u8 ((s.toNat : Int) / 65536 % 256), .int .u8 ((s.toNat : Int) / 16777216)] e)) (some ⟨w.heap.size, 0, none⟩) [byteAt s 0, byteAt s 1, byteAt s 2, byteAt s 3] := by
  have h := (by_new w e [byteAt s 0, byteAt s 1, byteAt s 2, byteAt s 3] (show (4 : Nat) ≤ maxLen by decide)).rd
  have h0 : ((byteAt s 0).toNat : Int) = (s.toNat : Int) % 256 := by rw [byteAt_int]; simp
  have h1 : ((byteAt s 1).toNat : Int) = (s.toNat : Int) / 256 % 256 := by rw [byteAt_int]; rfl
  have h2 : ((byteAt s 2).toNat : Int) = (s.toNat : Int) / 65536 % 256 := by rw [byteAt_int]; rfl
  have h3 : ((byteAt s 3).toNat : Int) = (s.toNat : Int) / 16777216 := by
    rw [byteAt_int]
    show (s.toNat : Int) / 16777216 % 256 = _
    have := s.isLt
    omega
  have e : (bvs [byteAt s 0, byteAt s 1, byteAt s 2, byteAt s 3]).toArray = #[.int .u8 ((s.toNat : Int) % 256), .int .u8 ((s.toNat : Int) / 256 % 256), .int .u8 ((s.toNat : Int) / 65536 % 256), .int .u8 ((s.toNat : Int) / 16777216)] := by
    simp [bvs, bv, h0, h1, h2, h3]
  rw [e] at h
  exact h

def YesRest (w : World) (e : Ending) (w' : World) : Prop := e = .returned (.bool true) ∧ Gr w w'

set_option maxRecDepth 100000 in
set_option maxHeartbeats 400000 in
theorem walk_CrcRest (w : World) (A : Option Addr) (n c : Nat) (l : List UInt8) (hn : n = l.length) (hby : By w A c l) :
    Calls Try.prog 7 #[.slice A n c] w (YesRest w) := by
  subst hn
  obtain ⟨i0, hi, hz0, hz1, hz2⟩ := info_parts info_u8'
  by_cases h1 : (300 : Int) < (l.length : Int)
  · have d1 : decide ((300 : Int) < (l.length : Int)) = true := by rw [decide_eq_true_eq]; exact h1
    clear h1
    go_enter Try.func7, Try.ntmps7
    go_wp2_with fail
    refine (begun_ok _).mono ?_
    rintro e w1 ⟨rfl, hg1⟩
    go_wp2_with fail
    go_ret
    exact ⟨rfl, hg1⟩
  · have d1 : decide ((300 : Int) < (l.length : Int)) = false := by rw [decide_eq_false_iff_not]; exact h1
    go_enter Try.func7, Try.ntmps7
    go_wp2_with fail
    refine (begun_ok _).mono ?_
    rintro e w1 ⟨rfl, hg1⟩
    go_wp2_with fail
    refine (Sum_ok A _ c l rfl _ (hby.gr hg1) (by omega)).mono ?_
    rintro e w2 ⟨rfl, hg2⟩
    have hb2 := (hby.gr hg1).gr hg2
    have hl := sum_tail l
    obtain ⟨s, hs⟩ : ∃ s, sum l = s := ⟨_, rfl⟩
    rw [hs] at hl ⊢
    unfold wv
    have HL := hide hl
    clear hl hs
    go_wp2_with (at_builtin; first | (refine wpList_app rfl (.tmp 12) (.tmp 13) _ rfl 5 i0 Try.underlying22 hi hz0 hz1 hz2 (r := l) rfl rfl (own_empty w2 5 (Gr.refl w2)) ((Gr.refl w2).alloc _) rfl (hb2.gr ((Gr.refl w2).alloc _)).rd hb2.nil (by simp; omega) ?_; intro v3 w3 ho3 hg3) | (refine wpList_app rfl (.tmp 14) (.tmp 26) _ rfl 5 i0 Try.underlying22 hi hz0 hz1 hz2 (r := [byteAt s 0, byteAt s 1, byteAt s 2, byteAt s 3]) rfl rfl (ho3.alloc _) (hg3.alloc _) rfl (rd_tail _ _ _) (fun h => by cases h) (by simp; omega) ?_; intro v4 w4 ho4 hg4))
    obtain ⟨A4, c4, rfl, hb4⟩ := ho4.by_
    have hgw : Gr w w4 := hg1.trans (hg2.trans hg4)
    refine (Sum_ok A4 _ c4 _ rfl _ hb4 (by simp; omega)).mono ?_
    rintro e w5 ⟨rfl, hg5⟩
    rw [show ([] ++ l ++ [byteAt s 0, byteAt s 1, byteAt s 2, byteAt s 3]) = l ++ [byteAt s 0, byteAt s 1, byteAt s 2, byteAt s 3] from by simp, HL.out]
    clear hb4 ho4 hg4 HL
    go_wp2_with fail
    go_ret
    exact ⟨rfl, hgw.trans hg5⟩

end Go.Proofs.Yteondijecaljlaa
