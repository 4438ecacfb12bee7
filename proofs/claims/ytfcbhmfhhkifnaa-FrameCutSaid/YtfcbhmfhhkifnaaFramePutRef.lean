/-
  The document's PutFrame by its contract.
-/
import Derived.Test.YtfcbhmfhhkifnaaFrameHigh
import Derived.Test.YtfcbhmfhhkifnaaCrcRef
namespace Go.Proofs.Ytfcbhmfhhkifnaa
open Go.RowKit CrcMath FrameMath

theorem head_length (l : List UInt8) : (head l).length = 2 := rfl
theorem be4_length (s : BitVec 32) : (be4 s).length = 4 := rfl

set_option maxRecDepth 100000 in
set_option maxHeartbeats 400000 in
theorem RefPut_ok (A : Option Addr) (n c : Nat) (l : List UInt8) (hn : n = l.length) (w : World) (hby : By w A c l) (hmax : (l.length : Int) ≤ 140737488351232) :
    Calls Try.prog 11 #[.slice A n c] w (PutPost w l) := by
  subst hn
  obtain ⟨i0, hi, hz0, hz1, hz2⟩ := info_parts info_u8'
  by_cases h1 : (60000 : Int) < (l.length : Int)
  · have d1 : decide ((60000 : Int) < (l.length : Int)) = true := by rw [decide_eq_true_eq]; exact h1
    obtain ⟨p1, p2⟩ := putL_no (l := l) (by omega)
    unfold PutPost
    rw [p1, p2]
    go_enter Try.func11, Try.ntmps11
    go_wp2_with fail
    go_ret2
    exact ⟨_, 5, rfl, OwnE.none_ _ _, Gr.refl _⟩
  · have d1 : decide ((60000 : Int) < (l.length : Int)) = false := by rw [decide_eq_false_iff_not]; exact h1
    have hle : l.length ≤ 60000 := by omega
    go_enter Try.func11, Try.ntmps11
    go_wp2_with fail
    refine (high_ok l.length 2 (by omega) (by omega) (by omega) w).mono ?_
    rintro e w1 ⟨x1, rfl, ho1, hg1⟩
    rw [high_head l hle] at ho1
    obtain ⟨A1, c1, rfl, hb1⟩ := ho1.by_
    rw [head_length] at ho1 ⊢
    go_wp2_with (at_builtin; first | (refine wpList_app rfl (.tmp 13) (.tmp 14) _ rfl 5 i0 Try.underlying22 hi hz0 hz1 hz2 (r := head l) rfl rfl (own_empty w1 5 (Gr.refl w1)) ((Gr.refl w1).alloc _) rfl (hb1.gr ((Gr.refl w1).alloc _)).rd hb1.nil (by rw [head_length]; simp) ?_; intro v3 w3 ho3 hg3) | (refine wpList_app rfl (.tmp 15) (.tmp 16) _ rfl 5 i0 Try.underlying22 hi hz0 hz1 hz2 (r := l) rfl rfl ho3 hg3 rfl (hby.gr (hg1.trans hg3)).rd hby.nil (by simp [head_length]; omega) ?_; intro v4 w4 ho4 hg4))
    obtain ⟨A4, c4, rfl, hb4⟩ := ho4.by_
    rw [List.nil_append] at hb4 ⊢
    refine (RefSum_ok A4 _ c4 _ rfl _ hb4 (by rw [List.length_append, head_length]; omega)).mono ?_
    rintro e w5 ⟨rfl, rfl⟩
    clear hb4 ho4 ho3 hg3
    obtain ⟨s, hs⟩ : ∃ s, sum (head l ++ l) = s := ⟨_, rfl⟩
    have henc : enc l = head l ++ be4 s ++ l := by unfold enc; rw [hs]
    rw [hs]
    have hsl := s.isLt
    unfold wv
    go_wp2_with fail
    refine (high_ok s.toNat 4 (by omega) (by omega) (by omega) _).mono ?_
    rintro e w6 ⟨x6, rfl, ho6, hg6⟩
    rw [high_be4] at ho6
    obtain ⟨A6, c6, rfl, hb6⟩ := ho6.by_
    rw [be4_length]
    have hgw : Gr w w6 := hg1.trans (hg4.trans hg6)
    have hox : OwnE 5 w6 w.heap.size (.slice A1 2 c1) (head l) := ho1.gr (hg4.trans hg6)
    clear ho6 ho1 hb1 hg1 hg4 hg6 hs
    go_wp2_with (at_builtin; first | (refine wpList_app rfl (.tmp 21) (.tmp 22) _ rfl 5 i0 Try.underlying22 hi hz0 hz1 hz2 (r := be4 s) rfl rfl hox hgw rfl hb6.rd hb6.nil (by simp [head_length, be4_length]) ?_; intro v7 w7 ho7 hg7) | (refine wpList_app rfl (.tmp 23) (.tmp 24) _ rfl 5 i0 Try.underlying22 hi hz0 hz1 hz2 (r := l) rfl rfl ho7 hg7 rfl (hby.gr hg7).rd hby.nil (by simp [head_length, be4_length]; omega) ?_; intro v8 w8 ho8 hg8))
    go_ret2
    obtain ⟨p1, p2⟩ := putL_yes hle
    exact ⟨v8, 5, by rw [p2]; rfl, by rw [p1, henc]; exact ho8, hg8⟩

end Go.Proofs.Ytfcbhmfhhkifnaa
