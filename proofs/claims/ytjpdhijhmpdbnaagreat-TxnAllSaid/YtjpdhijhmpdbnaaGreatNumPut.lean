/-
  The document's PutNum by its contract.
-/
import Derived.Test.YtjpdhijhmpdbnaaGreatNumPutOwn
namespace Go.Proofs.YtjpdhijhmpdbnaaGreat
open Go.RowKit NumPlain
set_option maxRecDepth 100000

theorem hi_byte_ref (m : Nat) : Hid ((m : Int) % 128 + 128 = ((hiB m).toNat : Int)) := by
  show _ = _
  rw [hiB, u8_small _ (by omega)]
  omega

set_option maxHeartbeats 400000 in
theorem putNum_any (n : Nat) (hn : (n : Int) ≤ 9223372036854775807) (w : World) :
    Calls Tryz.prog 34 #[.int .i64 n] w fun e w' => ∃ v, e = .returned v ∧ Own w' w.heap.size v (putN n) ∧ Gr w w' := by
  obtain ⟨i0, hi, hz0, hz1, hz2⟩ := info_parts info_u8
  go_enter Tryz.func34, Tryz.ntmps34
  go_wp2_with fail
  go_loopw [0, 3] (fun x v wr => ∃ (m : Nat) (pre : List UInt8), x = .int .i64 m ∧ (m : Int) ≤ 9223372036854775807 ∧ PutInv n m pre ∧ Own wr w.heap.size v pre ∧ Gr w wr) (fun x _ _ => (intOf x).toNat)
  case atStart => exact ⟨n, [], rfl, hn, rfl, OwnE.none_ _ _, Gr.refl w⟩
  case round =>
    obtain ⟨m, pre, rfl, hm, hinv, hown, hgr⟩ := hrel
    have hl9 := put_inv_len hm hn hinv
    by_cases hlt : 128 ≤ (m : Int)
    · go_wp2_with (at_builtin; go_must (refine wpList_push rfl (.tmp 8) (.tmp 13) _ rfl 5 i0 Tryz.underlying22 hi hz0 hz1 hz2 (hi_byte_ref m) rfl hown hgr rfl (by omega) ?_); intro v1 w1 hown1 hgr1)
      go_roundw
      case rel => exact ⟨m / 128, pre ++ [hiB m], by go_num, by omega, put_inv_more hm (by omega) hinv, hown1, hgr1⟩
      case measure => simp [intOf]; omega
    · go_wp2_with (at_builtin; refine wpList_push rfl (.tmp 17) (.tmp 20) _ rfl 5 i0 Tryz.underlying22 hi hz0 hz1 hz2 (lo_byte m (by omega)) rfl hown hgr rfl (by omega) ?_; intro v1 w1 hown1 hgr1)
      go_ret
      exact ⟨_, rfl, by rw [← put_inv_last (by omega) hinv]; exact hown1, hgr1⟩

theorem putNum_neg (n : Int) (hn : n < 0) (w : World) :
    Calls Tryz.prog 34 #[.int .i64 n] w fun e w' => ∃ v, e = .returned v ∧ Own w' w.heap.size v [] ∧ Gr w w' := by
  go_enter Tryz.func34, Tryz.ntmps34
  go_wp2_with fail
  go_ret
  exact ⟨_, rfl, OwnE.none_ _ _, Gr.refl w⟩

theorem PutNum_ok (n : Int) (hn : n ≤ 9223372036854775807) (w : World) :
    Calls Tryz.prog 34 #[.int .i64 n] w fun e w' => ∃ v, e = .returned v ∧ Own w' w.heap.size v (putZ n) ∧ Gr w w' := by
  by_cases h : n < 0
  · have e : putZ n = [] := by simp [putZ, h]
    rw [e]; exact putNum_neg n h w
  · obtain ⟨m, rfl⟩ := Int.eq_ofNat_of_zero_le (show 0 ≤ n by omega)
    rw [show putZ ((m : Nat) : Int) = putN m from putZ_nat m]; exact putNum_any m hn w

end Go.Proofs.YtjpdhijhmpdbnaaGreat

/-
  The document's PutText by its contract.
-/
namespace Go.Proofs.YtjpdhijhmpdbnaaGreat
open Go.RowKit NumPlain
set_option maxRecDepth 100000

set_option maxHeartbeats 400000 in
theorem RefPutText_ok (s : ByteArray) (hs : (s.size : Int) ≤ 9223372036854775807) (w : World) :
    Calls Tryz.prog 35 #[.string s] w fun e w' => ∃ v, e = .returned v ∧ Own w' w.heap.size v (putT s.data.toList) ∧ Gr w w' := by
  obtain ⟨i0, hi, hz0, hz1, hz2⟩ := info_parts info_u8
  have hsz : s.data.toList.length = s.size := by rw [Array.length_toList]; rfl
  by_cases hlt : 255 < (s.size : Int)
  · have e : putT s.data.toList = [] := by unfold putT; rw [if_pos (by omega)]
    rw [e]
    clear e hsz
    go_enter Tryz.func35, Tryz.ntmps35
    go_wp2_with fail
    go_ret
    exact ⟨_, rfl, OwnE.none_ _ _, Gr.refl w⟩
  · have e : putT s.data.toList = putN s.size ++ s.data.toList := by unfold putT; rw [if_neg (by omega), hsz]
    rw [e]
    have hl := putN_len s.size
    clear e hsz
    go_enter Tryz.func35, Tryz.ntmps35
    go_wp2_with fail
    refine (putNum_any s.size (by omega) _).mono ?_
    rintro e w1 ⟨v, rfl, ho, hg⟩
    go_wp2_with (at_builtin; go_must (refine wpList_app_str rfl (.tmp 8) (.tmp 9) _ _ rfl 5 i0 Tryz.underlying22 Tryz.underlying9 hi hz0 hz1 hz2 s rfl ho hg rfl (by omega) ?_); intro v1 w1 hown1 hgr1)
    go_ret
    exact ⟨_, rfl, hown1, hgr1⟩

end Go.Proofs.YtjpdhijhmpdbnaaGreat
