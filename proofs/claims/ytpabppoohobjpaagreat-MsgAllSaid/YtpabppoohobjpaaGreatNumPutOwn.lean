/-
  num.Put by its contract: the bytes of a number, in new memory.
-/
import Derived.Test.YtpabppoohobjpaaGreatBaseW
import Derived.Test.YtpabppoohobjpaaGreatBits
import Derived.Test.YtpabppoohobjpaaGreatNumPlain
import Derived.Test.YtpabppoohobjpaaGreatProg
namespace Go.Proofs.YtpabppoohobjpaaGreat
open Go.RowKit NumPlain
set_option maxRecDepth 100000

theorem info_u8 : (Tryz.prog.info? 5).map (fun i => (i.zero, i.size, i.bytes)) = some (some (.int .u8 0), 1, 1) := by kernel_rfl

/-- what holds at the head of Put's loop -/
def PutInv (n m : Nat) (pre : List UInt8) : Prop := putN n = pre ++ putN m
theorem put_inv_len {n m : Nat} {pre : List UInt8} (hm : (m : Int) ≤ 9223372036854775807) (hn : (n : Int) ≤ 9223372036854775807) (h : PutInv n m pre) : pre.length ≤ 8 := by
  have h1 := putN_len9 n (by omega)
  have h2 := putN_len9 m (by omega)
  have h3 := congrArg List.length h
  rw [List.length_append] at h3
  omega

/-- a byte that is not the last one; the last one -/
def hiB (m : Nat) : UInt8 := UInt8.ofNat (m % 128 + 128)
def loB (m : Nat) : UInt8 := UInt8.ofNat m
theorem put_inv_more {n m : Nat} {pre : List UInt8} (hm : (m : Int) ≤ 9223372036854775807) (hlt : 127 < (m : Int)) (h : PutInv n m pre) : PutInv n (m / 128) (pre ++ [hiB m]) := by
  unfold PutInv at h ⊢
  rw [h, putN_big m (by omega) (by omega)]
  simp [hiB]
theorem put_inv_last {n m : Nat} {pre : List UInt8} (hlt : (m : Int) ≤ 127) (h : PutInv n m pre) : pre ++ [loB m] = putN n := by
  unfold PutInv at h
  rw [h, putN_small m (by omega)]
  rfl

abbrev Own (w : World) (B : Nat) (v : Value) (l : List UInt8) : Prop := OwnE 5 w B v l

theorem hi_byte (m : Nat) (hm : (m : Int) ≤ 9223372036854775807) : Hid (bits .or .u8 (bits .and .i64 (m : Int) 127 % 256) 128 = ((hiB m).toNat : Int)) := by
  show _ = _
  rw [low7_i64 m hm, show (((m % 128 : Nat) : Int) % 256) = ((m % 128 : Nat) : Int) from by omega]
  have h := u8_or_nat (m % 128) 128 (by omega) (by omega)
  have e : (m % 128) ||| 128 = m % 128 + 128 := by
    have := or_above (m % 128) 7 1 (by omega)
    simpa using this
  rw [e] at h
  rw [show ((128 : Int)) = ((128 : Nat) : Int) from rfl, h, hiB, u8_small _ (by omega)]
theorem lo_byte (m : Nat) (hlt : (m : Int) ≤ 127) : Hid ((m : Int) = ((loB m).toNat : Int)) := by
  show _ = _
  rw [loB, u8_small _ (by omega)]

set_option maxHeartbeats 400000 in
theorem put_any (n : Nat) (hn : (n : Int) ≤ 9223372036854775807) (w : World) :
    Calls Tryz.prog 117 #[.int .i64 n] w fun e w' => ∃ v, e = .returned v ∧ Own w' w.heap.size v (putN n) ∧ Gr w w' := by
  obtain ⟨i0, hi, hz0, hz1, hz2⟩ := info_parts info_u8
  go_enter Tryz.func117, Tryz.ntmps117
  go_wp2_with fail
  go_loopw [0, 3] (fun x v wr => ∃ (m : Nat) (pre : List UInt8), x = .int .i64 m ∧ (m : Int) ≤ 9223372036854775807 ∧ PutInv n m pre ∧ Own wr w.heap.size v pre ∧ Gr w wr) (fun x _ _ => (intOf x).toNat)
  case atStart => exact ⟨n, [], rfl, hn, rfl, OwnE.none_ _ _, Gr.refl w⟩
  case round =>
    obtain ⟨m, pre, rfl, hm, hinv, hown, hgr⟩ := hrel
    have hl9 := put_inv_len hm hn hinv
    by_cases hlt : 127 < (m : Int)
    · go_wp2_with (at_builtin; refine wpList_push rfl (.tmp 10) (.tmp 15) _ rfl 5 i0 Tryz.underlying22 hi hz0 hz1 hz2 (hi_byte m hm) rfl hown hgr rfl (by omega) ?_; intro v1 w1 hown1 hgr1)
      go_roundw
      case rel => exact ⟨m / 128, pre ++ [hiB m], by go_num, by omega, put_inv_more hm (by omega) hinv, hown1, hgr1⟩
      case measure => simp [intOf]; omega
    · go_wp2_with (at_builtin; refine wpList_push rfl (.tmp 17) (.tmp 20) _ rfl 5 i0 Tryz.underlying22 hi hz0 hz1 hz2 (lo_byte m (by omega)) rfl hown hgr rfl (by omega) ?_; intro v1 w1 hown1 hgr1)
      go_ret
      exact ⟨_, rfl, by rw [← put_inv_last (by omega) hinv]; exact hown1, hgr1⟩

theorem put_neg (n : Int) (hn : n < 0) (w : World) :
    Calls Tryz.prog 117 #[.int .i64 n] w fun e w' => ∃ v, e = .returned v ∧ Own w' w.heap.size v [] ∧ Gr w w' := by
  go_enter Tryz.func117, Tryz.ntmps117
  go_wp2_with fail
  go_ret
  exact ⟨_, rfl, OwnE.none_ _ _, Gr.refl w⟩

/-- the bytes that Put tells of any int -/
def putZ (n : Int) : List UInt8 := if n < 0 then [] else putN n.toNat
theorem putZ_nat (n : Nat) : putZ n = putN n := by simp [putZ]; omega
theorem putZ_len (n : Int) : (putZ n).length ≤ 10 := by
  unfold putZ
  split
  · simp
  · exact (putN_len _).2

theorem Put_ok (n : Int) (hn : n ≤ 9223372036854775807) (w : World) :
    Calls Tryz.prog 117 #[.int .i64 n] w fun e w' => ∃ v, e = .returned v ∧ Own w' w.heap.size v (putZ n) ∧ Gr w w' := by
  by_cases h : n < 0
  · have e : putZ n = [] := by simp [putZ, h]
    rw [e]; exact put_neg n h w
  · obtain ⟨m, rfl⟩ := Int.eq_ofNat_of_zero_le (show 0 ≤ n by omega)
    rw [show putZ ((m : Nat) : Int) = putN m from putZ_nat m]; exact put_any m hn w

end Go.Proofs.YtpabppoohobjpaaGreat

/-
  num.PutText by its contract.
-/
namespace Go.Proofs.YtpabppoohobjpaaGreat
open Go.RowKit NumPlain
set_option maxRecDepth 100000

set_option maxHeartbeats 400000 in
theorem PutText_ok (s : ByteArray) (hs : (s.size : Int) ≤ 9223372036854775807) (w : World) :
    Calls Tryz.prog 118 #[.string s] w fun e w' => ∃ v, e = .returned v ∧ Own w' w.heap.size v (putT s.data.toList) ∧ Gr w w' := by
  obtain ⟨i0, hi, hz0, hz1, hz2⟩ := info_parts info_u8
  have hsz : s.data.toList.length = s.size := by rw [Array.length_toList]; rfl
  by_cases hlt : 255 < (s.size : Int)
  · have e : putT s.data.toList = [] := by unfold putT; rw [if_pos (by omega)]
    rw [e]
    clear e hsz
    go_enter Tryz.func118, Tryz.ntmps118
    go_wp2_with fail
    go_ret
    exact ⟨_, rfl, OwnE.none_ _ _, Gr.refl w⟩
  · have e : putT s.data.toList = putN s.size ++ s.data.toList := by unfold putT; rw [if_neg (by omega), hsz]
    rw [e]
    have hl := putN_len s.size
    clear e hsz
    go_enter Tryz.func118, Tryz.ntmps118
    go_wp2_with fail
    refine (put_any s.size (by omega) _).mono ?_
    rintro e w1 ⟨v, rfl, ho, hg⟩
    go_wp2_with (at_builtin; go_must (refine wpList_app_str rfl (.tmp 8) (.tmp 9) _ _ rfl 5 i0 Tryz.underlying22 Tryz.underlying9 hi hz0 hz1 hz2 s rfl ho hg rfl (by omega) ?_); intro v1 w1 hown1 hgr1)
    go_ret
    exact ⟨_, rfl, hown1, hgr1⟩

end Go.Proofs.YtpabppoohobjpaaGreat
