/-
  key's Shard and Rising by their contracts.
-/
import Derived.Test.YtjpdhijhmpdbnaaKeyEach
namespace Go.Proofs.Ytjpdhijhmpdbnaa
open Go.RowKit KeyMath
set_option maxRecDepth 100000

set_option maxHeartbeats 400000 in
theorem Shard_ok (s : ByteArray) (hs : (s.size : Int) ≤ 1000000) (n : Int) (h0 : -9223372036854775808 ≤ n) (h1 : n ≤ 9223372036854775807) (w : World) : Calls Try.prog 34 #[.string s, .int .i64 n] w fun e w' => e = .returned (.int .i64 (shardK s n)) ∧ Gr w w' := by
  by_cases hn : n < 1
  · have d1 : decide (n < 1) = true := by rw [decide_eq_true_eq]; exact hn
    have hz : shardK s n = 0 := by unfold shardK; rw [if_pos hn]
    rw [hz]
    go_enter Try.func34, Try.ntmps34
    go_wp2_with fail
    go_ret
    exact ⟨rfl, Gr.refl _⟩
  · have d1 : decide (n < 1) = false := by rw [decide_eq_false_iff_not]; exact hn
    obtain ⟨m, rfl⟩ := Int.eq_ofNat_of_zero_le (show 0 ≤ n by omega)
    have hz : shardK s m = ((sumB s.data.toList % m : Nat) : Int) := by unfold shardK; rw [if_neg hn, Int.natCast_emod]
    have hle := sumB_le s.data.toList
    rw [list_size] at hle
    rw [hz]
    have hm0 : ¬ ((m : Int) = 0) := by omega
    have hS := hide (NameSum_ok s hs)
    generalize sumB s.data.toList = y at hS hle ⊢
    clear hz
    go_enter Try.func34, Try.ntmps34
    go_wp2_with fail
    refine (hS.out _).mono ?_
    rintro e w1 ⟨rfl, hg1⟩
    go_wp2_with fail
    go_ret
    exact ⟨rfl, hg1⟩

set_option maxHeartbeats 400000 in
theorem Rising_ok (A : Option Addr) (n c : Nat) (ss : List ByteArray) (hn : n = ss.length) (w : World) (hss : Strs w A c ss) (hm : ∀ s ∈ ss, (s.size : Int) ≤ 1000000) (hmax : (ss.length : Int) ≤ 1000000) :
    Calls Try.prog 46 #[.slice A n c] w fun e w' => e = .returned (.bool (risingK ss)) ∧ Gr w w' := by
  subst hn
  rw [rising_split]
  have H1 := hide (EachMay_ok A _ c ss rfl w hss hm hmax)
  cases h1 : ss.all mayK
  · rw [h1] at H1
    go_enter Try.func46, Try.ntmps46
    go_wp2_with fail
    refine H1.out.mono ?_
    rintro e w1 ⟨rfl, hg1⟩
    go_wp2_with fail
    go_ret
    exact ⟨rfl, hg1⟩
  · rw [h1] at H1
    go_enter Try.func46, Try.ntmps46
    go_wp2_with fail
    refine H1.out.mono ?_
    rintro e w1 ⟨rfl, hg1⟩
    go_wp2_with fail
    refine (EachTwoBelow_ok A _ c ss rfl _ (hss.gr hg1) hmax).mono ?_
    rintro e w2 ⟨rfl, hg2⟩
    go_wp2_with fail
    go_ret
    exact ⟨rfl, hg1.trans hg2⟩

end Go.Proofs.Ytjpdhijhmpdbnaa
