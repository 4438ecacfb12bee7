/-
  The document's ShardOf by its contract.
-/
import Derived.Test.YtjpdhijhmpdbnaaGreatKeyWords
namespace Go.Proofs.YtjpdhijhmpdbnaaGreat
open Go.RowKit KeyMath
set_option maxRecDepth 100000

set_option maxHeartbeats 400000 in
theorem RefShard_ok (s : ByteArray) (hs : (s.size : Int) ≤ 1000000) (n : Int) (h0 : -9223372036854775808 ≤ n) (h1 : n ≤ 9223372036854775807) (w : World) : Calls Tryz.prog 44 #[.string s, .int .i64 n] w fun e w' => e = .returned (.int .i64 (shardK s n)) ∧ w' = w := by
  by_cases hn : n < 1
  · have d1 : decide (n < 1) = true := by rw [decide_eq_true_eq]; exact hn
    have hz : shardK s n = 0 := by unfold shardK; rw [if_pos hn]
    rw [hz]
    go_enter Tryz.func44, Tryz.ntmps44
    go_wp2_with fail
    go_ret
    exact ⟨rfl, rfl⟩
  · have d1 : decide (n < 1) = false := by rw [decide_eq_false_iff_not]; exact hn
    obtain ⟨m, rfl⟩ := Int.eq_ofNat_of_zero_le (show 0 ≤ n by omega)
    have hz : shardK s m = ((sumB s.data.toList % m : Nat) : Int) := by unfold shardK; rw [if_neg hn, Int.natCast_emod]
    rw [hz]
    have hm0 : ¬ ((m : Int) = 0) := by omega
    go_enter Tryz.func44, Tryz.ntmps44
    go_wp2_with fail
    go_loop [5, 6] (fun x i => ∃ k y : Nat, i = .int .i64 k ∧ k ≤ s.size ∧ x = .int .i64 y ∧ y < m ∧ y ≤ 255 * k ∧ Hid (y = sumB (s.data.toList.take k) % m)) (fun _ i => s.size - (intOf i).toNat)
    case atStart => exact ⟨0, 0, rfl, by omega, rfl, by omega, by omega, by simp [Hid, sumB]⟩
    case round =>
      obtain ⟨k, y, rfl, hk, rfl, hy, hyk, HY⟩ := hrel
      by_cases hlt : k < s.size
      · have hlt' : (k : Int) < (s.size : Int) := by omega
        have hkl : k < s.data.toList.length := by rw [list_size]; exact hlt
        have hb := byte_at hlt
        have hm := hide (sumB_take hkl)
        obtain ⟨b, hbb⟩ : ∃ b, s.data.toList[k] = b := ⟨_, rfl⟩
        rw [hbb] at hb hm
        have hb8 := b.toNat_lt
        clear hbb hkl
        go_wp2_with fail
        refine ⟨⟨k + 1, (y + b.toNat) % m, by go_num, by omega, by congr 1, Nat.mod_lt _ (by omega), ?_, ?_⟩, by simp [intOf]; omega⟩
        · have := Nat.mod_le (y + b.toNat) m
          omega
        · show _ = _
          rw [HY.out, hm.out, Nat.mod_add_mod]
      · obtain rfl : k = s.size := by omega
        go_wp2_with fail
        go_ret
        exact ⟨by rw [HY.out, List.take_of_length_le (by rw [list_size]; exact Nat.le_refl _)]; rfl, rfl⟩

end Go.Proofs.YtjpdhijhmpdbnaaGreat
