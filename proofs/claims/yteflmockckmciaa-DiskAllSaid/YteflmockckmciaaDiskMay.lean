/-
  May a file be named so: the law's own question.
-/
import Derived.Test.YteflmockckmciaaKeyWords
namespace Go.Proofs.Yteflmockckmciaa
open Go.RowKit KeyMath
set_option maxRecDepth 100000

set_option maxHeartbeats 400000 in
theorem may_ok (s : ByteArray) (hs : (s.size : Int) ≤ 281474976710656) (w : World) : Calls Try.prog 17 #[.string s] w fun e w' => e = .returned (.bool (mayK s)) ∧ w' = w := by
  go_enter Try.func17, Try.ntmps17
  go_wp2_with fail
  go_loop [3] (fun i => ∃ k : Nat, i = .int .i64 k ∧ k ≤ s.size ∧ Hid ((s.data.toList.take k).all okB = true)) (fun i => s.size - (intOf i).toNat)
  case atStart => exact ⟨0, rfl, by omega, rfl⟩
  case round =>
    obtain ⟨k, rfl, hk, hall⟩ := hrel
    by_cases hlt : k < s.size
    · have hlt' : (k : Int) < (s.size : Int) := by omega
      have hkl : k < s.data.toList.length := by rw [list_size]; exact hlt
      have hb := byte_at hlt
      have hm := hide (all_take hkl)
      have hn := hide (all_not hkl)
      obtain ⟨b, hbb⟩ : ∃ b, s.data.toList[k] = b := ⟨_, rfl⟩
      rw [hbb] at hb hm hn
      have ho := okB_eq b
      clear hbb hkl
      by_cases c1 : (b.toNat : Int) < 33
      · have d1 : decide ((b.toNat : Int) < 33) = true := by rw [decide_eq_true_eq]; exact c1
        rw [d1] at ho
        have hno := hide (mayK_not (hn.out ho))
        clear ho hm hn hall
        go_wp2_with fail
        go_ret
        exact ⟨by rw [hno.out]; rfl, rfl⟩
      · have d1 : decide ((b.toNat : Int) < 33) = false := by rw [decide_eq_false_iff_not]; exact c1
        by_cases c2 : (126 : Int) < (b.toNat : Int)
        · have d2 : decide ((126 : Int) < (b.toNat : Int)) = true := by rw [decide_eq_true_eq]; exact c2
          rw [d1, d2] at ho
          have hno := hide (mayK_not (hn.out ho))
          clear ho hm hn hall
          go_wp2_with fail
          go_ret
          exact ⟨by rw [hno.out]; rfl, rfl⟩
        · have d2 : decide ((126 : Int) < (b.toNat : Int)) = false := by rw [decide_eq_false_iff_not]; exact c2
          rw [d1, d2] at ho
          have hyes := hide (p := (s.data.toList.take (k + 1)).all okB = true) (by rw [hm.out, hall.out, ho]; rfl)
          clear ho hm hn hall
          go_wp2_with fail
          go_round
          case rel => exact ⟨k + 1, by go_num, by omega, hyes⟩
          case measure => simp [intOf]; omega
    · obtain rfl : k = s.size := by omega
      have hy := hide (mayK_all hall.out)
      clear hall
      by_cases c1 : 1 ≤ s.size
      · have d1 : decide ((1 : Int) ≤ (s.size : Int)) = true := by rw [decide_eq_true_eq]; omega
        have d2 : decide ((s.size : Int) ≤ 8) = decide (s.size ≤ 8) := by rw [decide_eq_decide]; omega
        go_wp2_with fail
        go_ret
        exact ⟨by rw [hy.out, decide_eq_true c1, Bool.true_and, ← d2]; rfl, rfl⟩
      · have d1 : decide ((1 : Int) ≤ (s.size : Int)) = false := by rw [decide_eq_false_iff_not]; omega
        go_wp2_with fail
        go_ret
        exact ⟨by rw [hy.out, decide_eq_false c1, Bool.false_and]; rfl, rfl⟩

end Go.Proofs.Yteflmockckmciaa
