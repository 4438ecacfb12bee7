/-
  What key's names answer: may, below.
-/
import Derived.Test.YtbfbghfaeejicaaKeyWords
namespace Go.Proofs.Ytbfbghfaeejicaa
open Go.RowKit KeyMath
set_option maxRecDepth 100000

theorem size_zero {s : ByteArray} (h : s.size = 0) : s = ⟨#[]⟩ := by
  cases s with
  | mk d => congr 1; exact Array.eq_empty_of_size_eq_zero h

set_option maxHeartbeats 400000 in
theorem NameMay_ok (s : ByteArray) (hs : (s.size : Int) ≤ 281474976710656) (w : World) : Calls Try.prog 56 #[.string s] w fun e w' => e = .returned (.bool (mayK s)) ∧ Gr w w' := by
  by_cases h0 : s.size = 0
  · obtain rfl := size_zero h0
    go_enter Try.func56, Try.ntmps56
    go_wp2_with fail
    go_ret
    exact ⟨rfl, Gr.refl _⟩
  · have hne : s.toList.isEmpty = false := by
      rw [ByteArray.toList_eq, List.isEmpty_eq_false_iff]
      intro h
      exact h0 (by rw [← list_size, h]; rfl)
    have hne2 : ¬ s.toList = [] := by
      intro h
      rw [h] at hne
      cases hne
    by_cases h8 : (8 : Int) < (s.size : Int)
    · have d8 : decide ((8 : Int) < (s.size : Int)) = true := by rw [decide_eq_true_eq]; exact h8
      have hno : mayK s = false := by
        unfold mayK
        rw [decide_eq_false (show ¬ s.size ≤ 8 by omega), Bool.and_false, Bool.false_and]
      rw [hno]
      go_enter Try.func56, Try.ntmps56
      go_wp2_with fail
      go_ret
      exact ⟨rfl, Gr.refl _⟩
    · have d8 : decide ((8 : Int) < (s.size : Int)) = false := by rw [decide_eq_false_iff_not]; exact h8
      have hconv : ∀ w : World, (convert 91 22 (.string s)).run Try.prog w = .ok (.slice (some ⟨w.heap.size, 0, none⟩) s.size (grownCap w s.size 0 5)) (Lib.bytesWorld w 5 s) := fun w =>
        Lib.run_convert_string_bytes w 91 22 5 s Try.underlying91 Try.underlying22 Try.underlying5
      go_enter Try.func56, Try.ntmps56
      go_wp2_with fail
      have hcell := hide (fun (j : Nat) (hj : j < s.data.toList.length) => bytes_cell (Gr.refl (Lib.bytesWorld w 5 s)) (by omega) j hj)
      have hgr := hide (gr_bytes w 5 s)
      generalize hW : Lib.bytesWorld w 5 s = W at hcell hgr ⊢
      generalize hC : grownCap w s.size 0 5 = cap
      clear hW hC hconv
      go_loop [15] (fun i => ∃ k : Nat, i = .int .i64 k ∧ k ≤ s.size ∧ Hid ((s.data.toList.take k).all okB = true)) (fun i => s.size - (intOf i).toNat)
      case atStart => exact ⟨0, rfl, by omega, rfl⟩
      case round =>
        obtain ⟨k, rfl, hk, hall⟩ := hrel
        by_cases hlt : k < s.size
        · have hlt' : (k : Int) < (s.size : Int) := by omega
          have hkl : k < s.data.toList.length := by rw [list_size]; exact hlt
          have hc := hcell.out k hkl
          have hm := hide (all_take hkl)
          have hn := hide (all_not hkl)
          obtain ⟨b, hbb⟩ : ∃ b, s.data.toList[k] = b := ⟨_, rfl⟩
          rw [hbb] at hc hm hn
          have ho := okB_eq b
          clear hbb hkl
          by_cases c1 : (b.toNat : Int) < 33
          · have d1 : decide ((b.toNat : Int) < 33) = true := by rw [decide_eq_true_eq]; exact c1
            rw [d1] at ho
            have hno := hide (mayK_not (hn.out ho))
            clear ho hm hn hall
            go_wp2_with fail
            go_ret
            exact ⟨by rw [hno.out]; rfl, hgr.out⟩
          · have d1 : decide ((b.toNat : Int) < 33) = false := by rw [decide_eq_false_iff_not]; exact c1
            by_cases c2 : (126 : Int) < (b.toNat : Int)
            · have d2 : decide ((126 : Int) < (b.toNat : Int)) = true := by rw [decide_eq_true_eq]; exact c2
              rw [d1, d2] at ho
              have hno := hide (mayK_not (hn.out ho))
              clear ho hm hn hall
              go_wp2_with fail
              go_ret
              exact ⟨by rw [hno.out]; rfl, hgr.out⟩
            · have d2 : decide ((126 : Int) < (b.toNat : Int)) = false := by rw [decide_eq_false_iff_not]; exact c2
              rw [d1, d2] at ho
              have hyes := hide (p := (s.data.toList.take (k + 1)).all okB = true) (by rw [hm.out, hall.out, ho]; rfl)
              clear ho hm hn hall
              go_wp2_with fail
              go_round
              case rel => exact ⟨k + 1, by go_num, by omega, hyes⟩
              case measure => simp [intOf]; omega
        · obtain rfl : k = s.size := by omega
          have hy := hide (mayK_all hall.out)
          clear hall
          have e1 : decide (1 ≤ s.size) = true := by rw [decide_eq_true_eq]; omega
          have e2 : decide (s.size ≤ 8) = true := by rw [decide_eq_true_eq]; omega
          rw [e1, e2] at hy
          clear e1 e2
          go_wp2_with fail
          go_ret
          exact ⟨by rw [hy.out]; rfl, hgr.out⟩

set_option maxHeartbeats 400000 in
theorem NameBelow_ok (s t : ByteArray) (w : World) : Calls Try.prog 58 #[.string s, .string t] w fun e w' => e = .returned (.bool (ltK s t)) ∧ w' = w := by
  go_enter Try.func58, Try.ntmps58
  go_wp2_with fail
  go_ret
  exact ⟨rfl, rfl⟩

end Go.Proofs.Ytbfbghfaeejicaa
