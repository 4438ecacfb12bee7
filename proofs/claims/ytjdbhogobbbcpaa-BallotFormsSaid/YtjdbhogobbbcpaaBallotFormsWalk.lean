/-
  The walk of 'BallotForms'.
-/
import Derived.Test.YtjdbhogobbbcpaaBallotBegun
namespace Go.Proofs.Ytjdbhogobbbcpaa
open Go Go.RowKit BalMath TxnMath KeyMath MsgMath
set_option maxRecDepth 100000

theorem forms_maj : ∀ i (h : i < 6), ∃ n : Nat, n ≤ 5 ∧ ([1, 2, 3, 4, 5, 0] : List Int)[i] = (n : Int) ∧ ([1, 2, 2, 3, 3, 1] : List Int)[i] = (majN n : Int)
  | 0, _ => ⟨1, by decide, rfl, rfl⟩
  | 1, _ => ⟨2, by decide, rfl, rfl⟩
  | 2, _ => ⟨3, by decide, rfl, rfl⟩
  | 3, _ => ⟨4, by decide, rfl, rfl⟩
  | 4, _ => ⟨5, by decide, rfl, rfl⟩
  | 5, _ => ⟨0, by decide, rfl, rfl⟩
  | _ + 6, h => by omega

set_option maxHeartbeats 2000000 in
theorem walk_BallotForms (w : World) : Calls Try.prog 6 #[] w fun e w' => e = .returned (.bool true) ∧ Gr w w' := by
  have EM1 : Hid (mostL [4] = 4) := hide (by decide)
  have EM2 : Hid (mostL [1, 9] = 1) := hide (by decide)
  have EM3 : Hid (mostL [3, 1, 2] = 2) := hide (by decide)
  have EM4 : Hid (mostL [5, 4, 3, 2, 1] = 3) := hide (by decide)
  have EM5 : Hid (mostL [7, 7, 0, 0] = 0) := hide (by decide)
  have EN7 : Hid (nextL [3, 3, 0] [sealE 1, sealE 2, sealE 3] 3 1 = 3) := hide (by decide)
  have EN8 : Hid (nextL [2, 2, 0] [sealE 1, sealE 2, sealE 3] 3 1 = 1) := hide (by decide)
  have EN9 : Hid (nextL [1, 1, 1] [sealE 1, sealE 2, sealE 3] 1 2 = 2) := hide (by decide)
  have EN10 : Hid (nextL [9, 9, 9] [sealE 1, sealE 2, sealE 3] 3 1 = 1) := hide (by decide)
  go_enter Try.func6, Try.ntmps6
  go_wp2_with fail
  refine (begun_ok _).mono ?_
  rintro e w0 ⟨rfl, hg0⟩
  have HG := hide hg0
  clear hg0
  go_wp2_with fail
  obtain ⟨W1, hW1⟩ : ∃ W1, w0.alloc (.cells #[.int .i64 1, .int .i64 2, .int .i64 3, .int .i64 4, .int .i64 5, .int .i64 0] 3) = W1 := ⟨_, rfl⟩
  have I1 : IntsX W1 (.slice (some ⟨w0.heap.size, 0, none⟩) 6 6) [1, 2, 3, 4, 5, 0] := by rw [← hW1]; exact ints_lit _ rfl rfl (by decide)
  have g1 : Gr w0 W1 := by rw [← hW1]; exact (Gr.refl _).alloc _
  have hs1 : w0.heap.size + 1 = W1.heap.size := by rw [← hW1]; simp
  rw [hW1, hs1]
  obtain ⟨W2, hW2⟩ : ∃ W2, W1.alloc (.cells #[.int .i64 1, .int .i64 2, .int .i64 2, .int .i64 3, .int .i64 3, .int .i64 1] 3) = W2 := ⟨_, rfl⟩
  have I2 : IntsX W2 (.slice (some ⟨W1.heap.size, 0, none⟩) 6 6) [1, 2, 2, 3, 3, 1] := by rw [← hW2]; exact ints_lit _ rfl rfl (by decide)
  have g2 : Gr W1 W2 := by rw [← hW2]; exact (Gr.refl _).alloc _
  rw [hW2]
  have HI1 := hide (I1.gr g2)
  have HI2 := hide I2
  replace HG := hide ((HG.out.trans g1).trans g2)
  clear hW1 hW2 I1 I2 g1 g2 hs1
  generalize w0.heap.size = b1 at HI1 ⊢
  generalize W1.heap.size = b2 at HI2 ⊢
  go_loopw [3] (fun v wr => ∃ i : Nat, v = .int .i64 i ∧ i ≤ 6 ∧ Hid (Gr w wr) ∧ Hid (Gr W2 wr)) (fun v _ => 6 - (intOf v).toNat)
  case atStart => exact ⟨0, rfl, by omega, HG, Gr.refl _⟩
  case round =>
    obtain ⟨i, rfl, hi, HR, HR2⟩ := hrel
    by_cases hlt : i < 6
    · have hlt' : (i : Int) < 6 := by omega
      obtain ⟨n, hn, e1, e2⟩ := forms_maj i hlt
      obtain ⟨A1, c1, q1, _, hc1⟩ := (HI1.out.gr HR2.out).is
      obtain ⟨A2, c2, q2, _, hc2⟩ := (HI2.out.gr HR2.out).is
      injection q1 with q1 _ q1c
      injection q2 with q2 _ q2c
      subst q1 q2
      obtain ⟨ad1, p1, k1⟩ := hc1 i hlt
      obtain ⟨ad2, p2, k2⟩ := hc2 i hlt
      injection p1 with p1
      injection p2 with p2
      subst p1 p2
      rw [addr_at, e1] at k1
      rw [addr_at, e2] at k2
      clear hc1 hc2 e1 e2 q1c q2c
      unfold iv at k1 k2
      have HC := hide (fun w => Majority_ok n w (by omega))
      generalize majN n = q at k2 HC
      go_wp2_with fail
      go_quiet (refine Calls.quiet_of_same (HC.out _))
      go_wp2_with fail
      go_roundw
      case rel => exact ⟨i + 1, by go_num, by omega, HR.out.drewN _, HR2.out.drewN _⟩
      case measure => simp [intOf]; omega
    · obtain rfl : i = 6 := by omega
      clear HG HI1 HI2 HR2
      go_wp2_with fail
      obtain ⟨W3, hW3⟩ : ∃ W3, wr.alloc (.cells #[.int .i64 1, .bool true, .int .i64 0, .int .i64 0, .slice none 0 0, .slice none 0 0, .int .i64 2, .bool true, .int .i64 0, .int .i64 0, .slice none 0 0, .slice none 0 0, .int .i64 3, .bool true, .int .i64 0, .int .i64 0, .slice none 0 0, .slice none 0 0] 44) = W3 := ⟨_, rfl⟩
      have E1 : EntsX Any W3 (.slice (some ⟨wr.heap.size, 0, none⟩) 3 3) [sealE 1, sealE 2, sealE 3] := seals_lit (ts := [1, 2, 3]) rfl (by decide) hW3
      have g3 : Gr wr W3 := by rw [← hW3]; exact (Gr.refl _).alloc _
      rw [hW3]
      have HE := hide E1
      have HG := hide (HR.out.trans g3)
      clear hW3 E1 g3 HR
      refine (Most_ok _ [] _ (ints_nil _) (by decide) (by decide)).mono ?_
      rintro e w1 ⟨x, rfl, hm, hg⟩
      have hx : x = 0 := hm.1
      subst hx
      clear hm
      replace HG := hide (HG.out.trans hg)
      replace HE := hide (HE.out.gr hg)
      clear hg
      go_wp2_with fail
      refine (lMost [4] (b := 4) rfl rfl EM1.out.symm (by decide) (by decide)).mono ?_
      rintro e w2 ⟨rfl, hg⟩
      replace HG := hide (HG.out.trans hg)
      replace HE := hide (HE.out.gr hg)
      clear hg
      go_wp2_with fail
      refine (lMost [1, 9] (b := 1) rfl rfl EM2.out.symm (by decide) (by decide)).mono ?_
      rintro e w3 ⟨rfl, hg⟩
      replace HG := hide (HG.out.trans hg)
      replace HE := hide (HE.out.gr hg)
      clear hg
      go_wp2_with fail
      refine (lMost [3, 1, 2] (b := 2) rfl rfl EM3.out.symm (by decide) (by decide)).mono ?_
      rintro e w4 ⟨rfl, hg⟩
      replace HG := hide (HG.out.trans hg)
      replace HE := hide (HE.out.gr hg)
      clear hg
      go_wp2_with fail
      refine (lMost [5, 4, 3, 2, 1] (b := 3) rfl rfl EM4.out.symm (by decide) (by decide)).mono ?_
      rintro e w5 ⟨rfl, hg⟩
      replace HG := hide (HG.out.trans hg)
      replace HE := hide (HE.out.gr hg)
      clear hg
      go_wp2_with fail
      refine (lMost [7, 7, 0, 0] (b := 0) rfl rfl EM5.out.symm (by decide) (by decide)).mono ?_
      rintro e w6 ⟨rfl, hg⟩
      replace HG := hide (HG.out.trans hg)
      replace HE := hide (HE.out.gr hg)
      clear hg
      go_wp2_with fail
      refine (Many_ok _ [] _ (bools_nil _) (by decide)).mono ?_
      rintro e w7 ⟨he, hw⟩
      subst hw
      replace he : e = .returned (.int .i64 0) := he
      subst he
      go_wp2_with fail
      refine (lNext [3, 3, 0] (b := 3) rfl rfl EN7.out.symm (by decide) (by decide) HE.out (by decide) (by decide)).mono ?_
      rintro e w8 ⟨rfl, hg⟩
      replace HG := hide (HG.out.trans hg)
      replace HE := hide (HE.out.gr hg)
      clear hg
      go_wp2_with fail
      refine (lNext [2, 2, 0] (b := 1) rfl rfl EN8.out.symm (by decide) (by decide) HE.out (by decide) (by decide)).mono ?_
      rintro e w9 ⟨rfl, hg⟩
      replace HG := hide (HG.out.trans hg)
      replace HE := hide (HE.out.gr hg)
      clear hg
      go_wp2_with fail
      refine (lNext [1, 1, 1] (b := 2) rfl rfl EN9.out.symm (by decide) (by decide) HE.out (by decide) (by decide)).mono ?_
      rintro e w10 ⟨rfl, hg⟩
      replace HG := hide (HG.out.trans hg)
      replace HE := hide (HE.out.gr hg)
      clear hg
      go_wp2_with fail
      refine (lNext [9, 9, 9] (b := 1) rfl rfl EN10.out.symm (by decide) (by decide) HE.out (by decide) (by decide)).mono ?_
      rintro e w11 ⟨rfl, hg⟩
      replace HG := hide (HG.out.trans hg)
      replace HE := hide (HE.out.gr hg)
      clear hg
      go_wp2_with fail
      go_ret
      exact ⟨rfl, HG.out⟩

end Go.Proofs.Ytjdbhogobbbcpaa
