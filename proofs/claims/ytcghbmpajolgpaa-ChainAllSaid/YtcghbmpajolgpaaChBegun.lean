/-
  The law's begun, by its contract.
-/
import Derived.Test.YtcghbmpajolgpaaChDo
namespace Go.Proofs.Ytcghbmpajolgpaa
open Go Go.RowKit ChMath KeyMath
set_option maxRecDepth 100000

def b2 : VerT := ⟨2, ⟨#[97]⟩, false⟩
def b5 : VerT := ⟨5, ⟨#[]⟩, true⟩
theorem mayb : mayL [b2, b5] = true := by
  have h1 : valuedV b2 = true := by decide
  have h2 : valuedV b5 = true := noText_nothing
  unfold mayL mayFrom mayFrom mayFrom
  rw [h1, h2]
  decide
theorem vb_bnd : VerBnd [b2, b5] := by
  intro v hv
  simp only [List.mem_cons, List.not_mem_nil, or_false] at hv
  rcases hv with rfl | rfl <;> decide

set_option maxHeartbeats 4000000 in
theorem begun_ok (w : World) : Calls Try.prog 7 #[] w fun e w' => e = .returned (.bool true) ∧ Gr w w' := by
  have HA1 := hide (fun W => Add_ok (.slice none 0 0) [] b2 W (VersX.nil W none 0) (by decide))
  have HA2 := hide (fun W u (h : VersX W u [b2]) => Add_ok u [b2] b5 W h (by decide))
  have HA3 := hide (fun W u (h : VersX W u [b2, b5]) => Add_ok u [b2, b5] ⟨5, ⟨#[]⟩, false⟩ W h (by decide))
  have HT := hide (fun W u (h : VersX W u [b2, b5]) => Trim_ok u [b2, b5] 5 W h (by decide))
  have HM := hide (fun W u (h : VersX W u [b2, b5]) => May_ok u [b2, b5] W h (by decide) vb_bnd)
  have HL := hide (fun W u (h : VersX W u [b2, b5]) => Last_ok u [b2, b5] W h (by decide))
  have HP4 := hide (fun W u (h : VersX W u [b2, b5]) => At_ok u [b2, b5] 4 W h (by decide))
  have HP1 := hide (fun W u (h : VersX W u [b2, b5]) => At_ok u [b2, b5] 1 W h (by decide))
  rw [show addL [] b2 = [b2] by decide] at HA1
  rw [show addL [b2] b5 = [b2, b5] by decide] at HA2
  rw [show addL [b2, b5] ⟨5, ⟨#[]⟩, false⟩ = [b2, b5] by decide] at HA3
  rw [show trimL 5 [b2, b5] = [b5] by decide] at HT
  rw [mayb] at HM
  rw [show lastP [b2, b5] = 5 by decide] at HL
  unfold AtPost at HP4 HP1
  rw [show atV 4 [b2, b5] = b2 by decide, show isV 4 [b2, b5] = true by decide] at HP4
  rw [show atV 1 [b2, b5] = noVer by decide, show isV 1 [b2, b5] = false by decide] at HP1
  simp only [verA, b2] at HP4
  simp only [verA, noVer, nothing] at HP1
  go_enter Try.func7, Try.ntmps7
  go_wp2_with fail
  refine (HA1.out _).mono ?_
  rintro e w1 ⟨u1, rfl, ho1, hg1⟩
  have HO1 := hide ho1.x
  have HG1 := hide hg1
  obtain ⟨A1, c1, rfl, _⟩ := ho1.x.is
  clear ho1 hg1
  go_wp2_with fail
  refine (HA2.out _ _ HO1.out).mono ?_
  rintro e w2 ⟨u2, rfl, ho2, hg2⟩
  have HO2 := hide ho2.x
  have HG2 := hide (HG1.out.trans hg2)
  obtain ⟨A2, c2, rfl, _⟩ := ho2.x.is
  clear ho2 hg2
  go_wp2_with fail
  refine (HP4.out _ _ HO2.out).mono ?_
  rintro e w3 ⟨rfl, hg3⟩
  go_upto_region 3 with (fail)
  obtain ⟨W3, hW3⟩ : ∃ W3, w3.alloc (.cells #[.int .i64 2, .string ⟨#[97]⟩, .bool false] 25) = W3 := ⟨_, rfl⟩
  have hb3 : Bl W3 w3.heap.size 25 #[.int .i64 2, .string ⟨#[97]⟩, .bool false] := by rw [← hW3]; exact Bl.new _ _ _
  have hG3 : Gr w2 W3 := by rw [← hW3]; exact hg3.alloc _
  rw [hW3]
  have HB3 := hide hb3
  have HG3 := hide hG3
  clear hW3 hb3 hG3 hg3
  go_wp2_with fail
  refine (HP1.out _ _ (HO2.out.gr HG3.out)).mono ?_
  rintro e w4 ⟨rfl, hg4⟩
  go_upto_region 4 with (fail)
  obtain ⟨W4, hW4⟩ : ∃ W4, w4.alloc (.cells #[.int .i64 0, .string ⟨#[]⟩, .bool false] 25) = W4 := ⟨_, rfl⟩
  have hG4 : Gr W3 W4 := by rw [← hW4]; exact hg4.alloc _
  rw [hW4]
  have HG4 := hide hG4
  clear hW4 hG4 hg4
  go_wp2_with fail
  refine (HT.out _ _ (HO2.out.gr (HG3.out.trans HG4.out))).mono ?_
  rintro e w5 ⟨u5, rfl, ho5, hg5⟩
  have HO5 := hide ho5.x
  have HG5 := hide (HG4.out.trans hg5)
  obtain ⟨ad5, c5, hu5, q0, q1, q2⟩ := ho5.x.at_ (k := 0) (by decide)
  subst hu5
  rw [Nat.zero_mul, add_zero_] at q0
  replace q0 : w5.cell? ad5 = some (.int .i64 5) := q0
  clear ho5 hg5 q1 q2
  have k1 : w5.cell? ⟨w3.heap.size, 1, none⟩ = some (.string ⟨#[97]⟩) := (HB3.out.gr HG5.out).cell 1
  have HOL := hide (HO2.out.gr (HG3.out.trans HG5.out))
  have HGL := hide (HG2.out.trans (HG3.out.trans HG5.out))
  clear HO2 HG3 HG4 HG5 HB3 HG2 HG1 HO1 HO5
  go_wp2_with fail
  refine (HL.out _ _ HOL.out).mono ?_
  rintro e w6 ⟨rfl, rfl⟩
  go_wp2_with fail
  refine (HM.out _ _ HOL.out).mono ?_
  rintro e w7 ⟨rfl, hg7⟩
  have HO7 := hide (HOL.out.gr hg7)
  have HG7 := hide (HGL.out.trans hg7)
  clear HOL HGL hg7 q0 k1
  go_wp2_with fail
  refine (HA3.out _ _ HO7.out).mono ?_
  rintro e w8 ⟨u8, rfl, ho8, hg8⟩
  have HG8 := hide (HG7.out.trans hg8)
  obtain ⟨A8, c8, hu8, _⟩ := ho8.x.is
  subst hu8
  clear ho8 hg8
  go_wp2_with fail
  go_ret
  exact ⟨rfl, HG8.out⟩

end Go.Proofs.Ytcghbmpajolgpaa
