/-
  The law's begun, by its contract.
-/
import Derived.Test.YtgocapmclhimdaaSeDo
import Derived.Test.YtgocapmclhimdaaSeSame
namespace Go.Proofs.Ytgocapmclhimdaa
open Go Go.RowKit SeMath
set_option maxRecDepth 100000

def s215 : SeT := ⟨2, 1, 5⟩
def s216 : SeT := ⟨2, 1, 6⟩
set_option maxHeartbeats 4000000 in
theorem begun_ok (w : World) : Calls Try.prog 6 #[] w fun e w' => e = .returned (.bool true) ∧ Gr w w' := by
  have HT1 := hide (fun W => Turn_ok (.slice none 0 0) [] s215 W (SeX.nil W none 0) (by decide) (by simp [Rise]))
  have HT2 := hide (fun W u (h : SeX W u [s215]) => Turn_ok u [s215] s216 W h (by decide) (by simp [Rise]))
  have HF1 := hide (fun W u (h : SeX W u [s215]) => Find_ok u [s215] 2 W h (by decide))
  have HF2 := hide (fun W u (h : SeX W u [s215]) => Find_ok u [s215] 1 W h (by decide))
  have HS1 := hide (fun W u v (h : SeX W u [s215]) (h2 : SeX W v [s215]) => Same_ok u v [s215] [s215] W h h2 (by decide))
  have HS2 := hide (fun W u (h : SeX W u [s215]) => Same_ok u (.slice none 0 0) [s215] [] W h (SeX.nil W none 0) (by decide))
  unfold TurnPost at HT1 HT2
  unfold FindPost at HF1 HF2
  simp only [show turnB s215 [] = true by decide, show turnL s215 [] = [s215] by decide, show turnB s216 [s215] = false by decide, show turnL s216 [s215] = [s215] by decide, show findS 2 [s215] = s215 by decide, show hasS 2 [s215] = true by decide, show findS 1 [s215] = noSe by decide, show hasS 1 [s215] = false by decide, show decide ([s215] = []) = false by decide] at HT1 HT2 HF1 HF2 HS1 HS2
  simp only [seA, show s215.ses = 2 from rfl, show s215.seq = 1 from rfl, show s215.pos = 5 from rfl, show s216.ses = 2 from rfl, show s216.seq = 1 from rfl, show s216.pos = 6 from rfl, noSe] at HT1 HT2 HF1 HF2
  go_enter Try.func6, Try.ntmps6
  go_wp2_with fail
  refine (HT1.out _).mono ?_
  rintro e w1 ⟨u1, rfl, ho1, hg1⟩
  have HO1 := hide ho1.x
  have HG1 := hide hg1
  obtain ⟨A1, c1, rfl, _⟩ := ho1.x.is
  clear ho1 hg1
  go_wp2_with fail
  refine (HT2.out _ _ HO1.out).mono ?_
  rintro e w2 ⟨u2, rfl, ho2, hg2⟩
  have HO2 := hide ho2.x
  have HO1 := hide (HO1.out.gr hg2)
  have HG2 := hide (HG1.out.trans hg2)
  obtain ⟨A2, c2, rfl, _⟩ := ho2.x.is
  clear ho2 hg2
  go_wp2_with fail
  refine (HF1.out _ _ HO1.out).mono ?_
  rintro e w3 ⟨rfl, hg3⟩
  go_upto_region 4 with (fail)
  obtain ⟨W3, hW3⟩ : ∃ W3, w3.alloc (.cells #[.int .i64 2, .int .i64 1, .int .i64 5] 30) = W3 := ⟨_, rfl⟩
  have hb3 : Bl W3 w3.heap.size 30 #[.int .i64 2, .int .i64 1, .int .i64 5] := by rw [← hW3]; exact Bl.new _ _ _
  have hG3 : Gr w2 W3 := by rw [← hW3]; exact hg3.alloc _
  rw [hW3]
  have HB3 := hide hb3
  have HG3 := hide hG3
  clear hW3 hb3 hG3 hg3
  go_wp2_with fail
  refine (HF2.out _ _ (HO1.out.gr HG3.out)).mono ?_
  rintro e w4 ⟨rfl, hg4⟩
  go_upto_region 5 with (fail)
  obtain ⟨W4, hW4⟩ : ∃ W4, w4.alloc (.cells #[.int .i64 0, .int .i64 0, .int .i64 0] 30) = W4 := ⟨_, rfl⟩
  have hG4 : Gr W3 W4 := by rw [← hW4]; exact hg4.alloc _
  rw [hW4]
  have HX1 := hide (HO1.out.gr (HG3.out.trans hG4))
  have HX2 := hide (HO2.out.gr (HG3.out.trans hG4))
  have HB4 := hide (HB3.out.gr hG4)
  have HG4 := hide (HG2.out.trans (HG3.out.trans hG4))
  have k0 : W4.cell? ⟨w3.heap.size, 0, none⟩ = some (.int .i64 2) := HB4.out.cell 0
  have k1 : W4.cell? ⟨w3.heap.size, 1, none⟩ = some (.int .i64 1) := HB4.out.cell 1
  have k2 : W4.cell? ⟨w3.heap.size, 2, none⟩ = some (.int .i64 5) := HB4.out.cell 2
  clear hW4 hG4 HO1 HO2 HG3 HG2 HG1 HB3 hg4
  go_wp2_with fail
  refine (HS1.out _ _ _ HX1.out HX2.out).mono ?_
  rintro e w5 ⟨rfl, m5, rfl⟩
  go_wp2_with fail
  refine (HS2.out _ _ (HX1.out.gr ((Gr.refl _).drewN m5))).mono ?_
  rintro e w6 ⟨rfl, m6, rfl⟩
  go_wp2_with fail
  go_ret
  exact ⟨rfl, HG4.out.drewN (m5 + m6)⟩

end Go.Proofs.Ytgocapmclhimdaa
