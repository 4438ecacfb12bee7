/-
  The walk of 'SeatForms'.
-/
import Derived.Test.YtgocapmclhimdaaSeBegun
namespace Go.Proofs.Ytgocapmclhimdaa
open Go Go.RowKit SeMath
set_option maxRecDepth 100000

def la : SeT := ⟨2, 5, 1⟩
def lb : SeT := ⟨7, 1, 2⟩
theorem lit_x {w : World} {g : Nat} (h : Bl w g 30 #[.int .i64 2, .int .i64 5, .int .i64 1, .int .i64 7, .int .i64 1, .int .i64 2]) : SeX w (.slice (some ⟨g, 0, none⟩) 2 2) [la, lb] := by
  have ho := ownR_of (e := 30) (k := 3) (B := 0) (c := 2) (rs := [la, lb].map seC) (seC_three _) (Nat.zero_le _) h rfl (Nat.le_refl _) (by decide) (fun j _ => by rw [h.cell]; simp [seC, la, lb])
  exact OwnR.rowAt ho

set_option maxHeartbeats 4000000 in
theorem walk_SeatForms (w : World) : Calls Try.prog 5 #[] w fun e w' => e = .returned (.bool true) ∧ Gr w w' := by
  have HBE := hide begun_ok
  have hr : Rise [la, lb] := by simp [Rise, la, lb]
  have HT := hide (fun (x : SeT) W g (h : SeX W (.slice (some ⟨g, 0, none⟩) 2 2) [la, lb]) => Turn_ok _ [la, lb] x W h (by decide) hr)
  have HT1 := hide (HT.out ⟨4, 1, 3⟩)
  have HT2 := hide (HT.out ⟨2, 6, 3⟩)
  have HT3 := hide (HT.out ⟨2, 5, 3⟩)
  have HT4 := hide (HT.out ⟨7, 0, 3⟩)
  have HT5 := hide (HT.out ⟨1, 9, 3⟩)
  have HT6 := hide (HT.out ⟨9, 9, 3⟩)
  have HS := hide (fun W u g (h : SeX W u [la, lb]) (h2 : SeX W (.slice (some ⟨g, 0, none⟩) 2 2) [la, lb]) => Same_ok u _ [la, lb] [la, lb] W h h2 (by decide))
  unfold TurnPost at HT1 HT2 HT3 HT4 HT5 HT6
  rw [show turnB ⟨4, 1, 3⟩ [la, lb] = true by decide, show turnL ⟨4, 1, 3⟩ [la, lb] = [la, ⟨4, 1, 3⟩, lb] by decide] at HT1
  rw [show turnB ⟨2, 6, 3⟩ [la, lb] = true by decide, show turnL ⟨2, 6, 3⟩ [la, lb] = [⟨2, 6, 3⟩, lb] by decide] at HT2
  rw [show turnB ⟨2, 5, 3⟩ [la, lb] = false by decide, show turnL ⟨2, 5, 3⟩ [la, lb] = [la, lb] by decide] at HT3
  rw [show turnB ⟨7, 0, 3⟩ [la, lb] = false by decide, show turnL ⟨7, 0, 3⟩ [la, lb] = [la, lb] by decide] at HT4
  rw [show turnB ⟨1, 9, 3⟩ [la, lb] = true by decide, show turnL ⟨1, 9, 3⟩ [la, lb] = [⟨1, 9, 3⟩, la, lb] by decide] at HT5
  rw [show turnB ⟨9, 9, 3⟩ [la, lb] = true by decide, show turnL ⟨9, 9, 3⟩ [la, lb] = [la, lb, ⟨9, 9, 3⟩] by decide] at HT6
  simp only [decide_true] at HS
  simp only at HT1 HT2 HT3 HT4 HT5 HT6
  clear HT hr
  go_enter Try.func5, Try.ntmps5
  go_wp2_with fail
  refine (HBE.out _).mono ?_
  rintro e w0 ⟨rfl, hg0⟩
  go_upto_region 4 with (fail)
  obtain ⟨W1, hW1⟩ : ∃ W1, w0.alloc (.cells #[.int .i64 2, .int .i64 5, .int .i64 1, .int .i64 7, .int .i64 1, .int .i64 2] 30) = W1 := ⟨_, rfl⟩
  have hg1 : Gr w0 W1 := by rw [← hW1]; exact (Gr.refl _).alloc _
  have hb1 : Bl W1 w0.heap.size 30 #[.int .i64 2, .int .i64 5, .int .i64 1, .int .i64 7, .int .i64 1, .int .i64 2] := by rw [← hW1]; exact Bl.new _ _ _
  rw [hW1]
  have HL := hide (lit_x hb1)
  have HG := hide (hg0.trans hg1)
  generalize w0.heap.size = g at HL ⊢
  clear hW1 hg1 hb1 hg0 HBE
  go_wp2_with fail
  refine (HT1.out _ _ HL.out).mono ?_
  rintro e w1 ⟨u1, rfl, ho1, hg1⟩
  have HO1 := hide ho1.x
  have HL := hide (HL.out.gr hg1)
  have HG := hide (HG.out.trans hg1)
  obtain ⟨A1, c1, rfl, _⟩ := ho1.x.is
  clear ho1 hg1 HT1
  go_wp2_with fail
  refine (HT2.out _ _ HL.out).mono ?_
  rintro e w2 ⟨u2, rfl, ho2, hg2⟩
  have HO2 := hide ho2.x
  have HO1 := hide (HO1.out.gr hg2)
  have HL := hide (HL.out.gr hg2)
  have HG := hide (HG.out.trans hg2)
  obtain ⟨A2, c2, rfl, _⟩ := ho2.x.is
  clear ho2 hg2 HT2
  go_wp2_with fail
  refine (HT3.out _ _ HL.out).mono ?_
  rintro e w3 ⟨u3, rfl, ho3, hg3⟩
  have HO3 := hide ho3.x
  have HO1 := hide (HO1.out.gr hg3)
  have HO2 := hide (HO2.out.gr hg3)
  have HL := hide (HL.out.gr hg3)
  have HG := hide (HG.out.trans hg3)
  obtain ⟨A3, c3, rfl, _⟩ := ho3.x.is
  clear ho3 hg3 HT3
  go_wp2_with fail
  refine (HT4.out _ _ HL.out).mono ?_
  rintro e w4 ⟨u4, rfl, ho4, hg4⟩
  have HO4 := hide ho4.x
  have HO1 := hide (HO1.out.gr hg4)
  have HO2 := hide (HO2.out.gr hg4)
  have HO3 := hide (HO3.out.gr hg4)
  have HL := hide (HL.out.gr hg4)
  have HG := hide (HG.out.trans hg4)
  obtain ⟨A4, c4, rfl, _⟩ := ho4.x.is
  clear ho4 hg4 HT4
  go_wp2_with fail
  refine (HT5.out _ _ HL.out).mono ?_
  rintro e w5 ⟨u5, rfl, ho5, hg5⟩
  have HO5 := hide ho5.x
  have HO1 := hide (HO1.out.gr hg5)
  have HO2 := hide (HO2.out.gr hg5)
  have HO3 := hide (HO3.out.gr hg5)
  have HO4 := hide (HO4.out.gr hg5)
  have HL := hide (HL.out.gr hg5)
  have HG := hide (HG.out.trans hg5)
  obtain ⟨A5, c5, rfl, _⟩ := ho5.x.is
  clear ho5 hg5 HT5
  go_wp2_with fail
  refine (HT6.out _ _ HL.out).mono ?_
  rintro e w6 ⟨u6, rfl, ho6, hg6⟩
  have HO6 := hide ho6.x
  have HO1 := hide (HO1.out.gr hg6)
  have HO2 := hide (HO2.out.gr hg6)
  have HO3 := hide (HO3.out.gr hg6)
  have HO4 := hide (HO4.out.gr hg6)
  have HO5 := hide (HO5.out.gr hg6)
  have HL := hide (HL.out.gr hg6)
  have HG := hide (HG.out.trans hg6)
  obtain ⟨A6, c6, rfl, _⟩ := ho6.x.is
  clear ho6 hg6 HT6
  obtain ⟨ad1, d1, e1, a0, _, _⟩ := HO1.out.at_ (k := 1) (by decide)
  obtain ⟨ad2, d2, e2, b0, b1, b2⟩ := HO2.out.at_ (k := 0) (by decide)
  obtain ⟨ad5, d5, e5, f0, _, _⟩ := HO5.out.at_ (k := 0) (by decide)
  obtain ⟨ad6, d6, e6, h0, _, _⟩ := HO6.out.at_ (k := 2) (by decide)
  simp only [Value.slice.injEq, true_and] at e1 e2 e5 e6
  obtain ⟨rfl, rfl⟩ := e1
  obtain ⟨rfl, rfl⟩ := e2
  obtain ⟨rfl, rfl⟩ := e5
  obtain ⟨rfl, rfl⟩ := e6
  rw [Nat.zero_mul, add_zero_] at b0 b1 b2 f0
  replace a0 : w6.cell? ⟨ad1.block, ad1.off + 3, none⟩ = some (.int .i64 4) := a0
  replace b0 : w6.cell? ad2 = some (.int .i64 2) := b0
  replace b1 : w6.cell? ⟨ad2.block, ad2.off + 1, none⟩ = some (.int .i64 6) := b1
  replace b2 : w6.cell? ⟨ad2.block, ad2.off + 2, none⟩ = some (.int .i64 3) := b2
  replace f0 : w6.cell? ad5 = some (.int .i64 1) := f0
  replace h0 : w6.cell? ⟨ad6.block, ad6.off + 6, none⟩ = some (.int .i64 9) := h0
  simp only [List.length_cons, List.length_nil, Nat.zero_add, Nat.reduceAdd]
  go_wp2_with fail
  refine (HS.out _ _ _ HO3.out HL.out).mono ?_
  rintro e w7 ⟨rfl, m7, rfl⟩
  go_wp2_with fail
  refine (HS.out _ _ _ (HO4.out.gr ((Gr.refl _).drewN m7)) (HL.out.gr ((Gr.refl _).drewN m7))).mono ?_
  rintro e w8 ⟨rfl, m8, rfl⟩
  go_wp2_with fail
  go_ret
  exact ⟨rfl, HG.out.drewN (m7 + m8)⟩

end Go.Proofs.Ytgocapmclhimdaa
