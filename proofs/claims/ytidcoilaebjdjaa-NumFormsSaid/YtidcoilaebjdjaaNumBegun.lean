/-
  'begun' of the statements on num: true.
-/
import Derived.Test.YtidcoilaebjdjaaNumFirst
import Derived.Test.YtidcoilaebjdjaaNumText
import Derived.Test.YtidcoilaebjdjaaWords2
namespace Go.Proofs.Ytidcoilaebjdjaa
open Go.RowKit NumPlain

theorem putZ_300 : putZ 300 = [172, 2] := by decide
theorem take_300 : takeV [172, 2] = 300 ∧ takeK [172, 2] = 2 ∧ takeB [172, 2] = true := by decide
theorem take_128 : takeB [128] = false := by decide
theorem putT_ab : putT [97, 98] = [2, 97, 98] := by decide
theorem text_ab : textV [2, 97, 98] = ⟨#[97, 98]⟩ ∧ textK [2, 97, 98] = 3 ∧ textB [2, 97, 98] = true := by decide

set_option maxRecDepth 100000 in
set_option maxHeartbeats 400000 in
theorem begun_ok (w : World) : Calls Try.prog 8 #[] w fun e w' => e = .returned (.bool true) ∧ Gr w w' := by
  go_enter Try.func8, Try.ntmps8
  go_wp2_with fail
  refine (Put_ok 300 (by omega) _).mono ?_
  rintro e w1 ⟨v1, rfl, ho1, hg1⟩
  rw [putZ_300] at ho1
  obtain ⟨A1, c1, rfl, hb1⟩ := ho1.by_
  go_wp2_with fail
  refine (take_by A1 _ c1 _ rfl _ hb1 (by decide)).mono ?_
  rintro e w2 ⟨rfl, hg2⟩
  rw [take_300.1, take_300.2.1, take_300.2.2]
  go_wp2_with fail
  refine (take_by _ _ 1 [128] rfl _ (by_new w2 5 [128] (by decide)) (by decide)).mono ?_
  rintro e w3 ⟨rfl, hg3⟩
  rw [take_128]
  go_wp2_with fail
  refine (PutText_ok _ (by decide) _).mono ?_
  rintro e w4 ⟨v4, rfl, ho4, hg4⟩
  rw [show putT (ByteArray.mk #[97, 98]).data.toList = [2, 97, 98] from putT_ab] at ho4
  obtain ⟨A4, c4, rfl, hb4⟩ := ho4.by_
  go_wp2_with fail
  refine (takeText_by A4 _ c4 _ rfl _ hb4 (by decide)).mono ?_
  rintro e w5 ⟨rfl, hg5⟩
  rw [text_ab.1, text_ab.2.1, text_ab.2.2]
  have hg15 : Gr w1 w5 := hg2.trans (((Gr.refl w2).alloc _).trans (hg3.trans (hg4.trans hg5)))
  have hgw : Gr w w5 := hg1.trans hg15
  have hconv : (convert 22 9 (.slice A1 2 c1)).run Try.prog w5 = .ok (.string ⟨#[172, 2]⟩) w5 := run_conv w5 22 9 5 Try.underlying22 Try.underlying5 Try.underlying9 (l := [172, 2]) _ _ rfl (hb1.rd.gr hg15)
  have hb1' := hide hb1
  clear hb1 ho1 ho4 hb4
  go_wp2_with fail
  refine (Put_ok _ (by decide) _).mono ?_
  rintro e w6 ⟨v6, rfl, ho6, hg6⟩
  rw [show putZ (-1) = [] from by decide] at ho6
  obtain ⟨A6, c6, rfl, hb6⟩ := ho6.by_
  clear ho6 hb6
  go_wp2_with fail
  go_ret
  exact ⟨rfl, hgw.trans hg6⟩

end Go.Proofs.Ytidcoilaebjdjaa
