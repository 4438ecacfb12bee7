/-
  'begun' of the statements on frame: true.
-/
import Derived.Test.YtfcbhmfhhkifnaaFrameDone
import Derived.Test.YtfcbhmfhhkifnaaFrameTakeRef
import Derived.Lib.SlBytesConst
namespace Go.Proofs.Ytfcbhmfhhkifnaa
open Go.RowKit FrameMath

theorem ab_enc : ∃ a b c d, enc [97, 98] = [0, 2, a, b, c, d, 97, 98] := ⟨_, _, _, _, rfl⟩
theorem ab_put : putL [97, 98] = enc [97, 98] ∧ putB [97, 98] = true := putL_yes (by decide)
theorem ab_take : takeL (enc [97, 98]) = [97, 98] ∧ takeK (enc [97, 98]) = 8 ∧ takeB (enc [97, 98]) = true := by
  have hi := is_enc (l := [97, 98]) (r := []) (by decide)
  have hl := load_enc (l := [97, 98]) (r := []) (by decide)
  have hn := len_enc (l := [97, 98]) (r := []) (by decide)
  rw [List.append_nil] at hi hl hn
  obtain ⟨p1, p2, p3⟩ := take_yes hi
  refine ⟨p1.trans hl, ?_, p3⟩
  rw [p2, hn]
  rfl
theorem ab_all : all (enc [97, 98] ++ enc [97, 98]) = [[97, 98], [97, 98]] ∧ allK (enc [97, 98] ++ enc [97, 98]) = 16 := by
  have h : all (enc [97, 98] ++ enc [97, 98]) = [[97, 98], [97, 98]] := by
    rw [all_enc (by decide)]
    have := all_enc (l := [97, 98]) (r := []) (by decide)
    rw [List.append_nil] at this
    rw [this, all_nil]
  refine ⟨h, ?_⟩
  unfold allK
  rw [h]
  rfl
theorem nil_take : takeL [] = [] ∧ takeK [] = 0 ∧ takeB [] = false := take_no is_not_nil

set_option maxRecDepth 100000 in
set_option maxHeartbeats 400000 in
theorem begun_ok (w : World) : Calls Try.prog 8 #[] w fun e w' => e = .returned (.bool true) ∧ Gr w w' := by
  have kc := fun (w : World) (C : Array Value) (n c : Nat) => Lib.run_convert_bytes_const (P := Try.prog) w 22 5 C n c Try.underlying22 Try.underlying5
  obtain ⟨i0, hi, hz0, hz1, hz2⟩ := info_parts info_u8'
  go_enter Try.func8, Try.ntmps8
  go_wp2_with fail
  refine (Put_ok _ _ _ [97, 98] rfl _ (by_lit w 5 [97, 98] _ (by decide)) (by decide)).mono ?_
  rintro e w1 ⟨v1, t1, rfl, ho1, hg1⟩
  rw [ab_put.1] at ho1
  rw [ab_put.2]
  replace hg1 := ((Gr.refl w).alloc _).trans hg1
  obtain ⟨ea, eb, ec, ed, henc⟩ := ab_enc
  obtain ⟨A1, c1, rfl, hb1⟩ := ho1.by_
  have hT := ab_take
  have hA := ab_all
  rw [henc] at hb1 hT hA ⊢
  clear ho1 henc
  go_wp2_with fail
  refine (Take_ok A1 _ c1 _ rfl _ hb1 (by simp)).mono ?_
  rintro e w2 ⟨A2, c2, rfl, hb2, hg2⟩
  rw [hT.1] at hb2 ⊢
  rw [hT.2.1, hT.2.2]
  replace hb1 := hb1.gr hg2
  go_wp2_with (at_builtin; first | (refine wpList_app rfl (.tmp 24) (.tmp 25) _ rfl 5 i0 Try.underlying22 hi hz0 hz1 hz2 (r := [0, 2, ea, eb, ec, ed, 97, 98]) rfl rfl (own_empty w2 5 (Gr.refl w2)) ((Gr.refl w2).alloc _) rfl (hb1.gr ((Gr.refl w2).alloc _)).rd hb1.nil (by simp) ?_; intro v3 w3 ho3 hg3) | (refine wpList_app rfl (.tmp 26) (.tmp 27) _ rfl 5 i0 Try.underlying22 hi hz0 hz1 hz2 (r := [0, 2, ea, eb, ec, ed, 97, 98]) rfl rfl ho3 hg3 rfl (hb1.gr hg3).rd hb1.nil (by simp) ?_; intro v4 w4 ho4 hg4))
  rw [List.nil_append] at ho4
  obtain ⟨A4, c4, rfl, hb4⟩ := ho4.by_
  clear ho4 ho3 hg3
  refine (All_ok A4 _ c4 _ rfl _ hb4 (by simp)).mono ?_
  rintro e w5 ⟨A5, c5, rfl, hr5, hg5⟩
  rw [hA.1, hA.2]
  have hg25 : Gr w2 w5 := hg4.trans hg5
  clear hb4 hr5 hA hT hg5 hg4
  go_wp2_with fail
  refine (Take_ok none 0 0 [] rfl _ ⟨Rd.nil _ _, by simp, by simp [maxLen], fun _ => rfl⟩ (by decide)).mono ?_
  rintro e w6 ⟨A6, c6, rfl, hb6, hg6⟩
  rw [nil_take.1, nil_take.2.1, nil_take.2.2]
  have hg26 := hg25.trans hg6
  replace hb1 := hb1.gr hg26
  replace hb2 := hb2.gr hg26
  have hgw : Gr w w6 := hg1.trans (hg2.trans hg26)
  have hconv : (convert 22 9 (.slice A2 2 c2)).run Try.prog w6 = .ok (.string ⟨#[97, 98]⟩) w6 := run_conv w6 22 9 5 Try.underlying22 Try.underlying5 Try.underlying9 (l := [97, 98]) _ _ rfl hb2.rd
  obtain ⟨ad, rfl, hcell⟩ := hb1.cell 1 (by simp)
  rw [Addr.add_succ'] at hcell
  have hcell' : w6.cell? ⟨ad.block, ad.off + 1, none⟩ = some (.int .u8 2) := hcell
  have HG := hide hgw
  clear hb6 hb1 hb2 hcell hg25 hg26 hg1 hg2 hg6 hgw
  go_wp2_with fail
  go_ret
  exact ⟨rfl, HG.out⟩

end Go.Proofs.Ytfcbhmfhhkifnaa
