/-
  The walk of 'KeyForms'.
-/
import Derived.Test.YtkibbggiepggbaaKeyBegun
namespace Go.Proofs.Ytkibbggiepggbaa
open Go.RowKit KeyMath

def YesForms (w : World) (e : Ending) (w' : World) : Prop := e = .returned (.bool true) ∧ Gr w w'

def bads : List ByteArray := [⟨#[]⟩, ⟨#[97, 32, 98]⟩, ⟨#[127]⟩, ⟨#[110, 105, 110, 101, 45, 98, 121, 116, 101]⟩, ⟨#[32]⟩]
theorem bads_may : ∀ k : Fin 5, mayK (bads.getD k.val nothing) = false := by decide
theorem bads_rise : ∀ k : Fin 5, risingK [bads.getD k.val nothing] = false := by
  intro k
  exact rising_not (k := 0) (by simp) (riseAt_no (bads_may k))
theorem bads_size : ∀ k : Fin 5, (bads.getD k.val nothing).size ≤ 9 := by decide
theorem f0 : mayK ⟨#[33]⟩ = true := by decide
theorem f1 : mayK ⟨#[101, 105, 103, 104, 116, 45, 98, 121]⟩ = true := by decide
theorem f2 : mayK ⟨#[126]⟩ = true := by decide
theorem f3 : shardK ⟨#[97, 98]⟩ 3 = 0 := by decide
theorem f4 : shardK ⟨#[97, 98]⟩ (-1) = 0 := by decide
theorem f5 : withinK ⟨#[97]⟩ ⟨#[]⟩ ⟨#[]⟩ = true := by rw [withinK_eq]; decide
theorem f6 : withinK ⟨#[97]⟩ ⟨#[97]⟩ ⟨#[]⟩ = true := by rw [withinK_eq]; decide
theorem f7 : withinK ⟨#[97]⟩ ⟨#[98]⟩ ⟨#[]⟩ = false := by rw [withinK_eq]; decide
theorem f8 : withinK ⟨#[98]⟩ ⟨#[97]⟩ ⟨#[98]⟩ = false := by rw [withinK_eq]; decide
theorem f9 : withinK ⟨#[97, 98]⟩ ⟨#[97]⟩ ⟨#[98]⟩ = true := by rw [withinK_eq]; decide
theorem f10 : risingK [] = true := by rw [risingK_eq]; decide
theorem f11 : risingK [⟨#[97]⟩, ⟨#[97]⟩] = false := by rw [risingK_eq]; decide
theorem f12 : risingK [⟨#[97]⟩, ⟨#[97, 98]⟩, ⟨#[98]⟩] = true := by rw [risingK_eq]; decide

set_option maxRecDepth 100000 in
set_option maxHeartbeats 1000000 in
theorem walk_KeyForms (w : World) : Calls Try.prog 5 #[] w (YesForms w) := by
  go_enter Try.func5, Try.ntmps5
  go_wp2_with fail
  refine (begun_ok _).mono ?_
  rintro e w1 ⟨rfl, hg1⟩
  go_wp2_with fail
  have hst := strs_new w1 9 bads (by decide) (by decide)
  have hgW := (Gr.refl w1).alloc (.cells (bads.map Value.string).toArray 9)
  obtain ⟨W, hW⟩ : ∃ W, w1.alloc (.cells (bads.map Value.string).toArray 9) = W := ⟨_, rfl⟩
  rw [hW] at hst hgW
  simp only [bads, List.map_cons, List.map_nil] at hW
  rw [hW]
  obtain ⟨g, hg⟩ : ∃ g, w1.heap.size = g := ⟨_, rfl⟩
  rw [hg] at hst ⊢
  have HS := hide hst
  clear hW hg hst
  go_loopw [2] (fun i wr => ∃ k : Nat, i = .int .i64 k ∧ k ≤ 5 ∧ Gr W wr) (fun i _ => 5 - (intOf i).toNat)
  case atStart => exact ⟨0, rfl, by omega, Gr.refl _⟩
  case round =>
    obtain ⟨k, rfl, hk, hgr⟩ := hrel
    by_cases hlt : k < 5
    · have hlt' : (k : Int) < 5 := by omega
      obtain ⟨ad, e', hcell⟩ := (HS.out.gr hgr).at_ k hlt
      injection e' with e'
      subst e'
      have hm := bads_may ⟨k, hlt⟩
      have hr := hide (bads_rise ⟨k, hlt⟩)
      have hs := bads_size ⟨k, hlt⟩
      simp only [] at hm hr hs
      obtain ⟨x, hx⟩ : ∃ x, bads.getD k nothing = x := ⟨_, rfl⟩
      rw [hx] at hcell hm hr hs
      have e2 : (⟨g, 0, none⟩ : Addr).add k = ⟨g, k, none⟩ := by unfold Addr.add; split <;> simp_all
      rw [e2] at hcell
      have HM := hide hm
      clear hx e2 hm
      go_wp2_with fail
      refine (May_ok x (by omega) _).mono ?_
      rintro e w2 ⟨rfl, hg2⟩
      rw [HM.out]
      replace hcell := gr_cell hg2 _ _ hcell
      go_wp2_with fail
      refine (Rising_ok _ _ _ [x] rfl _ (strs_new w2 9 [x] (by simp [maxLen]) (by intro s h; simp at h; subst h; unfold maxLen; omega)) (by intro s h; simp at h; subst h; omega) (by simp)).mono ?_
      rintro e w3 ⟨rfl, hg3⟩
      rw [hr.out]
      replace hg3 := hgr.trans (hg2.trans (((Gr.refl w2).alloc _).trans hg3))
      go_wp2_with fail
      go_roundw
      case rel => exact ⟨k + 1, by go_num, by omega, hg3⟩
      case measure => simp [intOf]; omega
    · obtain rfl : k = 5 := by omega
      have hg := hg1.trans (hgW.trans hgr)
      clear hg1 hgW hgr
      go_wp2_with fail
      refine (May_ok _ (by decide) _).mono ?_
      rintro e h0 ⟨rfl, g0⟩
      rw [f0]
      replace hg := hg.trans g0
      clear g0
      go_wp2_with fail
      refine (May_ok _ (by decide) _).mono ?_
      rintro e h1 ⟨rfl, g1⟩
      rw [f1]
      replace hg := hg.trans g1
      clear g1
      go_wp2_with fail
      refine (May_ok _ (by decide) _).mono ?_
      rintro e h2 ⟨rfl, g2⟩
      rw [f2]
      replace hg := hg.trans g2
      clear g2
      go_wp2_with fail
      refine (Shard_ok _ (by decide) 3 (by decide) (by decide) _).mono ?_
      rintro e h3 ⟨rfl, g3⟩
      rw [f3]
      replace hg := hg.trans g3
      clear g3
      go_wp2_with fail
      refine (Shard_ok _ (by decide) (-1) (by decide) (by decide) _).mono ?_
      rintro e h4 ⟨rfl, g4⟩
      rw [f4]
      replace hg := hg.trans g4
      clear g4
      go_wp2_with fail
      refine (Within_ok _ _ _ _).mono ?_
      rintro e h5 ⟨rfl, g5⟩
      rw [f5]
      replace hg := hg.trans g5
      clear g5
      go_wp2_with fail
      refine (Within_ok _ _ _ _).mono ?_
      rintro e h6 ⟨rfl, g6⟩
      rw [f6]
      replace hg := hg.trans g6
      clear g6
      go_wp2_with fail
      refine (Within_ok _ _ _ _).mono ?_
      rintro e h7 ⟨rfl, g7⟩
      rw [f7]
      replace hg := hg.trans g7
      clear g7
      go_wp2_with fail
      refine (Within_ok _ _ _ _).mono ?_
      rintro e h8 ⟨rfl, g8⟩
      rw [f8]
      replace hg := hg.trans g8
      clear g8
      go_wp2_with fail
      refine (Within_ok _ _ _ _).mono ?_
      rintro e h9 ⟨rfl, g9⟩
      rw [f9]
      replace hg := hg.trans g9
      clear g9
      go_wp2_with fail
      refine (Rising_ok none 0 0 [] rfl _ ⟨fun j h => absurd h (by simp), by simp, by simp [maxLen], by simp⟩ (by simp) (by decide)).mono ?_
      rintro e h10 ⟨rfl, g10⟩
      rw [f10]
      replace hg := hg.trans g10
      clear g10
      go_wp2_with fail
      refine (Rising_ok _ _ _ [⟨#[97]⟩, ⟨#[97]⟩] rfl _ (strs_new h10 9 [⟨#[97]⟩, ⟨#[97]⟩] (by decide) (by decide)) (by decide) (by decide)).mono ?_
      rintro e h11 ⟨rfl, g11⟩
      rw [f11]
      replace hg := hg.trans (((Gr.refl h10).alloc _).trans g11)
      clear g11
      go_wp2_with fail
      refine (Rising_ok _ _ _ [⟨#[97]⟩, ⟨#[97, 98]⟩, ⟨#[98]⟩] rfl _ (strs_new h11 9 [⟨#[97]⟩, ⟨#[97, 98]⟩, ⟨#[98]⟩] (by decide) (by decide)) (by decide) (by decide)).mono ?_
      rintro e h12 ⟨rfl, g12⟩
      rw [f12]
      replace hg := hg.trans (((Gr.refl h11).alloc _).trans g12)
      clear g12
      go_wp2_with fail
      go_ret
      exact ⟨rfl, hg⟩

end Go.Proofs.Ytkibbggiepggbaa
