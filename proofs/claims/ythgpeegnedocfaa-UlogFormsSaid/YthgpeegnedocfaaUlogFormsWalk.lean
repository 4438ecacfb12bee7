/-
  The walk of 'UlogForms'.
-/
import Derived.Test.YthgpeegnedocfaaUlogBegun
import Derived.Test.YthgpeegnedocfaaUlGrow
import Derived.Test.YthgpeegnedocfaaBaseL
namespace Go.Proofs.Ythgpeegnedocfaa
open Go Go.RowKit TxnMath KeyMath MsgMath
set_option maxRecDepth 100000

def eF : List EntT := [sealE 1, sealE 2, sealE 2, sealE 3]
def lF : List EntT := [sealE 1, sealE 2, sealE 2]
def cF : List EntT := [sealE 1, sealE 3]
theorem sm_eF : Grow.Sm eF := ⟨by decide, fun e he => by
  simp only [eF, List.mem_cons, List.not_mem_nil, or_false] at he
  rcases he with rfl | rfl | rfl | rfl <;> exact sealE_bnd _⟩
theorem sm_lF : Grow.Sm lF := ⟨by decide, fun e he => by
  simp only [lF, List.mem_cons, List.not_mem_nil, or_false] at he
  rcases he with rfl | rfl | rfl <;> exact sealE_bnd _⟩
theorem sm_cF : Grow.Sm cF := ⟨by decide, fun e he => by
  simp only [cF, List.mem_cons, List.not_mem_nil, or_false] at he
  rcases he with rfl | rfl <;> exact sealE_bnd _⟩

set_option maxHeartbeats 2000000 in
theorem walk_UlogForms (w : World) : Calls Try.prog 6 #[] w fun e w' => e = .returned (.bool true) ∧ Gr w w' := by
  go_enter Try.func6, Try.ntmps6
  go_wp2_with fail
  refine (begun_ok _).mono ?_
  rintro e w1 ⟨rfl, hg1⟩
  go_wp2_with fail
  obtain ⟨W1, hW1⟩ : ∃ W1, w1.alloc (.cells #[.int .i64 1, .bool true, .int .i64 0, .int .i64 0, .slice none 0 0, .slice none 0 0, .int .i64 2, .bool true, .int .i64 0, .int .i64 0, .slice none 0 0, .slice none 0 0, .int .i64 2, .bool true, .int .i64 0, .int .i64 0, .slice none 0 0, .slice none 0 0, .int .i64 3, .bool true, .int .i64 0, .int .i64 0, .slice none 0 0, .slice none 0 0] 39) = W1 := ⟨_, rfl⟩
  have E1 : EntsX Any W1 (.slice (some ⟨w1.heap.size, 0, none⟩) 4 4) eF := seals_lit (ts := [1, 2, 2, 3]) rfl (by decide) hW1
  have g1 : Gr w1 W1 := by rw [← hW1]; exact (Gr.refl _).alloc _
  rw [hW1]
  have HE := hide (E1.gr (Gr.refl W1).drew)
  have HL := hide ((E1.take 3 (by decide)).gr (Gr.refl W1).drew)
  have HG := hide (hg1.trans g1)
  clear E1 g1 hW1 hg1
  refine Grow.wp_region_grown 109 rfl (by kernel_rfl) (by kernel_rfl) (Grow.Ahead.more (Grow.Ahead.more (Grow.Ahead.none_ _ _) 1 (Grow.En.stays eF) HE.out) 2 (Grow.En.stays lF) HL.out) ?_
  refine Grow.grow_move _ (Φ := (Grow.En (lF))) (.inl rfl) (.inl ⟨rfl, rfl⟩) rfl (Grow.En.stays _) ?_
  refine Grow.grow_move _ (Φ := (Grow.En (eF))) (.inl rfl) (.inl ⟨rfl, rfl⟩) rfl (Grow.En.stays _) ?_
  refine Grow.grow_drop_en (l := eF) 3 rfl (by decide) rfl (.inl ⟨rfl, rfl⟩) rfl (fun _ => rfl) ?_
  refine Grow.grow_call3 (Φ := (Grow.En (eF))) rfl (.inl ⟨rfl, rfl⟩) Try.func16 (by kernel_rfl) (by kernel_rfl) rfl (fun _ => rfl) rfl (Grow.En.stays _) (Grow.kJoin sm_lF (sm_eF.drop 3) (by decide)) ?_
  refine Grow.grow_move _ (Φ := (Grow.En (lF))) (.inl rfl) (.inl ⟨rfl, rfl⟩) rfl (Grow.En.stays _) ?_
  refine Grow.grow_move _ (Φ := (Grow.En (eF))) (.inl rfl) (.inl ⟨rfl, rfl⟩) rfl (Grow.En.stays _) ?_
  refine Grow.grow_mid_en (l := eF) 1 2 rfl rfl (by decide) (by decide) rfl (.inl ⟨rfl, rfl⟩) rfl (fun _ => rfl) (fun _ => rfl) ?_
  refine Grow.grow_call3 (Φ := (Grow.En (lF))) rfl (.inl ⟨rfl, rfl⟩) Try.func16 (by kernel_rfl) (by kernel_rfl) rfl (fun _ => rfl) rfl (Grow.En.stays _) (Grow.kJoin sm_lF ((sm_eF.take 2).drop 1) (by decide)) ?_
  refine Grow.grow_move _ (Φ := (Grow.En (lF))) (.inl rfl) (.inl ⟨rfl, rfl⟩) rfl (Grow.En.stays _) ?_
  refine Grow.grow_move _ (Φ := (Grow.En (eF))) (.inl rfl) (.inl ⟨rfl, rfl⟩) rfl (Grow.En.stays _) ?_
  refine Grow.grow_drop_en (l := eF) 3 rfl (by decide) rfl (.inl ⟨rfl, rfl⟩) rfl (fun _ => rfl) ?_
  refine Grow.grow_call3 (Φ := (Grow.En (cF))) rfl (.inl ⟨rfl, rfl⟩) Try.func16 (by kernel_rfl) (by kernel_rfl) rfl (fun _ => rfl) rfl (Grow.En.stays _) (Grow.kJoin sm_lF (sm_eF.drop 3) (by decide)) ?_
  refine Grow.grow_move _ (Φ := (Grow.En (lF))) (.inl rfl) (.inl ⟨rfl, rfl⟩) rfl (Grow.En.stays _) ?_
  refine Grow.grow_move _ (Φ := (Grow.En (eF))) (.inl rfl) (.inl ⟨rfl, rfl⟩) rfl (Grow.En.stays _) ?_
  refine Grow.grow_drop_en (l := eF) 3 rfl (by decide) rfl (.inl ⟨rfl, rfl⟩) rfl (fun _ => rfl) ?_
  refine Grow.grow_call3 (Φ := (Grow.En (lF))) rfl (.inl ⟨rfl, rfl⟩) Try.func16 (by kernel_rfl) (by kernel_rfl) rfl (fun _ => rfl) rfl (Grow.En.stays _) (Grow.kJoin sm_lF (sm_eF.drop 3) (by decide)) ?_
  refine Grow.grow_move _ (Φ := (Grow.En (eF))) (.inr rfl) (.inl ⟨rfl, rfl⟩) rfl (Grow.En.stays _) ?_
  refine Grow.grow_move _ (Φ := (Grow.En (lF))) (.inr rfl) (.inl ⟨rfl, rfl⟩) rfl (Grow.En.stays _) ?_
  refine Grow.grow_move _ (Φ := (Grow.En (cF))) (.inr rfl) (.inl ⟨rfl, rfl⟩) rfl (Grow.En.stays _) ?_
  refine Grow.grow_move _ (Φ := (Grow.En (lF))) (.inr rfl) (.inl ⟨rfl, rfl⟩) rfl (Grow.En.stays _) ?_

  intro a1 u1 hg7 hs7 hd7 hk7
  have s1 := hk7 1
  have s2 := hk7 2
  have s3 := hk7 3
  have s4 := hk7 4
  have s5 := hk7 5
  have s6 := hk7 6
  clear hk7
  go_step
  go_step
  go_step
  refine Grow.wp_region_text 109 [32, 33, 34, 35, 36, 37, 38, 39, 40, 41, 42, 43, 44, 45, 46, 47, 48, 49, 50, 51, 52, 53, 54, 55, 56, 57, 58, 59, 60, 61, 62, 63, 64, 65, 66, 67, 68, 69, 70, 71, 72, 73, 74, 75, 76, 77, 78, 79, 80, 81, 82, 83, 84, 85, 86, 87, 88, 89, 90, 91, 92, 93, 94, 95, 96, 97, 98, 99, 100, 101, 102, 103, 104, 105, 106, 107, 108, 0] hs7 (by kernel_rfl) (by kernel_rfl) (Grow.Ahead.more (Grow.Ahead.more (Grow.Ahead.more (Grow.Ahead.more (Grow.Ahead.more (Grow.Ahead.more (Grow.Ahead.none_ _ _) 1 (Grow.En.stays eF) s1) 2 (Grow.En.stays lF) s2) 3 (Grow.En.stays eF) s3) 4 (Grow.En.stays lF) s4) 5 (Grow.En.stays cF) s5) 6 (Grow.En.stays lF) s6) ?_
  refine Grow.grow_move _ (Φ := (Grow.En (eF))) (.inl rfl) (.inl ⟨rfl, rfl⟩) rfl (Grow.En.stays _) ?_
  refine Grow.grow_len_en (n := 4) rfl rfl (.inl ⟨rfl, rfl⟩) rfl ?_
  refine Grow.grow_int (c := .bool true) rfl (.inl ⟨rfl, rfl⟩) rfl (fun _ => rfl) rfl ?_
  refine Grow.grow_mv (c := .bool true) (.inl rfl) (.inl ⟨rfl, rfl⟩) rfl ?_
  refine Grow.grow_move _ (Φ := (Grow.En (eF))) (.inl rfl) (.inr ⟨3, true, 35, rfl, rfl, rfl, by decide⟩) rfl (Grow.En.stays _) ?_
  refine Grow.grow_at_en (l := eF) 3 rfl (t := 3) (rfl) rfl (.inr ⟨3, true, 35, rfl, rfl, rfl, by decide⟩) rfl (fun _ => rfl) ?_
  refine Grow.grow_term rfl (.inr ⟨3, true, 35, rfl, rfl, rfl, by decide⟩) rfl ?_
  refine Grow.grow_load rfl (fun _ => by kernel_rfl) (.inr ⟨3, true, 35, rfl, rfl, rfl, by decide⟩) rfl ?_
  refine Grow.grow_int (c := .bool true) rfl (.inr ⟨3, true, 35, rfl, rfl, rfl, by decide⟩) rfl (fun _ => rfl) rfl ?_
  refine Grow.grow_pick_yes (Φ := (Grow.Is (.bool true))) rfl (.inl ⟨rfl, rfl⟩) rfl rfl (Grow.Is.stays _) ?_
  refine Grow.grow_mv (c := .bool true) (.inl rfl) (.inl ⟨rfl, rfl⟩) rfl ?_
  refine Grow.grow_move _ (Φ := (Grow.En (lF))) (.inl rfl) (.inr ⟨10, true, 42, rfl, rfl, rfl, by decide⟩) rfl (Grow.En.stays _) ?_
  refine Grow.grow_len_en (n := 3) rfl rfl (.inr ⟨10, true, 42, rfl, rfl, rfl, by decide⟩) rfl ?_
  refine Grow.grow_int (c := .bool true) rfl (.inr ⟨10, true, 42, rfl, rfl, rfl, by decide⟩) rfl (fun _ => rfl) rfl ?_
  refine Grow.grow_pick_yes (Φ := (Grow.Is (.bool true))) rfl (.inl ⟨rfl, rfl⟩) rfl rfl (Grow.Is.stays _) ?_
  refine Grow.grow_mv (c := .bool true) (.inl rfl) (.inl ⟨rfl, rfl⟩) rfl ?_
  refine Grow.grow_move _ (Φ := (Grow.En (cF))) (.inl rfl) (.inr ⟨15, true, 47, rfl, rfl, rfl, by decide⟩) rfl (Grow.En.stays _) ?_
  refine Grow.grow_len_en (n := 2) rfl rfl (.inr ⟨15, true, 47, rfl, rfl, rfl, by decide⟩) rfl ?_
  refine Grow.grow_int (c := .bool true) rfl (.inr ⟨15, true, 47, rfl, rfl, rfl, by decide⟩) rfl (fun _ => rfl) rfl ?_
  refine Grow.grow_pick_yes (Φ := (Grow.Is (.bool true))) rfl (.inl ⟨rfl, rfl⟩) rfl rfl (Grow.Is.stays _) ?_
  refine Grow.grow_mv (c := .bool true) (.inl rfl) (.inl ⟨rfl, rfl⟩) rfl ?_
  refine Grow.grow_move _ (Φ := (Grow.En (cF))) (.inl rfl) (.inr ⟨20, true, 52, rfl, rfl, rfl, by decide⟩) rfl (Grow.En.stays _) ?_
  refine Grow.grow_at_en (l := cF) 1 rfl (t := 3) (rfl) rfl (.inr ⟨20, true, 52, rfl, rfl, rfl, by decide⟩) rfl (fun _ => rfl) ?_
  refine Grow.grow_term rfl (.inr ⟨20, true, 52, rfl, rfl, rfl, by decide⟩) rfl ?_
  refine Grow.grow_load rfl (fun _ => by kernel_rfl) (.inr ⟨20, true, 52, rfl, rfl, rfl, by decide⟩) rfl ?_
  refine Grow.grow_int (c := .bool true) rfl (.inr ⟨20, true, 52, rfl, rfl, rfl, by decide⟩) rfl (fun _ => rfl) rfl ?_
  refine Grow.grow_pick_yes (Φ := (Grow.Is (.bool true))) rfl (.inl ⟨rfl, rfl⟩) rfl rfl (Grow.Is.stays _) ?_
  refine Grow.grow_mv (c := .bool true) (.inl rfl) (.inl ⟨rfl, rfl⟩) rfl ?_
  refine Grow.grow_move _ (Φ := (Grow.En (lF))) (.inl rfl) (.inr ⟨27, true, 59, rfl, rfl, rfl, by decide⟩) rfl (Grow.En.stays _) ?_
  refine Grow.grow_move _ (Φ := (Grow.En (lF))) (.inl rfl) (.inr ⟨27, true, 59, rfl, rfl, rfl, by decide⟩) rfl (Grow.En.stays _) ?_
  refine Grow.grow_call2 (Φ := (Grow.Is (.bool true))) rfl (.inr ⟨27, true, 59, rfl, rfl, rfl, by decide⟩) Try.func20 (by kernel_rfl) (by kernel_rfl) rfl rfl (Grow.Is.stays _) (Grow.kSame sm_lF sm_lF (by decide)) ?_
  refine Grow.grow_pick_yes (Φ := (Grow.Is (.bool true))) rfl (.inl ⟨rfl, rfl⟩) rfl rfl (Grow.Is.stays _) ?_
  refine Grow.grow_mv (c := .bool true) (.inl rfl) (.inl ⟨rfl, rfl⟩) rfl ?_
  refine Grow.grow_move _ (Φ := (Grow.En (lF))) (.inl rfl) (.inr ⟨32, true, 64, rfl, rfl, rfl, by decide⟩) rfl (Grow.En.stays _) ?_
  refine Grow.grow_move _ (Φ := (Grow.En (eF))) (.inl rfl) (.inr ⟨32, true, 64, rfl, rfl, rfl, by decide⟩) rfl (Grow.En.stays _) ?_
  refine Grow.grow_call3 (Φ := (Grow.En (lF))) rfl (.inr ⟨32, true, 64, rfl, rfl, rfl, by decide⟩) Try.func16 (by kernel_rfl) (by kernel_rfl) rfl (fun _ => rfl) rfl (Grow.En.stays _) (Grow.kJoin sm_lF sm_eF (by decide)) ?_
  refine Grow.grow_move _ (Φ := (Grow.En (lF))) (.inl rfl) (.inr ⟨32, true, 64, rfl, rfl, rfl, by decide⟩) rfl (Grow.En.stays _) ?_
  refine Grow.grow_call2 (Φ := (Grow.Is (.bool true))) rfl (.inr ⟨32, true, 64, rfl, rfl, rfl, by decide⟩) Try.func20 (by kernel_rfl) (by kernel_rfl) rfl rfl (Grow.Is.stays _) (Grow.kSame sm_lF sm_lF (by decide)) ?_
  refine Grow.grow_pick_yes (Φ := (Grow.Is (.bool true))) rfl (.inl ⟨rfl, rfl⟩) rfl rfl (Grow.Is.stays _) ?_
  refine Grow.grow_mv (c := .bool true) (.inl rfl) (.inl ⟨rfl, rfl⟩) rfl ?_
  refine Grow.grow_move _ (Φ := (Grow.En (eF))) (.inl rfl) (.inr ⟨39, true, 71, rfl, rfl, rfl, by decide⟩) rfl (Grow.En.stays _) ?_
  refine Grow.grow_call3 (Φ := (Grow.En (eF))) rfl (.inr ⟨39, true, 71, rfl, rfl, rfl, by decide⟩) Try.func16 (by kernel_rfl) (by kernel_rfl) Grow.En.nil (fun _ => rfl) rfl (Grow.En.stays _) (Grow.kJoin Grow.Sm.nil sm_eF (by decide)) ?_
  refine Grow.grow_move _ (Φ := (Grow.En (eF))) (.inl rfl) (.inr ⟨39, true, 71, rfl, rfl, rfl, by decide⟩) rfl (Grow.En.stays _) ?_
  refine Grow.grow_call2 (Φ := (Grow.Is (.bool true))) rfl (.inr ⟨39, true, 71, rfl, rfl, rfl, by decide⟩) Try.func20 (by kernel_rfl) (by kernel_rfl) rfl rfl (Grow.Is.stays _) (Grow.kSame sm_eF sm_eF (by decide)) ?_
  refine Grow.grow_pick_yes (Φ := (Grow.Is (.bool true))) rfl (.inl ⟨rfl, rfl⟩) rfl rfl (Grow.Is.stays _) ?_
  refine Grow.grow_mv (c := .bool true) (.inl rfl) (.inl ⟨rfl, rfl⟩) rfl ?_
  refine Grow.grow_move _ (Φ := (Grow.En (lF))) (.inl rfl) (.inr ⟨45, true, 77, rfl, rfl, rfl, by decide⟩) rfl (Grow.En.stays _) ?_
  refine Grow.grow_call2 (Φ := (Grow.Is (.int .i64 0))) rfl (.inr ⟨45, true, 77, rfl, rfl, rfl, by decide⟩) Try.func11 (by kernel_rfl) (by kernel_rfl) rfl (fun _ => rfl) (Grow.Is.stays _) (Grow.kTerm sm_lF (by decide)) ?_
  refine Grow.grow_int (c := .bool true) rfl (.inr ⟨45, true, 77, rfl, rfl, rfl, by decide⟩) rfl (fun _ => rfl) rfl ?_
  refine Grow.grow_pick_yes (Φ := (Grow.Is (.bool true))) rfl (.inl ⟨rfl, rfl⟩) rfl rfl (Grow.Is.stays _) ?_
  refine Grow.grow_mv (c := .bool true) (.inl rfl) (.inl ⟨rfl, rfl⟩) rfl ?_
  refine Grow.grow_move _ (Φ := (Grow.En (lF))) (.inl rfl) (.inr ⟨50, true, 82, rfl, rfl, rfl, by decide⟩) rfl (Grow.En.stays _) ?_
  refine Grow.grow_call2 (Φ := (Grow.Is (.int .i64 0))) rfl (.inr ⟨50, true, 82, rfl, rfl, rfl, by decide⟩) Try.func11 (by kernel_rfl) (by kernel_rfl) rfl (fun _ => rfl) (Grow.Is.stays _) (Grow.kTerm sm_lF (by decide)) ?_
  refine Grow.grow_int (c := .bool true) rfl (.inr ⟨50, true, 82, rfl, rfl, rfl, by decide⟩) rfl (fun _ => rfl) rfl ?_
  refine Grow.grow_pick_yes (Φ := (Grow.Is (.bool true))) rfl (.inl ⟨rfl, rfl⟩) rfl rfl (Grow.Is.stays _) ?_
  refine Grow.grow_mv (c := .bool true) (.inl rfl) (.inl ⟨rfl, rfl⟩) rfl ?_
  refine Grow.grow_move _ (Φ := (Grow.En (lF))) (.inl rfl) (.inr ⟨55, true, 87, rfl, rfl, rfl, by decide⟩) rfl (Grow.En.stays _) ?_
  refine Grow.grow_call3 (Φ := (Grow.Is (.bool false))) rfl (.inr ⟨55, true, 87, rfl, rfl, rfl, by decide⟩) Try.func13 (by kernel_rfl) (by kernel_rfl) rfl (fun _ => rfl) (fun _ => rfl) (Grow.Is.stays _) (Grow.kHas sm_lF (by decide)) ?_
  refine Grow.grow_un (c := .bool true) rfl (.inr ⟨55, true, 87, rfl, rfl, rfl, by decide⟩) rfl (fun _ => rfl) ?_
  refine Grow.grow_pick_yes (Φ := (Grow.Is (.bool true))) rfl (.inl ⟨rfl, rfl⟩) rfl rfl (Grow.Is.stays _) ?_
  refine Grow.grow_mv (c := .bool true) (.inl rfl) (.inl ⟨rfl, rfl⟩) rfl ?_
  refine Grow.grow_move _ (Φ := (Grow.En (lF))) (.inl rfl) (.inr ⟨60, true, 92, rfl, rfl, rfl, by decide⟩) rfl (Grow.En.stays _) ?_
  refine Grow.grow_call3 (Φ := (Grow.Is (.bool false))) rfl (.inr ⟨60, true, 92, rfl, rfl, rfl, by decide⟩) Try.func13 (by kernel_rfl) (by kernel_rfl) rfl (fun _ => rfl) (fun _ => rfl) (Grow.Is.stays _) (Grow.kHas sm_lF (by decide)) ?_
  refine Grow.grow_un (c := .bool true) rfl (.inr ⟨60, true, 92, rfl, rfl, rfl, by decide⟩) rfl (fun _ => rfl) ?_
  refine Grow.grow_pick_yes (Φ := (Grow.Is (.bool true))) rfl (.inl ⟨rfl, rfl⟩) rfl rfl (Grow.Is.stays _) ?_
  refine Grow.grow_mv (c := .bool true) (.inl rfl) (.inl ⟨rfl, rfl⟩) rfl ?_
  refine Grow.grow_call3 (Φ := (Grow.Is (.bool true))) rfl (.inr ⟨65, true, 97, rfl, rfl, rfl, by decide⟩) Try.func18 (by kernel_rfl) (by kernel_rfl) Grow.En.nil (fun _ => rfl) (fun _ => rfl) (Grow.Is.stays _) (Grow.kNewer Grow.Sm.nil (by decide)) ?_
  refine Grow.grow_pick_yes (Φ := (Grow.Is (.bool true))) rfl (.inl ⟨rfl, rfl⟩) rfl rfl (Grow.Is.stays _) ?_
  refine Grow.grow_mv (c := .bool true) (.inl rfl) (.inl ⟨rfl, rfl⟩) rfl ?_
  refine Grow.grow_move _ (Φ := (Grow.En (lF))) (.inl rfl) (.inr ⟨68, true, 100, rfl, rfl, rfl, by decide⟩) rfl (Grow.En.stays _) ?_
  refine Grow.grow_call3 (Φ := (Grow.Is (.bool false))) rfl (.inr ⟨68, true, 100, rfl, rfl, rfl, by decide⟩) Try.func18 (by kernel_rfl) (by kernel_rfl) rfl (fun _ => rfl) (fun _ => rfl) (Grow.Is.stays _) (Grow.kNewer sm_lF (by decide)) ?_
  refine Grow.grow_un (c := .bool true) rfl (.inr ⟨68, true, 100, rfl, rfl, rfl, by decide⟩) rfl (fun _ => rfl) ?_
  refine Grow.grow_pick_yes (Φ := (Grow.Is (.bool true))) rfl (.inl ⟨rfl, rfl⟩) rfl rfl (Grow.Is.stays _) ?_
  refine Grow.grow_mv (c := .bool true) (.inl rfl) (.inl ⟨rfl, rfl⟩) rfl ?_
  refine Grow.grow_move _ (Φ := (Grow.En (lF))) (.inl rfl) (.inr ⟨73, true, 105, rfl, rfl, rfl, by decide⟩) rfl (Grow.En.stays _) ?_
  refine Grow.grow_call3 (Φ := (Grow.Is (.bool true))) rfl (.inr ⟨73, true, 105, rfl, rfl, rfl, by decide⟩) Try.func18 (by kernel_rfl) (by kernel_rfl) rfl (fun _ => rfl) (fun _ => rfl) (Grow.Is.stays _) (Grow.kNewer sm_lF (by decide)) ?_
  refine Grow.grow_pick_yes (Φ := (Grow.Is (.bool true))) rfl (.inl ⟨rfl, rfl⟩) rfl rfl (Grow.Is.stays _) ?_
  refine Grow.grow_mv (c := .bool true) (.inr rfl) (.inl ⟨rfl, rfl⟩) rfl ?_

  intro a2 u2 hg8 hs8 hd8 _ hk8
  have s0 : a2.tmps.getD 0 undef = .bool true := hk8 0
  go_wp2_with fail
  refine bodyPost_ret (v := .bool true) (by simp [results, Try.results6, go_sem]; simpa using s0) (hd8.trans hd7) ⟨rfl, HG.out.trans (((Gr.refl W1).drew.trans hg7).trans hg8)⟩

end Go.Proofs.Ythgpeegnedocfaa
