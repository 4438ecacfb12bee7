/-
  The document's bare, for every kind that a letter may have; it is what is left when the eraser has been there.
-/
import Derived.Test.YtpabppoohobjpaaGreatMgBareA
import Derived.Test.YtpabppoohobjpaaGreatMgBareC
import Derived.Test.YtpabppoohobjpaaGreatMgBareE
import Derived.Test.YtpabppoohobjpaaGreatMgBareM
import Derived.Deep.Cut
namespace Go.Proofs.YtpabppoohobjpaaGreat
open Go Go.RowKit TxnMath KeyMath MsgMath
set_option maxRecDepth 100000

theorem RefBare_ok (v : Value) (m : MsgT) (w : World) (hv : MsgAt w v m) (h1 : 1 ≤ m.kind) (h9 : m.kind ≤ 9) : Calls Tryz.prog 23 #[v] w fun e w' => ∃ u, e = .returned u ∧ MsgAt w' u (bareM m) ∧ Gr w w' := by
  rcases kind_cases h1 h9 with h | h | h | h | h | h | h | h | h
  · exact RefBare1_ok v m w hv h
  · exact RefBare2_ok v m w hv h
  · exact RefBare3_ok v m w hv h
  · exact RefBare4_ok v m w hv h
  · exact RefBare5_ok v m w hv h
  · exact RefBare6_ok v m w hv h
  · exact RefBare7_ok v m w hv h
  · exact RefBare8_ok v m w hv h
  · exact RefBare9_ok v m w hv h

end Go.Proofs.YtpabppoohobjpaaGreat

/-
  The document's MayMsg by its contract.
-/
namespace Go.Proofs.YtpabppoohobjpaaGreat
open Go Go.RowKit TxnMath KeyMath MsgMath
set_option maxRecDepth 100000

theorem bare_bnd {m : MsgT} (hb : MsgBnd m) : MsgBnd (bareM m) := by
  have h0 := noMsg_bnd
  unfold bareM
  repeat' split
  all_goals exact ⟨by first | exact h0.en | exact hb.en, by first | exact h0.ent | exact hb.ent, by first | exact h0.t | exact hb.t, by first | exact h0.fk | exact hb.fk, by first | exact h0.tk | exact hb.tk, by first | exact h0.kn | exact hb.kn, by first | exact h0.ks | exact hb.ks, by first | exact h0.gn | exact hb.gn, by first | exact h0.gk | exact hb.gk⟩
theorem good_kind {m : MsgT} (h : (!badHead m) = true) : 1 ≤ m.kind ∧ m.kind ≤ 9 := by
  rw [head_bad, Bool.not_not] at h
  unfold headB at h
  simp only [Bool.and_eq_true, decide_eq_true_eq] at h
  omega
theorem all8_no {m : MsgT} {k : Nat} (hk : k < 8) (h : okN ((nums8 m).getD k 0) = false) : (nums8 m).all okN = false := by
  rw [List.all_eq_false]
  have hl : k < (nums8 m).length := hk
  refine ⟨(nums8 m).getD k 0, ?_, by rw [h]; simp⟩
  rw [List.getD_eq_getElem?_getD, List.getElem?_eq_getElem hl]
  exact List.getElem_mem hl
theorem all8_yes {m : MsgT} (h : ∀ j, j < 8 → okN ((nums8 m).getD j 0) = true) : (nums8 m).all okN = true := by
  rw [List.all_eq_true]
  intro z hz
  obtain ⟨j, hj, rfl⟩ := List.getElem_of_mem hz
  have := h j hj
  rwa [List.getD_eq_getElem?_getD, List.getElem?_eq_getElem hj] at this
theorem okN_low {z : Int} (h : z < 0) : okN z = false := by unfold okN; simp; omega
theorem okN_high {z : Int} (h : 1099511627776 < z) : okN z = false := by unfold okN; simp; omega
theorem okN_yes {z : Int} (h1 : ¬ z < 0) (h2 : ¬ 1099511627776 < z) : okN z = true := by unfold okN; simp; omega
/-- what the answer is, from its parts -/
theorem ref_no1 {m : MsgT} (h : (badHead m || !decide (m = bareM m)) = true) : mayM m = false := by
  rw [may_ref]
  cases h1 : badHead m
  · rw [h1] at h
    simp only [Bool.false_or, Bool.not_eq_true'] at h
    rw [h]; simp
  · simp
theorem ref_no2 {m : MsgT} (h : (nums8 m).all okN = false) : mayM m = false := by rw [may_ref, h]; simp
theorem ref_no3 {m : MsgT} (h : m.entries.all entQ = false) : mayM m = false := by rw [may_ref, h]; simp
theorem ref_no4 {m : MsgT} (h : m.got.all rdB = false) : mayM m = false := by rw [may_ref, h]; simp
theorem ref_yes {m : MsgT} (h : (badHead m || !decide (m = bareM m)) = false) (h2 : (nums8 m).all okN = true) (h3 : m.entries.all entQ = true) (h4 : m.got.all rdB = true) : mayM m = tailR m := by
  rw [may_ref, h2, h3, h4]
  simp only [Bool.or_eq_false_iff, Bool.not_eq_false'] at h
  rw [h.1, h.2]
  rfl

/-- texts of the call's own, as a slice that reads so -/
theorem ks_of_own {w : World} {B : Nat} {v : Value} {ss : List ByteArray} (ho : OwnV 9 w B v (ss.map Value.string)) : KsK ss v w := by
  obtain ⟨A, c, e2, hle, hrd⟩ := OwnV.is ho
  simp only [List.length_map] at e2 hle hrd
  refine ⟨⟨A, c, e2⟩, A, c, by rw [e2]; simp, by simpa using hle, fun j i r x hj hi => ?_⟩
  rw [List.getElem?_map] at hj
  obtain ⟨s, hs, rfl⟩ := Option.map_eq_some_iff.1 hj
  obtain ⟨hj', rfl⟩ := List.getElem?_eq_some_iff.1 hs
  rcases i with _ | i
  · simp [strC] at hi
    subst hi
    obtain ⟨ad, e3, e4⟩ := hrd j hj'
    exact ⟨ad, e3, by simpa using e4⟩
  · simp [strC] at hi

set_option maxHeartbeats 16000000 in
theorem RefMayMsg_ok (v : Value) (m : MsgT) (w : World) (hv : MsgAt w v m) (hb : MsgBnd m) : Calls Tryz.prog 10 #[v] w fun e w' => e = .returned (.bool (mayM m)) ∧ Gr w w' := by
  obtain ⟨i0, hi, hz0, hz1, hz2⟩ := info_parts info_str
  have C0 := hide (fun (hbb : (!badHead m) = true) w' (h : Gr w w') => RefBare_ok v m w' (MsgX.gr hv h) (good_kind hbb).1 (good_kind hbb).2)
  have C1 := hide (fun u w' (h : Gr w w') (hu : MsgAt w' u (bareM m)) => RefSameMsg_ok v u m (bareM m) w' (MsgX.gr hv h) hu hb (bare_bnd hb))
  obtain ⟨eA, eC, rA, rC, wA, wC, kA, kC, gA, gC, rfl, hE, hT, hK, hG⟩ := hv.open_
  have HE := hide hE
  have HT := hide hT
  have HK := hide hK
  have HG := hide hG
  have HBN := hide hb
  have hnE := hb.en
  have hnG := hb.gn
  clear hv hE hT hK hG hb
  have N1 := hide (@ref_no1 m)
  obtain ⟨b9, hb9⟩ : ∃ b, decide (m = bareM m) = b := ⟨_, rfl⟩
  rw [hb9] at C1 N1
  go_enter Tryz.func10, Tryz.ntmps10
  go_upto_region 1 with (fail)
  obtain ⟨W, hW⟩ : ∃ W, w.alloc (.cells (cellsV m eA eC rA rC wA wC kA kC gA gC) 31) = W := ⟨_, rfl⟩
  have hgW : Gr w W.drew := by rw [← hW]; exact Gr.drew ((Gr.refl _).alloc _)
  have hbW : Bl W.drew w.heap.size 31 (cellsV m eA eC rA rC wA wC kA kC gA gC) := by rw [← hW]; exact (Bl.new _ _ _).drewN 1
  change (Code.region 1 _ true).wp _ _ _ (w.alloc (.cells (cellsV m eA eC rA rC wA wC kA kC gA gC) 31))
  rw [hW]
  clear hW
  refine Grow.wp_region_kept 231 [8, 9, 10, 11, 12, 13, 14, 15, 16, 17, 18, 19, 20, 21, 22, 23, 24, 25, 26, 27, 28, 29, 30, 31, 32, 33, 34, 35, 36, 37, 38, 39, 40, 41, 42, 43, 44, 45, 46, 47, 48, 49, 50, 51, 52, 53, 54, 55, 56, 57, 58, 59] rfl (by kernel_rfl) (by kernel_rfl) (by kernel_rfl) (Grow.Ahead.more (Grow.Ahead.none_ _ _) 1 (Grow.Bx.stays w.heap.size 31 (cellsV m eA eC rA rC wA wC kA kC gA gC)) ⟨rfl, hbW⟩) ?_
  refine Grow.grow_field (j := 0) (Ψ := Grow.Is (.int .i64 m.kind)) rfl (.inl ⟨rfl, rfl⟩) rfl (fun _ => by kernel_rfl) rfl (Grow.Is.stays _) (fun _ _ => rfl) ?_
  refine Grow.grow_load_k rfl (fun _ => by kernel_rfl) (.inl ⟨rfl, rfl⟩) rfl (Grow.Is.stays _) ?_
  refine Grow.grow_int (c := .bool (decide (m.kind < 1))) rfl (.inl ⟨rfl, rfl⟩) rfl (fun _ => rfl) rfl ?_
  refine Grow.grow_mv (.inl rfl) (.inl ⟨rfl, rfl⟩) rfl ?_
  refine Grow.cd_field (b := !(decide (m.kind < 1))) (j := 0) (u := .int .i64 m.kind) (Ψ := Grow.Is (.int .i64 m.kind)) rfl (.inr ⟨3, 11, true, (decide (m.kind < 1)), rfl, rfl, rfl, by decide, rfl⟩) (.inl rfl) (fun w => by kernel_rfl) rfl (Grow.Is.stays _) (fun _ _ => rfl) ?_
  refine Grow.cd_load (b := !(decide (m.kind < 1))) rfl (fun w => by kernel_rfl) (.inr ⟨3, 11, true, (decide (m.kind < 1)), rfl, rfl, rfl, by decide, rfl⟩) (.inr rfl) (Grow.Is.stays _) ?_
  refine Grow.cd_int (b := !(decide (m.kind < 1))) (c := .bool (decide (m.kind > 9))) rfl (.inr ⟨3, 11, true, (decide (m.kind < 1)), rfl, rfl, rfl, by decide, rfl⟩) (.inr rfl) (fun _ => rfl) (by rw [show binOp .gtr _ _ _ = pure (.bool (decide (m.kind > 9))) from rfl]) ?_
  refine Grow.pick_or rfl rfl rfl (.inr rfl) ?_
  refine Grow.grow_mv (.inl rfl) (.inl ⟨rfl, rfl⟩) rfl ?_
  refine Grow.cd_field (b := !((decide (m.kind < 1)) || (decide (m.kind > 9)))) (j := 1) (u := .int .i64 m.frm) (Ψ := Grow.Is (.int .i64 m.frm)) rfl (.inr ⟨8, 16, true, ((decide (m.kind < 1)) || (decide (m.kind > 9))), rfl, rfl, rfl, by decide, rfl⟩) (.inl rfl) (fun w => by kernel_rfl) rfl (Grow.Is.stays _) (fun _ _ => rfl) ?_
  refine Grow.cd_load (b := !((decide (m.kind < 1)) || (decide (m.kind > 9)))) rfl (fun w => by kernel_rfl) (.inr ⟨8, 16, true, ((decide (m.kind < 1)) || (decide (m.kind > 9))), rfl, rfl, rfl, by decide, rfl⟩) (.inr rfl) (Grow.Is.stays _) ?_
  refine Grow.cd_int (b := !((decide (m.kind < 1)) || (decide (m.kind > 9)))) (c := .bool (decide (m.frm < 1))) rfl (.inr ⟨8, 16, true, ((decide (m.kind < 1)) || (decide (m.kind > 9))), rfl, rfl, rfl, by decide, rfl⟩) (.inr rfl) (fun _ => rfl) (by rw [show binOp .lss _ _ _ = pure (.bool (decide (m.frm < 1))) from rfl]) ?_
  refine Grow.pick_or rfl rfl rfl (.inr rfl) ?_
  refine Grow.grow_mv (.inl rfl) (.inl ⟨rfl, rfl⟩) rfl ?_
  refine Grow.cd_field (b := !(((decide (m.kind < 1)) || (decide (m.kind > 9))) || (decide (m.frm < 1)))) (j := 1) (u := .int .i64 m.frm) (Ψ := Grow.Is (.int .i64 m.frm)) rfl (.inr ⟨13, 21, true, (((decide (m.kind < 1)) || (decide (m.kind > 9))) || (decide (m.frm < 1))), rfl, rfl, rfl, by decide, rfl⟩) (.inl rfl) (fun w => by kernel_rfl) rfl (Grow.Is.stays _) (fun _ _ => rfl) ?_
  refine Grow.cd_load (b := !(((decide (m.kind < 1)) || (decide (m.kind > 9))) || (decide (m.frm < 1)))) rfl (fun w => by kernel_rfl) (.inr ⟨13, 21, true, (((decide (m.kind < 1)) || (decide (m.kind > 9))) || (decide (m.frm < 1))), rfl, rfl, rfl, by decide, rfl⟩) (.inr rfl) (Grow.Is.stays _) ?_
  refine Grow.cd_int (b := !(((decide (m.kind < 1)) || (decide (m.kind > 9))) || (decide (m.frm < 1)))) (c := .bool (decide (m.frm > 5))) rfl (.inr ⟨13, 21, true, (((decide (m.kind < 1)) || (decide (m.kind > 9))) || (decide (m.frm < 1))), rfl, rfl, rfl, by decide, rfl⟩) (.inr rfl) (fun _ => rfl) (by rw [show binOp .gtr _ _ _ = pure (.bool (decide (m.frm > 5))) from rfl]) ?_
  refine Grow.pick_or rfl rfl rfl (.inr rfl) ?_
  refine Grow.grow_mv (.inl rfl) (.inl ⟨rfl, rfl⟩) rfl ?_
  refine Grow.cd_field (b := !((((decide (m.kind < 1)) || (decide (m.kind > 9))) || (decide (m.frm < 1))) || (decide (m.frm > 5)))) (j := 2) (u := .int .i64 m.to) (Ψ := Grow.Is (.int .i64 m.to)) rfl (.inr ⟨18, 26, true, ((((decide (m.kind < 1)) || (decide (m.kind > 9))) || (decide (m.frm < 1))) || (decide (m.frm > 5))), rfl, rfl, rfl, by decide, rfl⟩) (.inl rfl) (fun w => by kernel_rfl) rfl (Grow.Is.stays _) (fun _ _ => rfl) ?_
  refine Grow.cd_load (b := !((((decide (m.kind < 1)) || (decide (m.kind > 9))) || (decide (m.frm < 1))) || (decide (m.frm > 5)))) rfl (fun w => by kernel_rfl) (.inr ⟨18, 26, true, ((((decide (m.kind < 1)) || (decide (m.kind > 9))) || (decide (m.frm < 1))) || (decide (m.frm > 5))), rfl, rfl, rfl, by decide, rfl⟩) (.inr rfl) (Grow.Is.stays _) ?_
  refine Grow.cd_int (b := !((((decide (m.kind < 1)) || (decide (m.kind > 9))) || (decide (m.frm < 1))) || (decide (m.frm > 5)))) (c := .bool (decide (m.to < 1))) rfl (.inr ⟨18, 26, true, ((((decide (m.kind < 1)) || (decide (m.kind > 9))) || (decide (m.frm < 1))) || (decide (m.frm > 5))), rfl, rfl, rfl, by decide, rfl⟩) (.inr rfl) (fun _ => rfl) (by rw [show binOp .lss _ _ _ = pure (.bool (decide (m.to < 1))) from rfl]) ?_
  refine Grow.pick_or rfl rfl rfl (.inr rfl) ?_
  refine Grow.grow_mv (.inl rfl) (.inl ⟨rfl, rfl⟩) rfl ?_
  refine Grow.cd_field (b := !(((((decide (m.kind < 1)) || (decide (m.kind > 9))) || (decide (m.frm < 1))) || (decide (m.frm > 5))) || (decide (m.to < 1)))) (j := 2) (u := .int .i64 m.to) (Ψ := Grow.Is (.int .i64 m.to)) rfl (.inr ⟨23, 31, true, (((((decide (m.kind < 1)) || (decide (m.kind > 9))) || (decide (m.frm < 1))) || (decide (m.frm > 5))) || (decide (m.to < 1))), rfl, rfl, rfl, by decide, rfl⟩) (.inl rfl) (fun w => by kernel_rfl) rfl (Grow.Is.stays _) (fun _ _ => rfl) ?_
  refine Grow.cd_load (b := !(((((decide (m.kind < 1)) || (decide (m.kind > 9))) || (decide (m.frm < 1))) || (decide (m.frm > 5))) || (decide (m.to < 1)))) rfl (fun w => by kernel_rfl) (.inr ⟨23, 31, true, (((((decide (m.kind < 1)) || (decide (m.kind > 9))) || (decide (m.frm < 1))) || (decide (m.frm > 5))) || (decide (m.to < 1))), rfl, rfl, rfl, by decide, rfl⟩) (.inr rfl) (Grow.Is.stays _) ?_
  refine Grow.cd_int (b := !(((((decide (m.kind < 1)) || (decide (m.kind > 9))) || (decide (m.frm < 1))) || (decide (m.frm > 5))) || (decide (m.to < 1)))) (c := .bool (decide (m.to > 5))) rfl (.inr ⟨23, 31, true, (((((decide (m.kind < 1)) || (decide (m.kind > 9))) || (decide (m.frm < 1))) || (decide (m.frm > 5))) || (decide (m.to < 1))), rfl, rfl, rfl, by decide, rfl⟩) (.inr rfl) (fun _ => rfl) (by rw [show binOp .gtr _ _ _ = pure (.bool (decide (m.to > 5))) from rfl]) ?_
  refine Grow.pick_or rfl rfl rfl (.inr rfl) ?_
  refine Grow.grow_mv (.inl rfl) (.inl ⟨rfl, rfl⟩) rfl ?_
  refine Grow.cd_field (b := !((((((decide (m.kind < 1)) || (decide (m.kind > 9))) || (decide (m.frm < 1))) || (decide (m.frm > 5))) || (decide (m.to < 1))) || (decide (m.to > 5)))) (j := 1) (u := .int .i64 m.frm) (Ψ := Grow.Is (.int .i64 m.frm)) rfl (.inr ⟨28, 36, true, ((((((decide (m.kind < 1)) || (decide (m.kind > 9))) || (decide (m.frm < 1))) || (decide (m.frm > 5))) || (decide (m.to < 1))) || (decide (m.to > 5))), rfl, rfl, rfl, by decide, rfl⟩) (.inl rfl) (fun w => by kernel_rfl) rfl (Grow.Is.stays _) (fun _ _ => rfl) ?_
  refine Grow.cd_load (b := !((((((decide (m.kind < 1)) || (decide (m.kind > 9))) || (decide (m.frm < 1))) || (decide (m.frm > 5))) || (decide (m.to < 1))) || (decide (m.to > 5)))) rfl (fun w => by kernel_rfl) (.inr ⟨28, 36, true, ((((((decide (m.kind < 1)) || (decide (m.kind > 9))) || (decide (m.frm < 1))) || (decide (m.frm > 5))) || (decide (m.to < 1))) || (decide (m.to > 5))), rfl, rfl, rfl, by decide, rfl⟩) (.inr rfl) (Grow.Is.stays _) ?_
  refine Grow.cd_field (b := !((((((decide (m.kind < 1)) || (decide (m.kind > 9))) || (decide (m.frm < 1))) || (decide (m.frm > 5))) || (decide (m.to < 1))) || (decide (m.to > 5)))) (j := 2) (u := .int .i64 m.to) (Ψ := Grow.Is (.int .i64 m.to)) rfl (.inr ⟨28, 36, true, ((((((decide (m.kind < 1)) || (decide (m.kind > 9))) || (decide (m.frm < 1))) || (decide (m.frm > 5))) || (decide (m.to < 1))) || (decide (m.to > 5))), rfl, rfl, rfl, by decide, rfl⟩) (.inl rfl) (fun w => by kernel_rfl) rfl (Grow.Is.stays _) (fun _ _ => rfl) ?_
  refine Grow.cd_load (b := !((((((decide (m.kind < 1)) || (decide (m.kind > 9))) || (decide (m.frm < 1))) || (decide (m.frm > 5))) || (decide (m.to < 1))) || (decide (m.to > 5)))) rfl (fun w => by kernel_rfl) (.inr ⟨28, 36, true, ((((((decide (m.kind < 1)) || (decide (m.kind > 9))) || (decide (m.frm < 1))) || (decide (m.frm > 5))) || (decide (m.to < 1))) || (decide (m.to > 5))), rfl, rfl, rfl, by decide, rfl⟩) (.inr rfl) (Grow.Is.stays _) ?_
  refine Grow.cd_int (b := !((((((decide (m.kind < 1)) || (decide (m.kind > 9))) || (decide (m.frm < 1))) || (decide (m.frm > 5))) || (decide (m.to < 1))) || (decide (m.to > 5)))) (c := .bool (m.frm == m.to)) rfl (.inr ⟨28, 36, true, ((((((decide (m.kind < 1)) || (decide (m.kind > 9))) || (decide (m.frm < 1))) || (decide (m.frm > 5))) || (decide (m.to < 1))) || (decide (m.to > 5))), rfl, rfl, rfl, by decide, rfl⟩) (.inr rfl) (.inr rfl) (by rw [show binOp .eql _ _ _ = pure (.bool (m.frm == m.to)) from rfl]) ?_
  refine Grow.pick_or rfl rfl rfl (.inr rfl) ?_
  refine Grow.grow_mv (.inl rfl) (.inl ⟨rfl, rfl⟩) rfl ?_
  refine Grow.cd_field (b := !(((((((decide (m.kind < 1)) || (decide (m.kind > 9))) || (decide (m.frm < 1))) || (decide (m.frm > 5))) || (decide (m.to < 1))) || (decide (m.to > 5))) || (m.frm == m.to))) (j := 3) (u := .int .i64 m.part) (Ψ := Grow.Is (.int .i64 m.part)) rfl (.inr ⟨35, 43, true, (((((((decide (m.kind < 1)) || (decide (m.kind > 9))) || (decide (m.frm < 1))) || (decide (m.frm > 5))) || (decide (m.to < 1))) || (decide (m.to > 5))) || (m.frm == m.to)), rfl, rfl, rfl, by decide, rfl⟩) (.inl rfl) (fun w => by kernel_rfl) rfl (Grow.Is.stays _) (fun _ _ => rfl) ?_
  refine Grow.cd_load (b := !(((((((decide (m.kind < 1)) || (decide (m.kind > 9))) || (decide (m.frm < 1))) || (decide (m.frm > 5))) || (decide (m.to < 1))) || (decide (m.to > 5))) || (m.frm == m.to))) rfl (fun w => by kernel_rfl) (.inr ⟨35, 43, true, (((((((decide (m.kind < 1)) || (decide (m.kind > 9))) || (decide (m.frm < 1))) || (decide (m.frm > 5))) || (decide (m.to < 1))) || (decide (m.to > 5))) || (m.frm == m.to)), rfl, rfl, rfl, by decide, rfl⟩) (.inr rfl) (Grow.Is.stays _) ?_
  refine Grow.cd_int (b := !(((((((decide (m.kind < 1)) || (decide (m.kind > 9))) || (decide (m.frm < 1))) || (decide (m.frm > 5))) || (decide (m.to < 1))) || (decide (m.to > 5))) || (m.frm == m.to))) (c := .bool (decide (m.part < 0))) rfl (.inr ⟨35, 43, true, (((((((decide (m.kind < 1)) || (decide (m.kind > 9))) || (decide (m.frm < 1))) || (decide (m.frm > 5))) || (decide (m.to < 1))) || (decide (m.to > 5))) || (m.frm == m.to)), rfl, rfl, rfl, by decide, rfl⟩) (.inr rfl) (fun _ => rfl) (by rw [show binOp .lss _ _ _ = pure (.bool (decide (m.part < 0))) from rfl]) ?_
  refine Grow.pick_or rfl rfl rfl (.inr rfl) ?_
  refine Grow.grow_mv (.inl rfl) (.inl ⟨rfl, rfl⟩) rfl ?_
  refine Grow.cd_field (b := !((((((((decide (m.kind < 1)) || (decide (m.kind > 9))) || (decide (m.frm < 1))) || (decide (m.frm > 5))) || (decide (m.to < 1))) || (decide (m.to > 5))) || (m.frm == m.to)) || (decide (m.part < 0)))) (j := 3) (u := .int .i64 m.part) (Ψ := Grow.Is (.int .i64 m.part)) rfl (.inr ⟨40, 48, true, ((((((((decide (m.kind < 1)) || (decide (m.kind > 9))) || (decide (m.frm < 1))) || (decide (m.frm > 5))) || (decide (m.to < 1))) || (decide (m.to > 5))) || (m.frm == m.to)) || (decide (m.part < 0))), rfl, rfl, rfl, by decide, rfl⟩) (.inl rfl) (fun w => by kernel_rfl) rfl (Grow.Is.stays _) (fun _ _ => rfl) ?_
  refine Grow.cd_load (b := !((((((((decide (m.kind < 1)) || (decide (m.kind > 9))) || (decide (m.frm < 1))) || (decide (m.frm > 5))) || (decide (m.to < 1))) || (decide (m.to > 5))) || (m.frm == m.to)) || (decide (m.part < 0)))) rfl (fun w => by kernel_rfl) (.inr ⟨40, 48, true, ((((((((decide (m.kind < 1)) || (decide (m.kind > 9))) || (decide (m.frm < 1))) || (decide (m.frm > 5))) || (decide (m.to < 1))) || (decide (m.to > 5))) || (m.frm == m.to)) || (decide (m.part < 0))), rfl, rfl, rfl, by decide, rfl⟩) (.inr rfl) (Grow.Is.stays _) ?_
  refine Grow.cd_int (b := !((((((((decide (m.kind < 1)) || (decide (m.kind > 9))) || (decide (m.frm < 1))) || (decide (m.frm > 5))) || (decide (m.to < 1))) || (decide (m.to > 5))) || (m.frm == m.to)) || (decide (m.part < 0)))) (c := .bool (decide (m.part ≥ 3))) rfl (.inr ⟨40, 48, true, ((((((((decide (m.kind < 1)) || (decide (m.kind > 9))) || (decide (m.frm < 1))) || (decide (m.frm > 5))) || (decide (m.to < 1))) || (decide (m.to > 5))) || (m.frm == m.to)) || (decide (m.part < 0))), rfl, rfl, rfl, by decide, rfl⟩) (.inr rfl) (fun _ => rfl) (by rw [show binOp .geq _ _ _ = pure (.bool (decide (m.part ≥ 3))) from rfl]) ?_
  refine Grow.pick_or rfl rfl rfl (.inr rfl) ?_
  refine Grow.grow_mv (.inl rfl) (.inl ⟨rfl, rfl⟩) rfl ?_
  rw [show (((((((((decide (m.kind < 1)) || (decide (m.kind > 9))) || (decide (m.frm < 1))) || (decide (m.frm > 5))) || (decide (m.to < 1))) || (decide (m.to > 5))) || (m.frm == m.to)) || (decide (m.part < 0))) || (decide (m.part ≥ 3))) = badHead m from rfl]
  refine Grow.cd_row (b := !(badHead m)) rfl (.inr ⟨45, 53, true, (badHead m), rfl, rfl, rfl, by decide, rfl⟩) (.inl rfl) Tryz.underlying31 rfl (by kernel_rfl) ?_
  refine Grow.cd_row (b := !(badHead m)) rfl (.inr ⟨45, 53, true, (badHead m), rfl, rfl, rfl, by decide, rfl⟩) (.inl rfl) Tryz.underlying31 rfl (by kernel_rfl) ?_
  refine Grow.cd_call1b (b := !(badHead m)) (Φ := MgK (bareM m)) (Ψ := Grow.Is (.agg (cellsV m eA eC rA rC wA wC kA kC gA gC))) rfl (.inr ⟨45, 53, true, (badHead m), rfl, rfl, rfl, by decide, rfl⟩) Tryz.func23 (by kernel_rfl) (by kernel_rfl) (.inr rfl) (MgK.stays _) (fun hbb v w' hg hv => by
    obtain rfl : v = _ := hv
    exact (C0.out hbb w' (hgW.trans hg)).mono fun e w1 ⟨u, h1, h2, h3⟩ => ⟨u, h1, h3, h2⟩) ?_
  refine Grow.cd_call2 (b := !(badHead m)) (Φ := Grow.Is (.bool b9)) (Ψ := Grow.Is (.agg (cellsV m eA eC rA rC wA wC kA kC gA gC))) (Ψ' := MgK (bareM m)) rfl (.inr ⟨45, 53, true, (badHead m), rfl, rfl, rfl, by decide, rfl⟩) Tryz.func14 (by kernel_rfl) (by kernel_rfl) (.inr rfl) (.inr rfl) (Grow.Is.stays _) (fun v u w' hg hv hu => by
    obtain rfl : v = _ := hv
    exact (C1.out u w' (hgW.trans hg) hu).mono fun e w1 ⟨h1, h2⟩ => ⟨_, h1, h2, rfl⟩) ?_
  refine Grow.cd_not (b := !(badHead m)) rfl (.inr ⟨45, 53, true, (badHead m), rfl, rfl, rfl, by decide, rfl⟩) (.inr rfl) ?_
  refine Grow.pick_or rfl rfl rfl (.inr rfl) ?_
  intro a1 w1 hg hsz hdf hun hk
  have h59 : a1.tmps.getD 59 undef = .bool (badHead m || !b9) := hk 59
  obtain ⟨X, hX, hlay⟩ := Grow.lay_kept_by _ a1 231 _ hsz hdf hun
  rw [hX] at h59
  clear hX hun hdf hsz hk
  subst hlay
  simp only [List.range, List.range.loop, List.map_cons, List.map_nil, List.contains_cons, List.contains_nil, Nat.reduceBEq, Bool.or_false, Bool.or_true, cond_false, cond_true, Array.getD_eq_getD_getElem?, List.getElem?_toArray, List.getElem?_cons_zero, List.getElem?_cons_succ, Option.getD_some, h59]
  clear h59
  have HG1 := hide (hgW.trans hg)
  have HB1 := hide (hbW.gr hg)
  clear hg hgW hbW C0 C1
  cases hY : (badHead m || !b9)
  rotate_left
  · have HR := hide (N1.out hY)
    clear hY
    go_wp2_with fail
    go_ret
    exact ⟨by rw [HR.out]; rfl, HG1.out⟩
  · have hY2 : (badHead m || !decide (m = bareM m)) = false := by rw [hb9]; exact hY
    have NY := hide (@ref_yes m hY2)
    clear hY hY2 N1 hb9
    have z4 : w1.cell? ⟨w.heap.size, 4, none⟩ = some (.int .i64 m.term) := HB1.out.cell 4
    have z5 : w1.cell? ⟨w.heap.size, 5, none⟩ = some (.int .i64 m.index) := HB1.out.cell 5
    have z6 : w1.cell? ⟨w.heap.size, 6, none⟩ = some (.int .i64 m.logTerm) := HB1.out.cell 6
    have z7 : w1.cell? ⟨w.heap.size, 7, none⟩ = some (.int .i64 m.commit) := HB1.out.cell 7
    have z14 : w1.cell? ⟨w.heap.size, 14, none⟩ = some (.int .i64 m.ses) := HB1.out.cell 14
    have z15 : w1.cell? ⟨w.heap.size, 15, none⟩ = some (.int .i64 m.seq) := HB1.out.cell 15
    have z16 : w1.cell? ⟨w.heap.size, 16, none⟩ = some (.int .i64 m.pos) := HB1.out.cell 16
    have z17 : w1.cell? ⟨w.heap.size, 17, none⟩ = some (.int .i64 m.shard) := HB1.out.cell 17
    go_upto_region 4 with (fail)
    obtain ⟨W3, hW3⟩ : ∃ W3, w1.alloc (.cells #[.int .i64 m.term, .int .i64 m.index, .int .i64 m.logTerm, .int .i64 m.commit, .int .i64 m.ses, .int .i64 m.seq, .int .i64 m.pos, .int .i64 m.shard] 3) = W3 := ⟨_, rfl⟩
    have h8 : ∀ k, k < 8 → W3.cell? ⟨w1.heap.size, k, none⟩ = some (.int .i64 ((nums8 m).getD k 0)) := fun k hk => by
      rw [← hW3, (Bl.new w1 _ _).cell]
      obtain rfl | rfl | rfl | rfl | rfl | rfl | rfl | rfl : k = 0 ∨ k = 1 ∨ k = 2 ∨ k = 3 ∨ k = 4 ∨ k = 5 ∨ k = 6 ∨ k = 7 := by omega
      all_goals rfl
    have hg3 : Gr w1 W3 := by rw [← hW3]; exact (Gr.refl _).alloc _
    rw [hW3]
    have H8 := hide h8
    have HG3 := hide (HG1.out.trans hg3)
    have HB3 := hide (HB1.out.gr hg3)
    clear hW3 h8 hg3 z4 z5 z6 z7 z14 z15 z16 z17 HG1 HB1
    go_wp2_with fail
    go_loopw [4] (fun i wr => ∃ k : Nat, i = .int .i64 k ∧ k ≤ 8 ∧ wr = W3 ∧ Hid (∀ j, j < k → okN ((nums8 m).getD j 0) = true)) (fun i _ => 8 - (intOf i).toNat)
    case atStart => exact ⟨0, rfl, by omega, rfl, fun j hj => absurd hj (by omega)⟩
    case round =>
      obtain ⟨k, rfl, hk, rfl, HJ⟩ := hrel
      by_cases hlt : k < 8
      · have hlt' : (k : Int) < 8 := by omega
        have c0 := H8.out k hlt
        have HN := hide (fun h => ref_no2 (all8_no (m := m) hlt h))
        have HJ1 := hide (fun (h : okN ((nums8 m).getD k 0) = true) => (show ∀ j, j < k + 1 → okN ((nums8 m).getD j 0) = true from fun j hj => by
          by_cases hx : j < k
          · exact HJ.out j hx
          · obtain rfl : j = k := by omega
            exact h))
        generalize (nums8 m).getD k 0 = z at c0 HN HJ1
        by_cases q1 : z < 0
        · have HR := hide (HN.out (okN_low q1))
          have d1 : decide (z < 0) = true := decide_eq_true q1
          clear HN HJ1 HJ NY
          go_wp2_with fail
          go_ret
          exact ⟨by rw [HR.out]; rfl, HG3.out⟩
        have d1 : decide (z < 0) = false := decide_eq_false q1
        by_cases q2 : 1099511627776 < z
        · have HR := hide (HN.out (okN_high q2))
          have d2 : decide (1099511627776 < z) = true := decide_eq_true q2
          clear HN HJ1 HJ NY
          go_wp2_with fail
          go_ret
          exact ⟨by rw [HR.out]; rfl, HG3.out⟩
        have d2 : decide (1099511627776 < z) = false := decide_eq_false q2
        replace HJ1 := hide (HJ1.out (okN_yes q1 q2))
        clear HN HJ
        go_wp2_with fail
        go_roundw
        case rel => exact ⟨k + 1, by go_num, by omega, trivial, HJ1⟩
        case measure => simp [intOf]; omega
      · obtain rfl : k = 8 := by omega
        replace NY := hide (NY.out (all8_yes HJ.out))
        clear HJ H8
        rw [show (((8 : Nat) : Int)) = (8 : Int) from rfl]
        go_wp2_with fail
        obtain ⟨V3, rfl⟩ : ∃ V3, V3 = wr := ⟨_, rfl⟩
        go_loopw [5] (fun i wx => ∃ k : Nat, i = .int .i64 k ∧ k ≤ m.entries.length ∧ Hid (∀ j (hj : j < m.entries.length), j < k → entQ m.entries[j] = true) ∧ Hid (Gr V3 wx)) (fun i _ => m.entries.length - (intOf i).toNat)
        case atStart => exact ⟨0, rfl, by omega, fun j _ hj => absurd hj (by omega), Gr.refl _⟩
        case round =>
          obtain ⟨k, rfl, hk, HJ, HX⟩ := hrel
          have hbx := HB3.out.gr HX.out
          have z9 : wr.cell? ⟨w.heap.size, 9, none⟩ = some (.slice eA m.entries.length eC) := hbx.cell 9
          by_cases hlt : k < m.entries.length
          · have hlt' : (k : Int) < (m.entries.length : Int) := by omega
            obtain ⟨ad, c, p, e1, hrx, a0, a1, a2, a3, a4, a5⟩ := (HE.out.gr (HG3.out.trans HX.out)).ent hlt
            simp only [Value.slice.injEq, true_and] at e1
            obtain ⟨rfl, rfl⟩ := e1
            have HM := hide (RefMayEntry_ok m.entries[k] p wr hrx (HBN.out.ent _ (List.getElem_mem hlt)))
            have HNO := hide (fun h : entQ m.entries[k] = false => ref_no3 (m := m) (by rw [List.all_eq_false]; exact ⟨_, List.getElem_mem hlt, by rw [h]; simp⟩))
            have HJ1 := hide (fun (h : entQ m.entries[k] = true) => (show ∀ j (hj : j < m.entries.length), j < k + 1 → entQ m.entries[j] = true from fun j hj hjk => by
              by_cases hx : j < k
              · exact HJ.out j hj hx
              · obtain rfl : j = k := by omega
                exact h))
            have HQ := hide (show entQ m.entries[k] = (mayEntR m.entries[k] && okN m.entries[k].term) from rfl)
            obtain ⟨rA1, rC1, e4⟩ := hrx.rd.sl
            obtain ⟨wA1, wC1, e5⟩ := hrx.wr.sl
            obtain ⟨p1, p2⟩ := p
            simp only at e4 e5 a4 a5
            subst e4 e5
            generalize hen : m.entries[k] = en at a0 a1 a2 a3 HM HNO HJ1 HQ hrx a4 a5
            clear hen hrx HJ
            change Hid (Calls _ _ #[.agg #[.int .i64 en.term, .bool en.shut, .int .i64 en.t.ses, .int .i64 en.t.seq, _, _]] _ _) at HM
            generalize (en.t.reads.map rdC).length = m1 at a4 HM
            generalize (en.t.writes.map wrC).length = m2 at a5 HM
            generalize mayEntR en = mb at HM HQ
            generalize entQ en = qb at HNO HJ1 HQ
            generalize en.term = t1 at a0 HM HQ
            generalize en.shut = t2 at a1 HM
            generalize en.t.ses = t3 at a2 HM
            generalize en.t.seq = t4 at a3 HM
            clear en
            go_wp2_with fail
            refine HM.out.mono ?_
            rintro e w5 ⟨rfl, hg5⟩
            have HX5 := hide (HX.out.trans hg5)
            have a0' := gr_cell hg5 _ _ a0
            have z9' := gr_cell hg5 _ _ z9
            clear hg5 a0 a1 a2 a3 a4 a5 z9 HM hbx HX
            cases mb
            · have HR := hide (HNO.out (by rw [HQ.out]; rfl))
              clear HNO HJ1 HQ NY
              go_wp2_with fail
              go_ret
              exact ⟨by rw [HR.out]; rfl, HG3.out.trans HX5.out⟩
            by_cases q1 : t1 < 0
            · have HR := hide (HNO.out (by rw [HQ.out, okN_low q1]; rfl))
              have d1 : decide (t1 < 0) = true := decide_eq_true q1
              clear HNO HJ1 HQ NY
              go_wp2_with fail
              go_ret
              exact ⟨by rw [HR.out]; rfl, HG3.out.trans HX5.out⟩
            have d1 : decide (t1 < 0) = false := decide_eq_false q1
            by_cases q2 : 1099511627776 < t1
            · have HR := hide (HNO.out (by rw [HQ.out, okN_high q2]; rfl))
              have d2 : decide (1099511627776 < t1) = true := decide_eq_true q2
              clear HNO HJ1 HQ NY
              go_wp2_with fail
              go_ret
              exact ⟨by rw [HR.out]; rfl, HG3.out.trans HX5.out⟩
            have d2 : decide (1099511627776 < t1) = false := decide_eq_false q2
            replace HJ1 := hide (HJ1.out (by rw [HQ.out, okN_yes q1 q2]; rfl))
            clear HNO HQ
            go_wp2_with fail
            go_roundw
            case rel => exact ⟨k + 1, by go_num, by omega, HJ1, HX5⟩
            case measure => simp [intOf]; omega
          · obtain rfl : k = m.entries.length := by omega
            replace NY := hide (NY.out (all_done (Nat.le_refl _) HJ.out))
            have HG4 := hide (HG3.out.trans HX.out)
            have HB4 := hide hbx
            clear HJ HG3 HB3 HX hbx
            go_wp2_with fail
            obtain ⟨V4, rfl⟩ : ∃ V4, V4 = wr := ⟨_, rfl⟩
            go_loopw [6, 7] (fun o i wx => ∃ k : Nat, i = .int .i64 k ∧ k ≤ m.got.length ∧ Hid (OwnV 9 wx V4.heap.size o (((m.got.take k).map (·.key)).map Value.string)) ∧ Hid (∀ j (hj : j < m.got.length), j < k → rdB m.got[j] = true) ∧ Hid (Gr V4 wx)) (fun _ i _ => m.got.length - (intOf i).toNat)
            case atStart => exact ⟨0, rfl, by omega, OwnV.none_ _ _, fun j _ hj => absurd hj (by omega), Gr.refl _⟩
            case round =>
              obtain ⟨k, rfl, hk, HO, HJ, HX⟩ := hrel
              have hbx := HB4.out.gr HX.out
              have z22 : wr.cell? ⟨w.heap.size, 22, none⟩ = some (.slice gA m.got.length gC) := hbx.cell 22
              by_cases hlt : k < m.got.length
              · have hlt' : (k : Int) < (m.got.length : Int) := by omega
                have hgall := HG4.out.trans HX.out
                obtain ⟨ad, c, e1, a0, a1, b2, a3⟩ := (HG.out.1.gr hgall).rd hlt
                simp only [Value.slice.injEq, true_and] at e1
                obtain ⟨rfl, rfl⟩ := e1
                have hmap := hide (map_take_more (·.key) hlt)
                have hlen : ((m.got.take k).map (·.key)).length = k := by rw [List.length_map, List.length_take]; omega
                have HNO := hide (fun h : rdB m.got[k] = false => ref_no4 (m := m) (by rw [List.all_eq_false]; exact ⟨_, List.getElem_mem hlt, by rw [h]; simp⟩))
                have HJ1 := hide (all_more HJ.out hlt)
                have HRD := hide (fun W (hg : Gr V4 W) => (HG.out.1.gr (HG4.out.trans hg)).rd hlt)
                have HQ := hide (show rdB m.got[k] = (okN m.got[k].ver && decide (m.got[k].val.size ≤ 16)) from rfl)
                generalize m.got[k] = x at a0 a1 b2 a3 hmap HNO HJ1 HRD HQ
                go_wp2_with (at_builtin; refine wpList_pushV rfl (.tmp 134) (.tmp 141) _ rfl 9 i0 _ 16 Tryz.underlying28 hi hz0 hz1 hz2 rfl rfl rfl HO.out HX.out rfl (by rw [List.length_map, hlen]; unfold maxLen; omega) (by rw [List.length_map, hlen]; omega) ?_; refine pause ?_)
                refine hide ?_
                intro v3 w3 ho3 hg3 _
                have HO3 := hide (show OwnV 9 w3 V4.heap.size v3 (((m.got.take (k + 1)).map (·.key)).map Value.string) by rw [hmap.out, List.map_append]; simpa [List.map_take] using ho3)
                have HX3 := hide hg3
                obtain ⟨ad3, c3, e3, y0, y1, y2, y3⟩ := HRD.out w3 hg3
                simp only [Value.slice.injEq, Option.some.injEq, true_and] at e3
                obtain ⟨rfl, rfl⟩ := e3
                have hby := HB4.out.gr hg3
                have z22' : w3.cell? ⟨w.heap.size, 22, none⟩ = some (.slice (some ad) m.got.length gC) := hby.cell 22
                obtain ⟨oA, oc, ho, _⟩ := OwnV.is ho3
                generalize List.length _ = on at ho
                subst ho
                clear ho3 hg3 HO HX a0 a1 b2 a3 z22 HRD hmap hlen hbx hby HJ
                obtain ⟨xk, xv, xs, xt⟩ := x
                simp only at y0 y1 y2 y3 HQ
                by_cases q0 : (16 : Int) < (xs.size : Int)
                · have HR := hide (HNO.out (by rw [HQ.out, decide_eq_false (show ¬ xs.size ≤ 16 by omega), Bool.and_false]))
                  have d0 : decide ((16 : Int) < (xs.size : Int)) = true := decide_eq_true q0
                  clear HNO HJ1 HQ NY
                  go_wp2_with fail
                  go_ret
                  exact ⟨by rw [HR.out]; rfl, HG4.out.trans HX3.out⟩
                have d0 : decide ((16 : Int) < (xs.size : Int)) = false := decide_eq_false q0
                by_cases q1 : xv < 0
                · have HR := hide (HNO.out (by rw [HQ.out, okN_low q1]; rfl))
                  have d1 : decide (xv < 0) = true := decide_eq_true q1
                  clear HNO HJ1 HQ NY
                  go_wp2_with fail
                  go_ret
                  exact ⟨by rw [HR.out]; rfl, HG4.out.trans HX3.out⟩
                have d1 : decide (xv < 0) = false := decide_eq_false q1
                by_cases q2 : 1099511627776 < xv
                · have HR := hide (HNO.out (by rw [HQ.out, okN_high q2]; rfl))
                  have d2 : decide (1099511627776 < xv) = true := decide_eq_true q2
                  clear HNO HJ1 HQ NY
                  go_wp2_with fail
                  go_ret
                  exact ⟨by rw [HR.out]; rfl, HG4.out.trans HX3.out⟩
                have d2 : decide (1099511627776 < xv) = false := decide_eq_false q2
                replace HJ1 := hide (HJ1.out (by rw [HQ.out, okN_yes q1 q2, decide_eq_true (show xs.size ≤ 16 by omega)]; rfl))
                clear HNO HQ
                go_wp2_with fail
                go_roundw
                case rel => exact ⟨k + 1, by go_num, by omega, HO3, HJ1, HX3⟩
                case measure => simp [intOf]; omega
              · obtain rfl : k = m.got.length := by omega
                replace NY := hide (NY.out (all_done (Nat.le_refl _) HJ.out))
                have HGX := hide (HG4.out.trans HX.out)
                have hown := HO.out
                rw [List.take_length] at hown
                have hE := HE.out
                have hT := HT.out
                have hK := HK.out
                have hG := HG.out
                have C2 := hide (fun v w' (h : TxAt w' v m.t) => RefMayTxnB_ok v m.t w' h HBN.out.t)
                have C3 := hide (show ∀ v w', KsK m.keys v w' → Calls Tryz.prog 26 #[v] w' fun e w'' => e = .returned (.bool (risingK m.keys)) ∧ Gr w' w'' from fun v w' h => by
                  obtain ⟨⟨A, c, rfl⟩, h2⟩ := h
                  exact RefRisingW_ok A m.keys.length c m.keys rfl w' (strW_of h2).2 HBN.out.ks (by have := HBN.out.kn; omega))
                have C6 := hide (show ∀ v w', KsK (m.got.map (·.key)) v w' → Calls Tryz.prog 26 #[v] w' fun e w'' => e = .returned (.bool (risingK (m.got.map (·.key)))) ∧ Gr w' w'' from fun v w' h => by
                  obtain ⟨⟨A, c, rfl⟩, h2⟩ := h
                  exact RefRisingW_ok A (m.got.map (·.key)).length c (m.got.map (·.key)) rfl w' (strW_of h2).2 (fun s hs => by obtain ⟨x, hx, rfl⟩ := List.mem_map.1 hs; exact HBN.out.gk x hx) (by have := HBN.out.gn; rw [List.length_map]; omega))
                have hks := ks_of_own hown
                clear HJ HG4 HB4 HX HO HE HT HK HG hown
                go_upto_region 21 with (fail)
                refine Grow.wp_region_text 231 [169, 170, 171, 172, 173, 174, 175, 176, 177, 178, 179, 180, 181, 182, 183, 184, 185, 186, 187, 188, 189, 190, 191, 192, 193, 194, 195, 196, 197, 198, 199, 200, 201, 202, 203, 204, 205, 206, 207, 208, 209, 210, 211, 212, 213, 214, 215, 216, 217, 218, 219, 220, 221, 222, 223, 224, 225, 226, 227, 228, 229, 230, 2] rfl (by kernel_rfl) (by kernel_rfl) (Grow.Ahead.more (Grow.Ahead.more (Grow.Ahead.none_ _ _) 1 (Grow.Bx.stays w.heap.size 31 (cellsV m eA eC rA rC wA wC kA kC gA gC)) (by exact ⟨rfl, hbx⟩)) 6 (KsK.stays (m.got.map (·.key))) (by exact hks)) ?_
                refine Grow.grow_field (j := 17) (Ψ := Grow.Is (.int .i64 m.shard)) rfl (.inl ⟨rfl, rfl⟩) rfl (fun _ => by kernel_rfl) rfl (Grow.Is.stays _) (fun _ _ => rfl) ?_
                refine Grow.grow_load_k rfl (fun _ => by kernel_rfl) (.inl ⟨rfl, rfl⟩) rfl (Grow.Is.stays _) ?_
                refine Grow.grow_int (c := .bool (decide (m.shard < 3))) rfl (.inl ⟨rfl, rfl⟩) rfl (fun _ => rfl) rfl ?_
                refine Grow.grow_mv (.inl rfl) (.inl ⟨rfl, rfl⟩) rfl ?_
                refine Grow.cd_field (j := 9) (u := .slice eA m.entries.length eC) (Ψ := (EnK m.entries)) rfl (.inl ⟨3, 172, rfl, rfl, rfl, by decide⟩) (.inl rfl) (fun w => by kernel_rfl) rfl (EnK.stays _) (fun w' hg => ⟨⟨_, _, rfl⟩, hE.gr (HGX.out.trans hg)⟩) ?_
                refine Grow.cd_load rfl (fun w => by kernel_rfl) (.inl ⟨3, 172, rfl, rfl, rfl, by decide⟩) (.inr rfl) (EnK.stays _) ?_
                refine Grow.cd_len_k (n := m.entries.length) rfl Tryz.underlying23 (.inl ⟨3, 172, rfl, rfl, rfl, by decide⟩) (.inr rfl) (fun v w h => h.1) ?_
                refine Grow.cd_int (c := .bool (decide ((m.entries.length : Int) ≤ 4))) rfl (.inl ⟨3, 172, rfl, rfl, rfl, by decide⟩) (.inr rfl) (fun _ => rfl) (by rw [show binOp .leq _ _ _ = pure (.bool (decide ((m.entries.length : Int) ≤ 4))) from rfl]) ?_
                refine Grow.pick_and rfl rfl rfl (.inr rfl) ?_
                refine Grow.grow_mv (.inl rfl) (.inl ⟨rfl, rfl⟩) rfl ?_
                refine Grow.cd_field (j := 0) (u := .int .i64 m.kind) (Ψ := (Grow.Is (.int .i64 m.kind))) rfl (.inl ⟨9, 178, rfl, rfl, rfl, by decide⟩) (.inl rfl) (fun w => by kernel_rfl) rfl (Grow.Is.stays _) (fun _ _ => rfl) ?_
                refine Grow.cd_load rfl (fun w => by kernel_rfl) (.inl ⟨9, 178, rfl, rfl, rfl, by decide⟩) (.inr rfl) (Grow.Is.stays _) ?_
                refine Grow.cd_int (c := .bool (!(m.kind == 5))) rfl (.inl ⟨9, 178, rfl, rfl, rfl, by decide⟩) (.inr rfl) (fun _ => rfl) (by rw [show binOp .neq _ _ _ = pure (.bool (!(m.kind == 5))) from rfl]) ?_
                refine Grow.cd_mv (.inl rfl) (.inl ⟨9, 178, rfl, rfl, rfl, by decide⟩) (.inr rfl) (Grow.Is.stays _) ?_
                refine Grow.cd_field_s (j := 10) rfl (.inr ⟨13, 182, _, _, rfl, rfl, rfl, by decide, rfl⟩) (.inl rfl) (fun w => by kernel_rfl) ?_
                refine Grow.cd_load_s (Ψ := TxK m.t) [.int .i64 m.t.ses, .int .i64 m.t.seq, .slice rA m.t.reads.length rC, .slice wA m.t.writes.length wC] rfl (fun w => by kernel_rfl) (fun w => by kernel_rfl) (.inr ⟨13, 182, _, _, rfl, rfl, rfl, by decide, rfl⟩) (.inr rfl) rfl (fun k u hk => by
                  rcases k with _ | _ | _ | _ | k <;> simp at hk <;> subst hk <;> rfl) (TxK.stays _) (fun w' hg => (hT.gr (HGX.out.trans hg)).txAt) ?_
                refine Grow.cd_call1 (Φ := Grow.Is (.bool (mayT m.t))) rfl (.inr ⟨13, 182, _, _, rfl, rfl, rfl, by decide, rfl⟩) Tryz.func25 (by kernel_rfl) (by kernel_rfl) (.inr rfl) (Grow.Is.stays _) (fun v w' hg hv => (C2.out v w' hv).mono fun e w1 ⟨h1, h2⟩ => ⟨_, h1, h2, rfl⟩) ?_
                refine Grow.cd_pick_or rfl (.inl ⟨9, 178, rfl, rfl, rfl, by decide⟩) (.inr rfl) (.inr rfl) ?_
                refine Grow.pick_and rfl rfl rfl (.inr rfl) ?_
                refine Grow.grow_mv (.inl rfl) (.inl ⟨rfl, rfl⟩) rfl ?_
                refine Grow.cd_field (j := 21) (u := .slice kA m.keys.length kC) (Ψ := (KsK m.keys)) rfl (.inl ⟨19, 188, rfl, rfl, rfl, by decide⟩) (.inl rfl) (fun w => by kernel_rfl) rfl (KsK.stays _) (fun w' hg => ⟨⟨_, _, rfl⟩, hK.1.gr (HGX.out.trans hg)⟩) ?_
                refine Grow.cd_load rfl (fun w => by kernel_rfl) (.inl ⟨19, 188, rfl, rfl, rfl, by decide⟩) (.inr rfl) (KsK.stays _) ?_
                refine Grow.cd_len_k (n := m.keys.length) rfl Tryz.underlying28 (.inl ⟨19, 188, rfl, rfl, rfl, by decide⟩) (.inr rfl) (fun v w h => h.1) ?_
                refine Grow.cd_int (c := .bool (decide ((m.keys.length : Int) ≤ 6))) rfl (.inl ⟨19, 188, rfl, rfl, rfl, by decide⟩) (.inr rfl) (fun _ => rfl) (by rw [show binOp .leq _ _ _ = pure (.bool (decide ((m.keys.length : Int) ≤ 6))) from rfl]) ?_
                refine Grow.pick_and rfl rfl rfl (.inr rfl) ?_
                refine Grow.grow_mv (.inl rfl) (.inl ⟨rfl, rfl⟩) rfl ?_
                refine Grow.cd_field (j := 21) (u := .slice kA m.keys.length kC) (Ψ := (KsK m.keys)) rfl (.inl ⟨25, 194, rfl, rfl, rfl, by decide⟩) (.inl rfl) (fun w => by kernel_rfl) rfl (KsK.stays _) (fun w' hg => ⟨⟨_, _, rfl⟩, hK.1.gr (HGX.out.trans hg)⟩) ?_
                refine Grow.cd_load rfl (fun w => by kernel_rfl) (.inl ⟨25, 194, rfl, rfl, rfl, by decide⟩) (.inr rfl) (KsK.stays _) ?_
                refine Grow.cd_call1 (Φ := Grow.Is (.bool (risingK m.keys))) rfl (.inl ⟨25, 194, rfl, rfl, rfl, by decide⟩) Tryz.func26 (by kernel_rfl) (by kernel_rfl) (.inr rfl) (Grow.Is.stays _) (fun v w' hg hv => (C3.out v w' hv).mono fun e w1 ⟨h1, h2⟩ => ⟨_, h1, h2, rfl⟩) ?_
                refine Grow.pick_and rfl rfl rfl (.inr rfl) ?_
                refine Grow.grow_mv (.inl rfl) (.inl ⟨rfl, rfl⟩) rfl ?_
                refine Grow.cd_field (j := 19) (u := .string m.fromKey) (Ψ := (Grow.Is (.string m.fromKey))) rfl (.inl ⟨30, 199, rfl, rfl, rfl, by decide⟩) (.inl rfl) (fun w => by kernel_rfl) rfl (Grow.Is.stays _) (fun _ _ => rfl) ?_
                refine Grow.cd_load rfl (fun w => by kernel_rfl) (.inl ⟨30, 199, rfl, rfl, rfl, by decide⟩) (.inr rfl) (Grow.Is.stays _) ?_
                refine Grow.cd_len_str rfl Tryz.underlying9 (.inl ⟨30, 199, rfl, rfl, rfl, by decide⟩) (.inr rfl) ?_
                refine Grow.cd_int (c := .bool (decide ((m.fromKey.size : Int) ≤ 8))) rfl (.inl ⟨30, 199, rfl, rfl, rfl, by decide⟩) (.inr rfl) (fun _ => rfl) (by rw [show binOp .leq _ _ _ = pure (.bool (decide ((m.fromKey.size : Int) ≤ 8))) from rfl]) ?_
                refine Grow.pick_and rfl rfl rfl (.inr rfl) ?_
                refine Grow.grow_mv (.inl rfl) (.inl ⟨rfl, rfl⟩) rfl ?_
                refine Grow.cd_field (j := 20) (u := .string m.toKey) (Ψ := (Grow.Is (.string m.toKey))) rfl (.inl ⟨36, 205, rfl, rfl, rfl, by decide⟩) (.inl rfl) (fun w => by kernel_rfl) rfl (Grow.Is.stays _) (fun _ _ => rfl) ?_
                refine Grow.cd_load rfl (fun w => by kernel_rfl) (.inl ⟨36, 205, rfl, rfl, rfl, by decide⟩) (.inr rfl) (Grow.Is.stays _) ?_
                refine Grow.cd_len_str rfl Tryz.underlying9 (.inl ⟨36, 205, rfl, rfl, rfl, by decide⟩) (.inr rfl) ?_
                refine Grow.cd_int (c := .bool (decide ((m.toKey.size : Int) ≤ 8))) rfl (.inl ⟨36, 205, rfl, rfl, rfl, by decide⟩) (.inr rfl) (fun _ => rfl) (by rw [show binOp .leq _ _ _ = pure (.bool (decide ((m.toKey.size : Int) ≤ 8))) from rfl]) ?_
                refine Grow.pick_and rfl rfl rfl (.inr rfl) ?_
                refine Grow.grow_mv (.inl rfl) (.inl ⟨rfl, rfl⟩) rfl ?_
                refine Grow.cd_field (j := 22) (u := .slice gA m.got.length gC) (Ψ := (GsK m.got)) rfl (.inl ⟨42, 211, rfl, rfl, rfl, by decide⟩) (.inl rfl) (fun w => by kernel_rfl) rfl (GsK.stays _) (fun w' hg => ⟨⟨_, _, rfl⟩, hG.1.gr (HGX.out.trans hg)⟩) ?_
                refine Grow.cd_load rfl (fun w => by kernel_rfl) (.inl ⟨42, 211, rfl, rfl, rfl, by decide⟩) (.inr rfl) (GsK.stays _) ?_
                refine Grow.cd_len_k (n := m.got.length) rfl Tryz.underlying24 (.inl ⟨42, 211, rfl, rfl, rfl, by decide⟩) (.inr rfl) (fun v w h => h.1) ?_
                refine Grow.cd_int (c := .bool (decide ((m.got.length : Int) ≤ 64))) rfl (.inl ⟨42, 211, rfl, rfl, rfl, by decide⟩) (.inr rfl) (fun _ => rfl) (by rw [show binOp .leq _ _ _ = pure (.bool (decide ((m.got.length : Int) ≤ 64))) from rfl]) ?_
                refine Grow.pick_and rfl rfl rfl (.inr rfl) ?_
                refine Grow.grow_mv (.inl rfl) (.inl ⟨rfl, rfl⟩) rfl ?_
                refine Grow.cd_mv (Ψ := KsK (m.got.map (·.key))) (.inl rfl) (.inl ⟨48, 217, rfl, rfl, rfl, by decide⟩) (.inl rfl) (KsK.stays _) ?_
                refine Grow.cd_call1 (Φ := Grow.Is (.bool (risingK (m.got.map (·.key))))) rfl (.inl ⟨48, 217, rfl, rfl, rfl, by decide⟩) Tryz.func26 (by kernel_rfl) (by kernel_rfl) (.inr rfl) (Grow.Is.stays _) (fun v w' hg hv => (C6.out v w' hv).mono fun e w1 ⟨h1, h2⟩ => ⟨_, h1, h2, rfl⟩) ?_
                refine Grow.pick_and rfl rfl rfl (.inr rfl) ?_
                refine Grow.grow_mv (.inl rfl) (.inl ⟨rfl, rfl⟩) rfl ?_
                refine Grow.cd_field (j := 23) (u := .int .i64 m.err) (Ψ := (Grow.Is (.int .i64 m.err))) rfl (.inl ⟨52, 221, rfl, rfl, rfl, by decide⟩) (.inl rfl) (fun w => by kernel_rfl) rfl (Grow.Is.stays _) (fun _ _ => rfl) ?_
                refine Grow.cd_load rfl (fun w => by kernel_rfl) (.inl ⟨52, 221, rfl, rfl, rfl, by decide⟩) (.inr rfl) (Grow.Is.stays _) ?_
                refine Grow.cd_int (c := .bool (decide (m.err ≥ 0))) rfl (.inl ⟨52, 221, rfl, rfl, rfl, by decide⟩) (.inr rfl) (fun _ => rfl) (by rw [show binOp .geq _ _ _ = pure (.bool (decide (m.err ≥ 0))) from rfl]) ?_
                refine Grow.pick_and rfl rfl rfl (.inr rfl) ?_
                refine Grow.grow_mv (.inl rfl) (.inl ⟨rfl, rfl⟩) rfl ?_
                refine Grow.cd_field (j := 23) (u := .int .i64 m.err) (Ψ := (Grow.Is (.int .i64 m.err))) rfl (.inl ⟨57, 226, rfl, rfl, rfl, by decide⟩) (.inl rfl) (fun w => by kernel_rfl) rfl (Grow.Is.stays _) (fun _ _ => rfl) ?_
                refine Grow.cd_load rfl (fun w => by kernel_rfl) (.inl ⟨57, 226, rfl, rfl, rfl, by decide⟩) (.inr rfl) (Grow.Is.stays _) ?_
                refine Grow.cd_int (c := .bool (decide (m.err ≤ 6))) rfl (.inl ⟨57, 226, rfl, rfl, rfl, by decide⟩) (.inr rfl) (fun _ => rfl) (by rw [show binOp .leq _ _ _ = pure (.bool (decide (m.err ≤ 6))) from rfl]) ?_
                refine Grow.pick_and rfl rfl rfl (.inr rfl) ?_
                refine Grow.grow_mv (.inr rfl) (.inl ⟨rfl, rfl⟩) rfl ?_
                intro a1 w5 hg hsz hdf hun hk
                have h2 : a1.tmps.getD 2 undef = .bool (tailR m) := hk 2
                obtain ⟨X, hX, hlay⟩ := Grow.lay_kept_by _ a1 231 _ hsz hdf hun
                rw [hX] at h2
                clear hX hun hdf hsz hk
                subst hlay
                simp only [List.range, List.range.loop, List.map_cons, List.map_nil, List.contains_cons, List.contains_nil, Nat.reduceBEq, Bool.or_false, Bool.or_true, cond_false, cond_true, Array.getD_eq_getD_getElem?, List.getElem?_toArray, List.getElem?_cons_zero, List.getElem?_cons_succ, Option.getD_some, h2]
                have hgr := HGX.out.trans hg
                clear h2
                go_wp2_with fail
                go_ret
                exact ⟨by rw [NY.out]; rfl, hgr⟩

end Go.Proofs.YtpabppoohobjpaaGreat
