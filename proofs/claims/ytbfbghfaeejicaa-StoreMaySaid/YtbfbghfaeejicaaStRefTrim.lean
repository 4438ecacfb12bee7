/-
  The document's Trim of a store, by its contract.
-/
import Derived.Test.YtbfbghfaeejicaaStMine
import Derived.Test.YtbfbghfaeejicaaStOwn
import Derived.Test.YtbfbghfaeejicaaStWrite
import Derived.Test.YtbfbghfaeejicaaChRef2
import Derived.Deep.Cut
namespace Go.Proofs.Ytbfbghfaeejicaa
open Go Go.RowKit ChMath KeyMath StMath
set_option maxRecDepth 100000

theorem exec_idxA {ev : Operand → Value} {o : Oper} {x y : Operand} {ad : Addr} {n c k : Nat} (ho : o.op = .indexAddr 24 x y) (hx : ev x = .slice (some ad) n c) (hy : ev y = .int .i64 (k : Int)) (hk : k < n) (w : World) :
    (execOp ev o).run Try.prog w = .ok (.value (.pointer (some (ad.add (k * 2))))) w := by
  unfold execOp
  simp only [ho, hx, hy, Sem.run_bind, run_indexAt_slice w 24 _ _ _ _ _ (show Try.prog.underlying 24 = some (.slice (Try.prog.elem 24)) by kernel_rfl)]
  rw [if_pos (by omega), size_chn w]
  simp only [Result.andThen_ok, Int.toNat_natCast]
  rfl
theorem exec_fldA {ev : Operand → Value} {o : Oper} {x : Operand} {ad : Addr} (ho : o.op = .fieldAddr 54 x 1) (hx : ev x = .pointer (some ad)) (w : World) :
    (execOp ev o).run Try.prog w = .ok (.value (.pointer (some ⟨ad.block, ad.off + 1, none⟩))) w := by
  have e : (Instr.fieldAt 54 (.pointer (some ad)) 1).run Try.prog w = .ok (.pointer (some ⟨ad.block, ad.off + 1, none⟩)) w := by rfl
  unfold execOp
  simp only [ho, hx]
  rw [Sem.run_bind, e]
  rfl
theorem exec_fldK {ev : Operand → Value} {o : Oper} {x : Operand} {ad : Addr} (ho : o.op = .fieldAddr 54 x 0) (hx : ev x = .pointer (some ad)) (w : World) :
    (execOp ev o).run Try.prog w = .ok (.value (.pointer (some ad))) w := by
  have e : (Instr.fieldAt 54 (.pointer (some ad)) 0).run Try.prog w = .ok (.pointer (some (ad.add 0))) w := by rfl
  have e0 : ad.add 0 = ad := by simp [Addr.add]
  unfold execOp
  simp only [ho, hx]
  rw [Sem.run_bind, e, e0]
  rfl
theorem exec_fldS {ev : Operand → Value} {o : Oper} {x : Operand} {g : Nat} (ho : o.op = .fieldAddr 26 x 0) (hx : ev x = .pointer (some ⟨g, 0, none⟩)) (w : World) :
    (execOp ev o).run Try.prog w = .ok (.value (.pointer (some ⟨g, 0, none⟩))) w := by
  have e : (Instr.fieldAt 26 (.pointer (some ⟨g, 0, none⟩)) 0).run Try.prog w = .ok (.pointer (some ⟨g, 0, none⟩)) w := by rfl
  unfold execOp
  simp only [ho, hx]
  rw [Sem.run_bind, e]
  rfl
theorem exec_load {P : Program} {ev : Operand → Value} {o : Oper} {t : TypeId} {x : Operand} {ad : Addr} {u : Value} (ho : o.op = .load t x) (hx : ev x = .pointer (some ad)) (w : World) (ha : (isAgg t).run P w = .ok false w) (hc : w.cell? ad = some u) :
    (execOp ev o).run P w = .ok (.value u) w := by
  have hr : (Instr.loadAt t (.pointer (some ad))).run P w = .ok u w := by simp [Instr.loadAt, Instr.sureAddr, loadVar, ha, hc]
  unfold execOp
  simp only [ho, hx]
  rw [Sem.run_bind, hr]
  rfl
def trimRS (s : StT) (m : Int) : StT := if m ≤ s.mark then s else ⟨s.chains.map (trimRC m), m⟩
/-- what is there does not lie in a block from B on -/
theorem NotIn.of_old {w : World} {p : Value} {l : List VerT} (h : VersX w p l) {o : Option Nat} (ho : ∀ k, o = some k → w.heap.size ≤ k) : NotIn o p := by
  cases o with
  | none => exact NotIn.none_ _
  | some k => exact h.notIn (ho k rfl)

set_option maxHeartbeats 4000000 in
theorem RefStTrim_ok (s : StT) (u : Value) (m : Int) (w : World) (hv : ChnsX w u s.chains) (hl : CsLen s.chains) :
    Calls Try.prog 22 #[.agg #[u, .int .i64 s.mark], .int .i64 m] w (StPost (trimRS s m).chains (trimRS s m).mark w) := by
  obtain ⟨cs, sm⟩ := s
  simp only at hv hl ⊢
  have HV := hide hv
  have hcl := hl.1
  have HL := hide hl.2
  obtain ⟨A, c, rfl⟩ := hv.is
  clear hv hl
  obtain ⟨r, hr⟩ : ∃ r, trimRS ⟨cs, sm⟩ m = r := ⟨_, rfl⟩
  rw [hr]
  have HR0 := hide hr
  clear hr
  go_enter Try.func22, Try.ntmps22
  go_upto_region 1 with (fail)
  obtain ⟨W1, hW1⟩ : ∃ W1, (w.alloc (.cells #[.slice A cs.length c, .int .i64 sm] 26)).alloc (.cells #[.slice none 0 0, .int .i64 0] 26) = W1 := ⟨_, rfl⟩
  have hg1 : Gr w W1 := by rw [← hW1]; exact ((Gr.refl _).alloc _).alloc _
  have hb1 : Bl W1 w.heap.size 26 #[.slice A cs.length c, .int .i64 sm] := by rw [← hW1]; exact (Bl.new _ _ _).gr ((Gr.refl _).alloc _)
  have hb2 : Bl W1 (w.heap.size + 1) 26 #[.slice none 0 0, .int .i64 0] := by rw [← hW1]; have := Bl.new (w.alloc (.cells #[.slice A cs.length c, .int .i64 sm] 26)) 26 #[.slice none 0 0, .int .i64 0]; simpa using this
  have hsz1 : W1.heap.size = w.heap.size + 2 := by rw [← hW1]; simp
  rw [hW1]
  have k0 : W1.cell? ⟨w.heap.size, 0, none⟩ = some (.slice A cs.length c) := hb1.cell 0
  have k1 : W1.cell? ⟨w.heap.size, 1, none⟩ = some (.int .i64 sm) := hb1.cell 1
  have HG1 := hide hg1
  have HB1 := hide hb1
  have HB2 := hide hb2
  clear hW1 hg1 hb1 hb2
  by_cases hm : m ≤ sm
  · have HE := hide (show r = ⟨cs, sm⟩ from HR0.out.symm.trans (show trimRS ⟨cs, sm⟩ m = ⟨cs, sm⟩ by unfold trimRS; rw [if_pos (by exact hm)]))
    have n0 : W1.cell? ⟨w.heap.size + 1, 0, none⟩ = some (.slice none 0 0) := HB2.out.cell 0
    have n1 : W1.cell? ⟨w.heap.size + 1, 1, none⟩ = some (.int .i64 0) := HB2.out.cell 1
    have g0 := HB2.out.frozen 0
    have g1 := HB2.out.frozen 1
    go_wp2_with fail
    obtain ⟨W4, hW4⟩ : ∃ W4, (W1.setCell ⟨w.heap.size + 1, 0, none⟩ (.slice A cs.length c)).setCell ⟨w.heap.size + 1, 1, none⟩ (.int .i64 sm) = W4 := ⟨_, rfl⟩
    have hb6 : Bl W4 (w.heap.size + 1) 26 #[.slice A cs.length c, .int .i64 sm] := by rw [← hW4]; exact (HB2.out.put 0 _).put 1 _
    have hu6 : But W1 W4 (w.heap.size + 1) := by rw [← hW4]; exact ((But.refl _ _).set 0 _).set 1 _
    rw [hW4]
    refine bodyPost_ret (results_cell_row rfl _ W4 (w.heap.size + 1) 26 _ (0, 0) _ rfl hb6 Try.underlying26 rfl (by kernel_rfl)) rfl ?_
    rw [HE.out]
    have hgr := HG1.out.fresh_ hu6 (Nat.le_succ _)
    exact ⟨_, rfl, HV.out.gr hgr, hgr⟩
  · have HE := hide (show r = ⟨cs.map (trimRC m), m⟩ from HR0.out.symm.trans (show trimRS ⟨cs, sm⟩ m = ⟨cs.map (trimRC m), m⟩ by unfold trimRS; rw [if_neg (by exact hm)]))
    clear HR0
    go_upto_region 4 with (fail)
    obtain ⟨W2, hW2⟩ : ∃ W2, W1.alloc (.cells #[.slice none 0 0, .int .i64 m] 26) = W2 := ⟨_, rfl⟩
    have hg2 : Gr W1 W2 := by rw [← hW2]; exact (Gr.refl _).alloc _
    have hb3 : Bl W2 (w.heap.size + 2) 26 #[.slice none 0 0, .int .i64 m] := by rw [← hW2, ← hsz1]; exact Bl.new _ _ _
    have hsz2 : W2.heap.size = w.heap.size + 3 := by rw [← hW2]; simp [hsz1]
    rw [hW2]
    have HG2 := hide (HG1.out.trans hg2)
    have HB1' := hide (HB1.out.gr hg2)
    have HB2' := hide (HB2.out.gr hg2)
    have HB3 := hide hb3
    clear hW2 hg2 hb3 k0 k1 HG1 HB1 HB2
    go_wp2_with fail
    go_loopw [6] (fun i wr => ∃ (j : Nat) (row : Value), i = .int .i64 j ∧ j ≤ cs.length ∧ Hid (Bl wr w.heap.size 26 #[.slice A cs.length c, .int .i64 sm]) ∧ Hid (Bl wr (w.heap.size + 1) 26 #[.slice none 0 0, .int .i64 0]) ∧ Hid (Bl wr (w.heap.size + 2) 26 #[row, .int .i64 m]) ∧ Hid (ChnsO wr (w.heap.size + 3) row ((cs.take j).map (trimRC m))) ∧ Hid (Gr w wr) ∧ w.heap.size + 3 ≤ wr.heap.size) (fun i _ => cs.length - (intOf i).toNat)
    case atStart => exact ⟨0, _, rfl, by omega, HB1', HB2', HB3, ChnsO.none_ _ _, HG2, by omega⟩
    case round =>
      clear HB1' HB2' HB3 HG2 hsz2
      obtain ⟨j, row, rfl, hj, HB, HR, HB3, HO, HG, hsz⟩ := hrel
      obtain ⟨B, d, hrow⟩ := HO.out.is
      rw [List.length_map, List.length_take, Nat.min_eq_left hj] at hrow
      subst hrow
      have k0 : wr.cell? ⟨w.heap.size, 0, none⟩ = some (.slice A cs.length c) := HB.out.cell 0
      by_cases hlt : j < cs.length
      · have hlt' : (j : Int) < (cs.length : Int) := by omega
        obtain ⟨ad, c', p, e1, hp, b0, b1⟩ := HV.out.at_ hlt
        simp only [Value.slice.injEq, true_and] at e1
        obtain ⟨rfl, rfl⟩ := e1
        have hle := HL.out _ (List.getElem_mem hlt)
        have HT := hide (show (cs.take (j + 1)).map (trimRC m) = (cs.take j).map (trimRC m) ++ [⟨cs[j].key, trimR m cs[j].l⟩] by rw [List.take_succ_eq_append_getElem hlt, List.map_append]; rfl)
        generalize cs[j] = x at hp b0 b1 HT hle
        obtain ⟨xk, xl⟩ := x
        simp only at hp b0 b1 HT hle
        have hbl0 := World.block_lt_of_cell? w _ b0
        have HCALL := hide (fun W (h : VersX W p xl) => RefTrim_ok p xl m W h (by omega))
        have hlow : ∀ k, (Value.slice B j d).ownBlock = some k → w.heap.size + 3 ≤ k := fun k hk => (HO.out.lt k hk).1
        have hwf0 : ∀ k, (Value.slice B j d).ownBlock = some k → k < wr.heap.size := fun k hk => (HO.out.lt k hk).2
        obtain ⟨I, hI⟩ : ∃ I : World → Option Nat → Prop, I = fun w' ob => ((w'.cell? ⟨w.heap.size, 0, none⟩ = some (.slice (some ad) cs.length c) ∧ some w.heap.size ≠ ob) ∧ (w'.cell? (ad.add (j * 2)) = some (.string xk) ∧ some (ad.add (j * 2)).block ≠ ob)) ∧ (w'.cell? ⟨(ad.add (j * 2)).block, (ad.add (j * 2)).off + 1, none⟩ = some p ∧ some (ad.add (j * 2)).block ≠ ob) ∧ (VersX w' p xl ∧ NotIn ob p) := ⟨_, rfl⟩
        have hIok : Mine.PayOk I := by rw [hI]; exact ((Mine.pay_cell ⟨w.heap.size, 0, none⟩ _).and (Mine.pay_cell (ad.add (j * 2)) _)).and ((Mine.pay_cell ⟨(ad.add (j * 2)).block, (ad.add (j * 2)).off + 1, none⟩ _).and (Mine.pay_ver p xl))
        have hI0 : ∀ w' ob, I w' ob → w'.cell? ⟨w.heap.size, 0, none⟩ = some (.slice (some ad) cs.length c) := fun w' ob h => by rw [hI] at h; exact h.1.1.1
        have hI1 : ∀ w' ob, I w' ob → w'.cell? (ad.add (j * 2)) = some (.string xk) := fun w' ob h => by rw [hI] at h; exact h.1.2.1
        have hI2 : ∀ w' ob, I w' ob → w'.cell? ⟨(ad.add (j * 2)).block, (ad.add (j * 2)).off + 1, none⟩ = some p := fun w' ob h => by rw [hI] at h; exact h.2.1.1
        have hI3 : ∀ w' ob, I w' ob → VersX w' p xl := fun w' ob h => by rw [hI] at h; exact h.2.2.1
        have hIw : I wr.drew (Value.slice B j d).ownBlock := by
          rw [hI]
          refine ⟨⟨⟨k0, fun e => by have := hlow _ e.symm; omega⟩, gr_cell (HG.out.drewN 1) _ _ b0, fun e => by have := hlow _ e.symm; omega⟩, ⟨gr_cell (HG.out.drewN 1) _ _ b1, fun e => by have := hlow _ e.symm; omega⟩, hp.gr (HG.out.drewN 1), NotIn.of_old hp (fun k hk => by have := hlow k hk; omega)⟩
        have HIW := hide hIw
        clear hI hIw hp b0 b1
        go_wp2_with fail
        refine Mine.wp_region_mine_tail 20 42 [21, 22, 23, 24, 25, 26, 27, 28, 29, 30, 31, 32, 33, 34, 35, 36, 37, 38, 39, 40] rfl (by kernel_rfl) (by kernel_rfl) (by kernel_rfl) (by kernel_rfl) (ob0 := (Value.slice B j d).ownBlock)
          (Mine.Ahead.more (Mine.Ahead.more (Mine.Ahead.more (Mine.Ahead.more (Mine.Ahead.none_ _ _ _) 2 (Mine.Wi.stays hIok (.pointer (some ⟨w.heap.size, 0, none⟩))) (by exact ⟨rfl, HIW.out⟩)) 6 (Mine.Is.stays (.int .i64 (j : Int))) (by rfl)) 1 (Mine.Is.stays (.int .i64 m)) (by rfl)) 5 (Mine.Bx.stays (w.heap.size + 2) 26 #[.slice B j d, .int .i64 m]) (by exact ⟨rfl, HB3.out.drewN 1, fun e => by have := hlow _ e.symm; omega⟩))
          42 (C0 := Mine.ChOf (w.heap.size + 3) (.slice B j d) ((cs.take j).map (trimRC m))) (Mine.ChOf.keeps _ _ _) (fun k hk => hwf0 k hk) ⟨HO.out.gr ((Gr.refl _).drewN 1), rfl⟩ ?_
        refine Mine.field (j := 0) rfl rfl (by decide) rfl (fun W => rfl) rfl ?_
        refine Mine.chain_loadC rfl rfl rfl (Nat.le_refl _) (fun W => by kernel_rfl) rfl ?_
        refine Mine.look1 (x := .tmp 2) (Ψ := Mine.Wi I (.pointer (some ⟨w.heap.size, 0, none⟩))) (Φ := Mine.Wi I (.pointer (some ⟨w.heap.size, 0, none⟩))) rfl (by decide) (by simp [Op.operands]) rfl (Mine.Wi.stays hIok _) (fun a W ob h => ⟨_, exec_fldS rfl h.1 W, rfl, h.2⟩) ?_
        refine Mine.look1 (x := .tmp 23) (Ψ := Mine.Wi I (.pointer (some ⟨w.heap.size, 0, none⟩))) (Φ := Mine.Wi I (.slice (some ad) cs.length c)) rfl (by decide) (by simp [Op.operands]) rfl (Mine.Wi.stays hIok _) (fun a W ob h => ⟨_, exec_load rfl h.1 W (by kernel_rfl) (hI0 _ _ h.2), rfl, h.2⟩) ?_
        refine Mine.move (.tmp 6) (.inl rfl) rfl (by decide) rfl (Mine.Is.stays _) ?_
        refine Mine.look2 (x := .tmp 24) (y := .tmp 25) (Ψ := Mine.Wi I (.slice (some ad) cs.length c)) (Ψ' := Mine.Is (.int .i64 (j : Int))) (Φ := Mine.Wi I (.pointer (some (ad.add (j * 2))))) rfl (by decide) (by simp [Op.operands]) (by simp [Op.operands]) rfl rfl (Mine.Wi.stays hIok _) (fun a W ob h h' => ⟨_, exec_idxA rfl h.1 h' hlt W, rfl, h.2⟩) ?_
        refine Mine.look1 (x := .tmp 26) (Ψ := Mine.Wi I (.pointer (some (ad.add (j * 2))))) (Φ := Mine.Wi I (.pointer (some (ad.add (j * 2))))) rfl (by decide) (by simp [Op.operands]) rfl (Mine.Wi.stays hIok _) (fun a W ob h => ⟨_, exec_fldK rfl h.1 W, rfl, h.2⟩) ?_
        refine Mine.look1 (x := .tmp 27) (Ψ := Mine.Wi I (.pointer (some (ad.add (j * 2))))) (Φ := Mine.Is (.string xk)) rfl (by decide) (by simp [Op.operands]) rfl (Mine.Is.stays _) (fun a W ob h => ⟨_, exec_load rfl h.1 W (by kernel_rfl) (hI1 _ _ h.2), rfl⟩) ?_
        refine Mine.look1 (x := .tmp 2) (Ψ := Mine.Wi I (.pointer (some ⟨w.heap.size, 0, none⟩))) (Φ := Mine.Wi I (.pointer (some ⟨w.heap.size, 0, none⟩))) rfl (by decide) (by simp [Op.operands]) rfl (Mine.Wi.stays hIok _) (fun a W ob h => ⟨_, exec_fldS rfl h.1 W, rfl, h.2⟩) ?_
        refine Mine.look1 (x := .tmp 29) (Ψ := Mine.Wi I (.pointer (some ⟨w.heap.size, 0, none⟩))) (Φ := Mine.Wi I (.slice (some ad) cs.length c)) rfl (by decide) (by simp [Op.operands]) rfl (Mine.Wi.stays hIok _) (fun a W ob h => ⟨_, exec_load rfl h.1 W (by kernel_rfl) (hI0 _ _ h.2), rfl, h.2⟩) ?_
        refine Mine.move (.tmp 6) (.inl rfl) rfl (by decide) rfl (Mine.Is.stays _) ?_
        refine Mine.look2 (x := .tmp 30) (y := .tmp 31) (Ψ := Mine.Wi I (.slice (some ad) cs.length c)) (Ψ' := Mine.Is (.int .i64 (j : Int))) (Φ := Mine.Wi I (.pointer (some (ad.add (j * 2))))) rfl (by decide) (by simp [Op.operands]) (by simp [Op.operands]) rfl rfl (Mine.Wi.stays hIok _) (fun a W ob h h' => ⟨_, exec_idxA rfl h.1 h' hlt W, rfl, h.2⟩) ?_
        refine Mine.look1 (x := .tmp 32) (Ψ := Mine.Wi I (.pointer (some (ad.add (j * 2))))) (Φ := Mine.Wi I (.pointer (some ⟨(ad.add (j * 2)).block, (ad.add (j * 2)).off + 1, none⟩))) rfl (by decide) (by simp [Op.operands]) rfl (Mine.Wi.stays hIok _) (fun a W ob h => ⟨_, exec_fldA rfl h.1 W, rfl, h.2⟩) ?_
        refine Mine.look1 (x := .tmp 33) (Ψ := Mine.Wi I (.pointer (some ⟨(ad.add (j * 2)).block, (ad.add (j * 2)).off + 1, none⟩))) (Φ := Mine.Wi I p) rfl (by decide) (by simp [Op.operands]) rfl (Mine.Wi.stays hIok _) (fun a W ob h => ⟨_, exec_load rfl h.1 W (by kernel_rfl) (hI2 _ _ h.2), rfl, h.2⟩) ?_
        refine Mine.move (.tmp 1) (.inl rfl) rfl (by decide) rfl (Mine.Is.stays _) ?_
        refine Mine.callW rfl rfl (by decide) Try.func49 (by kernel_rfl) (by kernel_rfl) (I := I) (p := p) (l := xl) rfl hI3 rfl (fun W h => HCALL.out W h) ?_
        refine Mine.buildV rfl rfl (by decide) rfl rfl ?_
        refine Mine.litV rfl rfl (by decide) rfl ?_
        refine Mine.chain_appN rfl rfl rfl rfl (by rw [List.length_map, List.length_take]; omega) (by exact hsz) ?_
        refine Mine.field_is (j := 0) rfl rfl (by decide) rfl (fun W => rfl) ?_
        intro a1 w3 ob hr hwf hsz' hdf hun hk2 hat
        have h40 : a1.tmps.getD 40 undef = .pointer (some ⟨w.heap.size + 2, 0, none⟩) := hk2 40
        have h39 : ChnsO w3 (w.heap.size + 3) (a1.tmps.getD 39 undef) ((cs.take j).map (trimRC m) ++ [⟨xk, trimR m xl⟩]) := hat.1
        obtain ⟨X, hX, hlay⟩ := Grow.lay_kept_by _ a1 42 _ hsz' hdf hun
        rw [hX] at h39 h40
        clear hX hun hdf hsz' hk2 hwf hat
        rw [← HT.out] at h39
        obtain ⟨uA, uc, hv3⟩ := h39.is
        rw [List.length_map, List.length_take, Nat.min_eq_left (by omega)] at hv3
        rw [hv3] at h39
        have hgb : wr.grownBy w3 (Value.slice B j d).ownBlock := grown_gr (Gr.drew (Gr.refl wr)) hr.gb
        have hb1 := HB.out.grown hgb (fun e => by have := hlow _ e.symm; omega)
        have hb2 := HR.out.grown hgb (fun e => by have := hlow _ e.symm; omega)
        have hb3 := HB3.out.grown hgb (fun e => by have := hlow _ e.symm; omega)
        subst hlay
        simp only [List.range, List.range.loop, List.map_cons, List.map_nil, List.contains_cons, List.contains_nil, Nat.reduceBEq, Bool.or_false, Bool.or_true, cond_false, cond_true, Array.getD_eq_getD_getElem?, List.getElem?_toArray, List.getElem?_cons_zero, List.getElem?_cons_succ, Option.getD_some, hv3, h40, List.drop_succ_cons, List.drop_zero]
        refine wpList_store_at (g := w.heap.size + 2) (i := 0) (u := .slice uA (j + 1) uc) rfl 24 (.tmp 40) (.tmp 39) rfl rfl (fun W => by kernel_rfl) rfl rfl ⟨_, _, _, rfl⟩ (hb3.cell 0) (hb3.frozen 0) ?_
        have hu4 : But w3 (w3.setCell ⟨w.heap.size + 2, 0, none⟩ (.slice uA (j + 1) uc)) (w.heap.size + 2) := (But.refl _ _).set 0 _
        have HB4 := hide (hb1.but_ hu4 (by omega))
        have HR4 := hide (hb2.but_ hu4 (by omega))
        have HB34 : Hid (Bl (w3.setCell ⟨w.heap.size + 2, 0, none⟩ (.slice uA (j + 1) uc)) (w.heap.size + 2) 26 #[.slice uA (j + 1) uc, .int .i64 m]) := hide (hb3.put 0 _)
        have HO4 := hide (h39.but hu4 (by omega) hb3 (by simp))
        have HG4 : Hid (Gr w (w3.setCell ⟨w.heap.size + 2, 0, none⟩ (.slice uA (j + 1) uc))) := hide (by
          have h1 : Gr w w3 := ⟨hgb.os.trans HG.out.os, hgb.tape.trans HG.out.tape, hgb.output.trans HG.out.output, Nat.le_trans HG.out.size hgb.size, fun k hk => (hgb.block k (Nat.lt_of_lt_of_le hk HG.out.size) (fun e => by have := hlow _ e.symm; omega)).trans (HG.out.block k hk)⟩
          exact h1.fresh_ hu4 (by omega))
        have hsz4 : w.heap.size + 3 ≤ (w3.setCell ⟨w.heap.size + 2, 0, none⟩ (.slice uA (j + 1) uc)).heap.size := Nat.le_trans hsz (Nat.le_trans hgb.size hu4.size)
        generalize w3.setCell ⟨w.heap.size + 2, 0, none⟩ (.slice uA (j + 1) uc) = w4 at HB4 HR4 HB34 HO4 HG4 hsz4 ⊢
        clear hu4 hb1 hb2 hb3 hgb hr h39 h40 hv3 HB HR HB3 HO HG HIW HCALL hlow hwf0 hI0 hI1 hI2 hI3 hIok I k0 hbl0
        go_wp2_with fail
        go_roundw
        case rel => exact ⟨j + 1, _, by go_num, by omega, HB4, HR4, HB34, HO4, HG4, hsz4⟩
        case measure => simp [intOf]; omega
      · obtain rfl : j = cs.length := by omega
        rw [List.take_length] at HO
        have m0 : wr.cell? ⟨w.heap.size + 2, 0, none⟩ = some (.slice B cs.length d) := HB3.out.cell 0
        have m1 : wr.cell? ⟨w.heap.size + 2, 1, none⟩ = some (.int .i64 m) := HB3.out.cell 1
        have n0 : wr.cell? ⟨w.heap.size + 1, 0, none⟩ = some (.slice none 0 0) := HR.out.cell 0
        have n1 : wr.cell? ⟨w.heap.size + 1, 1, none⟩ = some (.int .i64 0) := HR.out.cell 1
        have g0 := HR.out.frozen 0
        have g1 := HR.out.frozen 1
        go_wp2_with fail
        obtain ⟨W4, hW4⟩ : ∃ W4, (wr.setCell ⟨w.heap.size + 1, 0, none⟩ (.slice B cs.length d)).setCell ⟨w.heap.size + 1, 1, none⟩ (.int .i64 m) = W4 := ⟨_, rfl⟩
        have hb6 : Bl W4 (w.heap.size + 1) 26 #[.slice B cs.length d, .int .i64 m] := by rw [← hW4]; exact (HR.out.put 0 _).put 1 _
        have hu6 : But wr W4 (w.heap.size + 1) := by rw [← hW4]; exact ((But.refl _ _).set 0 _).set 1 _
        rw [hW4]
        refine bodyPost_ret (results_cell_row rfl _ W4 (w.heap.size + 1) 26 _ (0, 0) _ rfl hb6 Try.underlying26 rfl (by kernel_rfl)) rfl ?_
        rw [HE.out]
        exact ⟨_, rfl, (HO.out.but hu6 (by omega) HR.out (by simp)).x, HG.out.fresh_ hu6 (Nat.le_succ _)⟩
end Go.Proofs.Ytbfbghfaeejicaa

/-
  More steps of open regions, for the document's Write of a store. No function of the program.
-/
namespace Go.Proofs.Ytbfbghfaeejicaa
open Go Go.RowKit ChMath KeyMath StMath
set_option maxRecDepth 100000

theorem exec_fldW {ev : Operand → Value} {o : Oper} {x : Operand} {g : Nat} (ho : o.op = .fieldAddr 59 x 0) (hx : ev x = .pointer (some ⟨g, 0, none⟩)) (w : World) :
    (execOp ev o).run Try.prog w = .ok (.value (.pointer (some ⟨g, 0, none⟩))) w := by
  have e : (Instr.fieldAt 59 (.pointer (some ⟨g, 0, none⟩)) 0).run Try.prog w = .ok (.pointer (some ⟨g, 0, none⟩)) w := by rfl
  unfold execOp
  simp only [ho, hx]
  rw [Sem.run_bind, e]
  rfl
theorem exec_fldW1 {ev : Operand → Value} {o : Oper} {x : Operand} {g : Nat} (ho : o.op = .fieldAddr 59 x 1) (hx : ev x = .pointer (some ⟨g, 0, none⟩)) (w : World) :
    (execOp ev o).run Try.prog w = .ok (.value (.pointer (some ⟨g, 1, none⟩))) w := by
  have e : (Instr.fieldAt 59 (.pointer (some ⟨g, 0, none⟩)) 1).run Try.prog w = .ok (.pointer (some ⟨g, 1, none⟩)) w := by rfl
  unfold execOp
  simp only [ho, hx]
  rw [Sem.run_bind, e]
  rfl
theorem exec_fldW2 {ev : Operand → Value} {o : Oper} {x : Operand} {g : Nat} (ho : o.op = .fieldAddr 59 x 2) (hx : ev x = .pointer (some ⟨g, 0, none⟩)) (w : World) :
    (execOp ev o).run Try.prog w = .ok (.value (.pointer (some ⟨g, 2, none⟩))) w := by
  have e : (Instr.fieldAt 59 (.pointer (some ⟨g, 0, none⟩)) 2).run Try.prog w = .ok (.pointer (some ⟨g, 2, none⟩)) w := by rfl
  unfold execOp
  simp only [ho, hx]
  rw [Sem.run_bind, e]
  rfl
theorem exec_fldM {ev : Operand → Value} {o : Oper} {x : Operand} {g : Nat} (ho : o.op = .fieldAddr 26 x 1) (hx : ev x = .pointer (some ⟨g, 0, none⟩)) (w : World) :
    (execOp ev o).run Try.prog w = .ok (.value (.pointer (some ⟨g, 1, none⟩))) w := by
  have e : (Instr.fieldAt 26 (.pointer (some ⟨g, 0, none⟩)) 1).run Try.prog w = .ok (.pointer (some ⟨g, 1, none⟩)) w := by rfl
  unfold execOp
  simp only [ho, hx]
  rw [Sem.run_bind, e]
  rfl
theorem exec_ver {ev : Operand → Value} {o : Oper} {x y z : Operand} {p : Int} {t : ByteArray} {b : Bool} (ho : o.op = .build 51 #[(0, x), (1, y), (2, z)]) (hx : ev x = .int .i64 p) (hy : ev y = .string t) (hz : ev z = .bool b) (w : World) :
    (execOp ev o).run Try.prog w = .ok (.value (.agg #[.int .i64 p, .string t, .bool b])) w := by
  have e : (Instr.build 51 #[(0, .int .i64 p), (1, .string t), (2, .bool b)]).run Try.prog w = .ok (.agg #[.int .i64 p, .string t, .bool b]) w := by kernel_rfl
  unfold execOp
  simp only [ho, List.map_toArray, List.map_cons, List.map_nil, hx, hy, hz]
  rw [Sem.run_bind, e]
  rfl
theorem exec_new {ev : Operand → Value} {o : Oper} {x : Operand} {k : ByteArray} (ho : o.op = .build 54 #[(0, x)]) (hx : ev x = .string k) (w : World) :
    (execOp ev o).run Try.prog w = .ok (.value (.agg #[.string k, .slice none 0 0])) w := by
  have e : (Instr.build 54 #[(0, .string k)]).run Try.prog w = .ok (.agg #[.string k, .slice none 0 0]) w := by kernel_rfl
  unfold execOp
  simp only [ho, List.map_toArray, List.map_cons, List.map_nil, hx]
  rw [Sem.run_bind, e]
  rfl
/-- a struct is stored into a block -/
theorem wpList_store_agg {P : Program} {ops : Array Oper} {rest : List Oper} {o : Oper} {a : Act} {w : World} {Q : Exit → Act → World → Prop} (hgd : o.guard = none) (ty : TypeId) (x y : Operand) (ho : o.op = .store ty x y) (hd : o.dst = none) {ie : TypeInfo} (hie : P.info? ty = some ie) {g : Nat} {t : TypeId} {old : Array Value} (cs : List Value)
    (hl : cs.length = ie.size) (h1 : ∀ v ∈ cs, v.oneCell' = true) (hx : a.eval x = .pointer (some ⟨g, 0, none⟩)) (hy : a.eval y = .agg cs.toArray) (hb : Bl w g t old) (hs : old.size = cs.length) (h : wpList P ops Q rest a (w.setCells g 0 cs)) : wpList P ops Q (o :: rest) a w :=
  wpList_plain hgd fun _ hK => by
    have hr : (Instr.storeAt ty (.pointer (some ⟨g, 0, none⟩)) (.agg cs.toArray)).run P w = .ok () (w.setCells g 0 cs) := by
      simp [Instr.storeAt, Instr.sureAddr, Lib.rl_storeVar_cells (P := P) ty ie hie g 0 cs hl h1 w (fun k hk => by rw [hb.cell, Array.getElem?_eq_getElem (by omega)]; rfl) (fun k _ => hb.frozen _)]
    unfold Oper.wp execOp
    simp only [ho, hx, hy, Sem.run_bind, hr, Result.andThen_ok]
    exact hK _ _ (by rw [hd]; exact h)
theorem ChnsO.apart {w w' : World} {B : Nat} {v : Value} {cs : List ChT} {g : Nat} {t : TypeId} {bs : Array Value} (h : ChnsO w B v cs) (hb : But w w' g) (hne : v.ownBlock ≠ some g) (hbl : Bl w g t bs) (hs : bs.size ≤ 2) : ChnsO w' B v cs := by
  obtain ⟨is, e, h1, h2⟩ := h
  exact ⟨is, e, ⟨h1.1, World.ownsRow.kept h1.2 hb (.inr hne)⟩, fun i hi => ⟨(h2 i hi).1.kept ((h2 i hi).1.notBox hbl hs) hb, (h2 i hi).2⟩⟩
end Go.Proofs.Ytbfbghfaeejicaa

namespace Go.Proofs.Ytbfbghfaeejicaa.Mine
open Go Go.RowKit Go.Proofs.Ytbfbghfaeejicaa ChMath StMath
/-- a store that holds the row -/
abbrev RowB (B : Nat) (m : Int) (rs : List (List Value)) : Known := fun v w o => ∃ u, v = .agg #[u, .int .i64 m] ∧ OwnR 54 2 w B u rs ∧ u.ownBlock = o
theorem RowB.keeps (B : Nat) (m : Int) (rs : List (List Value)) : Keeps (RowB B m rs) := fun _ _ _ _ ⟨u, h0, h1, h2⟩ hg => ⟨u, h0, h1.gr hg, h2⟩
section
variable {ops : Array Oper} {w0 : World} {n0 : Nat} {Q : (Tmp → Known) → Tmp → Known → Prop} {o : Oper} {rest : List Oper} {K : Tmp → Known} {c : Tmp} {C : Known}
theorem chain_build {d : Tmp} {x : Operand} {m : Int} {rs : List (List Value)} {B : Nat} (ho : o.op = .build 26 #[(1, x), (0, .tmp c)]) (hd : o.dst = some d) (hg : o.guard = none) (hx : Kn K x (Is (.int .i64 m)))
    (h : wpMine Try.prog ops w0 n0 Q rest (upd K (some d) top) d (RowB B m rs)) : wpMine Try.prog ops w0 n0 Q (o :: rest) K c (RowR 54 2 B rs) := by
  refine chain hd hg (.inl (looks_tmp (by simp [ho, Op.operands]))) (RowB.keeps B m rs) (fun a w ob ob0 _ hwf hl hC => ?_) h
  have h1 : a.eval x = .int .i64 m := looks_op (Ψ := Is (.int .i64 m)) (by simp [ho, Op.operands]) hx hl
  obtain ⟨h2, h3⟩ := hC
  have hs : a.eval (.tmp c) = a.tmps.getD c undef := rfl
  generalize hv : a.tmps.getD c undef = v at h2 h3 hs
  obtain ⟨A, n, hsl, _⟩ := h2.rowAt
  have hr : ∀ (A : Option Addr) (q n : Nat), (Instr.build 26 #[(1, .int .i64 m), (0, .slice A q n)]).run Try.prog w = .ok (.agg #[.slice A q n, .int .i64 m]) w := fun A q n => by kernel_rfl
  unfold doesC execOp
  simp only [ho, List.map_toArray, List.map_cons, List.map_nil, h1, hs]
  rw [hsl] at h2 h3 ⊢
  rw [Sem.run_bind, hr]
  exact ⟨ob, RS.refl w ob, hwf, _, rfl, h2, h3⟩
theorem look3 {P : Program} {x y z : Operand} {u1 u2 u3 v : Value} (hg : o.guard = none) (hd : o.dst ≠ some c) (hxo : x ∈ o.op.operands) (hyo : y ∈ o.op.operands) (hzo : z ∈ o.op.operands) (hx : Kn K x (Is u1)) (hy : Kn K y (Is u2)) (hz : Kn K z (Is u3)) (hr : ∀ (a : Act) (w : World), a.eval x = u1 → a.eval y = u2 → a.eval z = u3 → (execOp a.eval o).run P w = .ok (.value v) w)
    (h : wpMine P ops w0 n0 Q rest (upd K o.dst (Is v)) c C) : wpMine P ops w0 n0 Q (o :: rest) K c C := by
  refine step hg hd (Is.stays v) (fun a w ob _ hl => ?_) h
  unfold does
  rw [hr a w (looks_op (Ψ := Is u1) hxo hx hl) (looks_op (Ψ := Is u2) hyo hy hl) (looks_op (Ψ := Is u3) hzo hz hl)]
  exact ⟨Gr.refl w, rfl⟩
/-- as 'callW', what comes back does not lie in block g -/
theorem callWg {P : Program} {f : FuncId} {x y : Operand} {ats : Array TypeId} {I : World → Option Nat → Prop} {p u : Value} {l l' : List VerT} {fn : Func} {g : Nat} (hgl : g < w0.heap.size) (ho : o.op = .call { callee := .value (.func f), args := #[x, y], argTypes := ats }) (hg : o.guard = none) (hd : o.dst ≠ some c) (hf : P.funcs[f]? = some fn) (hn : (fn.name == "runtime.NumGoroutine") = false) (hb : fn.body.isNone = false)
    (hx : Kn K x (Wi I p)) (hI : ∀ w ob, I w ob → VersX w p l) (hy : Kn K y (Is u)) (hc : ∀ w, VersX w p l → Calls P f #[p, u] w fun en w' => ∃ z, en = .returned z ∧ VersO w' w.heap.size z l' ∧ Gr w w') (h : wpMine P ops w0 n0 Q rest (upd K o.dst (Vn g l')) c C) : wpMine P ops w0 n0 Q (o :: rest) K c C := by
  refine .inl ⟨Vn g l', fun _ => Vn.stays g l', hd, fun a w ob ob0 hrs hwf _ hl => ?_, h⟩
  have hw : Region.wanted o (yielded ops a.tmps) = true := by simp [Region.wanted, hg]
  rw [if_pos hw]
  obtain ⟨h1, h2⟩ : Wi I p (a.eval x) w ob := looks_op (Ψ := Wi I p) (by simp [ho, Op.operands, Call.operands]) hx hl
  have h4 : a.eval y = u := looks_op (Ψ := Is u) (by simp [ho, Op.operands, Call.operands]) hy hl
  have hgw := Nat.lt_of_lt_of_le hgl hrs.gb.size
  obtain ⟨dst, op, ty, pos, after, guard⟩ := o
  simp only at ho
  subst ho
  unfold does
  rw [execOp_call_go, Grow.enters hf hn hb]
  refine ⟨Gr.refl w, ?_⟩
  simp only [List.map_toArray, List.map_cons, List.map_nil, h1, h4]
  refine (hc w (hI w ob h2)).mono fun en w' ⟨z, he, hz, hgr⟩ => ⟨z, he, hgr, hz.x, ?_, hz.notIn hgw⟩
  cases ob with
  | none => exact NotIn.none_ _
  | some k => exact hz.notIn (hwf k rfl)
end
end Go.Proofs.Ytbfbghfaeejicaa.Mine
