/-
  The walk of 'MsgForms'.
-/
import Derived.Test.YtpabppoohobjpaaGreatMsgBegun
import Derived.Test.YtpabppoohobjpaaGreatMsgLit
namespace Go.Proofs.YtpabppoohobjpaaGreat
open Go Go.RowKit TxnMath KeyMath MsgMath
set_option maxRecDepth 100000

/-- letters that may be -/
def gL : List MsgT := [{ noMsg with kind := 1, frm := 1, to := 5 },
  { noMsg with kind := 2, frm := 2, to := 1, ok := true, term := 1099511627776 },
  { noMsg with kind := 3, frm := 1, to := 2, part := 2, entries := [⟨1, true, noTxn⟩, ⟨1, false, ⟨1, 1, [], []⟩⟩] },
  { noMsg with kind := 5, frm := 1, to := 2, t := ⟨1, 1, [], []⟩ },
  { noMsg with kind := 9, frm := 1, to := 2, shard := 2, err := 6, got := [⟨⟨#[97]⟩, 0, ⟨#[]⟩, false⟩] }]
/-- letters that may not -/
def bL : List MsgT := [{ noMsg with kind := 0, frm := 1, to := 2 },
  { noMsg with kind := 10, frm := 1, to := 2 },
  { noMsg with kind := 1, frm := 0, to := 2 },
  { noMsg with kind := 1, frm := 6, to := 2 },
  { noMsg with kind := 1, frm := 2, to := 2 },
  { noMsg with kind := 1, frm := 1, to := 2, part := 3 },
  { noMsg with kind := 1, frm := 1, to := 2, term := (-1) },
  { noMsg with kind := 1, frm := 1, to := 2, term := 1099511627777 },
  { noMsg with kind := 1, frm := 1, to := 2, ok := true },
  { noMsg with kind := 3, frm := 1, to := 2, entries := [⟨1, true, ⟨1, 1, [], []⟩⟩] },
  { noMsg with kind := 3, frm := 1, to := 2, entries := [⟨1, false, noTxn⟩] },
  { noMsg with kind := 3, frm := 1, to := 2, entries := (List.replicate 5 ⟨0, false, noTxn⟩) },
  { noMsg with kind := 5, frm := 1, to := 2 },
  { noMsg with kind := 6, frm := 1, to := 2, shard := 3 },
  { noMsg with kind := 8, frm := 1, to := 2, keys := [⟨#[98]⟩, ⟨#[97]⟩] },
  { noMsg with kind := 8, frm := 1, to := 2, fromKey := ⟨#[110, 105, 110, 101, 45, 98, 121, 116, 101]⟩ },
  { noMsg with kind := 9, frm := 1, to := 2, err := 7 },
  { noMsg with kind := 9, frm := 1, to := 2, got := [⟨⟨#[]⟩, 0, ⟨#[]⟩, false⟩] },
  { noMsg with kind := 4, frm := 1, to := 2, commit := 1 }]
def gM (k : Nat) : MsgT := gL.getD k noMsg
def bM (k : Nat) : MsgT := bL.getD k noMsg
/-- no row, no text is long, nothing is read or written -/
def bndB (m : MsgT) : Bool :=
  decide (m.entries.length ≤ 10) && m.entries.all (fun e => e.t.reads.isEmpty && e.t.writes.isEmpty) && m.t.reads.isEmpty && m.t.writes.isEmpty && decide (m.fromKey.size ≤ 100) && decide (m.toKey.size ≤ 100) && decide (m.keys.length ≤ 10) && m.keys.all (fun s => decide (s.size ≤ 100)) && decide (m.got.length ≤ 10) && m.got.all (fun x => decide (x.key.size ≤ 100))
theorem bare_tx {t : TxT} (h1 : t.reads = []) (h2 : t.writes = []) : TxBnd t := ⟨by rw [h1]; decide, by rw [h2]; decide, fun x hx => (by rw [h1] at hx; cases hx), fun x hx => (by rw [h2] at hx; cases hx)⟩
theorem bndB_bnd {m : MsgT} (h : bndB m = true) : MsgBnd m ∧ MsgVers m := by
  unfold bndB at h
  simp only [Bool.and_eq_true, decide_eq_true_eq, List.all_eq_true, List.isEmpty_iff] at h
  obtain ⟨⟨⟨⟨⟨⟨⟨⟨⟨h1, h2⟩, h3⟩, h4⟩, h5⟩, h6⟩, h7⟩, h8⟩, h9⟩, h10⟩ := h
  exact ⟨⟨by omega, fun e he => bare_tx (h2 e he).1 (h2 e he).2, bare_tx h3 h4, by omega, by omega, by omega, fun s hs => by have := h8 s hs; omega, by omega, fun x hx => by have := h10 x hx; omega⟩,
    ⟨fun x hx => (by rw [h3] at hx; cases hx), fun e he x hx => (by rw [(h2 e he).1] at hx; cases hx)⟩⟩
theorem gL_all : (gL.all fun m => bndB m && mayM m && tookM (putM m) && decide (takenM (putM m) = m) && decide ((putM m).length ≤ 1000)) = true := by decide +kernel
theorem bL_all : (bL.all fun m => bndB m && !mayM m) = true := by decide +kernel
theorem gL_at {k : Nat} (h : k < 5) : gL[k]? = some (gM k) ∧ MsgBnd (gM k) ∧ MsgVers (gM k) ∧ mayM (gM k) = true ∧ tookM (putM (gM k)) = true ∧ takenM (putM (gM k)) = gM k ∧ (putM (gM k)).length ≤ 1000 := by
  have hl : k < gL.length := h
  have e : gM k = gL[k] := by unfold gM; simp [hl]
  have h0 := List.all_eq_true.1 gL_all _ (List.getElem_mem hl)
  rw [← e] at h0
  simp only [Bool.and_eq_true, decide_eq_true_eq] at h0
  obtain ⟨⟨⟨⟨h1, h2⟩, h3⟩, h4⟩, h5⟩ := h0
  exact ⟨by rw [e, List.getElem?_eq_getElem hl], (bndB_bnd h1).1, (bndB_bnd h1).2, h2, h3, h4, h5⟩
theorem bL_at {k : Nat} (h : k < 19) : bL[k]? = some (bM k) ∧ MsgBnd (bM k) ∧ MsgVers (bM k) ∧ mayM (bM k) = false := by
  have hl : k < bL.length := h
  have e : bM k = bL[k] := by unfold bM; simp [hl]
  have h0 := List.all_eq_true.1 bL_all _ (List.getElem_mem hl)
  rw [← e] at h0
  simp only [Bool.and_eq_true, Bool.not_eq_true'] at h0
  exact ⟨by rw [e, List.getElem?_eq_getElem hl], (bndB_bnd h0.1).1, (bndB_bnd h0.1).2, h0.2⟩
section
variable {ops : Array Oper} {w0 : World} {n0 : Nat} {Q : (Tmp → Grow.Known) → Prop} {o : Oper} {rest : List Oper} {K : Tmp → Grow.Known}
/-- 'make([]api.Entry, 5)' -/
theorem grow_five (ho : o.op = .makeSlice 23 (.const (.int .i64 5)) (.const (.int .i64 5))) (hw : Grow.Wanted ops K n0 o true)
    (h : Grow.wpGrow Tryz.prog ops w0 n0 Q rest (Grow.upd K o.dst (EnK (bM 11).entries))) : Grow.wpGrow Tryz.prog ops w0 n0 Q (o :: rest) K := by
  refine Grow.grow_step hw (fun _ => EnK.stays _) (fun a w _ _ hl => ?_) h
  have hr : (Instr.makeSlice 23 (.int .i64 5) (.int .i64 5)).run Tryz.prog w = .ok (.slice (some ⟨w.heap.size, 0, none⟩) 5 5) (w.alloc (.cells (((bM 11).entries.map bareC).flatten.toArray) 45)) := by
    rw [show ((bM 11).entries.map bareC).flatten.toArray = madeCells #[.int .i64 0, .bool false, .int .i64 0, .int .i64 0, .slice none 0 0, .slice none 0 0] (5 * 6) by kernel_rfl]
    exact make_E w 5 (by decide)
  have h5 : a.eval (.const (.int .i64 5)) = .int .i64 5 := rfl
  unfold Grow.does execOp
  simp only [ho, h5]
  rw [Sem.run_bind, hr]
  exact ⟨(Gr.refl w).alloc _, ents_bl (es := (bM 11).entries) (Bl.new _ _ _) (by decide)⟩
end

/-- a load whose run is known -/
theorem wpList_loadV {P : Program} {ops : Array Oper} {rest : List Oper} {o : Oper} {a : Act} {w : World} {Q' : Exit → Act → World → Prop} (hgd : o.guard = none) (t : TypeId) (x : Operand) (ho : o.op = .load t x) {p v : Value} (hx : a.eval x = p)
    (hr : (Instr.loadAt t p).run P w = .ok v w) (h : wpList P ops Q' rest (a.put o.dst v) w) : wpList P ops Q' (o :: rest) a w := by
  refine wpList_plain hgd fun K' hK => ?_
  unfold Oper.wp execOp
  simp only [ho, hx, Sem.run_bind, hr, Result.andThen_ok, Sem.run_pure]
  exact hK _ _ h

set_option maxHeartbeats 16000000 in
theorem walk_MsgForms (w : World) : Calls Tryz.prog 5 #[] w fun e w' => e = .returned (.bool true) ∧ Gr w w' := by
  go_enter Tryz.func5, Tryz.ntmps5
  go_wp2_with fail
  refine (begun_ok _).mono ?_
  rintro e w1 ⟨rfl, hg1⟩
  go_upto_region 4 with (fail)
  obtain ⟨W3, hW3⟩ : ∃ W3, w1.alloc (.cells #[.int .i64 1, .int .i64 1, .slice none 0 0, .slice none 0 0] 27) = W3 := ⟨_, rfl⟩
  have hb3 : Bl W3 w1.heap.size 27 #[.int .i64 1, .int .i64 1, .slice none 0 0, .slice none 0 0] := by rw [← hW3]; exact Bl.new _ _ _
  have hg3 : Gr w W3 := by rw [← hW3]; exact hg1.alloc _
  rw [hW3]
  have HG3 := hide hg3
  have HB3 := hide hb3
  clear hW3 hg1 hg3
  refine Grow.wp_region_text 107 [11, 12, 13, 14, 15, 16, 17, 18, 19, 20, 21, 22, 23, 2] rfl (by kernel_rfl) (by kernel_rfl) (Grow.Ahead.more (Grow.Ahead.none_ _ _) 1 (Grow.Bx.stays w1.heap.size 27 #[.int .i64 1, .int .i64 1, .slice none 0 0, .slice none 0 0]) (by exact ⟨rfl, hb3⟩)) ?_
  refine grow_buildIs (t := 31) [0, 1, 2] [.const (.int .i64 1), .const (.int .i64 1), .const (.int .i64 5)] [.int .i64 1, .int .i64 1, .int .i64 5] (cellsM (gM 0) ⟨.slice none 0 0, (.slice none 0 0, .slice none 0 0), .slice none 0 0, .slice none 0 0⟩).toArray (MgK (gM 0)) rfl rfl rfl (.inl ⟨rfl, rfl⟩) ⟨fun _ => rfl, fun _ => rfl, fun _ => rfl, trivial⟩ (MgK.stays _) (by kernel_rfl) (fun w => ⟨_, rfl, EntsX.nil _ _, RowsX.none_ _ _, RowX.nil _ _ _, RowX.nil _ _ _⟩) ?_
  refine grow_buildIs (t := 31) [0, 1, 2, 8, 4] [.const (.int .i64 2), .const (.int .i64 2), .const (.int .i64 1), .const (.bool true), .const (.int .i64 1099511627776)] [.int .i64 2, .int .i64 2, .int .i64 1, .bool true, .int .i64 1099511627776] (cellsM (gM 1) ⟨.slice none 0 0, (.slice none 0 0, .slice none 0 0), .slice none 0 0, .slice none 0 0⟩).toArray (MgK (gM 1)) rfl rfl rfl (.inl ⟨rfl, rfl⟩) ⟨fun _ => rfl, fun _ => rfl, fun _ => rfl, fun _ => rfl, fun _ => rfl, trivial⟩ (MgK.stays _) (by kernel_rfl) (fun w => ⟨_, rfl, EntsX.nil _ _, RowsX.none_ _ _, RowX.nil _ _ _, RowX.nil _ _ _⟩) ?_
  refine grow_buildIs (t := 45) [0, 1] [.const (.int .i64 1), .const (.bool true)] [.int .i64 1, .bool true] #[.int .i64 1, .bool true, .int .i64 0, .int .i64 0, .slice none 0 0, .slice none 0 0] (Grow.Is (.agg #[.int .i64 1, .bool true, .int .i64 0, .int .i64 0, .slice none 0 0, .slice none 0 0])) rfl rfl rfl (.inl ⟨rfl, rfl⟩) ⟨fun _ => rfl, fun _ => rfl, trivial⟩ (Grow.Is.stays _) (by kernel_rfl) (fun w => rfl) ?_
  refine Grow.grow_row rfl (.inl ⟨rfl, rfl⟩) rfl Tryz.underlying27 rfl (by kernel_rfl) ?_
  refine grow_buildIs (t := 45) [0, 2] [.const (.int .i64 1), .tmp 14] [.int .i64 1, .agg #[.int .i64 1, .int .i64 1, .slice none 0 0, .slice none 0 0]] #[.int .i64 1, .bool false, .int .i64 1, .int .i64 1, .slice none 0 0, .slice none 0 0] (Grow.Is (.agg #[.int .i64 1, .bool false, .int .i64 1, .int .i64 1, .slice none 0 0, .slice none 0 0])) rfl rfl rfl (.inl ⟨rfl, rfl⟩) ⟨fun _ => rfl, rfl, trivial⟩ (Grow.Is.stays _) (by kernel_rfl) (fun w => rfl) ?_
  refine grow_litIs (t := 23) (e := 45) [.tmp 13, .tmp 15] [.agg #[.int .i64 1, .bool true, .int .i64 0, .int .i64 0, .slice none 0 0, .slice none 0 0], .agg #[.int .i64 1, .bool false, .int .i64 1, .int .i64 1, .slice none 0 0, .slice none 0 0]] #[.int .i64 1, .bool true, .int .i64 0, .int .i64 0, .slice none 0 0, .slice none 0 0, .int .i64 1, .bool false, .int .i64 1, .int .i64 1, .slice none 0 0, .slice none 0 0] (EnK (gM 2).entries) rfl rfl (.inl ⟨rfl, rfl⟩) ⟨rfl, rfl, trivial⟩ (EnK.stays _) (fun w => by kernel_rfl) (fun w g hb => ents_bl (es := (gM 2).entries) hb (by decide)) ?_
  refine grow_buildSl (t := 31) [0, 1, 2, 3] [.const (.int .i64 3), .const (.int .i64 1), .const (.int .i64 2), .const (.int .i64 2)] [.int .i64 3, .int .i64 1, .int .i64 2, .int .i64 2] 9 (.tmp 16) (fun A n c => (cellsM (gM 2) ⟨.slice A n c, (.slice none 0 0, .slice none 0 0), .slice none 0 0, .slice none 0 0⟩).toArray) (EnK (gM 2).entries) (MgK (gM 2)) rfl rfl rfl (.inl ⟨rfl, rfl⟩) ⟨fun _ => rfl, fun _ => rfl, fun _ => rfl, fun _ => rfl, trivial⟩ rfl (MgK.stays _) (fun v w h => by obtain ⟨⟨A, c, e⟩, _⟩ := h; exact ⟨A, _, c, e⟩) (fun A n c => by kernel_rfl) (fun A n c w h => ⟨_, rfl, h.2, RowsX.none_ _ _, RowX.nil _ _ _, RowX.nil _ _ _⟩) ?_
  refine Grow.grow_row rfl (.inl ⟨rfl, rfl⟩) rfl Tryz.underlying27 rfl (by kernel_rfl) ?_
  refine grow_buildIs (t := 31) [0, 1, 2, 10] [.const (.int .i64 5), .const (.int .i64 1), .const (.int .i64 2), .tmp 18] [.int .i64 5, .int .i64 1, .int .i64 2, .agg #[.int .i64 1, .int .i64 1, .slice none 0 0, .slice none 0 0]] (cellsM (gM 3) ⟨.slice none 0 0, (.slice none 0 0, .slice none 0 0), .slice none 0 0, .slice none 0 0⟩).toArray (MgK (gM 3)) rfl rfl rfl (.inl ⟨rfl, rfl⟩) ⟨fun _ => rfl, fun _ => rfl, fun _ => rfl, rfl, trivial⟩ (MgK.stays _) (by kernel_rfl) (fun w => ⟨_, rfl, EntsX.nil _ _, ⟨RowX.nil _ _ _, RowX.nil _ _ _⟩, RowX.nil _ _ _, RowX.nil _ _ _⟩) ?_
  refine grow_buildIs (t := 47) [0] [.const (.string ⟨#[97]⟩)] [.string ⟨#[97]⟩] #[.string ⟨#[97]⟩, .int .i64 0, .string ⟨#[]⟩, .bool false] (Grow.Is (.agg #[.string ⟨#[97]⟩, .int .i64 0, .string ⟨#[]⟩, .bool false])) rfl rfl rfl (.inl ⟨rfl, rfl⟩) ⟨fun _ => rfl, trivial⟩ (Grow.Is.stays _) (by kernel_rfl) (fun w => rfl) ?_
  refine grow_litIs (t := 24) (e := 47) [.tmp 20] [.agg #[.string ⟨#[97]⟩, .int .i64 0, .string ⟨#[]⟩, .bool false]] #[.string ⟨#[97]⟩, .int .i64 0, .string ⟨#[]⟩, .bool false] (GsK (gM 4).got) rfl rfl (.inl ⟨rfl, rfl⟩) ⟨rfl, trivial⟩ (GsK.stays _) (fun w => by kernel_rfl) (fun w g hb => ⟨⟨_, _, rfl⟩, rows_bl (k := 4) (rs := ((gM 4).got).map rdC) hb (fun r hr => by obtain ⟨x, _, rfl⟩ := List.mem_map.1 hr; rfl)⟩) ?_
  refine grow_buildSl (t := 31) [0, 1, 2, 14, 20] [.const (.int .i64 9), .const (.int .i64 1), .const (.int .i64 2), .const (.int .i64 2), .const (.int .i64 6)] [.int .i64 9, .int .i64 1, .int .i64 2, .int .i64 2, .int .i64 6] 19 (.tmp 21) (fun A n c => (cellsM (gM 4) ⟨.slice none 0 0, (.slice none 0 0, .slice none 0 0), .slice none 0 0, .slice A n c⟩).toArray) (GsK (gM 4).got) (MgK (gM 4)) rfl rfl rfl (.inl ⟨rfl, rfl⟩) ⟨fun _ => rfl, fun _ => rfl, fun _ => rfl, fun _ => rfl, fun _ => rfl, trivial⟩ rfl (MgK.stays _) (fun v w h => by obtain ⟨⟨A, c, e⟩, _⟩ := h; exact ⟨A, _, c, e⟩) (fun A n c => by kernel_rfl) (fun A n c w h => ⟨_, rfl, EntsX.nil _ _, RowsX.none_ _ _, RowX.nil _ _ _, ⟨h.2, fun _ _ _ _ _ => trivial⟩⟩) ?_
  refine grow_letters [.tmp 11, .tmp 12, .tmp 17, .tmp 19, .tmp 22] (ls := gL) rfl rfl rfl (by decide) (by decide) (.inl ⟨rfl, rfl⟩) ⟨rfl, rfl, rfl, rfl, rfl, trivial⟩ ?_
  refine Grow.grow_move (.tmp 23) (.inr rfl) (.inl ⟨rfl, rfl⟩) rfl (Mgs.stays _) ?_
  intro a1 w4 hg hsz hdf hun hk
  have h2 : Mgs gL (a1.tmps.getD 2 undef) w4 := hk 2
  obtain ⟨X, hX, hlay⟩ := Grow.lay_kept_by _ a1 107 _ hsz hdf hun
  rw [hX] at h2
  clear hX hun hdf hsz hk
  obtain ⟨gg, e2, hgl⟩ := h2
  have HGL := hide (show Mgs gL (.slice (some ⟨gg, 0, none⟩) 5 5) w4 from ⟨gg, rfl, hgl⟩)
  clear hgl
  replace e2 : X 2 = .slice (some ⟨gg, 0, none⟩) 5 5 := e2
  subst hlay
  simp only [List.range, List.range.loop, List.map_cons, List.map_nil, List.contains_cons, List.contains_nil, Nat.reduceBEq, Bool.or_false, Bool.or_true, cond_false, cond_true, Array.getD_eq_getD_getElem?, List.getElem?_toArray, List.getElem?_cons_zero, List.getElem?_cons_succ, Option.getD_some, e2]
  clear e2
  have HG4 := hide (HG3.out.trans hg)
  have HB4 := hide (HB3.out.gr hg)
  clear hg hb3 HG3 HB3
  go_wp2_with fail
  refine Grow.wp_region_kept 107 [24, 25, 26, 27, 28, 29, 30, 31, 32, 33, 34, 35, 36, 37, 38, 39, 40, 41, 42, 43, 44, 45, 46, 47, 48, 49, 50, 51, 52, 3] rfl (by kernel_rfl) (by kernel_rfl) (by kernel_rfl) (Grow.Ahead.more (Grow.Ahead.none_ _ _) 1 (Grow.Bx.stays w1.heap.size 27 #[.int .i64 1, .int .i64 1, .slice none 0 0, .slice none 0 0]) (by exact ⟨rfl, HB4.out.drewN 1⟩)) ?_
  refine grow_buildIs (t := 31) [0, 1, 2] [.const (.int .i64 0), .const (.int .i64 1), .const (.int .i64 2)] [.int .i64 0, .int .i64 1, .int .i64 2] (cellsM (bM 0) ⟨.slice none 0 0, (.slice none 0 0, .slice none 0 0), .slice none 0 0, .slice none 0 0⟩).toArray (MgK (bM 0)) rfl rfl rfl (.inl ⟨rfl, rfl⟩) ⟨fun _ => rfl, fun _ => rfl, fun _ => rfl, trivial⟩ (MgK.stays _) (by kernel_rfl) (fun w => ⟨_, rfl, EntsX.nil _ _, RowsX.none_ _ _, RowX.nil _ _ _, RowX.nil _ _ _⟩) ?_
  refine grow_buildIs (t := 31) [0, 1, 2] [.const (.int .i64 10), .const (.int .i64 1), .const (.int .i64 2)] [.int .i64 10, .int .i64 1, .int .i64 2] (cellsM (bM 1) ⟨.slice none 0 0, (.slice none 0 0, .slice none 0 0), .slice none 0 0, .slice none 0 0⟩).toArray (MgK (bM 1)) rfl rfl rfl (.inl ⟨rfl, rfl⟩) ⟨fun _ => rfl, fun _ => rfl, fun _ => rfl, trivial⟩ (MgK.stays _) (by kernel_rfl) (fun w => ⟨_, rfl, EntsX.nil _ _, RowsX.none_ _ _, RowX.nil _ _ _, RowX.nil _ _ _⟩) ?_
  refine grow_buildIs (t := 31) [0, 1, 2] [.const (.int .i64 1), .const (.int .i64 0), .const (.int .i64 2)] [.int .i64 1, .int .i64 0, .int .i64 2] (cellsM (bM 2) ⟨.slice none 0 0, (.slice none 0 0, .slice none 0 0), .slice none 0 0, .slice none 0 0⟩).toArray (MgK (bM 2)) rfl rfl rfl (.inl ⟨rfl, rfl⟩) ⟨fun _ => rfl, fun _ => rfl, fun _ => rfl, trivial⟩ (MgK.stays _) (by kernel_rfl) (fun w => ⟨_, rfl, EntsX.nil _ _, RowsX.none_ _ _, RowX.nil _ _ _, RowX.nil _ _ _⟩) ?_
  refine grow_buildIs (t := 31) [0, 1, 2] [.const (.int .i64 1), .const (.int .i64 6), .const (.int .i64 2)] [.int .i64 1, .int .i64 6, .int .i64 2] (cellsM (bM 3) ⟨.slice none 0 0, (.slice none 0 0, .slice none 0 0), .slice none 0 0, .slice none 0 0⟩).toArray (MgK (bM 3)) rfl rfl rfl (.inl ⟨rfl, rfl⟩) ⟨fun _ => rfl, fun _ => rfl, fun _ => rfl, trivial⟩ (MgK.stays _) (by kernel_rfl) (fun w => ⟨_, rfl, EntsX.nil _ _, RowsX.none_ _ _, RowX.nil _ _ _, RowX.nil _ _ _⟩) ?_
  refine grow_buildIs (t := 31) [0, 1, 2] [.const (.int .i64 1), .const (.int .i64 2), .const (.int .i64 2)] [.int .i64 1, .int .i64 2, .int .i64 2] (cellsM (bM 4) ⟨.slice none 0 0, (.slice none 0 0, .slice none 0 0), .slice none 0 0, .slice none 0 0⟩).toArray (MgK (bM 4)) rfl rfl rfl (.inl ⟨rfl, rfl⟩) ⟨fun _ => rfl, fun _ => rfl, fun _ => rfl, trivial⟩ (MgK.stays _) (by kernel_rfl) (fun w => ⟨_, rfl, EntsX.nil _ _, RowsX.none_ _ _, RowX.nil _ _ _, RowX.nil _ _ _⟩) ?_
  refine grow_buildIs (t := 31) [0, 1, 2, 3] [.const (.int .i64 1), .const (.int .i64 1), .const (.int .i64 2), .const (.int .i64 3)] [.int .i64 1, .int .i64 1, .int .i64 2, .int .i64 3] (cellsM (bM 5) ⟨.slice none 0 0, (.slice none 0 0, .slice none 0 0), .slice none 0 0, .slice none 0 0⟩).toArray (MgK (bM 5)) rfl rfl rfl (.inl ⟨rfl, rfl⟩) ⟨fun _ => rfl, fun _ => rfl, fun _ => rfl, fun _ => rfl, trivial⟩ (MgK.stays _) (by kernel_rfl) (fun w => ⟨_, rfl, EntsX.nil _ _, RowsX.none_ _ _, RowX.nil _ _ _, RowX.nil _ _ _⟩) ?_
  refine grow_buildIs (t := 31) [0, 1, 2, 4] [.const (.int .i64 1), .const (.int .i64 1), .const (.int .i64 2), .const (.int .i64 (-1))] [.int .i64 1, .int .i64 1, .int .i64 2, .int .i64 (-1)] (cellsM (bM 6) ⟨.slice none 0 0, (.slice none 0 0, .slice none 0 0), .slice none 0 0, .slice none 0 0⟩).toArray (MgK (bM 6)) rfl rfl rfl (.inl ⟨rfl, rfl⟩) ⟨fun _ => rfl, fun _ => rfl, fun _ => rfl, fun _ => rfl, trivial⟩ (MgK.stays _) (by kernel_rfl) (fun w => ⟨_, rfl, EntsX.nil _ _, RowsX.none_ _ _, RowX.nil _ _ _, RowX.nil _ _ _⟩) ?_
  refine grow_buildIs (t := 31) [0, 1, 2, 4] [.const (.int .i64 1), .const (.int .i64 1), .const (.int .i64 2), .const (.int .i64 1099511627777)] [.int .i64 1, .int .i64 1, .int .i64 2, .int .i64 1099511627777] (cellsM (bM 7) ⟨.slice none 0 0, (.slice none 0 0, .slice none 0 0), .slice none 0 0, .slice none 0 0⟩).toArray (MgK (bM 7)) rfl rfl rfl (.inl ⟨rfl, rfl⟩) ⟨fun _ => rfl, fun _ => rfl, fun _ => rfl, fun _ => rfl, trivial⟩ (MgK.stays _) (by kernel_rfl) (fun w => ⟨_, rfl, EntsX.nil _ _, RowsX.none_ _ _, RowX.nil _ _ _, RowX.nil _ _ _⟩) ?_
  refine grow_buildIs (t := 31) [0, 1, 2, 8] [.const (.int .i64 1), .const (.int .i64 1), .const (.int .i64 2), .const (.bool true)] [.int .i64 1, .int .i64 1, .int .i64 2, .bool true] (cellsM (bM 8) ⟨.slice none 0 0, (.slice none 0 0, .slice none 0 0), .slice none 0 0, .slice none 0 0⟩).toArray (MgK (bM 8)) rfl rfl rfl (.inl ⟨rfl, rfl⟩) ⟨fun _ => rfl, fun _ => rfl, fun _ => rfl, fun _ => rfl, trivial⟩ (MgK.stays _) (by kernel_rfl) (fun w => ⟨_, rfl, EntsX.nil _ _, RowsX.none_ _ _, RowX.nil _ _ _, RowX.nil _ _ _⟩) ?_
  refine Grow.grow_row rfl (.inl ⟨rfl, rfl⟩) rfl Tryz.underlying27 rfl (by kernel_rfl) ?_
  refine grow_buildIs (t := 45) [0, 1, 2] [.const (.int .i64 1), .const (.bool true), .tmp 33] [.int .i64 1, .bool true, .agg #[.int .i64 1, .int .i64 1, .slice none 0 0, .slice none 0 0]] #[.int .i64 1, .bool true, .int .i64 1, .int .i64 1, .slice none 0 0, .slice none 0 0] (Grow.Is (.agg #[.int .i64 1, .bool true, .int .i64 1, .int .i64 1, .slice none 0 0, .slice none 0 0])) rfl rfl rfl (.inl ⟨rfl, rfl⟩) ⟨fun _ => rfl, fun _ => rfl, rfl, trivial⟩ (Grow.Is.stays _) (by kernel_rfl) (fun w => rfl) ?_
  refine grow_litIs (t := 23) (e := 45) [.tmp 34] [.agg #[.int .i64 1, .bool true, .int .i64 1, .int .i64 1, .slice none 0 0, .slice none 0 0]] #[.int .i64 1, .bool true, .int .i64 1, .int .i64 1, .slice none 0 0, .slice none 0 0] (EnK (bM 9).entries) rfl rfl (.inl ⟨rfl, rfl⟩) ⟨rfl, trivial⟩ (EnK.stays _) (fun w => by kernel_rfl) (fun w g hb => ents_bl (es := (bM 9).entries) hb (by decide)) ?_
  refine grow_buildSl (t := 31) [0, 1, 2] [.const (.int .i64 3), .const (.int .i64 1), .const (.int .i64 2)] [.int .i64 3, .int .i64 1, .int .i64 2] 9 (.tmp 35) (fun A n c => (cellsM (bM 9) ⟨.slice A n c, (.slice none 0 0, .slice none 0 0), .slice none 0 0, .slice none 0 0⟩).toArray) (EnK (bM 9).entries) (MgK (bM 9)) rfl rfl rfl (.inl ⟨rfl, rfl⟩) ⟨fun _ => rfl, fun _ => rfl, fun _ => rfl, trivial⟩ rfl (MgK.stays _) (fun v w h => by obtain ⟨⟨A, c, e⟩, _⟩ := h; exact ⟨A, _, c, e⟩) (fun A n c => by kernel_rfl) (fun A n c w h => ⟨_, rfl, h.2, RowsX.none_ _ _, RowX.nil _ _ _, RowX.nil _ _ _⟩) ?_
  refine grow_buildIs (t := 45) [0] [.const (.int .i64 1)] [.int .i64 1] #[.int .i64 1, .bool false, .int .i64 0, .int .i64 0, .slice none 0 0, .slice none 0 0] (Grow.Is (.agg #[.int .i64 1, .bool false, .int .i64 0, .int .i64 0, .slice none 0 0, .slice none 0 0])) rfl rfl rfl (.inl ⟨rfl, rfl⟩) ⟨fun _ => rfl, trivial⟩ (Grow.Is.stays _) (by kernel_rfl) (fun w => rfl) ?_
  refine grow_litIs (t := 23) (e := 45) [.tmp 37] [.agg #[.int .i64 1, .bool false, .int .i64 0, .int .i64 0, .slice none 0 0, .slice none 0 0]] #[.int .i64 1, .bool false, .int .i64 0, .int .i64 0, .slice none 0 0, .slice none 0 0] (EnK (bM 10).entries) rfl rfl (.inl ⟨rfl, rfl⟩) ⟨rfl, trivial⟩ (EnK.stays _) (fun w => by kernel_rfl) (fun w g hb => ents_bl (es := (bM 10).entries) hb (by decide)) ?_
  refine grow_buildSl (t := 31) [0, 1, 2] [.const (.int .i64 3), .const (.int .i64 1), .const (.int .i64 2)] [.int .i64 3, .int .i64 1, .int .i64 2] 9 (.tmp 38) (fun A n c => (cellsM (bM 10) ⟨.slice A n c, (.slice none 0 0, .slice none 0 0), .slice none 0 0, .slice none 0 0⟩).toArray) (EnK (bM 10).entries) (MgK (bM 10)) rfl rfl rfl (.inl ⟨rfl, rfl⟩) ⟨fun _ => rfl, fun _ => rfl, fun _ => rfl, trivial⟩ rfl (MgK.stays _) (fun v w h => by obtain ⟨⟨A, c, e⟩, _⟩ := h; exact ⟨A, _, c, e⟩) (fun A n c => by kernel_rfl) (fun A n c w h => ⟨_, rfl, h.2, RowsX.none_ _ _, RowX.nil _ _ _, RowX.nil _ _ _⟩) ?_
  refine grow_five rfl (.inl ⟨rfl, rfl⟩) ?_
  refine grow_buildSl (t := 31) [0, 1, 2] [.const (.int .i64 3), .const (.int .i64 1), .const (.int .i64 2)] [.int .i64 3, .int .i64 1, .int .i64 2] 9 (.tmp 40) (fun A n c => (cellsM (bM 11) ⟨.slice A n c, (.slice none 0 0, .slice none 0 0), .slice none 0 0, .slice none 0 0⟩).toArray) (EnK (bM 11).entries) (MgK (bM 11)) rfl rfl rfl (.inl ⟨rfl, rfl⟩) ⟨fun _ => rfl, fun _ => rfl, fun _ => rfl, trivial⟩ rfl (MgK.stays _) (fun v w h => by obtain ⟨⟨A, c, e⟩, _⟩ := h; exact ⟨A, _, c, e⟩) (fun A n c => by kernel_rfl) (fun A n c w h => ⟨_, rfl, h.2, RowsX.none_ _ _, RowX.nil _ _ _, RowX.nil _ _ _⟩) ?_
  refine grow_buildIs (t := 31) [0, 1, 2] [.const (.int .i64 5), .const (.int .i64 1), .const (.int .i64 2)] [.int .i64 5, .int .i64 1, .int .i64 2] (cellsM (bM 12) ⟨.slice none 0 0, (.slice none 0 0, .slice none 0 0), .slice none 0 0, .slice none 0 0⟩).toArray (MgK (bM 12)) rfl rfl rfl (.inl ⟨rfl, rfl⟩) ⟨fun _ => rfl, fun _ => rfl, fun _ => rfl, trivial⟩ (MgK.stays _) (by kernel_rfl) (fun w => ⟨_, rfl, EntsX.nil _ _, RowsX.none_ _ _, RowX.nil _ _ _, RowX.nil _ _ _⟩) ?_
  refine grow_buildIs (t := 31) [0, 1, 2, 14] [.const (.int .i64 6), .const (.int .i64 1), .const (.int .i64 2), .const (.int .i64 3)] [.int .i64 6, .int .i64 1, .int .i64 2, .int .i64 3] (cellsM (bM 13) ⟨.slice none 0 0, (.slice none 0 0, .slice none 0 0), .slice none 0 0, .slice none 0 0⟩).toArray (MgK (bM 13)) rfl rfl rfl (.inl ⟨rfl, rfl⟩) ⟨fun _ => rfl, fun _ => rfl, fun _ => rfl, fun _ => rfl, trivial⟩ (MgK.stays _) (by kernel_rfl) (fun w => ⟨_, rfl, EntsX.nil _ _, RowsX.none_ _ _, RowX.nil _ _ _, RowX.nil _ _ _⟩) ?_
  refine grow_litIs (t := 28) (e := 9) [.const (.string ⟨#[98]⟩), .const (.string ⟨#[97]⟩)] [.string ⟨#[98]⟩, .string ⟨#[97]⟩] #[.string ⟨#[98]⟩, .string ⟨#[97]⟩] (KsK (bM 14).keys) rfl rfl (.inl ⟨rfl, rfl⟩) ⟨fun _ => rfl, fun _ => rfl, trivial⟩ (KsK.stays _) (fun w => by kernel_rfl) (fun w g hb => ⟨⟨_, _, rfl⟩, rows_bl (k := 1) (rs := ((bM 14).keys).map strC) hb (fun r hr => by obtain ⟨x, _, rfl⟩ := List.mem_map.1 hr; rfl)⟩) ?_
  refine grow_buildSl (t := 31) [0, 1, 2] [.const (.int .i64 8), .const (.int .i64 1), .const (.int .i64 2)] [.int .i64 8, .int .i64 1, .int .i64 2] 18 (.tmp 44) (fun A n c => (cellsM (bM 14) ⟨.slice none 0 0, (.slice none 0 0, .slice none 0 0), .slice A n c, .slice none 0 0⟩).toArray) (KsK (bM 14).keys) (MgK (bM 14)) rfl rfl rfl (.inl ⟨rfl, rfl⟩) ⟨fun _ => rfl, fun _ => rfl, fun _ => rfl, trivial⟩ rfl (MgK.stays _) (fun v w h => by obtain ⟨⟨A, c, e⟩, _⟩ := h; exact ⟨A, _, c, e⟩) (fun A n c => by kernel_rfl) (fun A n c w h => ⟨_, rfl, EntsX.nil _ _, RowsX.none_ _ _, ⟨h.2, fun _ _ _ _ _ => trivial⟩, RowX.nil _ _ _⟩) ?_
  refine grow_buildIs (t := 31) [0, 1, 2, 16] [.const (.int .i64 8), .const (.int .i64 1), .const (.int .i64 2), .const (.string ⟨#[110, 105, 110, 101, 45, 98, 121, 116, 101]⟩)] [.int .i64 8, .int .i64 1, .int .i64 2, .string ⟨#[110, 105, 110, 101, 45, 98, 121, 116, 101]⟩] (cellsM (bM 15) ⟨.slice none 0 0, (.slice none 0 0, .slice none 0 0), .slice none 0 0, .slice none 0 0⟩).toArray (MgK (bM 15)) rfl rfl rfl (.inl ⟨rfl, rfl⟩) ⟨fun _ => rfl, fun _ => rfl, fun _ => rfl, fun _ => rfl, trivial⟩ (MgK.stays _) (by kernel_rfl) (fun w => ⟨_, rfl, EntsX.nil _ _, RowsX.none_ _ _, RowX.nil _ _ _, RowX.nil _ _ _⟩) ?_
  refine grow_buildIs (t := 31) [0, 1, 2, 20] [.const (.int .i64 9), .const (.int .i64 1), .const (.int .i64 2), .const (.int .i64 7)] [.int .i64 9, .int .i64 1, .int .i64 2, .int .i64 7] (cellsM (bM 16) ⟨.slice none 0 0, (.slice none 0 0, .slice none 0 0), .slice none 0 0, .slice none 0 0⟩).toArray (MgK (bM 16)) rfl rfl rfl (.inl ⟨rfl, rfl⟩) ⟨fun _ => rfl, fun _ => rfl, fun _ => rfl, fun _ => rfl, trivial⟩ (MgK.stays _) (by kernel_rfl) (fun w => ⟨_, rfl, EntsX.nil _ _, RowsX.none_ _ _, RowX.nil _ _ _, RowX.nil _ _ _⟩) ?_
  refine grow_buildIs (t := 47) [] [] [] #[.string ⟨#[]⟩, .int .i64 0, .string ⟨#[]⟩, .bool false] (Grow.Is (.agg #[.string ⟨#[]⟩, .int .i64 0, .string ⟨#[]⟩, .bool false])) rfl rfl rfl (.inl ⟨rfl, rfl⟩) trivial (Grow.Is.stays _) (by kernel_rfl) (fun w => rfl) ?_
  refine grow_litIs (t := 24) (e := 47) [.tmp 48] [.agg #[.string ⟨#[]⟩, .int .i64 0, .string ⟨#[]⟩, .bool false]] #[.string ⟨#[]⟩, .int .i64 0, .string ⟨#[]⟩, .bool false] (GsK (bM 17).got) rfl rfl (.inl ⟨rfl, rfl⟩) ⟨rfl, trivial⟩ (GsK.stays _) (fun w => by kernel_rfl) (fun w g hb => ⟨⟨_, _, rfl⟩, rows_bl (k := 4) (rs := ((bM 17).got).map rdC) hb (fun r hr => by obtain ⟨x, _, rfl⟩ := List.mem_map.1 hr; rfl)⟩) ?_
  refine grow_buildSl (t := 31) [0, 1, 2] [.const (.int .i64 9), .const (.int .i64 1), .const (.int .i64 2)] [.int .i64 9, .int .i64 1, .int .i64 2] 19 (.tmp 49) (fun A n c => (cellsM (bM 17) ⟨.slice none 0 0, (.slice none 0 0, .slice none 0 0), .slice none 0 0, .slice A n c⟩).toArray) (GsK (bM 17).got) (MgK (bM 17)) rfl rfl rfl (.inl ⟨rfl, rfl⟩) ⟨fun _ => rfl, fun _ => rfl, fun _ => rfl, trivial⟩ rfl (MgK.stays _) (fun v w h => by obtain ⟨⟨A, c, e⟩, _⟩ := h; exact ⟨A, _, c, e⟩) (fun A n c => by kernel_rfl) (fun A n c w h => ⟨_, rfl, EntsX.nil _ _, RowsX.none_ _ _, RowX.nil _ _ _, ⟨h.2, fun _ _ _ _ _ => trivial⟩⟩) ?_
  refine grow_buildIs (t := 31) [0, 1, 2, 7] [.const (.int .i64 4), .const (.int .i64 1), .const (.int .i64 2), .const (.int .i64 1)] [.int .i64 4, .int .i64 1, .int .i64 2, .int .i64 1] (cellsM (bM 18) ⟨.slice none 0 0, (.slice none 0 0, .slice none 0 0), .slice none 0 0, .slice none 0 0⟩).toArray (MgK (bM 18)) rfl rfl rfl (.inl ⟨rfl, rfl⟩) ⟨fun _ => rfl, fun _ => rfl, fun _ => rfl, fun _ => rfl, trivial⟩ (MgK.stays _) (by kernel_rfl) (fun w => ⟨_, rfl, EntsX.nil _ _, RowsX.none_ _ _, RowX.nil _ _ _, RowX.nil _ _ _⟩) ?_
  refine grow_letters [.tmp 24, .tmp 25, .tmp 26, .tmp 27, .tmp 28, .tmp 29, .tmp 30, .tmp 31, .tmp 32, .tmp 36, .tmp 39, .tmp 41, .tmp 42, .tmp 43, .tmp 45, .tmp 46, .tmp 47, .tmp 50, .tmp 51] (ls := bL) rfl rfl rfl (by decide) (by decide) (.inl ⟨rfl, rfl⟩) ⟨rfl, rfl, rfl, rfl, rfl, rfl, rfl, rfl, rfl, rfl, rfl, rfl, rfl, rfl, rfl, rfl, rfl, rfl, rfl, trivial⟩ ?_
  refine Grow.grow_move (.tmp 52) (.inr rfl) (.inl ⟨rfl, rfl⟩) rfl (Mgs.stays _) ?_
  intro a5 w5 hg hsz hdf hun hk
  have h3 : Mgs bL (a5.tmps.getD 3 undef) w5 := hk 3
  obtain ⟨Y, hY, hlay⟩ := Grow.lay_kept_by _ a5 107 _ hsz hdf hun
  rw [hY] at h3
  clear hY hun hdf hsz hk
  obtain ⟨gb, e3, hbl⟩ := h3
  have HBL := hide (show Mgs bL (.slice (some ⟨gb, 0, none⟩) 19 19) w5 from ⟨gb, rfl, hbl⟩)
  clear hbl
  replace e3 : Y 3 = .slice (some ⟨gb, 0, none⟩) 19 19 := e3
  subst hlay
  simp only [List.range, List.range.loop, List.map_cons, List.map_nil, List.contains_cons, List.contains_nil, Nat.reduceBEq, Bool.or_false, Bool.or_true, cond_false, cond_true, Array.getD_eq_getD_getElem?, List.getElem?_toArray, List.getElem?_cons_zero, List.getElem?_cons_succ, Option.getD_some, e3]
  clear e3
  have hgd := (Gr.refl w4).drew.trans hg
  have HG5 := hide (HG4.out.trans hgd)
  replace HGL := hide (Mgs.stays gL _ _ _ HGL.out hgd)
  clear hg hgd HG4 HB4
  go_wp2_with fail
  go_loopw [4] (fun i wr => ∃ k : Nat, i = .int .i64 k ∧ k ≤ 5 ∧ Hid (Gr w5 wr)) (fun i _ => 5 - (intOf i).toNat)
  case atStart => exact ⟨0, rfl, by omega, Gr.refl _⟩
  case round =>
    obtain ⟨k, rfl, hk5, HR⟩ := hrel
    by_cases hlt : k < 5
    · have hlt' : (k : Int) < 5 := by omega
      obtain ⟨hgk, hbk, hvk, hmk, htk, hnk, hpk⟩ := gL_at hlt
      have HGR := hide (Mgs.stays gL _ _ _ HGL.out HR.out)
      have HGK := hide hgk
      have HBK := hide hbk
      have hcells : ∃ r, (∀ i u, (cellsM (gM k) r)[i]? = some u → wr.cell? ⟨gg, k * 24 + i, none⟩ = some u) ∧ MsgR Any wr (gM k) r := by
        obtain ⟨g, e, h⟩ := HGR.out
        simp only [Value.slice.injEq, Option.some.injEq, Addr.mk.injEq, and_true] at e
        obtain ⟨rfl, _⟩ := e
        exact h k _ hgk
      obtain ⟨r, hcell, hR⟩ := hcells
      obtain ⟨v0, hv0⟩ : ∃ v0, Value.agg (cellsM (gM k) r).toArray = v0 := ⟨_, rfl⟩
      have hat : MsgAt wr v0 (gM k) := ⟨r, hv0.symm, hR⟩
      have HLD := hide (fun W (hg : Gr wr W) => hv0 ▸ run_load_msg W (fun i u hi => gr_cell hg _ _ (hcell i u hi)))
      have CP := hide (MgPut_ok v0 (gM k) wr hat hbk hvk)
      have CT := hide (fun W A c (h : By W A c (putM (gM k))) => MgTake_ok A c (putM (gM k)) W h (Nat.le_trans hpk (by decide)))
      rw [htk, hnk] at CT
      have CM := hide (fun v W (h : MsgAt W v (gM k)) => hmk ▸ MgMay_ok v (gM k) W h hbk hvk)
      have CS := hide (fun v u W (h : MsgAt W v (gM k)) (h2 : MsgAt W u (gM k)) => (decide_eq_true (rfl : gM k = gM k)) ▸ MgSame_ok v u (gM k) (gM k) W h h2 hbk hbk)
      generalize putM (gM k) = B at CP CT hpk
      clear hcell hR hat hv0 hbk hvk hmk htk hnk hpk
      go_wp2_with (refine wpList_loadV rfl 31 (.tmp 62) (by with_reducible rfl) rfl (HLD.out _ (Gr.refl _)) ?_)
      refine CP.out.mono ?_
      rintro e w6 ⟨b, rfl, ho, hg6⟩
      obtain ⟨bA, bc, rfl, hby⟩ := ho.by_
      have HBY := hide hby
      have HR6 := hide (HR.out.trans hg6)
      clear ho hby hg6 CP
      go_wp2_with fail
      refine (CT.out _ _ _ HBY.out).mono ?_
      rintro e w7 ⟨u7, rfl, hu, hg7⟩
      obtain ⟨cs7, r7, rfl, hc7⟩ := hu.cells
      have hsz7 : (Tryz.prog.info? 31).map (·.size) = some cs7.size := by rw [hc7.size]; kernel_rfl
      have ho7 := hide (show 24 = cs7.size from hc7.size.symm)
      have hone7 := hc7.one
      have HX7 := hide (show MsgAt w7 (.agg cs7) (gM k) from hu.any)
      have HR7 := hide (HR6.out.trans hg7)
      have HN7 := hide (fun old => Bl.new w7 31 old)
      clear hu hg7 hc7 HR6 HBY CT
      go_upto_region 10 with (first
        | refine wpList_store_row rfl 31 (.tmp 5) (.tmp 66) (by with_reducible rfl) w7.heap.size cs7 rfl rfl 31 _ (HN7.out _) hsz7 ho7.out hone7 ?_
        | fail)
      obtain ⟨V, hV⟩ : ∃ V, (w7.alloc (.cells zeroCs 31)).setRow w7.heap.size cs7 = V := ⟨_, rfl⟩
      have hbV : Bl V w7.heap.size 31 cs7 := by rw [← hV]; exact (HN7.out _).row cs7
      have hgV : Gr w7 V := by rw [← hV]; exact ((Gr.refl _).alloc _).fresh (But.row _ _ _) (Nat.le_refl _)
      change (Code.region 10 _ true).wp _ _ _ ((w7.alloc (.cells zeroCs 31)).setRow w7.heap.size cs7)
      rw [hV]
      have HXV := hide (HX7.out.gr hgV)
      have HRV := hide (HR7.out.trans hgV)
      have HGV := hide (Mgs.stays gL _ _ _ HGL.out HRV.out)
      have HBV := hide hbV
      clear hV HN7 hbV hgV HX7 HR7 HGR HLD
      refine Grow.wp_region_kept 107 [68, 69, 70, 71, 72, 73, 74, 75, 76, 77, 78, 79, 80, 81, 82, 83, 84, 85, 86] rfl (by kernel_rfl) (by kernel_rfl) (by kernel_rfl) (Grow.Ahead.more (Grow.Ahead.more (Grow.Ahead.more (Grow.Ahead.more (Grow.Ahead.none_ _ _) 2 (Mgs.stays gL) (by exact Mgs.stays gL _ _ _ HGV.out (Gr.drew (Gr.refl _)))) 4 (Grow.Is.stays (.int .i64 (k : Int))) (by exact rfl)) 5 (Grow.Bx.stays w7.heap.size 31 cs7) (by exact ⟨rfl, HBV.out.drewN 1⟩)) 6 (Grow.Is.stays (.bool true)) (by exact rfl)) ?_
      refine Grow.grow_move (.tmp 2) (.inl rfl) (.inl ⟨rfl, rfl⟩) rfl (Mgs.stays gL) ?_
      refine Grow.grow_mv (.inl rfl) (.inl ⟨rfl, rfl⟩) rfl ?_
      refine grow_at_letter (ls := gL) (m := gM k) k rfl HGK.out rfl (.inl ⟨rfl, rfl⟩) rfl rfl ?_
      refine grow_load_letter (m := gM k) rfl (.inl ⟨rfl, rfl⟩) rfl ?_
      refine Grow.grow_call1 (Φ := Grow.Is (.bool true)) (Ψ := MgK (gM k)) rfl (.inl ⟨rfl, rfl⟩) Tryz.func11 (by kernel_rfl) (by kernel_rfl) rfl (Grow.Is.stays _) (fun v W _ hv => (CM.out v W hv).mono fun e w1 ⟨h1, h2⟩ => ⟨_, h1, h2, rfl⟩) ?_
      refine Grow.grow_not rfl (.inl ⟨rfl, rfl⟩) rfl ?_
      refine Grow.grow_mv (.inl rfl) (.inl ⟨rfl, rfl⟩) rfl ?_
      refine Grow.grow_mv (.inl rfl) (.inr ⟨6, false, 74, rfl, rfl, rfl, by decide⟩) rfl ?_
      refine Grow.grow_not rfl (.inr ⟨6, false, 74, rfl, rfl, rfl, by decide⟩) rfl ?_
      refine Grow.grow_pick_no rfl (.inl ⟨rfl, rfl⟩) rfl rfl (Grow.Is.stays _) ?_
      refine Grow.grow_mv (.inl rfl) (.inl ⟨rfl, rfl⟩) rfl ?_
      refine Grow.grow_row rfl (.inr ⟨10, false, 78, rfl, rfl, rfl, by decide⟩) rfl Tryz.underlying31 rfl hsz7 ?_
      refine Grow.grow_move (.tmp 2) (.inl rfl) (.inr ⟨10, false, 78, rfl, rfl, rfl, by decide⟩) rfl (Mgs.stays gL) ?_
      refine Grow.grow_mv (.inl rfl) (.inr ⟨10, false, 78, rfl, rfl, rfl, by decide⟩) rfl ?_
      refine grow_at_letter (ls := gL) (m := gM k) k rfl HGK.out rfl (.inr ⟨10, false, 78, rfl, rfl, rfl, by decide⟩) rfl rfl ?_
      refine grow_load_letter (m := gM k) rfl (.inr ⟨10, false, 78, rfl, rfl, rfl, by decide⟩) rfl ?_
      refine Grow.grow_call2 (Φ := Grow.Is (.bool true)) (Ψ := Grow.Is (.agg cs7)) (Ψ' := MgK (gM k)) rfl (.inr ⟨10, false, 78, rfl, rfl, rfl, by decide⟩) Tryz.func13 (by kernel_rfl) (by kernel_rfl) rfl rfl (Grow.Is.stays _) (fun v u W hg hv hu => by
        obtain rfl : v = _ := hv
        exact (CS.out _ u W (HXV.out.gr ((Gr.drew (Gr.refl V)).trans hg)) hu).mono fun e w1 ⟨h1, h2⟩ => ⟨_, h1, h2, rfl⟩) ?_
      refine Grow.grow_not rfl (.inr ⟨10, false, 78, rfl, rfl, rfl, by decide⟩) rfl ?_
      refine Grow.grow_pick_no rfl (.inl ⟨rfl, rfl⟩) rfl rfl (Grow.Is.stays _) ?_
      intro a8 w8 hg hsz hdf hun hk
      have h86 : a8.tmps.getD 86 undef = .bool false := hk 86
      obtain ⟨Z, hZ, hlay⟩ := Grow.lay_kept_by _ a8 107 _ hsz hdf hun
      rw [hZ] at h86
      clear hZ hun hdf hsz hk
      subst hlay
      simp only [List.range, List.range.loop, List.map_cons, List.map_nil, List.contains_cons, List.contains_nil, Nat.reduceBEq, Bool.or_false, Bool.or_true, cond_false, cond_true, Array.getD_eq_getD_getElem?, List.getElem?_toArray, List.getElem?_cons_zero, List.getElem?_cons_succ, Option.getD_some, h86]
      clear h86
      have HR8 := hide (HRV.out.trans ((Gr.drew (Gr.refl V)).trans hg))
      clear hg HRV HGV HBV HXV CM CS
      go_wp2_with fail
      go_roundw
      case rel => exact ⟨k + 1, by go_num, by omega, HR8⟩
      case measure => simp [intOf]; omega
    · obtain rfl : k = 5 := by omega
      rw [show (((5 : Nat) : Int)) = (5 : Int) from rfl]
      have HG6 := hide (HG5.out.trans HR.out)
      replace HBL := hide (Mgs.stays bL _ _ _ HBL.out HR.out)
      clear HR HG5 HGL
      go_wp2_with fail
      obtain ⟨V6, rfl⟩ : ∃ V6, V6 = wr := ⟨_, rfl⟩
      go_loopw [7] (fun i wx => ∃ k : Nat, i = .int .i64 k ∧ k ≤ 19 ∧ Hid (Gr V6 wx)) (fun i _ => 19 - (intOf i).toNat)
      case atStart => exact ⟨0, rfl, by omega, Gr.refl _⟩
      case round =>
        obtain ⟨k, rfl, hk19, HR⟩ := hrel
        by_cases hlt : k < 19
        · have hlt' : (k : Int) < 19 := by omega
          obtain ⟨hgk, hbk, hvk, hmk⟩ := bL_at hlt
          have HGK := hide hgk
          have HGR := hide (Mgs.stays bL _ _ _ HBL.out HR.out)
          have hp0 : putM (bM k) = [] := by unfold putM; rw [hmk]; rfl
          have CM := hide (fun v W (h : MsgAt W v (bM k)) => hmk ▸ MgMay_ok v (bM k) W h hbk hvk)
          have CP := hide (fun v W (h : MsgAt W v (bM k)) => hp0 ▸ MgPut_ok v (bM k) W h hbk hvk)
          clear hgk hbk hvk hmk hp0
          go_upto_region 15 with (fail)
          refine Grow.wp_region_text 107 [93, 94, 95, 96, 97, 98, 99, 100, 101, 102, 103, 104, 105, 106] rfl (by kernel_rfl) (by kernel_rfl) (Grow.Ahead.more (Grow.Ahead.more (Grow.Ahead.none_ _ _) 3 (Mgs.stays bL) (by exact HGR.out)) 7 (Grow.Is.stays (.int .i64 (k : Int))) (by exact rfl)) ?_
          refine Grow.grow_move (.tmp 3) (.inl rfl) (.inl ⟨rfl, rfl⟩) rfl (Mgs.stays bL) ?_
          refine Grow.grow_mv (.inl rfl) (.inl ⟨rfl, rfl⟩) rfl ?_
          refine grow_at_letter (ls := bL) (m := bM k) k rfl HGK.out rfl (.inl ⟨rfl, rfl⟩) rfl rfl ?_
          refine grow_load_letter (m := bM k) rfl (.inl ⟨rfl, rfl⟩) rfl ?_
          refine Grow.grow_call1 (Φ := Grow.Is (.bool false)) (Ψ := MgK (bM k)) rfl (.inl ⟨rfl, rfl⟩) Tryz.func11 (by kernel_rfl) (by kernel_rfl) rfl (Grow.Is.stays _) (fun v W _ hv => (CM.out v W hv).mono fun e w1 ⟨h1, h2⟩ => ⟨_, h1, h2, rfl⟩) ?_
          refine Grow.grow_mv (.inl rfl) (.inl ⟨rfl, rfl⟩) rfl ?_
          refine Grow.grow_move (.tmp 3) (.inl rfl) (.inr ⟨5, false, 98, rfl, rfl, rfl, by decide⟩) rfl (Mgs.stays bL) ?_
          refine Grow.grow_mv (.inl rfl) (.inr ⟨5, false, 98, rfl, rfl, rfl, by decide⟩) rfl ?_
          refine grow_at_letter (ls := bL) (m := bM k) k rfl HGK.out rfl (.inr ⟨5, false, 98, rfl, rfl, rfl, by decide⟩) rfl rfl ?_
          refine grow_load_letter (m := bM k) rfl (.inr ⟨5, false, 98, rfl, rfl, rfl, by decide⟩) rfl ?_
          refine Grow.grow_call1 (Φ := Grow.Sl []) (Ψ := MgK (bM k)) rfl (.inr ⟨5, false, 98, rfl, rfl, rfl, by decide⟩) Tryz.func12 (by kernel_rfl) (by kernel_rfl) rfl (Grow.Sl.stays _) (fun v W _ hv => by
            refine (CP.out v W hv).mono ?_
            rintro e w' ⟨r, h1, h2, h3⟩
            obtain ⟨A2, c2, rfl, h4⟩ := h2.by_
            exact ⟨_, h1, h3, A2, c2, rfl, h4⟩) ?_
          refine Grow.grow_len_sl (l := []) rfl Tryz.underlying22 (.inr ⟨5, false, 98, rfl, rfl, rfl, by decide⟩) rfl ?_
          refine Grow.grow_int_alike rfl rfl (.inr ⟨5, false, 98, rfl, rfl, rfl, by decide⟩) rfl (fun _ => rfl) ?_
          refine Grow.grow_pick_no rfl (.inl ⟨rfl, rfl⟩) rfl rfl (Grow.Is.stays _) ?_
          intro a8 w8 hg hsz hdf hun hk
          have h106 : a8.tmps.getD 106 undef = .bool false := hk 106
          obtain ⟨Z, hZ, hlay⟩ := Grow.lay_kept_by _ a8 107 _ hsz hdf hun
          rw [hZ] at h106
          clear hZ hun hdf hsz hk
          subst hlay
          simp only [List.range, List.range.loop, List.map_cons, List.map_nil, List.contains_cons, List.contains_nil, Nat.reduceBEq, Bool.or_false, Bool.or_true, cond_false, cond_true, Array.getD_eq_getD_getElem?, List.getElem?_toArray, List.getElem?_cons_zero, List.getElem?_cons_succ, Option.getD_some, h106]
          clear h106
          have HR8 := hide (HR.out.trans hg)
          clear hg HR HGR CM CP
          go_wp2_with fail
          go_roundw
          case rel => exact ⟨k + 1, by go_num, by omega, HR8⟩
          case measure => simp [intOf]; omega
        · obtain rfl : k = 19 := by omega
          go_wp2_with fail
          go_ret
          exact ⟨rfl, HG6.out.trans HR.out⟩

end Go.Proofs.YtpabppoohobjpaaGreat

