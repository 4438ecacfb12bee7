/-
  inRole, takeVote, takeEntries, takeAppended.
-/
import Derived.Test.YthpaoeiackbdoaaRfFollow
namespace Go.Proofs.Ythpaoeiackbdoaa
open Go Go.RowKit TxnMath KeyMath MsgMath BalMath RfMath
set_option maxRecDepth 100000

/-- one result, a variable that lies in memory -/
theorem results_cell1 {P : Program} {fn : Func} {p : Tmp} {ty : TypeId} (h : fn.results = #[.cell p ty]) (tmps : Array Value) (w : World) (g : Nat) (t : TypeId) (cs : Array Value) (fr : Nat × Nat) (d : TypeDesc)
    (hp : tmps.getD p undef = .pointer (some ⟨g, 0, none⟩)) (hg : w.heap[g]? = some (.cells cs t fr)) (hu : P.underlying ty = some d) (hd : (match d with | .struct _ | .array _ _ => true | _ => false) = true) (hi : (P.info? ty).map (·.size) = some cs.size) :
    (results fn tmps).run P w = .ok (.agg cs) w := by
  have hp' : tmps[p]?.getD undef = .pointer (some ⟨g, 0, none⟩) := by simpa using hp
  simp [results, h, hp', asAddr, run_loadVar_row w g t ty cs fr d hg hu hd hi]

/-- a method of a member's, bound to it -/
def boundV (g : Nat) (f : FuncId) : Value := .func (.func f) #[.pointer (some ⟨g, 0, none⟩)] #[]
def duties (g : Nat) (role : Int) : Array Value :=
  if role = 2 then #[boundV g 54, boundV g 55, boundV g 55, boundV g 56, boundV g 57]
  else if role = 1 then #[boundV g 58, boundV g 59, boundV g 60, boundV g 55, boundV g 61]
  else #[boundV g 58, boundV g 55, boundV g 60, boundV g 55, boundV g 61]

set_option maxHeartbeats 1000000 in
theorem inRole_ok (w : World) (g : Nat) (s : StT) (R : RowsM) (h : MemR w g s R) :
    Calls Try.prog 45 #[.pointer (some ⟨g, 0, none⟩)] w fun e w' => e = .returned (.agg (duties g s.r.role)) ∧ Gr w w' := by
  have c7 : w.cell? ⟨g, 7, none⟩ = some (.int .i64 s.r.role) := h.cell 7
  have hgl := h.bl.lt
  generalize s.r.role = ro at *
  clear h
  have hst : ∀ (W : World) (b i : Nat) (f : Fn) (xs ys : Array Value), (store ⟨b, i, none⟩ (.func f xs ys) .plain).run Try.prog W = match W.cell? ⟨b, i, none⟩ with
      | some _ => if W.frozen? ⟨b, i, none⟩ then .halt (.unsupported (.unsafePointer "a write to bytes that a string shares")) W else .ok () (W.setCell ⟨b, i, none⟩ (.func f xs ys))
      | none => match W.farStore Try.prog ⟨b, i, none⟩ (.func f xs ys) (Mode.plain == .atomic) with
        | .ok (w', _) => .ok () w'
        | .error h => .halt h W := fun W b i f xs ys => run_store Try.prog W ⟨b, i, none⟩ (.func f xs ys) .plain rfl
  by_cases h2 : ro = 2
  · subst h2
    have HD : Hid (duties g 2 = _) := if_pos rfl
    simp only [boundV] at HD
    go_enter Try.func45, Try.ntmps45
    go_wp2_with fail
    refine bodyPost_ret (results_cell1 rfl _ _ w.heap.size 86 _ (0, 0) _ rfl (Bl.new w _ _) Try.underlying86 rfl (by kernel_rfl)) rfl ?_
    exact ⟨by rw [HD.out], (Gr.refl w).alloc _⟩
  · have h2' : (ro == 2) = false := by rw [beq_eq_false_iff_ne]; exact h2
    by_cases h1 : ro = 1
    · subst h1
      have HD : Hid (duties g 1 = _) := (if_neg (by decide)).trans (if_pos rfl)
      simp only [boundV] at HD
      go_enter Try.func45, Try.ntmps45
      go_wp2_with fail
      refine bodyPost_ret (results_cell1 rfl _ _ w.heap.size 86 _ (0, 0) _ rfl (Bl.new w _ _) Try.underlying86 rfl (by kernel_rfl)) rfl ?_
      exact ⟨by rw [HD.out], (Gr.refl w).alloc _⟩
    · have h1' : (ro == 1) = false := by rw [beq_eq_false_iff_ne]; exact h1
      have HD : Hid (duties g ro = _) := (if_neg h2).trans (if_neg h1)
      simp only [boundV] at HD
      go_enter Try.func45, Try.ntmps45
      go_wp2_with fail
      refine bodyPost_ret (results_cell1 rfl _ _ w.heap.size 86 _ (0, 0) _ rfl (Bl.new w _ _) Try.underlying86 rfl (by kernel_rfl)) rfl ?_
      exact ⟨by rw [HD.out], (Gr.refl w).alloc _⟩

theorem exec_field1 {ev : Operand → Value} {o : Oper} {x : Operand} (a b c d e : Value) (ho : o.op = .field 86 x 1) (hx : ev x = .agg #[a, b, c, d, e]) (w : World) : (execOp ev o).run Try.prog w = .ok (.value b) w := by
  have hr : (Instr.field 86 (.agg #[a, b, c, d, e]) 1).run Try.prog w = .ok b w := by kernel_rfl
  unfold execOp
  simp only [ho, hx]
  rw [Sem.run_bind, hr]
  rfl
theorem exec_field2 {ev : Operand → Value} {o : Oper} {x : Operand} (a b c d e : Value) (ho : o.op = .field 86 x 2) (hx : ev x = .agg #[a, b, c, d, e]) (w : World) : (execOp ev o).run Try.prog w = .ok (.value c) w := by
  have hr : (Instr.field 86 (.agg #[a, b, c, d, e]) 2).run Try.prog w = .ok c w := by kernel_rfl
  unfold execOp
  simp only [ho, hx]
  rw [Sem.run_bind, hr]
  rfl
theorem exec_field3 {ev : Operand → Value} {o : Oper} {x : Operand} (a b c d e : Value) (ho : o.op = .field 86 x 3) (hx : ev x = .agg #[a, b, c, d, e]) (w : World) : (execOp ev o).run Try.prog w = .ok (.value d) w := by
  have hr : (Instr.field 86 (.agg #[a, b, c, d, e]) 3).run Try.prog w = .ok d w := by kernel_rfl
  unfold execOp
  simp only [ho, hx]
  rw [Sem.run_bind, hr]
  rfl

set_option maxHeartbeats 2000000 in
theorem takeVote_ok (w : World) (g : Nat) (s : StT) (R : RowsM) (h : MemR w g s R) (hk : Rk s.r) (v : Value) (l : MsgT) (hl : MsgX (Free g R) w v l) (hf : 1 ≤ l.frm ∧ l.frm ≤ s.r.nodes) (_ : l.index ≤ 9223372036854775807) (_ : l.entries.length ≤ 1000) (_ : ∀ e ∈ l.entries, EntBnd e) (hn : s.out.length ≤ 380) :
    Calls Try.prog 68 #[.pointer (some ⟨g, 0, none⟩), v] w (MbPost w g R (voteS l s)) := by
  obtain ⟨r, rfl, hr⟩ := hl
  obtain ⟨W1, hW1⟩ : ∃ W1, w.alloc (.cells (cellsM l r).toArray 47) = W1 := ⟨_, rfl⟩
  have hB := h.box (cellsM l r).toArray 47
  have hb1 : Bl W1 w.heap.size 47 (cellsM l r).toArray := by rw [← hW1]; exact Bl.new _ _ _
  have hg1 : Gr w W1 := by rw [← hW1]; exact (Gr.refl _).alloc _
  rw [hW1] at hB
  obtain ⟨b, hb⟩ : ∃ b, w.heap.size = b := ⟨_, rfl⟩
  rw [hb] at hb1
  have hIm := MemL.pay g s R b l r
  have hW : MemL g s R b l r W1 none := ⟨MemP.none_ hB.1, hb1, by simp, (hr.e.gr hg1).wide fun j hj => ⟨hj, by simp⟩⟩
  have HR := hide (fun W (hW : Gr W1 W) => hr.move (Moves.of_gr (hg1.trans hW)))
  have HIN := hide (fun W (hW : MemR W g s R) => inRole_ok W g s R hW)
  obtain ⟨ro, hro⟩ : ∃ ro, s.r.role = ro := ⟨_, rfl⟩
  rw [hro] at HIN
  have HK := hide hk
  have HT := hide hB.2.1
  obtain ⟨v0, v1, v2, v3, v4, hdv⟩ : ∃ v0 v1 v2 v3 v4, duties g ro = #[v0, v1, v2, v3, v4] := by unfold duties; split <;> first | exact ⟨_, _, _, _, _, rfl⟩ | (split <;> exact ⟨_, _, _, _, _, rfl⟩)
  simp only [cellsM] at hW1 ⊢
  clear h hr hB hg1 hk
  go_enter Try.func68, Try.ntmps68
  go_upto_region 1 with (fail)
  clear hW1
  refine Mine.wp_region_mine_tail 4 9 [4, 5, 6, 7, 8] rfl (by kernel_rfl) (by kernel_rfl) (by kernel_rfl) (by kernel_rfl) (ob0 := none)
    (Mine.Ahead.more (Mine.Ahead.more (Mine.Ahead.none_ _ _ _) 0 (Mine.Wk.stays hIm (.pointer (some ⟨g, 0, none⟩))) ⟨rfl, hIm _ _ _ _ hW (Mine.RS.of_gr ((Gr.refl W1).drewN 1))⟩) 3 (Mine.Wk.stays hIm (.pointer (some ⟨b, 0, none⟩))) ⟨rfl, hIm _ _ _ _ hW (Mine.RS.of_gr ((Gr.refl W1).drewN 1))⟩)
    10 (C0 := fun _ _ o => o = none) (fun _ _ _ _ h _ => h) (fun k hk => by cases hk) rfl ?_
  clear hW hb1
  refine Mine.wk_move hIm (x := .tmp 0) (.inl rfl) rfl (by decide) rfl ?_
  refine Mine.call1 (Φ := Mine.Wk (MemL g s R b l r) (.agg (duties g ro))) rfl rfl (by decide) Try.func45 (by kernel_rfl) (by kernel_rfl) (Mine.Wk.stays hIm _) (Ψ := Mine.Wk (MemL g s R b l r) (.pointer (some ⟨g, 0, none⟩))) rfl
    (fun v W ob hwf _ h1 => by
      obtain ⟨rfl, hq⟩ := h1
      exact (HIN.out W hq.m.m).mono fun e w' ⟨he, hg⟩ => ⟨_, he, hg, rfl, hIm _ _ _ _ hq (Mine.RS.of_gr hg)⟩) ?_
  refine Mine.wk1 (x := .tmp 5) (z := .agg (duties g ro)) v1 hIm rfl (by decide) (by simp [Op.operands]) rfl (fun a W ob h1 _ => exec_field1 v0 v1 v2 v3 v4 rfl (by rw [← hdv]; exact h1) W) ?_
  refine Mine.wk_box (t := 47) (cellsM l r).toArray hIm rfl rfl (by decide) rfl (fun w ob h => h.bx) Try.underlying47 rfl (by kernel_rfl) ?_
  intro a1 w1 ob hr hwf hsz hdf hun hkn hat
  have h6 : a1.tmps.getD 6 undef = v1 := (hkn 6).1
  have h7 : a1.tmps.getD 7 undef = .agg (cellsM l r).toArray := (hkn 7).1
  have hM1 : MemR w1 g s R := (hkn 0).2.m.m
  change ob = none at hat
  subst hat
  obtain ⟨X, hX, hlay⟩ := Grow.lay_kept_by _ a1 9 _ hsz hdf hun
  rw [hX] at h6 h7
  clear hX hun hdf hsz hkn hwf
  subst hlay
  simp only [List.range, List.range.loop, List.map_cons, List.map_nil, List.contains_cons, List.contains_nil, Nat.reduceBEq, Bool.or_false, Bool.or_true, cond_false, cond_true, Array.getD_eq_getD_getElem?, List.getElem?_toArray, List.getElem?_cons_zero, List.getElem?_cons_succ, Option.getD_some, h6, h7, List.drop_succ_cons, List.drop_zero]
  have hg : Gr W1 w1 := RS_gr ((Mine.RS.of_gr (o := none) ((Gr.refl W1).drewN 1)).trans hr)
  have HM1 := hide hM1
  have HX1 := hide (show MsgX (Free g R) w1 (.agg (cellsM l r).toArray) l from ⟨r, rfl, HR.out w1 hg⟩)
  have HT1 := hide (HT.out.trans (Stp.of_gr hg))
  obtain ⟨D, hD⟩ : ∃ D, (cellsM l r).toArray = D := ⟨_, rfl⟩
  clear hr hg hM1 h6 h7 HR
  by_cases h2 : ro = 2
  · subst h2
    have HY : Hid (voteS l s = s) := if_neg (by rw [hro]; decide)
    rw [show duties g 2 = _ from if_pos rfl] at hdv
    obtain ⟨rfl, rfl, rfl, rfl, rfl⟩ : _ = v0 ∧ _ = v1 ∧ _ = v2 ∧ _ = v3 ∧ _ = v4 := by simpa using hdv
    clear hdv
    have HP := hide (passOver_ok w1 g (.agg (cellsM l r).toArray) l r rfl)
    rw [hD] at HP ⊢
    clear hD
    simp only [boundV]
    go_wp2_with fail
    refine HP.out.mono ?_
    rintro e w2 ⟨rfl, hg2⟩
    have H1 := hide (HM1.out.gr hg2)
    have H2 := hide (HT1.out.trans (Stp.of_gr hg2))
    clear hg2
    go_wp2_with fail
    go_end0
    exact ⟨rfl, R, by rw [HY.out]; exact H1.out, H2.out⟩
  · by_cases h1 : ro = 1
    · subst h1
      have HY : Hid (voteS l s = countS l s) := if_pos hro
      rw [show duties g 1 = _ from (if_neg (by decide)).trans (if_pos rfl)] at hdv
      obtain ⟨rfl, rfl, rfl, rfl, rfl⟩ : _ = v0 ∧ _ = v1 ∧ _ = v2 ∧ _ = v3 ∧ _ = v4 := by simpa using hdv
      clear hdv
      have HP := hide (count_ok w1 g s R HM1.out HK.out _ l HX1.out hf hn)
      rw [hD] at HP ⊢
      clear hD
      simp only [boundV]
      rw [← HY.out] at HP
      go_wp2_with fail
      refine HP.out.mono ?_
      rintro e w2 ⟨rfl, R', h1, h2⟩
      have H1 := hide h1
      have H2 := hide (HT1.out.trans h2)
      clear h1 h2
      go_wp2_with fail
      go_end0
      exact ⟨rfl, R', H1.out, H2.out⟩
    · have HY : Hid (voteS l s = s) := if_neg (by rw [hro]; exact h1)
      rw [show duties g ro = _ from (if_neg h2).trans (if_neg h1)] at hdv
      obtain ⟨rfl, rfl, rfl, rfl, rfl⟩ : _ = v0 ∧ _ = v1 ∧ _ = v2 ∧ _ = v3 ∧ _ = v4 := by simpa using hdv
      clear hdv
      have HP := hide (passOver_ok w1 g (.agg (cellsM l r).toArray) l r rfl)
      rw [hD] at HP ⊢
      clear hD
      simp only [boundV]
      go_wp2_with fail
      refine HP.out.mono ?_
      rintro e w2 ⟨rfl, hg2⟩
      have H1 := hide (HM1.out.gr hg2)
      have H2 := hide (HT1.out.trans (Stp.of_gr hg2))
      clear hg2
      go_wp2_with fail
      go_end0
      exact ⟨rfl, R, by rw [HY.out]; exact H1.out, H2.out⟩

set_option maxHeartbeats 2000000 in
theorem takeEntries_ok (w : World) (g : Nat) (s : StT) (R : RowsM) (h : MemR w g s R) (hk : Rk s.r) (v : Value) (l : MsgT) (hl : MsgX (Free g R) w v l) (_ : 1 ≤ l.frm ∧ l.frm ≤ s.r.nodes) (hi : l.index ≤ 9223372036854775807) (he : l.entries.length ≤ 1000) (hbe : ∀ e ∈ l.entries, EntBnd e) (hn : s.out.length ≤ 380) :
    Calls Try.prog 70 #[.pointer (some ⟨g, 0, none⟩), v] w (MbPost w g R (entriesS l s)) := by
  obtain ⟨r, rfl, hr⟩ := hl
  obtain ⟨W1, hW1⟩ : ∃ W1, w.alloc (.cells (cellsM l r).toArray 47) = W1 := ⟨_, rfl⟩
  have hB := h.box (cellsM l r).toArray 47
  have hb1 : Bl W1 w.heap.size 47 (cellsM l r).toArray := by rw [← hW1]; exact Bl.new _ _ _
  have hg1 : Gr w W1 := by rw [← hW1]; exact (Gr.refl _).alloc _
  rw [hW1] at hB
  obtain ⟨b, hb⟩ : ∃ b, w.heap.size = b := ⟨_, rfl⟩
  rw [hb] at hb1
  have hIm := MemL.pay g s R b l r
  have hW : MemL g s R b l r W1 none := ⟨MemP.none_ hB.1, hb1, by simp, (hr.e.gr hg1).wide fun j hj => ⟨hj, by simp⟩⟩
  have HR := hide (fun W (hW : Gr W1 W) => hr.move (Moves.of_gr (hg1.trans hW)))
  have HIN := hide (fun W (hW : MemR W g s R) => inRole_ok W g s R hW)
  obtain ⟨ro, hro⟩ : ∃ ro, s.r.role = ro := ⟨_, rfl⟩
  rw [hro] at HIN
  have HK := hide hk
  have HT := hide hB.2.1
  obtain ⟨v0, v1, v2, v3, v4, hdv⟩ : ∃ v0 v1 v2 v3 v4, duties g ro = #[v0, v1, v2, v3, v4] := by unfold duties; split <;> first | exact ⟨_, _, _, _, _, rfl⟩ | (split <;> exact ⟨_, _, _, _, _, rfl⟩)
  simp only [cellsM] at hW1 ⊢
  clear h hr hB hg1 hk
  go_enter Try.func70, Try.ntmps70
  go_upto_region 1 with (fail)
  clear hW1
  refine Mine.wp_region_mine_tail 4 9 [4, 5, 6, 7, 8] rfl (by kernel_rfl) (by kernel_rfl) (by kernel_rfl) (by kernel_rfl) (ob0 := none)
    (Mine.Ahead.more (Mine.Ahead.more (Mine.Ahead.none_ _ _ _) 0 (Mine.Wk.stays hIm (.pointer (some ⟨g, 0, none⟩))) ⟨rfl, hIm _ _ _ _ hW (Mine.RS.of_gr ((Gr.refl W1).drewN 1))⟩) 3 (Mine.Wk.stays hIm (.pointer (some ⟨b, 0, none⟩))) ⟨rfl, hIm _ _ _ _ hW (Mine.RS.of_gr ((Gr.refl W1).drewN 1))⟩)
    10 (C0 := fun _ _ o => o = none) (fun _ _ _ _ h _ => h) (fun k hk => by cases hk) rfl ?_
  clear hW hb1
  refine Mine.wk_move hIm (x := .tmp 0) (.inl rfl) rfl (by decide) rfl ?_
  refine Mine.call1 (Φ := Mine.Wk (MemL g s R b l r) (.agg (duties g ro))) rfl rfl (by decide) Try.func45 (by kernel_rfl) (by kernel_rfl) (Mine.Wk.stays hIm _) (Ψ := Mine.Wk (MemL g s R b l r) (.pointer (some ⟨g, 0, none⟩))) rfl
    (fun v W ob hwf _ h1 => by
      obtain ⟨rfl, hq⟩ := h1
      exact (HIN.out W hq.m.m).mono fun e w' ⟨he, hg⟩ => ⟨_, he, hg, rfl, hIm _ _ _ _ hq (Mine.RS.of_gr hg)⟩) ?_
  refine Mine.wk1 (x := .tmp 5) (z := .agg (duties g ro)) v2 hIm rfl (by decide) (by simp [Op.operands]) rfl (fun a W ob h1 _ => exec_field2 v0 v1 v2 v3 v4 rfl (by rw [← hdv]; exact h1) W) ?_
  refine Mine.wk_box (t := 47) (cellsM l r).toArray hIm rfl rfl (by decide) rfl (fun w ob h => h.bx) Try.underlying47 rfl (by kernel_rfl) ?_
  intro a1 w1 ob hr hwf hsz hdf hun hkn hat
  have h6 : a1.tmps.getD 6 undef = v2 := (hkn 6).1
  have h7 : a1.tmps.getD 7 undef = .agg (cellsM l r).toArray := (hkn 7).1
  have hM1 : MemR w1 g s R := (hkn 0).2.m.m
  change ob = none at hat
  subst hat
  obtain ⟨X, hX, hlay⟩ := Grow.lay_kept_by _ a1 9 _ hsz hdf hun
  rw [hX] at h6 h7
  clear hX hun hdf hsz hkn hwf
  subst hlay
  simp only [List.range, List.range.loop, List.map_cons, List.map_nil, List.contains_cons, List.contains_nil, Nat.reduceBEq, Bool.or_false, Bool.or_true, cond_false, cond_true, Array.getD_eq_getD_getElem?, List.getElem?_toArray, List.getElem?_cons_zero, List.getElem?_cons_succ, Option.getD_some, h6, h7, List.drop_succ_cons, List.drop_zero]
  have hg : Gr W1 w1 := RS_gr ((Mine.RS.of_gr (o := none) ((Gr.refl W1).drewN 1)).trans hr)
  have HM1 := hide hM1
  have HX1 := hide (show MsgX (Free g R) w1 (.agg (cellsM l r).toArray) l from ⟨r, rfl, HR.out w1 hg⟩)
  have HT1 := hide (HT.out.trans (Stp.of_gr hg))
  obtain ⟨D, hD⟩ : ∃ D, (cellsM l r).toArray = D := ⟨_, rfl⟩
  clear hr hg hM1 h6 h7 HR
  by_cases h2 : ro = 2
  · subst h2
    have HY : Hid (entriesS l s = s) := if_pos hro
    rw [show duties g 2 = _ from if_pos rfl] at hdv
    obtain ⟨rfl, rfl, rfl, rfl, rfl⟩ : _ = v0 ∧ _ = v1 ∧ _ = v2 ∧ _ = v3 ∧ _ = v4 := by simpa using hdv
    clear hdv
    have HP := hide (passOver_ok w1 g (.agg (cellsM l r).toArray) l r rfl)
    rw [hD] at HP ⊢
    clear hD
    simp only [boundV]
    go_wp2_with fail
    refine HP.out.mono ?_
    rintro e w2 ⟨rfl, hg2⟩
    have H1 := hide (HM1.out.gr hg2)
    have H2 := hide (HT1.out.trans (Stp.of_gr hg2))
    clear hg2
    go_wp2_with fail
    go_end0
    exact ⟨rfl, R, by rw [HY.out]; exact H1.out, H2.out⟩
  · by_cases h1 : ro = 1
    · subst h1
      have HY : Hid (entriesS l s = followS l s) := if_neg (by rw [hro]; decide)
      rw [show duties g 1 = _ from (if_neg (by decide)).trans (if_pos rfl)] at hdv
      obtain ⟨rfl, rfl, rfl, rfl, rfl⟩ : _ = v0 ∧ _ = v1 ∧ _ = v2 ∧ _ = v3 ∧ _ = v4 := by simpa using hdv
      clear hdv
      have HP := hide (follow_ok w1 g s R HM1.out HK.out _ l HX1.out hi he hbe hn)
      rw [hD] at HP ⊢
      clear hD
      simp only [boundV]
      rw [← HY.out] at HP
      go_wp2_with fail
      refine HP.out.mono ?_
      rintro e w2 ⟨rfl, R', h1, h2⟩
      have H1 := hide h1
      have H2 := hide (HT1.out.trans h2)
      clear h1 h2
      go_wp2_with fail
      go_end0
      exact ⟨rfl, R', H1.out, H2.out⟩
    · have HY : Hid (entriesS l s = followS l s) := if_neg (by rw [hro]; exact h2)
      rw [show duties g ro = _ from (if_neg h2).trans (if_neg h1)] at hdv
      obtain ⟨rfl, rfl, rfl, rfl, rfl⟩ : _ = v0 ∧ _ = v1 ∧ _ = v2 ∧ _ = v3 ∧ _ = v4 := by simpa using hdv
      clear hdv
      have HP := hide (follow_ok w1 g s R HM1.out HK.out _ l HX1.out hi he hbe hn)
      rw [hD] at HP ⊢
      clear hD
      simp only [boundV]
      rw [← HY.out] at HP
      go_wp2_with fail
      refine HP.out.mono ?_
      rintro e w2 ⟨rfl, R', h1, h2⟩
      have H1 := hide h1
      have H2 := hide (HT1.out.trans h2)
      clear h1 h2
      go_wp2_with fail
      go_end0
      exact ⟨rfl, R', H1.out, H2.out⟩

set_option maxHeartbeats 2000000 in
theorem takeAppended_ok (w : World) (g : Nat) (s : StT) (R : RowsM) (h : MemR w g s R) (hk : Rk s.r) (v : Value) (l : MsgT) (hl : MsgX (Free g R) w v l) (hf : 1 ≤ l.frm ∧ l.frm ≤ s.r.nodes) (_ : l.index ≤ 9223372036854775807) (_ : l.entries.length ≤ 1000) (_ : ∀ e ∈ l.entries, EntBnd e) (hn : s.out.length ≤ 380) :
    Calls Try.prog 71 #[.pointer (some ⟨g, 0, none⟩), v] w (MbPost w g R (appendedS l s)) := by
  obtain ⟨r, rfl, hr⟩ := hl
  obtain ⟨W1, hW1⟩ : ∃ W1, w.alloc (.cells (cellsM l r).toArray 47) = W1 := ⟨_, rfl⟩
  have hB := h.box (cellsM l r).toArray 47
  have hb1 : Bl W1 w.heap.size 47 (cellsM l r).toArray := by rw [← hW1]; exact Bl.new _ _ _
  have hg1 : Gr w W1 := by rw [← hW1]; exact (Gr.refl _).alloc _
  rw [hW1] at hB
  obtain ⟨b, hb⟩ : ∃ b, w.heap.size = b := ⟨_, rfl⟩
  rw [hb] at hb1
  have hIm := MemL.pay g s R b l r
  have hW : MemL g s R b l r W1 none := ⟨MemP.none_ hB.1, hb1, by simp, (hr.e.gr hg1).wide fun j hj => ⟨hj, by simp⟩⟩
  have HR := hide (fun W (hW : Gr W1 W) => hr.move (Moves.of_gr (hg1.trans hW)))
  have HIN := hide (fun W (hW : MemR W g s R) => inRole_ok W g s R hW)
  obtain ⟨ro, hro⟩ : ∃ ro, s.r.role = ro := ⟨_, rfl⟩
  rw [hro] at HIN
  have HK := hide hk
  have HT := hide hB.2.1
  obtain ⟨v0, v1, v2, v3, v4, hdv⟩ : ∃ v0 v1 v2 v3 v4, duties g ro = #[v0, v1, v2, v3, v4] := by unfold duties; split <;> first | exact ⟨_, _, _, _, _, rfl⟩ | (split <;> exact ⟨_, _, _, _, _, rfl⟩)
  simp only [cellsM] at hW1 ⊢
  clear h hr hB hg1 hk
  go_enter Try.func71, Try.ntmps71
  go_upto_region 1 with (fail)
  clear hW1
  refine Mine.wp_region_mine_tail 4 9 [4, 5, 6, 7, 8] rfl (by kernel_rfl) (by kernel_rfl) (by kernel_rfl) (by kernel_rfl) (ob0 := none)
    (Mine.Ahead.more (Mine.Ahead.more (Mine.Ahead.none_ _ _ _) 0 (Mine.Wk.stays hIm (.pointer (some ⟨g, 0, none⟩))) ⟨rfl, hIm _ _ _ _ hW (Mine.RS.of_gr ((Gr.refl W1).drewN 1))⟩) 3 (Mine.Wk.stays hIm (.pointer (some ⟨b, 0, none⟩))) ⟨rfl, hIm _ _ _ _ hW (Mine.RS.of_gr ((Gr.refl W1).drewN 1))⟩)
    10 (C0 := fun _ _ o => o = none) (fun _ _ _ _ h _ => h) (fun k hk => by cases hk) rfl ?_
  clear hW hb1
  refine Mine.wk_move hIm (x := .tmp 0) (.inl rfl) rfl (by decide) rfl ?_
  refine Mine.call1 (Φ := Mine.Wk (MemL g s R b l r) (.agg (duties g ro))) rfl rfl (by decide) Try.func45 (by kernel_rfl) (by kernel_rfl) (Mine.Wk.stays hIm _) (Ψ := Mine.Wk (MemL g s R b l r) (.pointer (some ⟨g, 0, none⟩))) rfl
    (fun v W ob hwf _ h1 => by
      obtain ⟨rfl, hq⟩ := h1
      exact (HIN.out W hq.m.m).mono fun e w' ⟨he, hg⟩ => ⟨_, he, hg, rfl, hIm _ _ _ _ hq (Mine.RS.of_gr hg)⟩) ?_
  refine Mine.wk1 (x := .tmp 5) (z := .agg (duties g ro)) v3 hIm rfl (by decide) (by simp [Op.operands]) rfl (fun a W ob h1 _ => exec_field3 v0 v1 v2 v3 v4 rfl (by rw [← hdv]; exact h1) W) ?_
  refine Mine.wk_box (t := 47) (cellsM l r).toArray hIm rfl rfl (by decide) rfl (fun w ob h => h.bx) Try.underlying47 rfl (by kernel_rfl) ?_
  intro a1 w1 ob hr hwf hsz hdf hun hkn hat
  have h6 : a1.tmps.getD 6 undef = v3 := (hkn 6).1
  have h7 : a1.tmps.getD 7 undef = .agg (cellsM l r).toArray := (hkn 7).1
  have hM1 : MemR w1 g s R := (hkn 0).2.m.m
  change ob = none at hat
  subst hat
  obtain ⟨X, hX, hlay⟩ := Grow.lay_kept_by _ a1 9 _ hsz hdf hun
  rw [hX] at h6 h7
  clear hX hun hdf hsz hkn hwf
  subst hlay
  simp only [List.range, List.range.loop, List.map_cons, List.map_nil, List.contains_cons, List.contains_nil, Nat.reduceBEq, Bool.or_false, Bool.or_true, cond_false, cond_true, Array.getD_eq_getD_getElem?, List.getElem?_toArray, List.getElem?_cons_zero, List.getElem?_cons_succ, Option.getD_some, h6, h7, List.drop_succ_cons, List.drop_zero]
  have hg : Gr W1 w1 := RS_gr ((Mine.RS.of_gr (o := none) ((Gr.refl W1).drewN 1)).trans hr)
  have HM1 := hide hM1
  have HX1 := hide (show MsgX (Free g R) w1 (.agg (cellsM l r).toArray) l from ⟨r, rfl, HR.out w1 hg⟩)
  have HT1 := hide (HT.out.trans (Stp.of_gr hg))
  obtain ⟨D, hD⟩ : ∃ D, (cellsM l r).toArray = D := ⟨_, rfl⟩
  clear hr hg hM1 h6 h7 HR
  by_cases h2 : ro = 2
  · subst h2
    have HY : Hid (appendedS l s = answerS l s) := if_pos hro
    rw [show duties g 2 = _ from if_pos rfl] at hdv
    obtain ⟨rfl, rfl, rfl, rfl, rfl⟩ : _ = v0 ∧ _ = v1 ∧ _ = v2 ∧ _ = v3 ∧ _ = v4 := by simpa using hdv
    clear hdv
    have HP := hide (answered_ok w1 g s R HM1.out HK.out _ l HX1.out hf hn)
    rw [hD] at HP ⊢
    clear hD
    simp only [boundV]
    rw [← HY.out] at HP
    go_wp2_with fail
    refine HP.out.mono ?_
    rintro e w2 ⟨rfl, R', h1, h2⟩
    have H1 := hide h1
    have H2 := hide (HT1.out.trans h2)
    clear h1 h2
    go_wp2_with fail
    go_end0
    exact ⟨rfl, R', H1.out, H2.out⟩
  · by_cases h1 : ro = 1
    · subst h1
      have HY : Hid (appendedS l s = s) := if_neg (by rw [hro]; decide)
      rw [show duties g 1 = _ from (if_neg (by decide)).trans (if_pos rfl)] at hdv
      obtain ⟨rfl, rfl, rfl, rfl, rfl⟩ : _ = v0 ∧ _ = v1 ∧ _ = v2 ∧ _ = v3 ∧ _ = v4 := by simpa using hdv
      clear hdv
      have HP := hide (passOver_ok w1 g (.agg (cellsM l r).toArray) l r rfl)
      rw [hD] at HP ⊢
      clear hD
      simp only [boundV]
      go_wp2_with fail
      refine HP.out.mono ?_
      rintro e w2 ⟨rfl, hg2⟩
      have H1 := hide (HM1.out.gr hg2)
      have H2 := hide (HT1.out.trans (Stp.of_gr hg2))
      clear hg2
      go_wp2_with fail
      go_end0
      exact ⟨rfl, R, by rw [HY.out]; exact H1.out, H2.out⟩
    · have HY : Hid (appendedS l s = s) := if_neg (by rw [hro]; exact h2)
      rw [show duties g ro = _ from (if_neg h2).trans (if_neg h1)] at hdv
      obtain ⟨rfl, rfl, rfl, rfl, rfl⟩ : _ = v0 ∧ _ = v1 ∧ _ = v2 ∧ _ = v3 ∧ _ = v4 := by simpa using hdv
      clear hdv
      have HP := hide (passOver_ok w1 g (.agg (cellsM l r).toArray) l r rfl)
      rw [hD] at HP ⊢
      clear hD
      simp only [boundV]
      go_wp2_with fail
      refine HP.out.mono ?_
      rintro e w2 ⟨rfl, hg2⟩
      have H1 := hide (HM1.out.gr hg2)
      have H2 := hide (HT1.out.trans (Stp.of_gr hg2))
      clear hg2
      go_wp2_with fail
      go_end0
      exact ⟨rfl, R, by rw [HY.out]; exact H1.out, H2.out⟩

end Go.Proofs.Ythpaoeiackbdoaa

/-
  byKind, take.
-/
namespace Go.Proofs.Ythpaoeiackbdoaa
open Go Go.RowKit TxnMath KeyMath MsgMath BalMath RfMath
set_option maxRecDepth 100000

/-- a method's expression -/
def plainV (f : FuncId) : Value := .func (.func f) #[] #[]
def lateV (k : Int) : Value := if k = 1 then plainV 66 else if k = 3 then plainV 69 else plainV 55
def nowV (k : Int) : Value := if k = 1 then plainV 67 else if k = 2 then plainV 68 else if k = 3 then plainV 70 else if k = 4 then plainV 71 else plainV 55
theorem byKind_ok (k : Int) (w : World) : Calls Try.prog 50 #[.int .i64 k] w fun e w' => e = .returned (.tuple #[lateV k, nowV k]) ∧ w' = w := by
  by_cases h1 : k = 1
  · subst h1
    have HL : Hid (lateV 1 = plainV 66) := by unfold Hid lateV; simp
    have HN : Hid (nowV 1 = plainV 67) := by unfold Hid nowV; simp
    simp only [plainV] at HL HN
    go_enter Try.func50, Try.ntmps50
    go_wp2_with fail
    go_ret2
    exact ⟨by rw [HL.out, HN.out]; rfl, rfl⟩
  have h1' : (k == 1) = false := by rw [beq_eq_false_iff_ne]; exact h1
  by_cases h2 : k = 2
  · subst h2
    have HL : Hid (lateV 2 = plainV 55) := by unfold Hid lateV; simp
    have HN : Hid (nowV 2 = plainV 68) := by unfold Hid nowV; simp
    simp only [plainV] at HL HN
    go_enter Try.func50, Try.ntmps50
    go_wp2_with fail
    go_ret2
    exact ⟨by rw [HL.out, HN.out]; rfl, rfl⟩
  have h2' : (k == 2) = false := by rw [beq_eq_false_iff_ne]; exact h2
  by_cases h3 : k = 3
  · subst h3
    have HL : Hid (lateV 3 = plainV 69) := by unfold Hid lateV; simp
    have HN : Hid (nowV 3 = plainV 70) := by unfold Hid nowV; simp
    simp only [plainV] at HL HN
    go_enter Try.func50, Try.ntmps50
    go_wp2_with fail
    go_ret2
    exact ⟨by rw [HL.out, HN.out]; rfl, rfl⟩
  have h3' : (k == 3) = false := by rw [beq_eq_false_iff_ne]; exact h3
  by_cases h4 : k = 4
  · subst h4
    have HL : Hid (lateV 4 = plainV 55) := by unfold Hid lateV; simp
    have HN : Hid (nowV 4 = plainV 71) := by unfold Hid nowV; simp
    simp only [plainV] at HL HN
    go_enter Try.func50, Try.ntmps50
    go_wp2_with fail
    go_ret2
    exact ⟨by rw [HL.out, HN.out]; rfl, rfl⟩
  have h4' : (k == 4) = false := by rw [beq_eq_false_iff_ne]; exact h4
  have HL : Hid (lateV k = plainV 55) := by unfold Hid lateV; simp [h1, h3]
  have HN : Hid (nowV k = plainV 55) := by unfold Hid nowV; simp [h1, h2, h3, h4]
  simp only [plainV] at HL HN
  go_enter Try.func50, Try.ntmps50
  go_wp2_with fail
  go_ret2
  exact ⟨by rw [HL.out, HN.out]; rfl, rfl⟩

theorem RfMath.Rk.turn {r : RaftT} (h : Rk r) {t : Int} (h0 : 0 ≤ t) (h1 : t ≤ 1152921504606846976) : Rk (turnR t r) := by
  unfold turnR
  refine ⟨h.nodes, h.me, h.wait, ⟨h0, h1⟩, h.len, h.bnd, h.commit, ?_, h.next, h.mtch, h.nexts, h.mtchs, h.clock⟩
  have := h.votes
  simpa using this

/-- what a call of a letter's asks -/
structure LetterOk (s : StT) (l : MsgT) : Prop where
  frm : 1 ≤ l.frm ∧ l.frm ≤ s.r.nodes
  term : l.term ≤ 1152921504606846976
  index : l.index ≤ 9223372036854775807
  len : l.entries.length ≤ 1000
  bnd : ∀ e ∈ l.entries, EntBnd e

/-- the letter's box, beside a member -/
structure BoxL (w : World) (g : Nat) (R : RowsM) (b : Nat) (l : MsgT) (r : Rows5) : Prop where
  bx : Bl w b 47 (cellsM l r).toArray
  fr : Free g R b
  rows : MsgR (Free g R) w l r
theorem BoxL.stp {w w' : World} {g : Nat} {R R' : RowsM} {b : Nat} {l : MsgT} {r : Rows5} (h : BoxL w g R b l r) (hs : Stp w w' g R R') : BoxL w' g R' b l r :=
  ⟨(hs.bl h.bx h.fr).1, (hs.bl h.bx h.fr).2, h.rows.move hs.moves⟩

set_option maxHeartbeats 4000000 in
theorem take_ok (w : World) (g : Nat) (s : StT) (R : RowsM) (h : MemR w g s R) (hk : Rk s.r) (v : Value) (l : MsgT) (hl : MsgX (Free g R) w v l) (hlk : LetterOk s l) (hn : s.out.length ≤ 380) :
    Calls Try.prog 41 #[.pointer (some ⟨g, 0, none⟩), v] w (MbPost w g R (takeS l s)) := by
  obtain ⟨r, rfl, hr⟩ := hl
  obtain ⟨W1, hW1⟩ : ∃ W1, w.alloc (.cells (cellsM l r).toArray 47) = W1 := ⟨_, rfl⟩
  have hB := h.box (cellsM l r).toArray 47
  have hb1 : Bl W1 w.heap.size 47 (cellsM l r).toArray := by rw [← hW1]; exact Bl.new _ _ _
  have hg1 : Gr w W1 := by rw [← hW1]; exact (Gr.refl _).alloc _
  rw [hW1] at hB
  obtain ⟨b, hb⟩ : ∃ b, w.heap.size = b := ⟨_, rfl⟩
  rw [hb] at hb1
  have HBX := hide (show BoxL W1 g R b l r from ⟨hb1, by rw [← hb]; exact h.free_new, hr.move (Moves.of_gr hg1)⟩)
  obtain ⟨tm, htm⟩ : ∃ tm, s.r.term = tm := ⟨_, rfl⟩
  obtain ⟨lt, hlt⟩ : ∃ lt, l.term = lt := ⟨_, rfl⟩
  have b4 : W1.cell? ⟨b, 4, none⟩ = some (.int .i64 lt) := by rw [← hlt]; exact hb1.cell 4
  have c3 : W1.cell? ⟨g, 3, none⟩ = some (.int .i64 tm) := by rw [← htm]; exact hB.1.cell 3
  obtain ⟨S1, hS1⟩ : ∃ S1, turnS l s = S1 := ⟨_, rfl⟩
  have HS1 := hide (show S1 = if tm < lt then { s with r := turnR lt s.r } else s by rw [← hS1, ← htm, ← hlt]; rfl)
  have HTU := hide (fun W (hW : MemR W g s R) => turn_ok W g s R hW hk lt)
  have htm0 := hk.term
  rw [htm] at htm0
  have HK1 := hide (show Rk S1.r by
    rw [HS1.out]
    split
    · exact hk.turn (by omega) (by rw [← hlt]; exact hlk.term)
    · exact hk)
  have HO1 := hide (show S1.out = s.out by rw [HS1.out]; split <;> rfl)
  have HL1 := hide (show LetterOk S1 l from ⟨by rw [HS1.out]; split <;> exact hlk.frm, hlk.term, hlk.index, hlk.len, hlk.bnd⟩)
  have HY := hide (show takeS l s = if lt < S1.r.term then lateS l S1 else nowS l S1 by rw [← hS1, ← hlt]; rfl)
  have HM := hide hB.1
  have HT := hide hB.2.1
  simp only [cellsM, hlt] at hW1 ⊢
  clear h hr hB hg1 hk hlk hb1
  go_enter Try.func41, Try.ntmps41
  go_upto_region 1 with (fail)
  clear hW1
  go_quiet (fail)
  go_upto_if 13 with (fail)
  obtain ⟨bt, hbt⟩ : ∃ bt, decide (tm < lt) = bt := ⟨_, rfl⟩
  rw [hbt]
  go_cut [] from 14 to 17 (fun wx => Hid (MemR wx g S1 R ∧ Stp w wx g R R ∧ BoxL wx g R b l r))
  case first =>
    cases bt
    · have hgt : ¬ tm < lt := of_decide_eq_false hbt
      have HS2 := hide (HS1.out.trans (if_neg hgt))
      clear hbt hgt
      go_wp2_with fail
      go_meet
      exact ⟨by rw [HS2.out]; exact HM.out.gr ((Gr.refl W1).drewN nq), HT.out.trans (Stp.of_gr ((Gr.refl W1).drewN nq)), HBX.out.stp (Stp.of_gr ((Gr.refl W1).drewN nq))⟩
    · have hgt : tm < lt := of_decide_eq_true hbt
      have HS2 := hide (HS1.out.trans (if_pos hgt))
      clear hbt hgt
      go_wp2_with fail
      refine (HTU.out (W1.drewN nq) (HM.out.gr ((Gr.refl W1).drewN nq))).mono ?_
      rintro e w2 ⟨rfl, h1, h2⟩
      have H1 := hide h1
      have H2 := hide ((Stp.of_gr ((Gr.refl W1).drewN nq)).trans h2)
      clear h1 h2
      go_wp2_with fail
      go_meet
      exact ⟨by rw [HS2.out]; exact H1.out, HT.out.trans H2.out, HBX.out.stp H2.out⟩
  case rest =>
    have HX := hide (show MsgX (Free g R) wc (.agg (cellsM l r).toArray) l from ⟨r, rfl, hcut.out.2.2.rows⟩)
    have HM2 := hide hcut.out.1
    have HT2 := hide hcut.out.2.1
    have HB2 := hide hcut.out.2.2.bx
    clear hcut b4 c3 HM HT HBX HTU HS1 hbt
    obtain ⟨t1, ht1⟩ : ∃ t1, S1.r.term = t1 := ⟨_, rfl⟩
    rw [ht1] at HY
    obtain ⟨kd, hkd⟩ : ∃ kd, l.kind = kd := ⟨_, rfl⟩
    have HYL := hide (show lateS l S1 = if kd = 1 then sendS l.frm { noMsg with kind := 2 } S1 else if kd = 3 then sendS l.frm { noMsg with kind := 4 } S1 else S1 by rw [← hkd]; rfl)
    have HYN := hide (show nowS l S1 = if kd = 1 then judgeS l S1 else if kd = 2 then voteS l S1 else if kd = 3 then entriesS l S1 else if kd = 4 then appendedS l S1 else S1 by rw [← hkd]; rfl)
    have b0 : wc.cell? ⟨b, 0, none⟩ = some (.int .i64 kd) := by rw [← hkd]; exact HB2.out.cell 0
    have b4 : wc.cell? ⟨b, 4, none⟩ = some (.int .i64 lt) := by rw [← hlt]; exact HB2.out.cell 4
    have c3 : wc.cell? ⟨g, 3, none⟩ = some (.int .i64 t1) := by rw [← ht1]; exact HM2.out.cell 3
    have HBK := hide (byKind_ok kd wc)
    obtain ⟨D, hD⟩ : ∃ D, (cellsM l r).toArray = D := ⟨_, rfl⟩
    have HDS := hide (show some D.size = some 24 by rw [← hD]; rfl)
    rw [hD] at HB2
    have HPO := hide (fun W => passOver_ok W g (.agg (cellsM l r).toArray) l r rfl)
    rw [hD] at HPO HX
    clear hD
    by_cases h1 : kd = 1
    · subst h1
      have HLV : lateV 1 = .func (.func 66) #[] #[] := by unfold lateV plainV; simp
      have HNV : nowV 1 = .func (.func 67) #[] #[] := by unfold nowV plainV; simp
      rw [HLV, HNV] at HBK
      clear HLV HNV
      go_wp2_with fail
      refine HBK.out.mono ?_
      rintro e w2 ⟨rfl, rfl⟩
      go_wp2_with fail
      go_quiet (fail)
      have HM3 := hide (HM2.out.gr ((Gr.refl _).drewN nq))
      have HT3 := hide (HT2.out.trans (Stp.of_gr ((Gr.refl _).drewN nq)))
      have HB3 : Hid (Bl (World.drewN _ nq) b 47 D) := HB2
      have HX3 := hide (HX.out.gr ((Gr.refl _).drewN nq))
      clear HM2 HT2 HB2 HX HBK b0 b4 c3
      generalize World.drewN _ nq = wq at *
      by_cases hlt2 : lt < t1
      · have HYF : Hid (takeS l s = sendS l.frm { noMsg with kind := 2 } S1) := by unfold Hid; rw [HY.out, if_pos hlt2, HYL.out]; simp
        clear HYL HYN HY
        have HP := hide (denyVote_ok wq g S1 R HM3.out _ l (show MsgX (Free g R) wq _ l from HX3.out) (by rw [HO1.out]; exact hn))
        rw [← HYF.out] at HP
        go_upto_region 5 with (fail)
        refine wp_region_list ?_
        rw [List.toList_toArray]
        refine wpList_val (.func (.func 66) #[] #[]) rfl rfl ?_
        refine wpList_val (.pointer (some ⟨g, 0, none⟩)) rfl rfl ?_
        refine wpList_val (.agg D) rfl (exec_box rfl rfl HB3.out Try.underlying47 rfl (by rw [HDS.out]; kernel_rfl)) ?_
        simp only [Act.put, List.setIfInBounds_toArray, List.set_cons_zero, List.set_cons_succ]
        go_wp2_with fail
        refine HP.out.mono ?_
        rintro e w3 ⟨rfl, R', h1, h2⟩
        have H1 := hide h1
        have H2 := hide (HT3.out.trans h2)
        clear h1 h2
        go_wp2_with fail
        go_end0
        exact ⟨rfl, R', H1.out, H2.out⟩
      · have HYF : Hid (takeS l s = judgeS l S1) := by unfold Hid; rw [HY.out, if_neg hlt2, HYN.out]; simp
        clear HYL HYN HY
        have HP := hide (judge_ok wq g S1 R HM3.out HK1.out _ l (show MsgX (Free g R) wq _ l from HX3.out) (by rw [HO1.out]; exact hn))
        rw [← HYF.out] at HP
        go_upto_region 6 with (fail)
        refine wp_region_list ?_
        rw [List.toList_toArray]
        refine wpList_val (.func (.func 67) #[] #[]) rfl rfl ?_
        refine wpList_val (.pointer (some ⟨g, 0, none⟩)) rfl rfl ?_
        refine wpList_val (.agg D) rfl (exec_box rfl rfl HB3.out Try.underlying47 rfl (by rw [HDS.out]; kernel_rfl)) ?_
        simp only [Act.put, List.setIfInBounds_toArray, List.set_cons_zero, List.set_cons_succ]
        go_wp2_with fail
        refine HP.out.mono ?_
        rintro e w3 ⟨rfl, R', h1, h2⟩
        have H1 := hide h1
        have H2 := hide (HT3.out.trans h2)
        clear h1 h2
        go_wp2_with fail
        go_end0
        exact ⟨rfl, R', H1.out, H2.out⟩
    by_cases h2 : kd = 2
    · subst h2
      have HLV : lateV 2 = .func (.func 55) #[] #[] := by unfold lateV plainV; simp
      have HNV : nowV 2 = .func (.func 68) #[] #[] := by unfold nowV plainV; simp
      rw [HLV, HNV] at HBK
      clear HLV HNV
      go_wp2_with fail
      refine HBK.out.mono ?_
      rintro e w2 ⟨rfl, rfl⟩
      go_wp2_with fail
      go_quiet (fail)
      have HM3 := hide (HM2.out.gr ((Gr.refl _).drewN nq))
      have HT3 := hide (HT2.out.trans (Stp.of_gr ((Gr.refl _).drewN nq)))
      have HB3 : Hid (Bl (World.drewN _ nq) b 47 D) := HB2
      have HX3 := hide (HX.out.gr ((Gr.refl _).drewN nq))
      clear HM2 HT2 HB2 HX HBK b0 b4 c3
      generalize World.drewN _ nq = wq at *
      by_cases hlt2 : lt < t1
      · have HYF : Hid (takeS l s = S1) := by unfold Hid; rw [HY.out, if_pos hlt2, HYL.out]; simp
        clear HYL HYN HY
        have HP := hide (HPO.out wq)
        go_upto_region 5 with (fail)
        refine wp_region_list ?_
        rw [List.toList_toArray]
        refine wpList_val (.func (.func 55) #[] #[]) rfl rfl ?_
        refine wpList_val (.pointer (some ⟨g, 0, none⟩)) rfl rfl ?_
        refine wpList_val (.agg D) rfl (exec_box rfl rfl HB3.out Try.underlying47 rfl (by rw [HDS.out]; kernel_rfl)) ?_
        simp only [Act.put, List.setIfInBounds_toArray, List.set_cons_zero, List.set_cons_succ]
        go_wp2_with fail
        refine HP.out.mono ?_
        rintro e w3 ⟨rfl, hg3⟩
        have H1 := hide (HM3.out.gr hg3)
        have H2 := hide (HT3.out.trans (Stp.of_gr hg3))
        clear hg3
        go_wp2_with fail
        go_end0
        exact ⟨rfl, R, by rw [HYF.out]; exact H1.out, H2.out⟩
      · have HYF : Hid (takeS l s = voteS l S1) := by unfold Hid; rw [HY.out, if_neg hlt2, HYN.out]; simp
        clear HYL HYN HY
        have HP := hide (takeVote_ok wq g S1 R HM3.out HK1.out _ l (show MsgX (Free g R) wq _ l from HX3.out) HL1.out.frm HL1.out.index HL1.out.len HL1.out.bnd (by rw [HO1.out]; exact hn))
        rw [← HYF.out] at HP
        go_upto_region 6 with (fail)
        refine wp_region_list ?_
        rw [List.toList_toArray]
        refine wpList_val (.func (.func 68) #[] #[]) rfl rfl ?_
        refine wpList_val (.pointer (some ⟨g, 0, none⟩)) rfl rfl ?_
        refine wpList_val (.agg D) rfl (exec_box rfl rfl HB3.out Try.underlying47 rfl (by rw [HDS.out]; kernel_rfl)) ?_
        simp only [Act.put, List.setIfInBounds_toArray, List.set_cons_zero, List.set_cons_succ]
        go_wp2_with fail
        refine HP.out.mono ?_
        rintro e w3 ⟨rfl, R', h1, h2⟩
        have H1 := hide h1
        have H2 := hide (HT3.out.trans h2)
        clear h1 h2
        go_wp2_with fail
        go_end0
        exact ⟨rfl, R', H1.out, H2.out⟩
    by_cases h3 : kd = 3
    · subst h3
      have HLV : lateV 3 = .func (.func 69) #[] #[] := by unfold lateV plainV; simp
      have HNV : nowV 3 = .func (.func 70) #[] #[] := by unfold nowV plainV; simp
      rw [HLV, HNV] at HBK
      clear HLV HNV
      go_wp2_with fail
      refine HBK.out.mono ?_
      rintro e w2 ⟨rfl, rfl⟩
      go_wp2_with fail
      go_quiet (fail)
      have HM3 := hide (HM2.out.gr ((Gr.refl _).drewN nq))
      have HT3 := hide (HT2.out.trans (Stp.of_gr ((Gr.refl _).drewN nq)))
      have HB3 : Hid (Bl (World.drewN _ nq) b 47 D) := HB2
      have HX3 := hide (HX.out.gr ((Gr.refl _).drewN nq))
      clear HM2 HT2 HB2 HX HBK b0 b4 c3
      generalize World.drewN _ nq = wq at *
      by_cases hlt2 : lt < t1
      · have HYF : Hid (takeS l s = sendS l.frm { noMsg with kind := 4 } S1) := by unfold Hid; rw [HY.out, if_pos hlt2, HYL.out]; simp
        clear HYL HYN HY
        have HP := hide (denyEntries_ok wq g S1 R HM3.out _ l (show MsgX (Free g R) wq _ l from HX3.out) (by rw [HO1.out]; exact hn))
        rw [← HYF.out] at HP
        go_upto_region 5 with (fail)
        refine wp_region_list ?_
        rw [List.toList_toArray]
        refine wpList_val (.func (.func 69) #[] #[]) rfl rfl ?_
        refine wpList_val (.pointer (some ⟨g, 0, none⟩)) rfl rfl ?_
        refine wpList_val (.agg D) rfl (exec_box rfl rfl HB3.out Try.underlying47 rfl (by rw [HDS.out]; kernel_rfl)) ?_
        simp only [Act.put, List.setIfInBounds_toArray, List.set_cons_zero, List.set_cons_succ]
        go_wp2_with fail
        refine HP.out.mono ?_
        rintro e w3 ⟨rfl, R', h1, h2⟩
        have H1 := hide h1
        have H2 := hide (HT3.out.trans h2)
        clear h1 h2
        go_wp2_with fail
        go_end0
        exact ⟨rfl, R', H1.out, H2.out⟩
      · have HYF : Hid (takeS l s = entriesS l S1) := by unfold Hid; rw [HY.out, if_neg hlt2, HYN.out]; simp
        clear HYL HYN HY
        have HP := hide (takeEntries_ok wq g S1 R HM3.out HK1.out _ l (show MsgX (Free g R) wq _ l from HX3.out) HL1.out.frm HL1.out.index HL1.out.len HL1.out.bnd (by rw [HO1.out]; exact hn))
        rw [← HYF.out] at HP
        go_upto_region 6 with (fail)
        refine wp_region_list ?_
        rw [List.toList_toArray]
        refine wpList_val (.func (.func 70) #[] #[]) rfl rfl ?_
        refine wpList_val (.pointer (some ⟨g, 0, none⟩)) rfl rfl ?_
        refine wpList_val (.agg D) rfl (exec_box rfl rfl HB3.out Try.underlying47 rfl (by rw [HDS.out]; kernel_rfl)) ?_
        simp only [Act.put, List.setIfInBounds_toArray, List.set_cons_zero, List.set_cons_succ]
        go_wp2_with fail
        refine HP.out.mono ?_
        rintro e w3 ⟨rfl, R', h1, h2⟩
        have H1 := hide h1
        have H2 := hide (HT3.out.trans h2)
        clear h1 h2
        go_wp2_with fail
        go_end0
        exact ⟨rfl, R', H1.out, H2.out⟩
    by_cases h4 : kd = 4
    · subst h4
      have HLV : lateV 4 = .func (.func 55) #[] #[] := by unfold lateV plainV; simp
      have HNV : nowV 4 = .func (.func 71) #[] #[] := by unfold nowV plainV; simp
      rw [HLV, HNV] at HBK
      clear HLV HNV
      go_wp2_with fail
      refine HBK.out.mono ?_
      rintro e w2 ⟨rfl, rfl⟩
      go_wp2_with fail
      go_quiet (fail)
      have HM3 := hide (HM2.out.gr ((Gr.refl _).drewN nq))
      have HT3 := hide (HT2.out.trans (Stp.of_gr ((Gr.refl _).drewN nq)))
      have HB3 : Hid (Bl (World.drewN _ nq) b 47 D) := HB2
      have HX3 := hide (HX.out.gr ((Gr.refl _).drewN nq))
      clear HM2 HT2 HB2 HX HBK b0 b4 c3
      generalize World.drewN _ nq = wq at *
      by_cases hlt2 : lt < t1
      · have HYF : Hid (takeS l s = S1) := by unfold Hid; rw [HY.out, if_pos hlt2, HYL.out]; simp
        clear HYL HYN HY
        have HP := hide (HPO.out wq)
        go_upto_region 5 with (fail)
        refine wp_region_list ?_
        rw [List.toList_toArray]
        refine wpList_val (.func (.func 55) #[] #[]) rfl rfl ?_
        refine wpList_val (.pointer (some ⟨g, 0, none⟩)) rfl rfl ?_
        refine wpList_val (.agg D) rfl (exec_box rfl rfl HB3.out Try.underlying47 rfl (by rw [HDS.out]; kernel_rfl)) ?_
        simp only [Act.put, List.setIfInBounds_toArray, List.set_cons_zero, List.set_cons_succ]
        go_wp2_with fail
        refine HP.out.mono ?_
        rintro e w3 ⟨rfl, hg3⟩
        have H1 := hide (HM3.out.gr hg3)
        have H2 := hide (HT3.out.trans (Stp.of_gr hg3))
        clear hg3
        go_wp2_with fail
        go_end0
        exact ⟨rfl, R, by rw [HYF.out]; exact H1.out, H2.out⟩
      · have HYF : Hid (takeS l s = appendedS l S1) := by unfold Hid; rw [HY.out, if_neg hlt2, HYN.out]; simp
        clear HYL HYN HY
        have HP := hide (takeAppended_ok wq g S1 R HM3.out HK1.out _ l (show MsgX (Free g R) wq _ l from HX3.out) HL1.out.frm HL1.out.index HL1.out.len HL1.out.bnd (by rw [HO1.out]; exact hn))
        rw [← HYF.out] at HP
        go_upto_region 6 with (fail)
        refine wp_region_list ?_
        rw [List.toList_toArray]
        refine wpList_val (.func (.func 71) #[] #[]) rfl rfl ?_
        refine wpList_val (.pointer (some ⟨g, 0, none⟩)) rfl rfl ?_
        refine wpList_val (.agg D) rfl (exec_box rfl rfl HB3.out Try.underlying47 rfl (by rw [HDS.out]; kernel_rfl)) ?_
        simp only [Act.put, List.setIfInBounds_toArray, List.set_cons_zero, List.set_cons_succ]
        go_wp2_with fail
        refine HP.out.mono ?_
        rintro e w3 ⟨rfl, R', h1, h2⟩
        have H1 := hide h1
        have H2 := hide (HT3.out.trans h2)
        clear h1 h2
        go_wp2_with fail
        go_end0
        exact ⟨rfl, R', H1.out, H2.out⟩
    have HLV : lateV kd = .func (.func 55) #[] #[] := by unfold lateV plainV; simp [h1, h3]
    have HNV : nowV kd = .func (.func 55) #[] #[] := by unfold nowV plainV; simp [h1, h2, h3, h4]
    rw [HLV, HNV] at HBK
    clear HLV HNV
    go_wp2_with fail
    refine HBK.out.mono ?_
    rintro e w2 ⟨rfl, rfl⟩
    go_wp2_with fail
    go_quiet (fail)
    have HM3 := hide (HM2.out.gr ((Gr.refl _).drewN nq))
    have HT3 := hide (HT2.out.trans (Stp.of_gr ((Gr.refl _).drewN nq)))
    have HB3 : Hid (Bl (World.drewN _ nq) b 47 D) := HB2
    have HX3 := hide (HX.out.gr ((Gr.refl _).drewN nq))
    clear HM2 HT2 HB2 HX HBK b0 b4 c3
    generalize World.drewN _ nq = wq at *
    by_cases hlt2 : lt < t1
    · have HYF : Hid (takeS l s = S1) := by unfold Hid; rw [HY.out, if_pos hlt2, HYL.out]; simp [h1, h3]
      clear HYL HYN HY
      have HP := hide (HPO.out wq)
      go_upto_region 5 with (fail)
      refine wp_region_list ?_
      rw [List.toList_toArray]
      refine wpList_val (.func (.func 55) #[] #[]) rfl rfl ?_
      refine wpList_val (.pointer (some ⟨g, 0, none⟩)) rfl rfl ?_
      refine wpList_val (.agg D) rfl (exec_box rfl rfl HB3.out Try.underlying47 rfl (by rw [HDS.out]; kernel_rfl)) ?_
      simp only [Act.put, List.setIfInBounds_toArray, List.set_cons_zero, List.set_cons_succ]
      go_wp2_with fail
      refine HP.out.mono ?_
      rintro e w3 ⟨rfl, hg3⟩
      have H1 := hide (HM3.out.gr hg3)
      have H2 := hide (HT3.out.trans (Stp.of_gr hg3))
      clear hg3
      go_wp2_with fail
      go_end0
      exact ⟨rfl, R, by rw [HYF.out]; exact H1.out, H2.out⟩
    · have HYF : Hid (takeS l s = S1) := by unfold Hid; rw [HY.out, if_neg hlt2, HYN.out]; simp [h1, h2, h3, h4]
      clear HYL HYN HY
      have HP := hide (HPO.out wq)
      go_upto_region 6 with (fail)
      refine wp_region_list ?_
      rw [List.toList_toArray]
      refine wpList_val (.func (.func 55) #[] #[]) rfl rfl ?_
      refine wpList_val (.pointer (some ⟨g, 0, none⟩)) rfl rfl ?_
      refine wpList_val (.agg D) rfl (exec_box rfl rfl HB3.out Try.underlying47 rfl (by rw [HDS.out]; kernel_rfl)) ?_
      simp only [Act.put, List.setIfInBounds_toArray, List.set_cons_zero, List.set_cons_succ]
      go_wp2_with fail
      refine HP.out.mono ?_
      rintro e w3 ⟨rfl, hg3⟩
      have H1 := hide (HM3.out.gr hg3)
      have H2 := hide (HT3.out.trans (Stp.of_gr hg3))
      clear hg3
      go_wp2_with fail
      go_end0
      exact ⟨rfl, R, by rw [HYF.out]; exact H1.out, H2.out⟩

end Go.Proofs.Ythpaoeiackbdoaa
