/-
  Propose.
-/
import Derived.Test.YthpaoeiackbdoaaRfTick
import Derived.Test.YthpaoeiackbdoaaBaseF
namespace Go.Proofs.Ythpaoeiackbdoaa.Mine
open Go Go.RowKit Go.Proofs.Ythpaoeiackbdoaa
set_option maxRecDepth 100000
section
variable {P : Program} {ops : Array Oper} {w0 : World} {n0 : Nat} {Q : (Tmp → Known) → Tmp → Known → Prop} {o : Oper} {rest : List Oper} {K : Tmp → Known} {Φ : Known} {c : Tmp} {C : Known} {I : World → Option Nat → Prop}
theorem guard_wanted {g t : Nat} {x : Bool} {J : World → Option Nat → Prop} (hg : o.guard = some (g, true)) (ht : ((ops[g]?).bind (·.dst)) = some t) (hk : K t = Wk J (.bool x)) (htn : t < n0) {a : Act} {w : World} {ob : Option Nat} (hs : a.tmps.size = n0) (hl : ∀ t, (o.looksAt ops).contains t = true → K t (a.tmps.getD t undef) w ob) : Region.wanted o (yielded ops a.tmps) = x := by
  have h := hl t (by simp [Oper.looksAt, hg, ht])
  rw [hk] at h
  have h1 : a.tmps.getD t undef = .bool x := h.1
  have h2 : a.tmps[t]? = some (.bool x) := by
    have : t < a.tmps.size := by rw [hs]; exact htn
    simp [this] at h1 ⊢
    exact h1
  have hy : yielded ops a.tmps g = some x := by
    unfold yielded
    rw [ht]
    simp [h2]
  unfold Region.wanted
  simp only [hg, hy]
  cases x <;> rfl
theorem g_skip {g t : Nat} {J : World → Option Nat → Prop} (hg : o.guard = some (g, true)) (ht : ((ops[g]?).bind (·.dst)) = some t) (hk : K t = Wk J (.bool false)) (htn : t < n0) (hd : o.dst ≠ some c) (h : wpMine P ops w0 n0 Q rest (upd K o.dst (Is undef)) c C) : wpMine P ops w0 n0 Q (o :: rest) K c C :=
  .inl ⟨Is undef, fun _ => Is.stays _, hd, fun a w ob ob0 _ _ hs hl => by
    rw [guard_wanted hg ht hk htn hs hl, if_neg (by simp)], h⟩
theorem g_step {g t : Nat} {J : World → Option Nat → Prop} (hg : o.guard = some (g, true)) (ht : ((ops[g]?).bind (·.dst)) = some t) (hk : K t = Wk J (.bool true)) (htn : t < n0) (hd : o.dst ≠ some c) (hst : Stays Φ) (hdo : ∀ a w ob, Wf w ob → w0.heap.size ≤ w.heap.size → (∀ t, (o.looksAt ops).contains t = true → K t (a.tmps.getD t undef) w ob) → does P o a w ob Φ)
    (h : wpMine P ops w0 n0 Q rest (upd K o.dst Φ) c C) : wpMine P ops w0 n0 Q (o :: rest) K c C :=
  .inl ⟨Φ, fun _ => hst, hd, fun a w ob ob0 hrs hwf hs hl => by
    rw [guard_wanted hg ht hk htn hs hl, if_pos rfl]
    exact hdo a w ob hwf hrs.gb.size hl, h⟩
theorem g_wk1 {g t : Nat} {J : World → Option Nat → Prop} {x : Operand} {z : Value} (z' : Value) (hI : PayR I) (hg : o.guard = some (g, true)) (ht : ((ops[g]?).bind (·.dst)) = some t) (hk : K t = Wk J (.bool true)) (htn : t < n0) (hd : o.dst ≠ some c) (hxo : x ∈ o.op.operands) (hx : Kn K x (Wk I z)) (hr : ∀ (a : Act) (w : World) (ob : Option Nat), a.eval x = z → I w ob → (execOp a.eval o).run P w = .ok (.value z') w)
    (h : wpMine P ops w0 n0 Q rest (upd K o.dst (Wk I z')) c C) : wpMine P ops w0 n0 Q (o :: rest) K c C := by
  refine g_step hg ht hk htn hd (Wk.stays hI z') (fun a w ob _ _ hl => ?_) h
  have h1 : a.eval x = z ∧ I w ob := looks_op (Ψ := Wk I z) hxo hx hl
  unfold does
  rw [hr a w ob h1.1 h1.2]
  exact ⟨Gr.refl w, rfl, h1.2⟩
theorem g_call1 {g t : Nat} {J : World → Option Nat → Prop} {f : FuncId} {x : Operand} {ats : Array TypeId} {fn : Func} {Ψ : Known} (ho : o.op = .call { callee := .value (.func f), args := #[x], argTypes := ats }) (hg : o.guard = some (g, true)) (ht : ((ops[g]?).bind (·.dst)) = some t) (hk : K t = Wk J (.bool true)) (htn : t < n0) (hd : o.dst ≠ some c) (hf : P.funcs[f]? = some fn) (hn : (fn.name == "runtime.NumGoroutine") = false) (hb : fn.body.isNone = false)
    (hst : Stays Φ) (hx : Kn K x Ψ) (hc : ∀ v w ob, Wf w ob → w0.heap.size ≤ w.heap.size → Ψ v w ob → Calls P f #[v] w fun en w' => ∃ u, en = .returned u ∧ Gr w w' ∧ Φ u w' ob) (h : wpMine P ops w0 n0 Q rest (upd K o.dst Φ) c C) : wpMine P ops w0 n0 Q (o :: rest) K c C := by
  refine g_step hg ht hk htn hd hst (fun a w ob hwf hsz hl => ?_) h
  have h1 : Ψ (a.eval x) w ob := looks_op (Ψ := Ψ) (by simp [ho, Op.operands, Call.operands]) hx hl
  obtain ⟨dst, op, ty, pos, after, guard⟩ := o
  simp only at ho
  subst ho
  unfold does
  rw [execOp_call_go, Grow.enters hf hn hb]
  refine ⟨Gr.refl w, ?_⟩
  simp only [List.map_toArray, List.map_cons, List.map_nil]
  exact hc _ w ob hwf hsz h1
end
end Go.Proofs.Ythpaoeiackbdoaa.Mine
namespace Go.Proofs.Ythpaoeiackbdoaa
open Go Go.RowKit TxnMath KeyMath MsgMath BalMath RfMath
set_option maxRecDepth 100000

/-- a member beside the boxes of a call's arguments -/
structure MemB (wS : World) (g : Nat) (s : StT) (R : RowsM) (b : Nat) (D E : Array Value) (w : World) (ob : Option Nat) : Prop where
  m : MemP g s R w ob
  b1 : Bl w b 28 D
  b2 : Bl w (b + 1) 38 E
  n1 : some b ≠ ob
  n2 : some (b + 1) ≠ ob
  rs : Mine.RS wS none w ob
theorem MemB.gr {wS : World} {g : Nat} {s : StT} {R : RowsM} {b : Nat} {D E : Array Value} {w : World} {ob : Option Nat} (h : MemB wS g s R b D E w ob) : Gr wS w := ⟨h.rs.gb.os, h.rs.gb.tape, h.rs.gb.output, h.rs.gb.size, fun k hk => h.rs.gb.block k hk (by simp)⟩
theorem MemB.pay (wS : World) (g : Nat) (s : StT) (R : RowsM) (b : Nat) (D E : Array Value) : PayR (MemB wS g s R b D E) := fun w ob w' ob' h hr => by
  have hne : ∀ j, j < w.heap.size → some j ≠ ob → some j ≠ ob' := fun j hj hx => by
    rcases hr.at_ with e | ⟨k, e, hk⟩
    · rw [e]; exact hx
    · rw [e]; intro e2; injection e2 with e2; omega
  exact ⟨MemP.pay g s R _ _ _ _ h.m hr, (hr.gb.block _ h.b1.lt h.n1).trans h.b1, (hr.gb.block _ h.b2.lt h.n2).trans h.b2, hne _ h.b1.lt h.n1, hne _ h.b2.lt h.n2, h.rs.trans hr⟩
theorem exec_field4 {ev : Operand → Value} {o : Oper} {x : Operand} (a b c d e : Value) (ho : o.op = .field 86 x 4) (hx : ev x = .agg #[a, b, c, d, e]) (w : World) : (execOp ev o).run Try.prog w = .ok (.value e) w := by
  have hr : (Instr.field 86 (.agg #[a, b, c, d, e]) 4).run Try.prog w = .ok e w := by kernel_rfl
  unfold execOp
  simp only [ho, hx]
  rw [Sem.run_bind, hr]
  rfl
theorem refuse_ok (w : World) (g : Nat) (e : EntT) (p : Value × Value) : Calls Try.prog 61 #[.pointer (some ⟨g, 0, none⟩), .agg (entC e p).toArray] w fun en w' => en = .returned (.bool false) ∧ Gr w w' := by
  have HG := hide ((Gr.refl w).alloc (.cells (entC e p).toArray 38))
  simp only [entC] at HG ⊢
  go_enter Try.func61, Try.ntmps61
  go_wp2_with fail
  go_ret
  exact ⟨rfl, HG.out⟩

set_option maxHeartbeats 2000000 in
theorem Propose_ok (w : World) (r : RaftT) (R0 : RowsM) (h : RaftR Any w r R0) (hs : RfGood r) (e : EntT) (p : Value × Value) (hp : RowsX Any w e.t p) (he : EntBnd e) :
    Calls Try.prog 30 #[.agg (rfC r R0).toArray, .agg (entC e p).toArray] w fun en w' => ∃ v u, en = .returned (.tuple #[v, u, .bool (propB r)]) ∧ TurnX w w' (propT r e) v u := by
  have hp0 : RowsX (fun j => j < w.heap.size) w e.t p := hp.move (Moves.same fun j hj _ => hj)
  obtain ⟨W1, hW1⟩ : ∃ W1, ((w.alloc (.cells (rfC r R0).toArray 28)).alloc (.cells (entC e p).toArray 38)).alloc (.cells #[.int .i64 0, .int .i64 0, .int .i64 0, .int .i64 0, .int .i64 0, .slice none 0 0, .int .i64 0, .int .i64 0, .int .i64 0, .slice none 0 0, .slice none 0 0, .slice none 0 0, .int .i64 0] 28) = W1 := ⟨_, rfl⟩
  have hg1 : Gr w W1 := by rw [← hW1]; exact (((Gr.refl _).alloc _).alloc _).alloc _
  have hb1 : Bl W1 w.heap.size 28 (rfC r R0).toArray := by rw [← hW1]; exact (Bl.new _ _ _).gr (((Gr.refl _).alloc _).alloc _)
  have hbl : Bl W1 (w.heap.size + 1) 38 (entC e p).toArray := by
    rw [← hW1]
    have := (Bl.new (w.alloc (.cells (rfC r R0).toArray 28)) 38 (entC e p).toArray).gr ((Gr.refl _).alloc (.cells #[.int .i64 0, .int .i64 0, .int .i64 0, .int .i64 0, .int .i64 0, .slice none 0 0, .int .i64 0, .int .i64 0, .int .i64 0, .slice none 0 0, .slice none 0 0, .slice none 0 0, .int .i64 0] 28))
    simpa using this
  have hb2 : Bl W1 (w.heap.size + 2) 28 #[.int .i64 0, .int .i64 0, .int .i64 0, .int .i64 0, .int .i64 0, .slice none 0 0, .int .i64 0, .int .i64 0, .int .i64 0, .slice none 0 0, .slice none 0 0, .slice none 0 0, .int .i64 0] := by
    rw [← hW1]
    have := Bl.new ((w.alloc (.cells (rfC r R0).toArray 28)).alloc (.cells (entC e p).toArray 38)) 28 #[.int .i64 0, .int .i64 0, .int .i64 0, .int .i64 0, .int .i64 0, .slice none 0 0, .int .i64 0, .int .i64 0, .int .i64 0, .slice none 0 0, .slice none 0 0, .slice none 0 0, .int .i64 0]
    simpa using this
  obtain ⟨b, hb⟩ : ∃ b, w.heap.size = b := ⟨_, rfl⟩
  rw [hb] at hb1 hb2 hbl
  have hb2l := hb2.lt
  have HMO := hide (memberOf_ok W1 r R0 (h.gr hg1) hs.toRfSz)
  have HMA := hide (fun W (hW : Gr w W) => May_ok W r R0 (h.gr hW) hs.toRfSz)
  obtain ⟨ok, hok⟩ : ∃ ok, mayR r = ok := ⟨_, rfl⟩
  rw [hok] at HMA
  obtain ⟨D, hD⟩ : ∃ D, (rfC r R0).toArray = D := ⟨_, rfl⟩
  obtain ⟨E, hE⟩ : ∃ E, (entC e p).toArray = E := ⟨_, rfl⟩
  have HDS := hide (show some D.size = some 13 by rw [← hD]; rfl)
  have HES := hide (show some E.size = some 6 by rw [← hE]; rfl)
  have HB1 := hide hb1
  have HBL := hide hbl
  rw [hD] at HB1 HMO HMA
  rw [hE] at HBL
  have HRK := hide (fun (e : ok = true) => rk_of_may (hok.trans e) hs)
  have HT : Hid (propT r e = if ok = true then proposeS e ⟨r, []⟩ else ⟨r, []⟩) := by unfold Hid propT; rw [hok]
  have HTB : Hid (propB r = (ok && (decide (r.role = 2) && !fullR r))) := by unfold Hid propB proposeB; rw [hok]
  have HX := hide (fun (g : Nat) (R : RowsM) W (hW : Gr w W) (hf : ∀ j, Foot g R j → W1.heap.size ≤ j) => show RowsX (Free g R) W e.t p from hp0.move fun j hj hx => ⟨hW.block j hj, fun hf2 => by have := hf j hf2; have := hg1.size; omega⟩)
  have HRF := hide (fun W g => refuse_ok W g e p)
  rw [hE] at HRF
  have HAD := hide (fun W g R (hM : MemR W g ⟨r, []⟩ R) (hk : Rk r) (hX : RowsX (Free g R) W e.t p) => add_ok W g ⟨r, []⟩ R hM hk e p hX he (by show (0 : Nat) ≤ 400; omega))
  rw [hE] at HAD
  simp only [rfC, entC] at hW1 ⊢
  go_enter Try.func30, Try.ntmps30
  go_upto_region 1 with (fail)
  clear hW1 hD hE h hs hok hp hp0
  refine wp_region_list ?_
  rw [List.toList_toArray]
  refine wpList_val (.agg D) rfl (exec_box rfl rfl HB1.out Try.underlying28 rfl (by rw [HDS.out]; kernel_rfl)) ?_
  simp only [Act.put, List.setIfInBounds_toArray, List.set_cons_zero, List.set_cons_succ]
  go_wp2_with fail
  refine HMO.out.mono ?_
  rintro e w2 ⟨g, R, rfl, hM, hg2, hf2, hlo⟩
  have HM2 := hide hM
  have HG2 := hide (hg1.trans hg2)
  have HC2 := hide (hb2.gr hg2)
  have hlo2 : b + 2 < R.lo := by rw [hlo]; exact hb2l
  have HF2 := hide (show ¬ Foot g R (b + 2) from fun hf => by have := hf2 _ hf; omega)
  have HF0 := hide (fun j (hj : Foot g R j) => show w.heap.size ≤ j from Nat.le_trans hg1.size (hf2 j hj))
  have HX2 := hide (fun W (hW : Gr w W) => HX.out g R W hW hf2)
  have hbz : w.heap.size ≤ b + 2 := by omega
  have hI := MemB.pay w2 g ⟨r, []⟩ R b D E
  have hW0 : MemB w2 g ⟨r, []⟩ R b D E w2 none := ⟨MemP.none_ hM, HB1.out.gr hg2, HBL.out.gr hg2, by simp, by simp, Mine.RS.refl _ _⟩
  have HIN := hide (fun W (hW : MemR W g ⟨r, []⟩ R) => inRole_ok W g ⟨r, []⟩ R hW)
  obtain ⟨v0, v1, v2, v3, v4, hdv⟩ : ∃ v0 v1 v2 v3 v4, duties g r.role = #[v0, v1, v2, v3, v4] := by unfold duties; split <;> first | exact ⟨_, _, _, _, _, rfl⟩ | (split <;> exact ⟨_, _, _, _, _, rfl⟩)
  clear hM HMO hg2 HX
  go_upto_region 2 with (fail)
  refine Mine.wp_region_mine_tail 7 29 [11, 12, 13, 14, 15, 16, 17, 18, 19, 8] rfl (by kernel_rfl) (by kernel_rfl) (by kernel_rfl) (by kernel_rfl) (ob0 := none)
    (Mine.Ahead.more (Mine.Ahead.more (Mine.Ahead.more (Mine.Ahead.none_ _ _ _) 2 (Mine.Wk.stays hI (.pointer (some ⟨b, 0, none⟩))) ⟨rfl, hI _ _ _ _ hW0 (Mine.RS.of_gr ((Gr.refl w2).drewN 1))⟩) 3 (Mine.Wk.stays hI (.pointer (some ⟨b + 1, 0, none⟩))) ⟨rfl, hI _ _ _ _ hW0 (Mine.RS.of_gr ((Gr.refl w2).drewN 1))⟩) 7 (Mine.Wk.stays hI (.pointer (some ⟨g, 0, none⟩))) ⟨rfl, hI _ _ _ _ hW0 (Mine.RS.of_gr ((Gr.refl w2).drewN 1))⟩)
    30 (C0 := fun _ _ o => o = none) (fun _ _ _ _ h _ => h) (fun k hk => by cases hk) rfl ?_
  cases ok
  · have HT2 : Hid (propT r e = ⟨r, []⟩) := HT.out.trans (if_neg (by simp))
    have HTB2 : Hid (propB r = false) := HTB.out.trans (by simp)
    refine Mine.wk_box (t := 28) D hI rfl rfl (by decide) rfl (fun w ob h => h.b1) Try.underlying28 rfl (by rw [HDS.out]; kernel_rfl) ?_
    refine Mine.call1 (Φ := Mine.Wk (MemB w2 g ⟨r, []⟩ R b D E) (.bool false)) rfl rfl (by decide) Try.func15 (by kernel_rfl) (by kernel_rfl) (Mine.Wk.stays hI _) (Ψ := Mine.Wk (MemB w2 g ⟨r, []⟩ R b D E) (.agg D)) rfl (fun v W ob hwf hsz h1 => by
      obtain ⟨rfl, hq⟩ := h1
      exact (HMA.out W (HG2.out.trans hq.gr)).mono fun e w' ⟨he, hg⟩ => ⟨_, he, hg, rfl, hI _ _ _ _ hq (Mine.RS.of_gr hg)⟩) ?_
    refine Mine.wk_move hI (x := .tmp 12) (.inl rfl) rfl (by decide) rfl ?_
    refine Mine.g_skip (t := 13) rfl rfl rfl (by decide) (by decide) ?_
    refine Mine.g_skip (t := 13) rfl rfl rfl (by decide) (by decide) ?_
    refine Mine.g_skip (t := 13) rfl rfl rfl (by decide) (by decide) ?_
    refine Mine.g_skip (t := 13) rfl rfl rfl (by decide) (by decide) ?_
    intro a1 w7 ob hr hwf hsz hdf hun hkn hat
    have h13 : Mine.Wk (MemB w2 g ⟨r, []⟩ R b D E) (.bool false) (a1.tmps.getD 13 undef) w7 ob := hkn 13
    change ob = none at hat
    subst hat
    have hm1 : MemR w7 g ⟨r, []⟩ R := h13.2.m.m
    have hg1' : Gr w2 w7 := h13.2.gr
    replace h13 := h13.1
    obtain ⟨X, hX, hlay⟩ := Grow.lay_kept_by _ a1 29 _ hsz hdf hun
    rw [hX] at h13
    clear hX hun hdf hsz hkn hwf
    subst hlay
    simp only [List.range, List.range.loop, List.map_cons, List.map_nil, List.contains_cons, List.contains_nil, Nat.reduceBEq, Bool.or_false, Bool.or_true, cond_false, cond_true, Array.getD_eq_getD_getElem?, List.getElem?_toArray, List.getElem?_cons_zero, List.getElem?_cons_succ, Option.getD_some, h13, List.drop_succ_cons, List.drop_zero]
    have HMz := hide hm1
    have HCz := hide (HC2.out.gr hg1')
    have HGz := hide (HG2.out.trans hg1')
    have HFT := HF0
    have hFz := HF2.out
    have hLz := hlo2
    have HQ13 := hide (cell_stays (i := 13) hm1 HCz.out rfl hFz rfl)
    clear hm1 hg1' hr HMA HAD HRF HIN
    go_wp2_with fail
    refine Det.wp_region_det [9] (Cw w7 (b + 2) (rfC (⟨r, []⟩ : StT).r R)) (by kernel_rfl) (by kernel_rfl) (by kernel_rfl) rfl ?_
    refine Det.pure rfl rfl (.pointer (some ⟨g, 0, none⟩)) (fun w => by rfl) ?_
    simp only [Act.put, List.setIfInBounds_toArray, List.set_cons_zero, List.set_cons_succ]
    refine Det.pure rfl rfl (.pointer (some ⟨g, 0, none⟩)) (fun w => by rfl) ?_
    simp only [Act.put, List.setIfInBounds_toArray, List.set_cons_zero, List.set_cons_succ]
    refine Det.pure rfl rfl (.pointer (some ⟨g, 0, none⟩)) (fun w => by rfl) ?_
    simp only [Act.put, List.setIfInBounds_toArray, List.set_cons_zero, List.set_cons_succ]
    refine Det.plain rfl rfl 0 0 (by kernel_rfl) (.agg (rfC (⟨r, []⟩ : StT).r R).toArray) (fun m' _ hm w hw => by
      obtain rfl : m' = 0 := by omega
      have hw2 : w = w7.drew := hw
      rw [hw2]
      exact exec_part rfl rfl (HMz.out.bl.drewN 1)) ?_
    simp only [Act.put, List.setIfInBounds_toArray, List.set_cons_zero, List.set_cons_succ]
    refine Det.pure rfl rfl (.pointer (some ⟨g, 0, none⟩)) (fun w => by rfl) ?_
    simp only [Act.put, List.setIfInBounds_toArray, List.set_cons_zero, List.set_cons_succ]
    refine Det.pure rfl rfl (.pointer (some ⟨g, 0, none⟩)) (fun w => by rfl) ?_
    simp only [Act.put, List.setIfInBounds_toArray, List.set_cons_zero, List.set_cons_succ]
    refine Det.pure rfl rfl (.pointer (some ⟨g, 13, none⟩)) (fun w => by rfl) ?_
    simp only [Act.put, List.setIfInBounds_toArray, List.set_cons_zero, List.set_cons_succ]
    refine Det.load (u := R.q) rfl rfl rfl 0 1 (by kernel_rfl) (fun w => by kernel_rfl) rfl (fun m' _ hm w hw => by
      have h2 : m' = 0 ∨ m' = 1 := by omega
      rcases h2 with h2 | h2
      · subst h2
        have hw2 : w = w7.drew := hw
        rw [hw2]
        exact HMz.out.cell 13
      · subst h2
        have hw2 : w = w7.drew.setCells (b + 2) 0 (rfC (⟨r, []⟩ : StT).r R) := hw
        rw [hw2]
        exact HQ13.out) ?_
    simp only [Act.put, List.setIfInBounds_toArray, List.set_cons_zero, List.set_cons_succ]
    refine Det.pure rfl rfl (.bool (false)) (fun w => by rfl) ?_
    simp only [Act.put, List.setIfInBounds_toArray, List.set_cons_zero, List.set_cons_succ]
    refine det_store (p := .pointer (some ⟨b + 2, 0, none⟩)) (u := .agg (rfC (⟨r, []⟩ : StT).r R).toArray) rfl rfl rfl rfl rfl (fun w1 hw => by
      obtain rfl : w1 = w7.drew := hw
      exact ⟨_, store_raft _ (HCz.out.drewN 1) rfl rfl HMz.out.ones, rfl⟩) ?_
    simp only [Act.put]
    refine Det.pure rfl rfl R.q (fun w => by rfl) ?_
    simp only [Act.put, List.setIfInBounds_toArray, List.set_cons_zero, List.set_cons_succ]
    refine Det.pure rfl rfl (.bool (false)) (fun w => by rfl) ?_
    simp only [Act.put, List.setIfInBounds_toArray, List.set_cons_zero, List.set_cons_succ]
    refine Det.nil ?_
    intro w' hw'
    obtain rfl : w' = w7.drew.setCells (b + 2) 0 (rfC (⟨r, []⟩ : StT).r R) := hw'
    have HTD := hide (MemR.told HMz.out HGz.out HCz.out rfl hFz hLz hbz HFT.out)
    clear HMz HCz HQ13
    generalize w7.drew.setCells (b + 2) 0 (rfC (⟨r, []⟩ : StT).r R) = W9 at HTD ⊢
    go_wp2_with fail
    refine bodyPost_ret (rf_results3 rfl _ W9 (b + 2) 28 (rfC (⟨r, []⟩ : StT).r R).toArray (0, 0) _ rfl HTD.out.1 Try.underlying28 rfl (by kernel_rfl)) rfl ?_
    exact ⟨_, _, by rw [HTB2.out]; rfl, by rw [HT2.out]; exact HTD.out.2⟩
  · have HT2 : Hid (propT r e = proposeS e ⟨r, []⟩) := HT.out.trans (if_pos rfl)
    by_cases h2 : r.role = 2
    · have hz : True := trivial
      have hdv := show duties g r.role = _ from if_pos h2
      refine Mine.wk_box (t := 28) D hI rfl rfl (by decide) rfl (fun w ob h => h.b1) Try.underlying28 rfl (by rw [HDS.out]; kernel_rfl) ?_
      refine Mine.call1 (Φ := Mine.Wk (MemB w2 g ⟨r, []⟩ R b D E) (.bool true)) rfl rfl (by decide) Try.func15 (by kernel_rfl) (by kernel_rfl) (Mine.Wk.stays hI _) (Ψ := Mine.Wk (MemB w2 g ⟨r, []⟩ R b D E) (.agg D)) rfl (fun v W ob hwf hsz h1 => by
        obtain ⟨rfl, hq⟩ := h1
        exact (HMA.out W (HG2.out.trans hq.gr)).mono fun e w' ⟨he, hg⟩ => ⟨_, he, hg, rfl, hI _ _ _ _ hq (Mine.RS.of_gr hg)⟩) ?_
      refine Mine.wk_move hI (x := .tmp 12) (.inl rfl) rfl (by decide) rfl ?_
      refine Mine.g_wk1 (t := 13) (x := .tmp 7) (.pointer (some ⟨g, 0, none⟩)) hI rfl rfl rfl (by decide) (by decide) (by simp [Op.operands]) rfl (fun a W ob h1 hq => by unfold execOp; simp only [h1]; rfl) ?_
      refine Mine.g_call1 (Φ := Mine.Wk (MemB w2 g ⟨r, []⟩ R b D E) (.agg (duties g r.role))) (t := 13) rfl rfl rfl rfl (by decide) (by decide) Try.func45 (by kernel_rfl) (by kernel_rfl) (Mine.Wk.stays hI _) (Ψ := Mine.Wk (MemB w2 g ⟨r, []⟩ R b D E) (.pointer (some ⟨g, 0, none⟩))) rfl (fun v W ob hwf hsz h1 => by
        obtain ⟨rfl, hq⟩ := h1
        exact (HIN.out W hq.m.m).mono fun e w' ⟨he, hg⟩ => ⟨_, he, hg, rfl, hI _ _ _ _ hq (Mine.RS.of_gr hg)⟩) ?_
      rw [hdv]
      refine Mine.g_wk1 (t := 13) (x := .tmp 15) (boundV g 57) hI rfl rfl rfl (by decide) (by decide) (by simp [Op.operands]) rfl (fun a W ob h1 hq => exec_field4 _ _ _ _ _ rfl h1 W) ?_
      refine Mine.g_wk1 (t := 13) (x := .tmp 3) (.agg E) hI rfl rfl rfl (by decide) (by decide) (by simp [Op.operands]) rfl (fun a W ob h1 hq => exec_box rfl h1 hq.b2 Try.underlying38 rfl (by rw [HES.out]; kernel_rfl)) ?_
      intro a1 w7 ob hr hwf hsz hdf hun hkn hat
      have h13 : Mine.Wk (MemB w2 g ⟨r, []⟩ R b D E) (.bool true) (a1.tmps.getD 13 undef) w7 ob := hkn 13
      have h16 : a1.tmps.getD 16 undef = boundV g 57 := (hkn 16).1
      have h17 : a1.tmps.getD 17 undef = .agg E := (hkn 17).1
      change ob = none at hat
      subst hat
      have hm1 : MemR w7 g ⟨r, []⟩ R := h13.2.m.m
      have hg1' : Gr w2 w7 := h13.2.gr
      replace h13 := h13.1
      obtain ⟨X, hX, hlay⟩ := Grow.lay_kept_by _ a1 29 _ hsz hdf hun
      rw [hX] at h13 h16 h17
      clear hX hun hdf hsz hkn hwf
      subst hlay
      simp only [List.range, List.range.loop, List.map_cons, List.map_nil, List.contains_cons, List.contains_nil, Nat.reduceBEq, Bool.or_false, Bool.or_true, cond_false, cond_true, Array.getD_eq_getD_getElem?, List.getElem?_toArray, List.getElem?_cons_zero, List.getElem?_cons_succ, Option.getD_some, h13, h16, h17, List.drop_succ_cons, List.drop_zero]
      have HM3 := hide hm1
      have HC3 := hide (HC2.out.gr hg1')
      have HG3 := hide (HG2.out.trans hg1')
      have HADD := hide (HAD.out w7 g R hm1 (HRK.out rfl) (HX2.out w7 (HG2.out.trans hg1')))
      have HREF := hide (HRF.out w7 g)
      clear hm1 hg1' hr HMA HIN HAD HRF HM2 HC2 HG2
      simp only [boundV]
      go_wp2_with fail
      refine HADD.out.mono ?_
      rintro e5 w5 ⟨rfl, R5, q1, q2⟩
      obtain ⟨S5, hS5⟩ : ∃ S5, addS e ⟨r, []⟩ = S5 := ⟨_, rfl⟩
      rw [hS5] at q1
      obtain ⟨fb, hfb⟩ : ∃ fb, (!fullR r) = fb := ⟨_, rfl⟩
      rw [hfb]
      have HS5 := hide (HT2.out.trans ((show proposeS e ⟨r, []⟩ = addS e ⟨r, []⟩ from if_pos h2).trans hS5))
      have HTB2 : Hid (propB r = fb) := HTB.out.trans (by rw [h2, hfb]; simp)
      have hC5 := q2.bl HC3.out HF2.out
      have HMz := hide q1
      have HGz := hide (q2.gr HG3.out HF0.out).1
      have HFT := hide (q2.gr HG3.out HF0.out).2
      have HCz := hide hC5.1
      have hFz := hC5.2
      have hLz : b + 2 < R5.lo := by rw [q2.lo]; exact hlo2
      have HQ13 := hide (cell_stays (i := 13) q1 hC5.1 rfl hC5.2 rfl)
      clear q1 q2 hC5 HM3 HC3 HG3 HADD HREF hS5 hfb
      go_wp2_with fail
      refine Det.wp_region_det [9] (Cw w5 (b + 2) (rfC S5.r R5)) (by kernel_rfl) (by kernel_rfl) (by kernel_rfl) rfl ?_
      refine Det.pure rfl rfl (.pointer (some ⟨g, 0, none⟩)) (fun w => by rfl) ?_
      simp only [Act.put, List.setIfInBounds_toArray, List.set_cons_zero, List.set_cons_succ]
      refine Det.pure rfl rfl (.pointer (some ⟨g, 0, none⟩)) (fun w => by rfl) ?_
      simp only [Act.put, List.setIfInBounds_toArray, List.set_cons_zero, List.set_cons_succ]
      refine Det.pure rfl rfl (.pointer (some ⟨g, 0, none⟩)) (fun w => by rfl) ?_
      simp only [Act.put, List.setIfInBounds_toArray, List.set_cons_zero, List.set_cons_succ]
      refine Det.plain rfl rfl 0 0 (by kernel_rfl) (.agg (rfC S5.r R5).toArray) (fun m' _ hm w hw => by
        obtain rfl : m' = 0 := by omega
        have hw2 : w = w5.drew := hw
        rw [hw2]
        exact exec_part rfl rfl (HMz.out.bl.drewN 1)) ?_
      simp only [Act.put, List.setIfInBounds_toArray, List.set_cons_zero, List.set_cons_succ]
      refine Det.pure rfl rfl (.pointer (some ⟨g, 0, none⟩)) (fun w => by rfl) ?_
      simp only [Act.put, List.setIfInBounds_toArray, List.set_cons_zero, List.set_cons_succ]
      refine Det.pure rfl rfl (.pointer (some ⟨g, 0, none⟩)) (fun w => by rfl) ?_
      simp only [Act.put, List.setIfInBounds_toArray, List.set_cons_zero, List.set_cons_succ]
      refine Det.pure rfl rfl (.pointer (some ⟨g, 13, none⟩)) (fun w => by rfl) ?_
      simp only [Act.put, List.setIfInBounds_toArray, List.set_cons_zero, List.set_cons_succ]
      refine Det.load (u := R5.q) rfl rfl rfl 0 1 (by kernel_rfl) (fun w => by kernel_rfl) rfl (fun m' _ hm w hw => by
        have h2 : m' = 0 ∨ m' = 1 := by omega
        rcases h2 with h2 | h2
        · subst h2
          have hw2 : w = w5.drew := hw
          rw [hw2]
          exact HMz.out.cell 13
        · subst h2
          have hw2 : w = w5.drew.setCells (b + 2) 0 (rfC S5.r R5) := hw
          rw [hw2]
          exact HQ13.out) ?_
      simp only [Act.put, List.setIfInBounds_toArray, List.set_cons_zero, List.set_cons_succ]
      refine Det.pure rfl rfl (.bool (fb)) (fun w => by rfl) ?_
      simp only [Act.put, List.setIfInBounds_toArray, List.set_cons_zero, List.set_cons_succ]
      refine det_store (p := .pointer (some ⟨b + 2, 0, none⟩)) (u := .agg (rfC S5.r R5).toArray) rfl rfl rfl rfl rfl (fun w1 hw => by
        obtain rfl : w1 = w5.drew := hw
        exact ⟨_, store_raft _ (HCz.out.drewN 1) rfl rfl HMz.out.ones, rfl⟩) ?_
      simp only [Act.put]
      refine Det.pure rfl rfl R5.q (fun w => by rfl) ?_
      simp only [Act.put, List.setIfInBounds_toArray, List.set_cons_zero, List.set_cons_succ]
      refine Det.pure rfl rfl (.bool (fb)) (fun w => by rfl) ?_
      simp only [Act.put, List.setIfInBounds_toArray, List.set_cons_zero, List.set_cons_succ]
      refine Det.nil ?_
      intro w' hw'
      obtain rfl : w' = w5.drew.setCells (b + 2) 0 (rfC S5.r R5) := hw'
      have HTD := hide (MemR.told HMz.out HGz.out HCz.out rfl hFz hLz hbz HFT.out)
      clear HMz HCz HQ13
      generalize w5.drew.setCells (b + 2) 0 (rfC S5.r R5) = W9 at HTD ⊢
      go_wp2_with fail
      refine bodyPost_ret (rf_results3 rfl _ W9 (b + 2) 28 (rfC S5.r R5).toArray (0, 0) _ rfl HTD.out.1 Try.underlying28 rfl (by kernel_rfl)) rfl ?_
      exact ⟨_, _, by rw [HTB2.out]; rfl, by rw [HS5.out]; exact HTD.out.2⟩
    · by_cases h1 : r.role = 1
      · have hz : True := trivial
        have hdv := show duties g r.role = _ from (if_neg h2).trans (if_pos h1)
        refine Mine.wk_box (t := 28) D hI rfl rfl (by decide) rfl (fun w ob h => h.b1) Try.underlying28 rfl (by rw [HDS.out]; kernel_rfl) ?_
        refine Mine.call1 (Φ := Mine.Wk (MemB w2 g ⟨r, []⟩ R b D E) (.bool true)) rfl rfl (by decide) Try.func15 (by kernel_rfl) (by kernel_rfl) (Mine.Wk.stays hI _) (Ψ := Mine.Wk (MemB w2 g ⟨r, []⟩ R b D E) (.agg D)) rfl (fun v W ob hwf hsz h1 => by
          obtain ⟨rfl, hq⟩ := h1
          exact (HMA.out W (HG2.out.trans hq.gr)).mono fun e w' ⟨he, hg⟩ => ⟨_, he, hg, rfl, hI _ _ _ _ hq (Mine.RS.of_gr hg)⟩) ?_
        refine Mine.wk_move hI (x := .tmp 12) (.inl rfl) rfl (by decide) rfl ?_
        refine Mine.g_wk1 (t := 13) (x := .tmp 7) (.pointer (some ⟨g, 0, none⟩)) hI rfl rfl rfl (by decide) (by decide) (by simp [Op.operands]) rfl (fun a W ob h1 hq => by unfold execOp; simp only [h1]; rfl) ?_
        refine Mine.g_call1 (Φ := Mine.Wk (MemB w2 g ⟨r, []⟩ R b D E) (.agg (duties g r.role))) (t := 13) rfl rfl rfl rfl (by decide) (by decide) Try.func45 (by kernel_rfl) (by kernel_rfl) (Mine.Wk.stays hI _) (Ψ := Mine.Wk (MemB w2 g ⟨r, []⟩ R b D E) (.pointer (some ⟨g, 0, none⟩))) rfl (fun v W ob hwf hsz h1 => by
          obtain ⟨rfl, hq⟩ := h1
          exact (HIN.out W hq.m.m).mono fun e w' ⟨he, hg⟩ => ⟨_, he, hg, rfl, hI _ _ _ _ hq (Mine.RS.of_gr hg)⟩) ?_
        rw [hdv]
        refine Mine.g_wk1 (t := 13) (x := .tmp 15) (boundV g 61) hI rfl rfl rfl (by decide) (by decide) (by simp [Op.operands]) rfl (fun a W ob h1 hq => exec_field4 _ _ _ _ _ rfl h1 W) ?_
        refine Mine.g_wk1 (t := 13) (x := .tmp 3) (.agg E) hI rfl rfl rfl (by decide) (by decide) (by simp [Op.operands]) rfl (fun a W ob h1 hq => exec_box rfl h1 hq.b2 Try.underlying38 rfl (by rw [HES.out]; kernel_rfl)) ?_
        intro a1 w7 ob hr hwf hsz hdf hun hkn hat
        have h13 : Mine.Wk (MemB w2 g ⟨r, []⟩ R b D E) (.bool true) (a1.tmps.getD 13 undef) w7 ob := hkn 13
        have h16 : a1.tmps.getD 16 undef = boundV g 61 := (hkn 16).1
        have h17 : a1.tmps.getD 17 undef = .agg E := (hkn 17).1
        change ob = none at hat
        subst hat
        have hm1 : MemR w7 g ⟨r, []⟩ R := h13.2.m.m
        have hg1' : Gr w2 w7 := h13.2.gr
        replace h13 := h13.1
        obtain ⟨X, hX, hlay⟩ := Grow.lay_kept_by _ a1 29 _ hsz hdf hun
        rw [hX] at h13 h16 h17
        clear hX hun hdf hsz hkn hwf
        subst hlay
        simp only [List.range, List.range.loop, List.map_cons, List.map_nil, List.contains_cons, List.contains_nil, Nat.reduceBEq, Bool.or_false, Bool.or_true, cond_false, cond_true, Array.getD_eq_getD_getElem?, List.getElem?_toArray, List.getElem?_cons_zero, List.getElem?_cons_succ, Option.getD_some, h13, h16, h17, List.drop_succ_cons, List.drop_zero]
        have HM3 := hide hm1
        have HC3 := hide (HC2.out.gr hg1')
        have HG3 := hide (HG2.out.trans hg1')
        have HADD := hide (HAD.out w7 g R hm1 (HRK.out rfl) (HX2.out w7 (HG2.out.trans hg1')))
        have HREF := hide (HRF.out w7 g)
        clear hm1 hg1' hr HMA HIN HAD HRF HM2 HC2 HG2
        simp only [boundV]
        go_wp2_with fail
        refine HREF.out.mono ?_
        rintro e5 w5 ⟨rfl, q2⟩
        have HS5 := hide (HT2.out.trans (show proposeS e ⟨r, []⟩ = ⟨r, []⟩ from if_neg h2))
        have HTB2 : Hid (propB r = false) := HTB.out.trans (by simp [h2])
        have HMz := hide (HM3.out.gr q2)
        have HGz := hide (HG3.out.trans q2)
        have HFT := HF0
        have HCz := hide (HC3.out.gr q2)
        have hFz := HF2.out
        have hLz := hlo2
        have HQ13 := hide (cell_stays (i := 13) HMz.out HCz.out rfl hFz rfl)
        clear q2 HM3 HC3 HG3 HADD HREF
        go_wp2_with fail
        refine Det.wp_region_det [9] (Cw w5 (b + 2) (rfC (⟨r, []⟩ : StT).r R)) (by kernel_rfl) (by kernel_rfl) (by kernel_rfl) rfl ?_
        refine Det.pure rfl rfl (.pointer (some ⟨g, 0, none⟩)) (fun w => by rfl) ?_
        simp only [Act.put, List.setIfInBounds_toArray, List.set_cons_zero, List.set_cons_succ]
        refine Det.pure rfl rfl (.pointer (some ⟨g, 0, none⟩)) (fun w => by rfl) ?_
        simp only [Act.put, List.setIfInBounds_toArray, List.set_cons_zero, List.set_cons_succ]
        refine Det.pure rfl rfl (.pointer (some ⟨g, 0, none⟩)) (fun w => by rfl) ?_
        simp only [Act.put, List.setIfInBounds_toArray, List.set_cons_zero, List.set_cons_succ]
        refine Det.plain rfl rfl 0 0 (by kernel_rfl) (.agg (rfC (⟨r, []⟩ : StT).r R).toArray) (fun m' _ hm w hw => by
          obtain rfl : m' = 0 := by omega
          have hw2 : w = w5.drew := hw
          rw [hw2]
          exact exec_part rfl rfl (HMz.out.bl.drewN 1)) ?_
        simp only [Act.put, List.setIfInBounds_toArray, List.set_cons_zero, List.set_cons_succ]
        refine Det.pure rfl rfl (.pointer (some ⟨g, 0, none⟩)) (fun w => by rfl) ?_
        simp only [Act.put, List.setIfInBounds_toArray, List.set_cons_zero, List.set_cons_succ]
        refine Det.pure rfl rfl (.pointer (some ⟨g, 0, none⟩)) (fun w => by rfl) ?_
        simp only [Act.put, List.setIfInBounds_toArray, List.set_cons_zero, List.set_cons_succ]
        refine Det.pure rfl rfl (.pointer (some ⟨g, 13, none⟩)) (fun w => by rfl) ?_
        simp only [Act.put, List.setIfInBounds_toArray, List.set_cons_zero, List.set_cons_succ]
        refine Det.load (u := R.q) rfl rfl rfl 0 1 (by kernel_rfl) (fun w => by kernel_rfl) rfl (fun m' _ hm w hw => by
          have h2 : m' = 0 ∨ m' = 1 := by omega
          rcases h2 with h2 | h2
          · subst h2
            have hw2 : w = w5.drew := hw
            rw [hw2]
            exact HMz.out.cell 13
          · subst h2
            have hw2 : w = w5.drew.setCells (b + 2) 0 (rfC (⟨r, []⟩ : StT).r R) := hw
            rw [hw2]
            exact HQ13.out) ?_
        simp only [Act.put, List.setIfInBounds_toArray, List.set_cons_zero, List.set_cons_succ]
        refine Det.pure rfl rfl (.bool (false)) (fun w => by rfl) ?_
        simp only [Act.put, List.setIfInBounds_toArray, List.set_cons_zero, List.set_cons_succ]
        refine det_store (p := .pointer (some ⟨b + 2, 0, none⟩)) (u := .agg (rfC (⟨r, []⟩ : StT).r R).toArray) rfl rfl rfl rfl rfl (fun w1 hw => by
          obtain rfl : w1 = w5.drew := hw
          exact ⟨_, store_raft _ (HCz.out.drewN 1) rfl rfl HMz.out.ones, rfl⟩) ?_
        simp only [Act.put]
        refine Det.pure rfl rfl R.q (fun w => by rfl) ?_
        simp only [Act.put, List.setIfInBounds_toArray, List.set_cons_zero, List.set_cons_succ]
        refine Det.pure rfl rfl (.bool (false)) (fun w => by rfl) ?_
        simp only [Act.put, List.setIfInBounds_toArray, List.set_cons_zero, List.set_cons_succ]
        refine Det.nil ?_
        intro w' hw'
        obtain rfl : w' = w5.drew.setCells (b + 2) 0 (rfC (⟨r, []⟩ : StT).r R) := hw'
        have HTD := hide (MemR.told HMz.out HGz.out HCz.out rfl hFz hLz hbz HFT.out)
        clear HMz HCz HQ13
        generalize w5.drew.setCells (b + 2) 0 (rfC (⟨r, []⟩ : StT).r R) = W9 at HTD ⊢
        go_wp2_with fail
        refine bodyPost_ret (rf_results3 rfl _ W9 (b + 2) 28 (rfC (⟨r, []⟩ : StT).r R).toArray (0, 0) _ rfl HTD.out.1 Try.underlying28 rfl (by kernel_rfl)) rfl ?_
        exact ⟨_, _, by rw [HTB2.out]; rfl, by rw [HS5.out]; exact HTD.out.2⟩
      · have hz : True := trivial
        have hdv := show duties g r.role = _ from (if_neg h2).trans (if_neg h1)
        refine Mine.wk_box (t := 28) D hI rfl rfl (by decide) rfl (fun w ob h => h.b1) Try.underlying28 rfl (by rw [HDS.out]; kernel_rfl) ?_
        refine Mine.call1 (Φ := Mine.Wk (MemB w2 g ⟨r, []⟩ R b D E) (.bool true)) rfl rfl (by decide) Try.func15 (by kernel_rfl) (by kernel_rfl) (Mine.Wk.stays hI _) (Ψ := Mine.Wk (MemB w2 g ⟨r, []⟩ R b D E) (.agg D)) rfl (fun v W ob hwf hsz h1 => by
          obtain ⟨rfl, hq⟩ := h1
          exact (HMA.out W (HG2.out.trans hq.gr)).mono fun e w' ⟨he, hg⟩ => ⟨_, he, hg, rfl, hI _ _ _ _ hq (Mine.RS.of_gr hg)⟩) ?_
        refine Mine.wk_move hI (x := .tmp 12) (.inl rfl) rfl (by decide) rfl ?_
        refine Mine.g_wk1 (t := 13) (x := .tmp 7) (.pointer (some ⟨g, 0, none⟩)) hI rfl rfl rfl (by decide) (by decide) (by simp [Op.operands]) rfl (fun a W ob h1 hq => by unfold execOp; simp only [h1]; rfl) ?_
        refine Mine.g_call1 (Φ := Mine.Wk (MemB w2 g ⟨r, []⟩ R b D E) (.agg (duties g r.role))) (t := 13) rfl rfl rfl rfl (by decide) (by decide) Try.func45 (by kernel_rfl) (by kernel_rfl) (Mine.Wk.stays hI _) (Ψ := Mine.Wk (MemB w2 g ⟨r, []⟩ R b D E) (.pointer (some ⟨g, 0, none⟩))) rfl (fun v W ob hwf hsz h1 => by
          obtain ⟨rfl, hq⟩ := h1
          exact (HIN.out W hq.m.m).mono fun e w' ⟨he, hg⟩ => ⟨_, he, hg, rfl, hI _ _ _ _ hq (Mine.RS.of_gr hg)⟩) ?_
        rw [hdv]
        refine Mine.g_wk1 (t := 13) (x := .tmp 15) (boundV g 61) hI rfl rfl rfl (by decide) (by decide) (by simp [Op.operands]) rfl (fun a W ob h1 hq => exec_field4 _ _ _ _ _ rfl h1 W) ?_
        refine Mine.g_wk1 (t := 13) (x := .tmp 3) (.agg E) hI rfl rfl rfl (by decide) (by decide) (by simp [Op.operands]) rfl (fun a W ob h1 hq => exec_box rfl h1 hq.b2 Try.underlying38 rfl (by rw [HES.out]; kernel_rfl)) ?_
        intro a1 w7 ob hr hwf hsz hdf hun hkn hat
        have h13 : Mine.Wk (MemB w2 g ⟨r, []⟩ R b D E) (.bool true) (a1.tmps.getD 13 undef) w7 ob := hkn 13
        have h16 : a1.tmps.getD 16 undef = boundV g 61 := (hkn 16).1
        have h17 : a1.tmps.getD 17 undef = .agg E := (hkn 17).1
        change ob = none at hat
        subst hat
        have hm1 : MemR w7 g ⟨r, []⟩ R := h13.2.m.m
        have hg1' : Gr w2 w7 := h13.2.gr
        replace h13 := h13.1
        obtain ⟨X, hX, hlay⟩ := Grow.lay_kept_by _ a1 29 _ hsz hdf hun
        rw [hX] at h13 h16 h17
        clear hX hun hdf hsz hkn hwf
        subst hlay
        simp only [List.range, List.range.loop, List.map_cons, List.map_nil, List.contains_cons, List.contains_nil, Nat.reduceBEq, Bool.or_false, Bool.or_true, cond_false, cond_true, Array.getD_eq_getD_getElem?, List.getElem?_toArray, List.getElem?_cons_zero, List.getElem?_cons_succ, Option.getD_some, h13, h16, h17, List.drop_succ_cons, List.drop_zero]
        have HM3 := hide hm1
        have HC3 := hide (HC2.out.gr hg1')
        have HG3 := hide (HG2.out.trans hg1')
        have HADD := hide (HAD.out w7 g R hm1 (HRK.out rfl) (HX2.out w7 (HG2.out.trans hg1')))
        have HREF := hide (HRF.out w7 g)
        clear hm1 hg1' hr HMA HIN HAD HRF HM2 HC2 HG2
        simp only [boundV]
        go_wp2_with fail
        refine HREF.out.mono ?_
        rintro e5 w5 ⟨rfl, q2⟩
        have HS5 := hide (HT2.out.trans (show proposeS e ⟨r, []⟩ = ⟨r, []⟩ from if_neg h2))
        have HTB2 : Hid (propB r = false) := HTB.out.trans (by simp [h2])
        have HMz := hide (HM3.out.gr q2)
        have HGz := hide (HG3.out.trans q2)
        have HFT := HF0
        have HCz := hide (HC3.out.gr q2)
        have hFz := HF2.out
        have hLz := hlo2
        have HQ13 := hide (cell_stays (i := 13) HMz.out HCz.out rfl hFz rfl)
        clear q2 HM3 HC3 HG3 HADD HREF
        go_wp2_with fail
        refine Det.wp_region_det [9] (Cw w5 (b + 2) (rfC (⟨r, []⟩ : StT).r R)) (by kernel_rfl) (by kernel_rfl) (by kernel_rfl) rfl ?_
        refine Det.pure rfl rfl (.pointer (some ⟨g, 0, none⟩)) (fun w => by rfl) ?_
        simp only [Act.put, List.setIfInBounds_toArray, List.set_cons_zero, List.set_cons_succ]
        refine Det.pure rfl rfl (.pointer (some ⟨g, 0, none⟩)) (fun w => by rfl) ?_
        simp only [Act.put, List.setIfInBounds_toArray, List.set_cons_zero, List.set_cons_succ]
        refine Det.pure rfl rfl (.pointer (some ⟨g, 0, none⟩)) (fun w => by rfl) ?_
        simp only [Act.put, List.setIfInBounds_toArray, List.set_cons_zero, List.set_cons_succ]
        refine Det.plain rfl rfl 0 0 (by kernel_rfl) (.agg (rfC (⟨r, []⟩ : StT).r R).toArray) (fun m' _ hm w hw => by
          obtain rfl : m' = 0 := by omega
          have hw2 : w = w5.drew := hw
          rw [hw2]
          exact exec_part rfl rfl (HMz.out.bl.drewN 1)) ?_
        simp only [Act.put, List.setIfInBounds_toArray, List.set_cons_zero, List.set_cons_succ]
        refine Det.pure rfl rfl (.pointer (some ⟨g, 0, none⟩)) (fun w => by rfl) ?_
        simp only [Act.put, List.setIfInBounds_toArray, List.set_cons_zero, List.set_cons_succ]
        refine Det.pure rfl rfl (.pointer (some ⟨g, 0, none⟩)) (fun w => by rfl) ?_
        simp only [Act.put, List.setIfInBounds_toArray, List.set_cons_zero, List.set_cons_succ]
        refine Det.pure rfl rfl (.pointer (some ⟨g, 13, none⟩)) (fun w => by rfl) ?_
        simp only [Act.put, List.setIfInBounds_toArray, List.set_cons_zero, List.set_cons_succ]
        refine Det.load (u := R.q) rfl rfl rfl 0 1 (by kernel_rfl) (fun w => by kernel_rfl) rfl (fun m' _ hm w hw => by
          have h2 : m' = 0 ∨ m' = 1 := by omega
          rcases h2 with h2 | h2
          · subst h2
            have hw2 : w = w5.drew := hw
            rw [hw2]
            exact HMz.out.cell 13
          · subst h2
            have hw2 : w = w5.drew.setCells (b + 2) 0 (rfC (⟨r, []⟩ : StT).r R) := hw
            rw [hw2]
            exact HQ13.out) ?_
        simp only [Act.put, List.setIfInBounds_toArray, List.set_cons_zero, List.set_cons_succ]
        refine Det.pure rfl rfl (.bool (false)) (fun w => by rfl) ?_
        simp only [Act.put, List.setIfInBounds_toArray, List.set_cons_zero, List.set_cons_succ]
        refine det_store (p := .pointer (some ⟨b + 2, 0, none⟩)) (u := .agg (rfC (⟨r, []⟩ : StT).r R).toArray) rfl rfl rfl rfl rfl (fun w1 hw => by
          obtain rfl : w1 = w5.drew := hw
          exact ⟨_, store_raft _ (HCz.out.drewN 1) rfl rfl HMz.out.ones, rfl⟩) ?_
        simp only [Act.put]
        refine Det.pure rfl rfl R.q (fun w => by rfl) ?_
        simp only [Act.put, List.setIfInBounds_toArray, List.set_cons_zero, List.set_cons_succ]
        refine Det.pure rfl rfl (.bool (false)) (fun w => by rfl) ?_
        simp only [Act.put, List.setIfInBounds_toArray, List.set_cons_zero, List.set_cons_succ]
        refine Det.nil ?_
        intro w' hw'
        obtain rfl : w' = w5.drew.setCells (b + 2) 0 (rfC (⟨r, []⟩ : StT).r R) := hw'
        have HTD := hide (MemR.told HMz.out HGz.out HCz.out rfl hFz hLz hbz HFT.out)
        clear HMz HCz HQ13
        generalize w5.drew.setCells (b + 2) 0 (rfC (⟨r, []⟩ : StT).r R) = W9 at HTD ⊢
        go_wp2_with fail
        refine bodyPost_ret (rf_results3 rfl _ W9 (b + 2) 28 (rfC (⟨r, []⟩ : StT).r R).toArray (0, 0) _ rfl HTD.out.1 Try.underlying28 rfl (by kernel_rfl)) rfl ?_
        exact ⟨_, _, by rw [HTB2.out]; rfl, by rw [HS5.out]; exact HTD.out.2⟩

end Go.Proofs.Ythpaoeiackbdoaa

/-
  New.
-/
namespace Go.Proofs.Ythpaoeiackbdoaa.Flow
open Go Go.RowKit Go.Proofs.Ythpaoeiackbdoaa
open Go.Proofs.Ythpaoeiackbdoaa.Grow (Known upd Is Kn looks_op)
section
variable {P : Program} {R : World → World → Prop} {ops : Array Oper} {w0 : World} {n0 : Nat} {Q : (Tmp → Known) → (World → Prop) → Prop} {o : Oper} {rest : List Oper} {K : Tmp → Known} {I : World → Prop}
theorem makeN {t : TypeId} {x : Operand} {u : Value} (Φ : Known) (ho : o.op = .makeSlice t x x) (hg : o.guard = none) (hx : Kn K x (Is u)) (hst : Stays R Φ)
    (hr : ∀ (w : World), R w0 w → ∃ z w', (Instr.makeSlice t u u).run P w = .ok z w' ∧ R w w' ∧ Φ z w') (h : wpFlow P R ops w0 n0 Q rest (upd K o.dst Φ) (also o.dst Φ I)) : wpFlow P R ops w0 n0 Q (o :: rest) K I := by
  refine step Φ hg hst (fun a w hrw hl => ?_) h
  have h1 : a.eval x = u := looks_op (Ψ := Is u) (by simp [ho, Op.operands]) hx hl
  obtain ⟨z, w', h3, h4, h5⟩ := hr w hrw
  unfold does execOp
  simp only [ho, h1, Sem.run_bind, h3]
  exact ⟨h4, h5⟩
theorem storeK {t : TypeId} {x y : Operand} {u : Value} {Ψ : Known} (Φ : Known) (ho : o.op = .store t x y) (hg : o.guard = none) (hx : Kn K x (Is u)) (hy : Kn K y Ψ) (hst : Stays R Φ)
    (hr : ∀ (w : World) (v : Value), R w0 w → Ψ v w → ∃ w', (Instr.storeAt t u v).run P w = .ok () w' ∧ R w w' ∧ Φ undef w') (h : wpFlow P R ops w0 n0 Q rest (upd K o.dst Φ) (also o.dst Φ I)) : wpFlow P R ops w0 n0 Q (o :: rest) K I := by
  refine step Φ hg hst (fun a w hrw hl => ?_) h
  have h1 : a.eval x = u := looks_op (Ψ := Is u) (by simp [ho, Op.operands]) hx hl
  have h2 : Ψ (a.eval y) w := looks_op (Ψ := Ψ) (by simp [ho, Op.operands]) hy hl
  obtain ⟨w', h3, h4, h5⟩ := hr w _ hrw h2
  unfold does execOp
  simp only [ho, h1, Sem.run_bind, h3]
  exact ⟨h4, h5⟩
end
/-- a row of its own, from block B on, of n alike -/
def RowZ (B : Nat) (t : TypeId) (n : Nat) (z : Value) : Known := fun v w => ∃ r, v = .slice (some ⟨r, 0, none⟩) n n ∧ B ≤ r ∧ Bl w r t (List.replicate n z).toArray
theorem RowZ.stays {H : Nat → Prop} {G : Nat → Nat → Value → World → Prop} {B : Nat} {t : TypeId} {n : Nat} {z : Value} (hH : ∀ k, H k → k < B) : Stays (HitG H G) (RowZ B t n z) := fun _ w w' ⟨r, h1, h2, h3⟩ hr => ⟨r, h1, h2, hr.bl h3 (fun h => by have := hH r h; omega)⟩
theorem RowZ.mem {B : Nat} {t : TypeId} {n : Nat} {z v : Value} {w : World} (h : RowZ B t n z v w) (hn : n ≤ 1000) : ∃ c A, v = .slice A n c ∧ ValX w v (List.replicate n z) := by
  obtain ⟨r, rfl, _, hb⟩ := h
  refine ⟨n, _, rfl, some ⟨r, 0, none⟩, n, by rw [List.length_replicate], fun j hj => ⟨⟨r, 0, none⟩, rfl, ?_⟩, by rw [List.length_replicate]; exact Nat.le_refl _, by unfold maxLen; omega, fun h => by cases h⟩
  have : (⟨r, 0, none⟩ : Addr).add j = ⟨r, j, none⟩ := by unfold Addr.add; split <;> simp_all
  rw [List.length_replicate] at hj
  rw [this, hb.cell j]
  simp [hj]
theorem made_rep (z : Value) (n : Nat) : madeCells #[z] n = (List.replicate n z).toArray := by
  apply Array.ext_getElem?
  intro i
  by_cases h : i < n
  · simp [madeCells, Nat.mod_one, h]
  · simp [madeCells, Nat.mod_one, h]
end Go.Proofs.Ythpaoeiackbdoaa.Flow
namespace Go.Proofs.Ythpaoeiackbdoaa
open Go Go.RowKit TxnMath KeyMath MsgMath BalMath RfMath
open Go.Proofs.Ythpaoeiackbdoaa.Flow (HitG Sees LaidG RowZ)
set_option maxRecDepth 100000

theorem make_bools_full (w : World) (n : Nat) (hn : n ≤ 1000000) :
    (Instr.makeSlice 25 (.int .i64 (n : Int)) (.int .i64 (n : Int))).run Try.prog w = .ok (.slice (some ⟨w.heap.size, 0, none⟩) n n) (w.alloc (.cells (List.replicate n (Value.bool false)).toArray 4)) := by
  obtain ⟨i0, hi, hz0, hz1, hz2⟩ := info_b
  have h := run_make (P := Try.prog) w 25 4 i0 _ Try.underlying25 hi hz0 .i64 .i64 (n : Int) (n : Int) (by omega) (Int.le_refl _) (by rw [hz2]; omega) (by omega)
  rw [h, hz1, ← Flow.made_rep]
  simp [Value.cells]
theorem make_ints_full (w : World) (n : Nat) (hn : n ≤ 1000000) :
    (Instr.makeSlice 26 (.int .i64 (n : Int)) (.int .i64 (n : Int))).run Try.prog w = .ok (.slice (some ⟨w.heap.size, 0, none⟩) n n) (w.alloc (.cells (List.replicate n (Value.int .i64 0)).toArray 3)) := by
  obtain ⟨i0, hi, hz0, hz1, hz2⟩ := info_i
  have h := run_make (P := Try.prog) w 26 3 i0 (.int .i64 0) Try.underlying26 hi hz0 .i64 .i64 (n : Int) (n : Int) (by omega) (Int.le_refl _) (by rw [hz2]; omega) (by omega)
  rw [h, hz1, ← Flow.made_rep]
  simp [Value.cells]
theorem put_one {ty t : TypeId} {H : Nat → Prop} {G : Nat → Nat → Value → World → Prop} {Ψ : Grow.Known} {w : World} {g i : Nat} {v : Value} {cs : Array Value} (hsz : ∀ w, (sizeOf ty).run Try.prog w = .ok 1 w) (hb : Bl w g t cs) (hi : i < cs.size) (hv : ∃ A n c, v = .slice A n c) (hH : H g) (hG : G g i v (w.setCell ⟨g, i, none⟩ v)) (hΨ : Ψ v (w.setCell ⟨g, i, none⟩ v)) :
    ∃ w', (Instr.storeAt ty (.pointer (some ⟨g, i, none⟩)) v).run Try.prog w = .ok () w' ∧ HitG H G w w' ∧ LaidG g i t Ψ undef w' := by
  have c1 : w.cell? ⟨g, i, none⟩ = some cs[i] := (hb.cell i).trans (Array.getElem?_eq_getElem hi)
  have c2 := hb.frozen i
  have hl : LaidG g i t Ψ undef (w.setCell ⟨g, i, none⟩ v) := ⟨v, ⟨_, hb.put i v, by rw [Array.getElem?_setIfInBounds_self_of_lt hi]⟩, hΨ⟩
  have hh : HitG H G w (w.setCell ⟨g, i, none⟩ v) := HitG.set hb hH hG
  refine ⟨w.setCell ⟨g, i, none⟩ v, ?_, hh, hl⟩
  clear hl hh hG hΨ
  obtain ⟨A, n, c, rfl⟩ := hv
  simp [Instr.storeAt, Instr.sureAddr, storeVar, hsz, c1, c2, go_sem]

theorem rf_results1 {P : Program} {fn : Func} {p : Tmp} {ty : TypeId} (h : fn.results = #[.cell p ty]) (tmps : Array Value) (w : World) (g : Nat) (t : TypeId) (cs : Array Value) (fr : Nat × Nat) (d : TypeDesc)
    (hp : tmps.getD p undef = .pointer (some ⟨g, 0, none⟩)) (hg : w.heap[g]? = some (.cells cs t fr)) (hu : P.underlying ty = some d) (hd : (match d with | .struct _ | .array _ _ => true | _ => false) = true) (hi : (P.info? ty).map (·.size) = some cs.size) :
    (results fn tmps).run P w = .ok (.agg cs) w := by
  have hp' : tmps[p]?.getD undef = .pointer (some ⟨g, 0, none⟩) := by simpa using hp
  simp [results, h, hp', asAddr, run_loadVar_row w g t ty cs fr d hg hu hd hi]
theorem wpList_storeV {P : Program} {ops : Array Oper} {rest : List Oper} {o : Oper} {a : Act} {w w' : World} {Q : Exit → Act → World → Prop} {u v : Value} (hgd : o.guard = none) (ty : TypeId) (x y : Operand) (ho : o.op = .store ty x y) (hd : o.dst = none) (hx : a.eval x = u) (hy : a.eval y = v)
    (hr : (Instr.storeAt ty u v).run P w = .ok () w') (h : wpList P ops Q rest a w') : wpList P ops Q (o :: rest) a w :=
  wpList_plain hgd fun _ hK => by
    unfold Oper.wp execOp
    simp only [ho, hx, hy, Sem.run_bind, hr, Result.andThen_ok]
    exact hK _ _ (by rw [hd]; exact h)
theorem vals_b (n : Nat) : bvals (List.replicate n false) = List.replicate n (Value.bool false) := by simp [bvals]
theorem vals_i (n : Nat) : ivs (List.replicate n 0) = List.replicate n (Value.int .i64 0) := by simp [ivs, iv]
theorem none_ints (w : World) : IntsX w (.slice none 0 0) [] := ⟨none, 0, rfl, fun j hj => absurd hj (by simp [ivs]), by simp [ivs], by unfold maxLen; omega, fun _ => rfl⟩
theorem none_bools (w : World) : BoolsX w (.slice none 0 0) [] := ⟨none, 0, rfl, fun j hj => absurd hj (by simp [bvals]), by simp [bvals], by unfold maxLen; omega, fun _ => rfl⟩
theorem bools_of {w : World} {v : Value} {n : Nat} (h : ValX w v (List.replicate n (.bool false))) : BoolsX w v (List.replicate n false) := by unfold BoolsX; rw [vals_b]; exact h
theorem ints_of {w : World} {v : Value} {n : Nat} (h : ValX w v (List.replicate n (.int .i64 0))) : IntsX w v (List.replicate n 0) := by unfold IntsX; rw [vals_i]; exact h
/-- what New tells -/
structure NewX (w w' : World) (r : RaftT) (v : Value) : Prop where
  ex : ∃ R, v = .agg (rfC r R).toArray ∧ R.l = .slice none 0 0 ∧ ∀ w'' : World, (∀ j, w.heap.size ≤ j → j < w'.heap.size → w''.heap[j]? = w'.heap[j]?) → RaftR Any w'' r R
  gr : Gr w w'
/-- the cells that are laid -/
def NewG (b n : Nat) : Nat → Nat → Value → World → Prop := fun k i v w => k = b ∧ ((i = 9 ∧ RowZ (b + 1) 4 n (.bool false) v w) ∨ ((i = 10 ∨ i = 11) ∧ RowZ (b + 1) 3 n (.int .i64 0) v w))
abbrev NewR (b n : Nat) : World → World → Prop := HitG (fun k => k = b) (NewG b n)
theorem NewG.stays (b n : Nat) : ∀ k i, Flow.Stays (NewR b n) (NewG b n k i) := fun k i v w w' ⟨hk, h⟩ hr => ⟨hk, by
  rcases h with ⟨hi, h⟩ | ⟨hi, h⟩
  · exact .inl ⟨hi, RowZ.stays (fun k hk => by omega) v w w' h hr⟩
  · exact .inr ⟨hi, RowZ.stays (fun k hk => by omega) v w w' h hr⟩⟩
theorem size_bl : ∀ w, (sizeOf 25).run Try.prog w = .ok 1 w := fun w => by kernel_rfl
theorem size_il : ∀ w, (sizeOf 26).run Try.prog w = .ok 1 w := fun w => by kernel_rfl
theorem RowZ.put {b n i : Nat} {t : TypeId} {z v : Value} {w : World} (h : RowZ (b + 1) t n z v w) (u : Value) : RowZ (b + 1) t n z v (w.setCell ⟨b, i, none⟩ u) := by
  obtain ⟨r, h1, h2, h3⟩ := h
  exact ⟨r, h1, h2, ((But.set (But.refl w b) i u).block r h3.lt (fun e => by injection e with e; omega)).trans h3⟩
theorem bl_one {w : World} {g : Nat} {t t' : TypeId} {c c' : Array Value} (h : Bl w g t c) (h' : Bl w g t' c') : c = c' := by
  have h3 : w.heap[g]? = some (.cells c t (0, 0)) := h
  have h4 : w.heap[g]? = some (.cells c' t' (0, 0)) := h'
  rw [h3] at h4
  injection h4 with h4
  injection h4

set_option maxHeartbeats 2000000 in
theorem New_ok (w : World) (me nodes wait : Int) :
    Calls Try.prog 19 #[.int .i64 me, .int .i64 nodes, .int .i64 wait] w fun e w' => ∃ v, e = .returned v ∧ NewX w w' (newR me nodes wait) v := by
  have HW := hide (fun W => within_ok nodes 1 5 W)
  obtain ⟨ok, hok⟩ : ∃ ok, withinB nodes 1 5 = ok := ⟨_, rfl⟩
  rw [hok] at HW
  go_enter Try.func19, Try.ntmps19
  go_wp2_with fail
  refine (HW.out _).mono ?_
  rintro e w' ⟨rfl, rfl⟩
  cases ok
  · have hr : newR me nodes wait = ⟨me, nodes, wait, 0, 0, [], 0, 0, 0, [], [], [], 0⟩ := if_neg (by rw [hok]; simp)
    go_wp2_with fail
    refine bodyPost_ret (rf_results1 rfl _ _ w.heap.size 28 #[.int .i64 me, .int .i64 nodes, .int .i64 wait, .int .i64 0, .int .i64 0, .slice none 0 0, .int .i64 0, .int .i64 0, .int .i64 0, .slice none 0 0, .slice none 0 0, .slice none 0 0, .int .i64 0] (0, 0) _ rfl ((Bl.new w 28 #[.int .i64 me, .int .i64 nodes, .int .i64 wait, .int .i64 0, .int .i64 0, .slice none 0 0, .int .i64 0, .int .i64 0, .int .i64 0, .slice none 0 0, .slice none 0 0, .slice none 0 0, .int .i64 0]).gr ((Gr.refl _).alloc _)) Try.underlying28 rfl (by kernel_rfl)) rfl ?_
    refine ⟨_, rfl, ⟨⟨.slice none 0 0, .slice none 0 0, .slice none 0 0, .slice none 0 0, .slice none 0 0, 0⟩, by rw [hr]; rfl, rfl, ?_⟩, ((Gr.refl _).alloc _).alloc _⟩
    rw [hr]
    exact fun w'' _ => ⟨EntsX.nil _ _, none_bools _, none_ints _, none_ints _⟩
  · have hn : ∃ n : Nat, nodes = (n : Int) ∧ 1 ≤ n ∧ n ≤ 5 := by
      simp only [withinB, Bool.and_eq_true, decide_eq_true_eq] at hok
      exact ⟨nodes.toNat, by omega, by omega, by omega⟩
    obtain ⟨n, rfl, hn1, hn2⟩ := hn
    have hr : newR me n wait = ⟨me, n, wait, 0, 0, [], 0, 0, 0, List.replicate n false, List.replicate n 0, List.replicate n 0, 0⟩ := (if_pos hok).trans (by simp)
    go_wp2_with fail
    obtain ⟨C0, hC0⟩ : ∃ C0 : Array Value, #[.int .i64 me, .int .i64 n, .int .i64 wait, .int .i64 0, .int .i64 0, .slice none 0 0, .int .i64 0, .int .i64 0, .int .i64 0, .slice none 0 0, .slice none 0 0, .slice none 0 0, .int .i64 0] = C0 := ⟨_, rfl⟩
    obtain ⟨W1, hW1⟩ : ∃ W1, (w.alloc (.cells #[.int .i64 0, .int .i64 0, .int .i64 0, .int .i64 0, .int .i64 0, .slice none 0 0, .int .i64 0, .int .i64 0, .int .i64 0, .slice none 0 0, .slice none 0 0, .slice none 0 0, .int .i64 0] 28)).alloc (.cells C0 28) = W1 := ⟨_, rfl⟩
    have hg1 : Gr w W1 := by rw [← hW1]; exact ((Gr.refl _).alloc _).alloc _
    have hb1 : Bl W1 w.heap.size 28 #[.int .i64 0, .int .i64 0, .int .i64 0, .int .i64 0, .int .i64 0, .slice none 0 0, .int .i64 0, .int .i64 0, .int .i64 0, .slice none 0 0, .slice none 0 0, .slice none 0 0, .int .i64 0] := by rw [← hW1]; exact (Bl.new _ _ _).gr ((Gr.refl _).alloc _)
    have hb2 : Bl W1 (w.heap.size + 1) 28 C0 := by
      rw [← hW1]
      have := Bl.new (w.alloc (.cells #[.int .i64 0, .int .i64 0, .int .i64 0, .int .i64 0, .int .i64 0, .slice none 0 0, .int .i64 0, .int .i64 0, .int .i64 0, .slice none 0 0, .slice none 0 0, .slice none 0 0, .int .i64 0] 28)) 28 C0
      simpa using this
    rw [hC0, hW1]
    obtain ⟨b0, hb0⟩ : ∃ b0, w.heap.size = b0 := ⟨_, rfl⟩
    rw [hb0] at hb1 hb2 ⊢
    clear hW1 hok HW
    have hbl := hb2.lt
    have hmkb : ∀ W, NewR (b0 + 1) n W1.drew W → ∃ z W', (Instr.makeSlice 25 (.int .i64 (n : Int)) (.int .i64 (n : Int))).run Try.prog W = .ok z W' ∧ NewR (b0 + 1) n W W' ∧ RowZ (b0 + 1 + 1) 4 n (.bool false) z W' := fun W hW =>
      ⟨_, _, make_bools_full W n (by omega), HitG.of_gr ((Gr.refl W).alloc _), W.heap.size, rfl, by have := hW.size; have : W1.drew.heap.size = W1.heap.size := rfl; omega, Bl.new _ _ _⟩
    have hmki : ∀ W, NewR (b0 + 1) n W1.drew W → ∃ z W', (Instr.makeSlice 26 (.int .i64 (n : Int)) (.int .i64 (n : Int))).run Try.prog W = .ok z W' ∧ NewR (b0 + 1) n W W' ∧ RowZ (b0 + 1 + 1) 3 n (.int .i64 0) z W' := fun W hW =>
      ⟨_, _, make_ints_full W n (by omega), HitG.of_gr ((Gr.refl W).alloc _), W.heap.size, rfl, by have := hW.size; have : W1.drew.heap.size = W1.heap.size := rfl; omega, Bl.new _ _ _⟩
    have hR1 : ∀ a, NewR (b0 + 1) n a a := HitG.refl
    have hR2 : ∀ a b c, NewR (b0 + 1) n a b → NewR (b0 + 1) n b c → NewR (b0 + 1) n a c := HitG.trans (NewG.stays _ _)
    have hsz0 : C0.size = 13 := by rw [← hC0]; rfl
    have hblk : ∀ W, NewR (b0 + 1) n W1.drew W → ∃ cs, Bl W (b0 + 1) 28 cs ∧ cs.size = 13 := fun W hW => by
      obtain ⟨cs, h1, h2⟩ := hW.some_ (hb2.drewN 1)
      exact ⟨cs, h1, h2.trans hsz0⟩
    have hstb : Flow.Stays (NewR (b0 + 1) n) (RowZ (b0 + 1 + 1) 4 n (.bool false)) := RowZ.stays (fun k hk => by omega)
    have hsti : Flow.Stays (NewR (b0 + 1) n) (RowZ (b0 + 1 + 1) 3 n (.int .i64 0)) := RowZ.stays (fun k hk => by omega)
    refine Flow.wp_region_flow_kept (R := NewR (b0 + 1) n) hR1 hR2 24 [14, 15, 16, 17, 18, 19, 20, 21, 22] rfl (by kernel_rfl) (by kernel_rfl) (by kernel_rfl) ?_
    refine Flow.move hR1 (x := .tmp 1) (.inl rfl) rfl rfl ?_
    refine Flow.makeN _ rfl rfl rfl hstb hmkb ?_
    refine Flow.move hR1 (x := .tmp 1) (.inl rfl) rfl rfl ?_
    refine Flow.makeN _ rfl rfl rfl hsti hmki ?_
    refine Flow.move hR1 (x := .tmp 1) (.inl rfl) rfl rfl ?_
    refine Flow.makeN _ rfl rfl rfl hsti hmki ?_
    refine Flow.val1 (x := .tmp 7) (.pointer (some ⟨b0 + 1, 9, none⟩)) hR1 rfl (by simp [Op.operands]) rfl (fun a W _ h1 => by unfold execOp; simp only [h1]; rw [Sem.run_bind]; rfl) ?_
    refine Flow.storeK (Ψ := RowZ (b0 + 1 + 1) 4 n (.bool false)) (LaidG (b0 + 1) 9 28 (RowZ (b0 + 1 + 1) 4 n (.bool false))) rfl rfl rfl rfl (LaidG.stays hstb (fun v W h => by
      obtain ⟨_, h⟩ := h
      rcases h with ⟨hi, h⟩ | ⟨hi, h⟩
      · first | exact h | (exfalso; omega)
      · first | exact h | (exfalso; omega))) (fun W v hW hv => by
      obtain ⟨cs, hb, hs⟩ := hblk W hW
      exact put_one size_bl hb (by omega) (by obtain ⟨r, rfl, _⟩ := hv; exact ⟨_, _, _, rfl⟩) rfl ⟨rfl, .inl ⟨rfl, RowZ.put hv v⟩⟩ (RowZ.put hv v)) ?_
    refine Flow.val1 (x := .tmp 7) (.pointer (some ⟨b0 + 1, 10, none⟩)) hR1 rfl (by simp [Op.operands]) rfl (fun a W _ h1 => by unfold execOp; simp only [h1]; rw [Sem.run_bind]; rfl) ?_
    refine Flow.storeK (Ψ := RowZ (b0 + 1 + 1) 3 n (.int .i64 0)) (LaidG (b0 + 1) 10 28 (RowZ (b0 + 1 + 1) 3 n (.int .i64 0))) rfl rfl rfl rfl (LaidG.stays hsti (fun v W h => by
      obtain ⟨_, h⟩ := h
      rcases h with ⟨hi, h⟩ | ⟨hi, h⟩
      · first | exact h | (exfalso; omega)
      · first | exact h | (exfalso; omega))) (fun W v hW hv => by
      obtain ⟨cs, hb, hs⟩ := hblk W hW
      exact put_one size_il hb (by omega) (by obtain ⟨r, rfl, _⟩ := hv; exact ⟨_, _, _, rfl⟩) rfl ⟨rfl, .inr ⟨by simp, RowZ.put hv v⟩⟩ (RowZ.put hv v)) ?_
    refine Flow.val1 (x := .tmp 7) (.pointer (some ⟨b0 + 1, 11, none⟩)) hR1 rfl (by simp [Op.operands]) rfl (fun a W _ h1 => by unfold execOp; simp only [h1]; rw [Sem.run_bind]; rfl) ?_
    refine Flow.storeK (Ψ := RowZ (b0 + 1 + 1) 3 n (.int .i64 0)) (LaidG (b0 + 1) 11 28 (RowZ (b0 + 1 + 1) 3 n (.int .i64 0))) rfl rfl rfl rfl (LaidG.stays hsti (fun v W h => by
      obtain ⟨_, h⟩ := h
      rcases h with ⟨hi, h⟩ | ⟨hi, h⟩
      · first | exact h | (exfalso; omega)
      · first | exact h | (exfalso; omega))) (fun W v hW hv => by
      obtain ⟨cs, hb, hs⟩ := hblk W hW
      exact put_one size_il hb (by omega) (by obtain ⟨r, rfl, _⟩ := hv; exact ⟨_, _, _, rfl⟩) rfl ⟨rfl, .inr ⟨by simp, RowZ.put hv v⟩⟩ (RowZ.put hv v)) ?_
    intro a1 w1 hrw hsz hdf hun hkn hI
    obtain ⟨⟨⟨hI0, hL9⟩, hL10⟩, hL11⟩ := hI
    clear hI0 hkn
    rename_i K Q' hK
    refine hK a1 w1 ?_
    obtain ⟨X, hX, hlay⟩ := Grow.lay_kept_by _ a1 24 _ hsz hdf hun
    clear hK hX hun hdf hsz
    subst hlay
    simp only [List.range, List.range.loop, List.map_cons, List.map_nil, List.contains_cons, List.contains_nil, Nat.reduceBEq, Bool.or_false, Bool.or_true, cond_false, cond_true, Array.getD_eq_getD_getElem?, List.getElem?_toArray, List.getElem?_cons_zero, List.getElem?_cons_succ, Option.getD_some]
    obtain ⟨_, v9, ⟨c9, hb9, hc9⟩, r9⟩ := hL9
    obtain ⟨_, v10, ⟨c10, hb10, hc10⟩, r10⟩ := hL10
    obtain ⟨_, v11, ⟨c11, hb11, hc11⟩, r11⟩ := hL11
    obtain rfl := bl_one hb9 hb10
    obtain rfl := bl_one hb9 hb11
    obtain ⟨c', hb', hs', hf⟩ := hrw.cell (b0 + 1) C0 28 (0, 0) (hb2.drewN 1)
    obtain rfl := bl_one hb9 hb'
    have hs13 : c9.size = 13 := hs'.trans hsz0
    have hcs : c9 = ((C0.setIfInBounds 9 v9).setIfInBounds 10 v10).setIfInBounds 11 v11 := by
      apply Array.ext_getElem?
      intro i
      by_cases h9 : i = 9
      · subst h9; rw [hc9, Array.getElem?_setIfInBounds_ne (by omega), Array.getElem?_setIfInBounds_ne (by omega), Array.getElem?_setIfInBounds_self_of_lt (by omega)]
      by_cases h10 : i = 10
      · subst h10; rw [hc10, Array.getElem?_setIfInBounds_ne (by omega), Array.getElem?_setIfInBounds_self_of_lt (by simp; omega)]
      by_cases h11 : i = 11
      · subst h11; rw [hc11, Array.getElem?_setIfInBounds_self_of_lt (by simp; omega)]
      rw [Array.getElem?_setIfInBounds_ne (Ne.symm h11), Array.getElem?_setIfInBounds_ne (Ne.symm h10), Array.getElem?_setIfInBounds_ne (Ne.symm h9)]
      by_cases hi : i < c9.size
      · have h := hf i c9[i] (Array.getElem?_eq_getElem hi)
        rcases h with h | ⟨_, ⟨h, _⟩ | ⟨h | h, _⟩⟩
        · rw [h, Array.getElem?_eq_getElem hi]
        · exact absurd h h9
        · exact absurd h h10
        · exact absurd h h11
      · rw [Array.getElem?_eq_none (by omega), Array.getElem?_eq_none (by omega)]
    obtain ⟨R, hR⟩ : ∃ R : RowsM, R = ⟨.slice none 0 0, v9, v10, v11, .slice none 0 0, 0⟩ := ⟨_, rfl⟩
    have hcs2 : c9 = (rfC ⟨me, n, wait, 0, 0, [], 0, 0, 0, List.replicate n false, List.replicate n 0, List.replicate n 0, 0⟩ R).toArray := by rw [hcs, ← hC0, hR]; rfl
    have hb1' : Bl w1 b0 28 #[.int .i64 0, .int .i64 0, .int .i64 0, .int .i64 0, .int .i64 0, .slice none 0 0, .int .i64 0, .int .i64 0, .int .i64 0, .slice none 0 0, .slice none 0 0, .slice none 0 0, .int .i64 0] := hrw.bl (hb1.drewN 1) (by omega)
    have hone : ∀ v ∈ rfC ⟨me, n, wait, 0, 0, [], 0, 0, 0, List.replicate n false, List.replicate n 0, List.replicate n 0, 0⟩ R, v.oneCell' = true := by
      intro u hu
      obtain ⟨x9, e9, _⟩ := r9
      obtain ⟨x10, e10, _⟩ := r10
      obtain ⟨x11, e11, _⟩ := r11
      rw [hR, e9, e10, e11] at hu
      simp only [rfC, List.mem_cons, List.not_mem_nil, or_false] at hu
      rcases hu with rfl | rfl | rfl | rfl | rfl | rfl | rfl | rfl | rfl | rfl | rfl | rfl | rfl <;> first | rfl | exact slice_one
    have hSt := store_raft _ hb1' rfl rfl hone
    obtain ⟨W2, hW2⟩ : ∃ W2, w1.setCells b0 0 (rfC ⟨me, n, wait, 0, 0, [], 0, 0, 0, List.replicate n false, List.replicate n 0, List.replicate n 0, 0⟩ R) = W2 := ⟨_, rfl⟩
    rw [hW2] at hSt
    obtain ⟨q1, q2⟩ := Bl.sets (t := 28) (g := b0) (rfC ⟨me, n, wait, 0, 0, [], 0, 0, 0, List.replicate n false, List.replicate n 0, List.replicate n 0, 0⟩ R) 0 w1 #[.int .i64 0, .int .i64 0, .int .i64 0, .int .i64 0, .int .i64 0, .slice none 0 0, .int .i64 0, .int .i64 0, .int .i64 0, .slice none 0 0, .slice none 0 0, .slice none 0 0, .int .i64 0] rfl hb1'
    rw [hW2] at q1 q2
    have hgr : Gr w W2 :=
      ⟨q2.os.trans (hrw.os.trans hg1.os), q2.tape.trans (hrw.tape.trans hg1.tape), q2.output.trans (hrw.output.trans hg1.output), Nat.le_trans hg1.size (Nat.le_trans hrw.size q2.size), fun j hj => (q2.block j (by have := hg1.size; have := hrw.size; have : W1.drew.heap.size = W1.heap.size := rfl; omega) (fun e => by injection e with e; omega)).trans ((hrw.block j (by have := hg1.size; have : W1.drew.heap.size = W1.heap.size := rfl; omega) (by have := hg1.size; omega)).trans (hg1.block j hj))⟩
    have hmv : ∀ {t : TypeId} {z v : Value}, RowZ (b0 + 1 + 1) t n z v w1 → RowZ (b0 + 1 + 1) t n z v W2 := fun ⟨r, h1, h2, h3⟩ => ⟨r, h1, h2, (q2.block r h3.lt (fun e => by injection e with e; omega)).trans h3⟩
    have hX : NewX w W2 ⟨me, n, wait, 0, 0, [], 0, 0, 0, List.replicate n false, List.replicate n 0, List.replicate n 0, 0⟩ (.agg c9) := by
      refine ⟨⟨R, by rw [hcs2], by rw [hR], ?_⟩, hgr⟩
      intro w'' hw''
      have hfar : ∀ {t : TypeId} {z v : Value}, RowZ (b0 + 1 + 1) t n z v W2 → RowZ (b0 + 1 + 1) t n z v w'' := fun ⟨r, h1, h2, h3⟩ => ⟨r, h1, h2, (hw'' r (by omega) h3.lt).trans h3⟩
      obtain ⟨_, _, _, k9⟩ := (hfar (hmv r9)).mem (by omega)
      obtain ⟨_, _, _, k10⟩ := (hfar (hmv r10)).mem (by omega)
      obtain ⟨_, _, _, k11⟩ := (hfar (hmv r11)).mem (by omega)
      rw [hR]
      exact ⟨EntsX.nil _ _, bools_of k9, ints_of k10, ints_of k11⟩
    have q3 : Bl W2 b0 28 c9 := by rw [hcs2]; exact q1
    rw [← hcs2] at hSt
    have HH := hide (And.intro hb9 (And.intro q3 (And.intro hX hs13)))
    clear hW2 q1 q2 q3 hX hmv hgr hone hb1' hcs2 hcs hf hs' hb' hb9 hb10 hb11 r9 r10 r11 hc9 hc10 hc11 hrw hb1 hb2 hg1 hblk hmkb hmki hR1 hR2 hstb hsti hC0 hR hs13
    go_upto_region 4 with (fail)
    refine wp_region_list ?_
    rw [List.toList_toArray]
    refine wpList_val (.agg c9) rfl (exec_box rfl rfl HH.out.1 Try.underlying28 rfl (by rw [HH.out.2.2.2]; kernel_rfl)) ?_
    simp only [Act.put, List.setIfInBounds_toArray, List.set_cons_zero, List.set_cons_succ]
    refine wpList_storeV rfl _ _ _ rfl rfl rfl rfl hSt ?_
    go_wp2_with fail
    refine bodyPost_ret (rf_results1 rfl _ W2 b0 28 c9 (0, 0) _ rfl HH.out.2.1 Try.underlying28 rfl (by rw [HH.out.2.2.2]; kernel_rfl)) rfl ?_
    exact ⟨_, rfl, by rw [hr]; exact HH.out.2.2.1⟩

end Go.Proofs.Ythpaoeiackbdoaa

/-
  A law's members: each in a box of its own, its rows in memory that is new. No function of the program.
-/
namespace Go.Proofs.Ythpaoeiackbdoaa
open Go Go.RowKit TxnMath KeyMath MsgMath BalMath RfMath
set_option maxRecDepth 100000

/-- a state whose rows lie in these blocks alone -/
structure RfIn (w : World) (lo hi : Nat) (r : RaftT) (R : RowsM) : Prop where
  top : hi ≤ w.heap.size
  rd : ∀ w'' : World, (∀ j, lo ≤ j → j < hi → w''.heap[j]? = w.heap[j]?) → RaftR Any w'' r R
theorem RfIn.gr {w w' : World} {lo hi : Nat} {r : RaftT} {R : RowsM} (h : RfIn w lo hi r R) (hg : Gr w w') : RfIn w' lo hi r R :=
  ⟨Nat.le_trans h.top hg.size, fun w'' hw => h.rd w'' fun j h1 h2 => (hw j h1 h2).trans (hg.block j (Nat.lt_of_lt_of_le h2 h.top))⟩
theorem RfIn.but {w w' : World} {g lo hi : Nat} {r : RaftT} {R : RowsM} (h : RfIn w lo hi r R) (hb : But w w' g) (hg : g < lo ∨ hi ≤ g) : RfIn w' lo hi r R :=
  ⟨Nat.le_trans h.top hb.size, fun w'' hw => h.rd w'' fun j h1 h2 => (hw j h1 h2).trans (hb.block j (Nat.lt_of_lt_of_le h2 h.top) (fun e => by injection e with e; omega))⟩
theorem RfIn.x {w : World} {lo hi : Nat} {r : RaftT} {R : RowsM} (h : RfIn w lo hi r R) : RaftR Any w r R := h.rd w fun _ _ _ => rfl
/-- letters likewise -/
structure OutIn (w : World) (lo hi : Nat) (u : Value) (ms : List MsgT) : Prop where
  top : hi ≤ w.heap.size
  rd : ∀ w'' : World, (∀ j, lo ≤ j → j < hi → w''.heap[j]? = w.heap[j]?) → OutX Any w'' u ms
theorem OutIn.gr {w w' : World} {lo hi : Nat} {u : Value} {ms : List MsgT} (h : OutIn w lo hi u ms) (hg : Gr w w') : OutIn w' lo hi u ms :=
  ⟨Nat.le_trans h.top hg.size, fun w'' hw => h.rd w'' fun j h1 h2 => (hw j h1 h2).trans (hg.block j (Nat.lt_of_lt_of_le h2 h.top))⟩
theorem OutIn.but {w w' : World} {g lo hi : Nat} {u : Value} {ms : List MsgT} (h : OutIn w lo hi u ms) (hb : But w w' g) (hg : g < lo ∨ hi ≤ g) : OutIn w' lo hi u ms :=
  ⟨Nat.le_trans h.top hb.size, fun w'' hw => h.rd w'' fun j h1 h2 => (hw j h1 h2).trans (hb.block j (Nat.lt_of_lt_of_le h2 h.top) (fun e => by injection e with e; omega))⟩
theorem OutIn.x {w : World} {lo hi : Nat} {u : Value} {ms : List MsgT} (h : OutIn w lo hi u ms) : OutX Any w u ms := h.rd w fun _ _ _ => rfl
theorem TurnX.ins {w w' : World} {s : StT} {v u : Value} (h : TurnX w w' s v u) : ∃ R, v = .agg (rfC s.r R).toArray ∧ RfIn w' w.heap.size w'.heap.size s.r R ∧ OutIn w' w.heap.size w'.heap.size u s.out := by
  obtain ⟨R, e, _, _, _, hn⟩ := h.ex
  exact ⟨R, e, ⟨Nat.le_refl _, fun w'' hw => (hn w'' hw).1⟩, ⟨Nat.le_refl _, fun w'' hw => (hn w'' hw).2⟩⟩
theorem NewX.ins {w w' : World} {r : RaftT} {v : Value} (h : NewX w w' r v) : ∃ R, v = .agg (rfC r R).toArray ∧ RfIn w' w.heap.size w'.heap.size r R := by
  obtain ⟨R, e, _, hn⟩ := h.ex
  exact ⟨R, e, ⟨Nat.le_refl _, fun w'' hw => hn w'' hw⟩⟩
/-- a member in a box -/
structure BoxR (w : World) (g : Nat) (r : RaftT) (R : RowsM) : Prop where
  bl : Bl w g 28 (rfC r R).toArray
  ins : ∃ lo hi, RfIn w lo hi r R ∧ (g < lo ∨ hi ≤ g)
theorem BoxR.gr {w w' : World} {g : Nat} {r : RaftT} {R : RowsM} (h : BoxR w g r R) (hg : Gr w w') : BoxR w' g r R := by
  obtain ⟨lo, hi, h1, h2⟩ := h.ins
  exact ⟨h.bl.gr hg, lo, hi, h1.gr hg, h2⟩
theorem BoxR.x {w : World} {g : Nat} {r : RaftT} {R : RowsM} (h : BoxR w g r R) : RaftR Any w r R := by
  obtain ⟨lo, hi, h1, _⟩ := h.ins
  exact h1.x
theorem OutX.is {X : Nat → Prop} {w : World} {u : Value} {ms : List MsgT} (h : OutX X w u ms) : ∃ A c, u = .slice A ms.length c := by
  obtain ⟨f, h1, _⟩ := h
  obtain ⟨A, c, e, _⟩ := h1.rowAt
  rw [List.length_mapIdx] at e
  exact ⟨A, c, e⟩
/-- one letter of them, cell by cell -/
theorem OutX.at_ {w : World} {u : Value} {ms : List MsgT} (h : OutX Any w u ms) {k : Nat} (hk : k < ms.length) :
    ∃ g c p, u = .slice (some ⟨g, 0, none⟩) ms.length c ∧ (∀ i v, (cellsM ms[k] p)[i]? = some v → w.cell? ⟨g, k * 24 + i, none⟩ = some v) ∧ MsgR Any w ms[k] p := by
  obtain ⟨f, h1, h2⟩ := h
  obtain ⟨g, c, e, _⟩ := h1.block_ (by rw [List.length_mapIdx]; omega)
  rw [List.length_mapIdx] at e
  subst e
  refine ⟨g, c, f k, rfl, fun i v hi => ?_, h2 k ms[k] (List.getElem?_eq_getElem hk)⟩
  exact h1.cell_ (by rw [List.length_mapIdx]) (i := i) (r := cellsM ms[k] (f k)) (by rw [List.getElem?_mapIdx, List.getElem?_eq_getElem hk]; rfl) hi

theorem RaftR.ones {X : Nat → Prop} {w : World} {r : RaftT} {R : RowsM} (h : RaftR X w r R) : ∀ v ∈ rfC r R, v.oneCell' = true := by
  obtain ⟨A, c, e1⟩ := h.l.is
  obtain ⟨A2, c2, e2, _⟩ := BoolsX.is' h.v
  obtain ⟨A3, c3, e3, _⟩ := IntsX.is' h.n
  obtain ⟨A4, c4, e4, _⟩ := IntsX.is' h.m
  have h1 : R.l.oneCell' = true := sl_one ⟨_, _, _, e1⟩
  have h2 : R.v.oneCell' = true := sl_one ⟨_, _, _, e2⟩
  have h3 : R.n.oneCell' = true := sl_one ⟨_, _, _, e3⟩
  have h4 : R.m.oneCell' = true := sl_one ⟨_, _, _, e4⟩
  intro u hu
  simp only [rfC, List.mem_cons, List.not_mem_nil, or_false] at hu
  rcases hu with rfl | rfl | rfl | rfl | rfl | rfl | rfl | rfl | rfl | rfl | rfl | rfl | rfl <;> first | assumption | rfl

/-- a state's box is loaded -/
theorem wpList_ldBox {ops : Array Oper} {rest : List Oper} {o : Oper} {a : Act} {w : World} {Q : Exit → Act → World → Prop} {x : Operand} {g : Nat} {r : RaftT} {R : RowsM} (hg : o.guard = none) (ho : o.op = .load 28 x) (hx : a.eval x = .pointer (some ⟨g, 0, none⟩)) (hb : Bl w g 28 (rfC r R).toArray)
    (h : wpList Try.prog ops Q rest (a.put o.dst (.agg (rfC r R).toArray)) w) : wpList Try.prog ops Q (o :: rest) a w :=
  wpList_val (.agg (rfC r R).toArray) hg (exec_box ho hx hb Try.underlying28 rfl (by show _ = some 13; kernel_rfl)) h
/-- .. where a guard holds -/
theorem wpList_ldBoxG {ops : Array Oper} {rest : List Oper} {o : Oper} {a : Act} {w : World} {Q : Exit → Act → World → Prop} {x : Operand} {g : Nat} {r : RaftT} {R : RowsM} (hw : Region.wanted o (yielded ops a.tmps) = true) (ho : o.op = .load 28 x) (hx : a.eval x = .pointer (some ⟨g, 0, none⟩)) (hb : Bl w g 28 (rfC r R).toArray)
    (h : wpList Try.prog ops Q rest (a.put o.dst (.agg (rfC r R).toArray)) w) : wpList Try.prog ops Q (o :: rest) a w :=
  wpList_step fun K hK => by
    rw [if_pos hw]
    unfold Oper.wp
    rw [exec_box ho hx hb Try.underlying28 rfl (by show _ = some 13; kernel_rfl)]
    exact hK _ _ h
/-- a state is stored into a box -/
theorem wpList_setBox {ops : Array Oper} {rest : List Oper} {o : Oper} {a : Act} {w : World} {Q : Exit → Act → World → Prop} {x y : Operand} {g : Nat} {r : RaftT} {R : RowsM} {old : Array Value} (hg : o.guard = none) (ho : o.op = .store 28 x y) (hd : o.dst = none) (hx : a.eval x = .pointer (some ⟨g, 0, none⟩)) (hy : a.eval y = .agg (rfC r R).toArray)
    (hb : Bl w g 28 old) (hs : old.size = 13) (h1 : ∀ v ∈ rfC r R, v.oneCell' = true) (h : ∀ w', Bl w' g 28 (rfC r R).toArray → But w w' g → wpList Try.prog ops Q rest a w') : wpList Try.prog ops Q (o :: rest) a w := by
  obtain ⟨q1, q2⟩ := Bl.sets (t := 28) (g := g) (rfC r R) 0 w old (by rw [hs]; rfl) hb
  exact wpList_storeV hg 28 x y ho hd hx hy (store_raft (rfC r R) hb hs rfl h1) (h _ (by simpa using q1) q2)
theorem wpList_valW {P : Program} {ops : Array Oper} {rest : List Oper} {o : Oper} {a : Act} {w w' : World} {Q : Exit → Act → World → Prop} (z : Value) (hgd : o.guard = none) (hr : (execOp a.eval o).run P w = .ok (.value z) w') (h : wpList P ops Q rest (a.put o.dst z) w') : wpList P ops Q (o :: rest) a w :=
  wpList_plain hgd fun _ hK => by
    unfold Oper.wp
    rw [hr]
    exact hK _ _ h
/-- a new box -/
theorem wpList_newBox {ops : Array Oper} {rest : List Oper} {o1 o2 : Oper} {a : Act} {w : World} {Q : Exit → Act → World → Prop} {d : Tmp} {y : Operand} {r : RaftT} {R : RowsM} (g1 : o1.guard = none) (g2 : o2.guard = none) (h1 : o1.op = .alloc 28) (hd1 : o1.dst = some d) (h2 : o2.op = .store 28 (.tmp d) y) (hd2 : o2.dst = none)
    (hx : ∀ v, (a.put (some d) v).eval (.tmp d) = v) (hy : ∀ v, (a.put (some d) v).eval y = .agg (rfC r R).toArray) (hone : ∀ v ∈ rfC r R, v.oneCell' = true)
    (h : ∀ w', Bl w' w.heap.size 28 (rfC r R).toArray → Gr w w' → wpList Try.prog ops Q rest (a.put (some d) (.pointer (some ⟨w.heap.size, 0, none⟩))) w') : wpList Try.prog ops Q (o1 :: o2 :: rest) a w := by
  refine wpList_valW (w' := w.alloc (.cells #[.int .i64 0, .int .i64 0, .int .i64 0, .int .i64 0, .int .i64 0, .slice none 0 0, .int .i64 0, .int .i64 0, .int .i64 0, .slice none 0 0, .slice none 0 0, .slice none 0 0, .int .i64 0] 28)) (.pointer (some ⟨w.heap.size, 0, none⟩)) g1 ?_ ?_
  · unfold execOp
    simp only [h1]
    kernel_rfl
  · rw [hd1]
    refine wpList_setBox g2 h2 hd2 (hx _) (hy _) (Bl.new _ _ _) rfl hone fun w' hb hu => ?_
    exact h w' hb (((Gr.refl w).alloc _).fresh_ hu (Nat.le_refl _))

end Go.Proofs.Ythpaoeiackbdoaa
