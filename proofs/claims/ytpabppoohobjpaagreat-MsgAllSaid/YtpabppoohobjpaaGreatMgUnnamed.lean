/-
  msg's unnamed by its contract.
-/
import Derived.Test.YtpabppoohobjpaaGreatHandEr
import Derived.Test.YtpabppoohobjpaaGreatMgEnt
import Derived.Test.YtpabppoohobjpaaGreatHandRd
namespace Go.Proofs.YtpabppoohobjpaaGreat
open Go Go.RowKit TxnMath KeyMath MsgMath
set_option maxRecDepth 100000

theorem Sit.whole {w : World} {g : Nat} {t : TypeId} {cs : Array Value} {l : List Value} (hb : Bl w g t cs) (hs : Sit w g 0 l) (hn : cs.size = l.length) : cs = l.toArray := by
  apply Array.ext'
  apply List.ext_getElem?
  intro i
  show cs.toList[i]? = l[i]?
  rcases Nat.lt_or_ge i l.length with hi | hi
  · have h1 := hs i l[i] (List.getElem?_eq_getElem hi)
    rw [Nat.zero_add, hb.cell i] at h1
    rw [List.getElem?_eq_getElem hi, ← h1]
    simp
  · rw [List.getElem?_eq_none hi, List.getElem?_eq_none (by simp; omega)]
/-- a letter's cells -/
structure MsgCs (X : Nat → Prop) (w : World) (m : MsgT) (cs : Array Value) (r : Rows5) : Prop where
  is : cs = (cellsM m r).toArray
  size : cs.size = 24
  one : cs.all (·.oneCell') = true
  rows : MsgR X w m r
theorem RowX.slice {X : Nat → Prop} {k : Nat} {w : World} {v : Value} {rs : List (List Value)} (h : RowX X k w v rs) : ∃ A n c, v = .slice A n c := by
  obtain ⟨⟨A, c, rfl, _⟩, _⟩ := h
  exact ⟨_, _, _, rfl⟩
theorem MsgR.cells {X : Nat → Prop} {w : World} {m : MsgT} {r : Rows5} (h : MsgR X w m r) : MsgCs X w m (cellsM m r).toArray r := by
  obtain ⟨eA, eC, rA, rC, wA, wC, kA, kC, gA, gC, e, h1, h2, h3, h4⟩ := MsgX.open_ (show MsgX X w (.agg (cellsM m r).toArray) m from ⟨r, rfl, h⟩)
  have e' : (cellsM m r).toArray = cellsV m eA eC rA rC wA wC kA kC gA gC := by injection e
  refine ⟨rfl, rfl, ?_, h⟩
  rw [e']
  simp [cellsV, Value.oneCell']
theorem MsgX.cells {X : Nat → Prop} {w : World} {v : Value} {m : MsgT} (h : MsgX X w v m) : ∃ cs r, v = .agg cs ∧ MsgCs X w m cs r := by
  obtain ⟨r, rfl, h⟩ := h
  exact ⟨_, r, rfl, h.cells⟩
theorem LetX.cells {O : World → Nat → Prop} {w : World} {g : Nat} {m : MsgT} (h : LetX O w g m) : ∃ cs r, Bl w g 61 cs ∧ MsgCs (fun j => ¬ O w j ∧ j ≠ g) w m cs r := by
  obtain ⟨r, ⟨cs, h1, h2⟩, h3, h4⟩ := h
  have := Sit.whole h1 h3 h2
  subst this
  exact ⟨_, r, h1, h4.cells⟩

/-- a letter that is put into a new block -/
theorem LetX.laid {O : World → Nat → Prop} {w0 w : World} {g : Nat} {m : MsgT} {cs : Array Value} {r : Rows5} (hb : Bl w g 61 cs) (h : MsgCs Any w0 m cs r) (hg : Gr w0 w) (hn : w0.heap.size ≤ g) (ho : ∀ j, j < w0.heap.size → ¬ O w j) : LetX O w g m := by
  refine ⟨r, ⟨cs, hb, h.size⟩, ?_, h.rows.move fun j hj _ => ⟨hg.block j hj, ho j hj, by omega⟩⟩
  refine Sit.bl (t := 61) ?_
  rw [← h.is]
  exact hb

/-- a letter's bounds stay -/
theorem hand_lim {σ : Type} {H : Hand σ} {rd : Prop} {hv : Value} {S : σ → World → Prop} {O : World → Nat → Prop} {wt : σ → Nat} (hH : HandOk Tryz.prog H rd hv S O wt) {tk : Bool} {m : MsgT} (h : MsgLim tk m) : ∀ (l : List Fld) (s : σ), MsgLim tk (H.run l s m).1
  | [], _ => h
  | f :: l, s => by
    show MsgLim tk (H.run l (H.fld f s m).2 (H.fld f s m).1).1
    exact hand_lim hH (h.fld hH f s) l _

/-! The eraser beside a block that it leaves alone. -/
def kS (kk : Nat) (t : TypeId) (cs : Array Value) : Unit → World → Prop := fun _ w => Bl w kk t cs
def kO (kk : Nat) : World → Nat → Prop := fun _ j => j = kk
section
variable {kk : Nat} {t : TypeId} {cs : Array Value} {C : Nat → Prop} {w w' : World}
theorem Hr.beside (h : Hr eO False C w w') (hb : Bl w kk t cs) (hc : ¬ C kk) : Hr (kO kk) False C w w' ∧ Bl w' kk t cs :=
  ⟨⟨h.os, h.tape, h.output, h.size, fun j hj _ hd => h.block j hj id hd, fun _ _ hn => hn⟩, (h.block kk hb.lt id (.inr hc)).trans hb⟩
theorem Wr.beside {k o : Nat} {l : List Value} (h : Wr eO False k o l w w') (hb : Bl w kk t cs) (hk : ¬ kO kk w k) : Wr (kO kk) False k o l w w' ∧ Bl w' kk t cs := by
  obtain ⟨h1, h2⟩ := h.hr.beside hb (fun e => hk e.symm)
  exact ⟨⟨h1, h.bl, h.out, h.at_⟩, h2⟩
theorem laid_beside {k o : Nat} {l : List Value} {e : Ending} (hb : Bl w kk t cs) (hk : ¬ kO kk w k) (h : LaidPost eO False eS k o l () w e w') : LaidPost (kO kk) False (kS kk t cs) k o l () w e w' := by
  obtain ⟨h1, _, h2⟩ := h
  obtain ⟨h3, h4⟩ := h2.beside hb hk
  exact ⟨h1, h4, h3⟩
theorem sized_beside {n : Nat} {e : Ending} (hb : Bl w kk t cs) (h : SizedPost eO False eS n () w e w') : SizedPost (kO kk) False (kS kk t cs) n () w e w' := by
  obtain ⟨h1, _, h2⟩ := h
  obtain ⟨h3, h4⟩ := h2.beside hb id
  exact ⟨h1, h4, h3⟩
theorem txn_beside {k o : Nat} {X : Nat → Prop} {x : TxT} {e : Ending} (hb : Bl w kk t cs) (hk : ¬ kO kk w k) (hX : ∀ j, X j → ¬ kO kk w j) (h : TxnLaid eO False eS k o X x () w e w') : TxnLaid (kO kk) False (kS kk t cs) k o X x () w e w' := by
  obtain ⟨h1, _, p, h2, h3⟩ := h
  obtain ⟨h4, h5⟩ := h2.beside hb hk
  refine ⟨h1, h5, p, h4, h3.wide fun j hj => ⟨?_, hj.2⟩⟩
  rcases hj.2 with h | h
  · exact hX j h
  · intro e
    have := hb.lt
    have e' : j = kk := e
    omega
end

theorem eraser_beside (kk : Nat) (t : TypeId) (cs : Array Value) : HandOk Tryz.prog MsgMath.eraser False eV (kS kk t cs) (kO kk) (fun _ => 0) where
  lt hs h := by
    have e : _ = kk := h
    rw [e]
    exact Bl.lt hs
  gr hs hg := ⟨Bl.gr hs hg, fun _ => Iff.rfl⟩
  but hs ho hb := ⟨(hb.block kk (Bl.lt hs) (fun e => ho (by injection e with e; exact e.symm))).trans hs, fun _ => Iff.rfl⟩
  num := ⟨156, .agg #[], eDisp _ _ (fun w => by kernel_rfl) (fun args w => by kernel_rfl), fun _ w k o _ hS _ hO hs hop _ => (er_number w k o _ hs hop).mono fun _ _ h => laid_beside hS hO h⟩
  flag := ⟨155, .agg #[], eDisp _ _ (fun w => by kernel_rfl) (fun args w => by kernel_rfl), fun _ w k o _ hS _ hO hs hop => (er_flag w k o _ hs hop).mono fun _ _ h => laid_beside hS hO h⟩
  text := ⟨158, .agg #[], eDisp _ _ (fun w => by kernel_rfl) (fun args w => by kernel_rfl), fun _ w k o _ hS _ hO hs hop _ => (er_text w k o _ hs hop).mono fun _ _ h => laid_beside hS hO h⟩
  txn := ⟨159, .agg #[], eDisp _ _ (fun w => by kernel_rfl) (fun args w => by kernel_rfl), fun _ w k o t p X hS _ hO hs hX _ hop _ => (er_txn w k o t p X hs hop).mono fun _ _ h => txn_beside hS hO (fun j hj => (hX j hj).1) h⟩
  size := ⟨157, .agg #[], eDisp _ _ (fun w => by kernel_rfl) (fun args w => by kernel_rfl), fun _ w n m hS _ _ _ => (er_size w n m).mono fun _ _ h => sized_beside hS h⟩
  rdNum h := h.elim
  rdFlag h := h.elim
  rdText h := h.elim
  rdTxn h := h.elim
  rdSize h := h.elim
  i64 _ _ _ := (show I64 0 from ⟨by decide, by decide⟩)
  short _ _ _ := Nat.zero_le _
  lim _ _ _ := noTxn_lim
  few _ _ _ := .inl (Nat.zero_le _)
  wNum _ _ := by omega
  wFlag _ _ := by omega
  wText _ _ := by omega
  wTxn _ _ := by omega
  wSize _ _ _ := by omega

/-- where unnamed stands: its letter, what it tells -/
structure UnSt (w W : World) (cs : Array Value) (m : MsgT) : Prop where
  let_ : LetX (kO (w.heap.size + 1)) W (w.heap.size + 1 + 1) m
  gr : Gr w W
  res : Bl W (w.heap.size + 1) 31 cs
theorem UnSt.next {w W W' : World} {cs : Array Value} {m : MsgT} (h : UnSt w W cs m) {x : MsgT × Unit} {e : Ending} (hp : FldPost (kO (w.heap.size + 1)) False (kS (w.heap.size + 1) 31 cs) (w.heap.size + 1 + 1) W x e W') : e = .returned (.tuple #[]) ∧ UnSt w W' cs x.1 := by
  obtain ⟨he, hS, hl, hr⟩ := hp
  have hg := h.gr.size
  exact ⟨he, hl, ⟨hr.os.trans h.gr.os, hr.tape.trans h.gr.tape, hr.output.trans h.gr.output, Nat.le_trans hg hr.size, fun j hj => (hr.block j (by omega) (fun e => by have e' : j = w.heap.size + 1 := e; omega) (.inr (by omega))).trans (h.gr.block j hj)⟩, hS⟩
theorem UnSt.notown (w : World) {W : World} : ¬ kO (w.heap.size + 1) W (w.heap.size + 1 + 1) := fun e => by
  have e' : w.heap.size + 1 + 1 = w.heap.size + 1 := e
  omega

set_option maxHeartbeats 1000000 in
theorem unnamed_ok (v : Value) (m : MsgT) (w : World) (hv : MsgAt w v m) (hm : MsgLim (decide (m.kind = 5)) m) :
    Calls Tryz.prog 29 #[v] w fun e w' => ∃ u, e = .returned u ∧ MsgAt w' u (restOf m) ∧ Gr w w' := by
  obtain ⟨cs, r, rfl, hc⟩ := hv.cells
  have hsz : (Tryz.prog.info? 31).map (·.size) = some cs.size := by rw [hc.size]; kernel_rfl
  have hsz' : (Tryz.prog.info? 61).map (·.size) = some cs.size := by rw [hc.size]; kernel_rfl
  have HONE := hide hc.one
  have HSZ := hide hc.size
  have HB0 := hide (fun o => (show Bl ((w.alloc (.cells cs 31)).alloc o) w.heap.size 31 cs from (Bl.new w _ _).gr ((Gr.refl _).alloc _)))
  have HB1 := hide (fun o1 old => (show Bl (((w.alloc (.cells cs 31)).alloc o1).alloc (.cells old 61)) (w.heap.size + 1 + 1) 61 old from by
    have h := Bl.new ((w.alloc (.cells cs 31)).alloc o1) 61 old
    simpa using h))
  have HST := hide (fun cs1 old => (show UnSt w ((((w.alloc (.cells cs 31)).alloc (.cells cs1 31)).alloc (.cells old 61)).setRow (w.heap.size + 1 + 1) cs) cs1 m from by
    have g0 := (((Gr.refl w).alloc (.cells cs 31)).alloc (.cells cs1 31)).alloc (.cells old 61)
    have g1 := g0.fresh (But.row _ (w.heap.size + 1 + 1) cs) (by omega)
    have b1 : Bl (((w.alloc (.cells cs 31)).alloc (.cells cs1 31)).alloc (.cells old 61)) (w.heap.size + 1) 31 cs1 := by
      have h := (Bl.new (w.alloc (.cells cs 31)) 31 cs1).gr ((Gr.refl _).alloc (.cells old 61))
      simpa using h
    refine ⟨LetX.laid ((HB1.out _ old).row cs) hc g1 (by omega) (fun j hj e => by have e' : j = w.heap.size + 1 := e; omega), g1, ?_⟩
    exact ((But.row _ (w.heap.size + 1 + 1) cs).block _ b1.lt (fun e => by injection e with e; omega)).trans b1))
  have HC1 := hide (fun W c1 (h : UnSt w W c1 m) => (body_ok (eraser_beside _ _ c1) () m W (w.heap.size + 1 + 1) h.res (by decide) h.let_ (UnSt.notown w) hm (.inr (.inl fun _ _ _ => rfl))).mono (fun e W' hp => h.next hp))
  have hlim : MsgLim (decide (m.kind = 5)) (MsgMath.eraser.body () m).1 := hand_lim eraser_hand hm _ ()
  have HC2 := hide (fun W c1 (h : UnSt w W c1 (MsgMath.eraser.body () m).1) => (head_ok (eraser_beside _ _ c1) () (MsgMath.eraser.body () m).1 W (w.heap.size + 1 + 1) h.res (by decide) h.let_ (UnSt.notown w) hlim.kind hlim.frm hlim.to hlim.part).mono (fun e W' hp => h.next hp))
  change Hid (∀ W c1, UnSt w W c1 (MsgMath.eraser.body () m).1 → Calls _ _ _ _ fun e W' => e = _ ∧ UnSt w W' c1 (restOf m)) at HC2
  generalize (MsgMath.eraser.body () m).1 = m1 at HC1 HC2
  generalize restOf m = m2 at HC2 ⊢
  clear hc hv hm hlim
  go_enter Tryz.func29, Tryz.ntmps29
  go_wp2_with (first
    | refine wpList_load_row rfl 31 (.tmp 1) (by with_reducible rfl) w.heap.size rfl 31 _ (0, 0) _ (HB0.out _) Tryz.underlying31 rfl hsz ?_
    | refine wpList_store_row rfl 61 (.tmp 3) (.tmp 4) (by with_reducible rfl) (w.heap.size + 1 + 1) cs rfl rfl 61 _ (HB1.out _ _) hsz' HSZ.out.symm HONE.out ?_)
  refine (HC1.out _ _ (HST.out _ _)).mono ?_
  rintro e w1 ⟨rfl, h1⟩
  clear HC1 HST HB0 HB1 hsz hsz' HONE HSZ
  have H1 := hide h1
  clear h1
  go_wp2_with fail
  refine (HC2.out _ _ H1.out).mono ?_
  rintro e w2 ⟨rfl, h2⟩
  clear HC2 H1
  obtain ⟨cs2, r2, hb2, hc2⟩ := h2.let_.cells
  have hb3 := h2.res
  have hsz2 : (Tryz.prog.info? 61).map (·.size) = some cs2.size := by rw [hc2.size]; kernel_rfl
  have hsz3 : (Tryz.prog.info? 31).map (·.size) = some cs2.size := by rw [hc2.size]; kernel_rfl
  have ho3 : 24 = cs2.size := hc2.size.symm
  have hone2 := hc2.one
  have HB4 := hide (hb3.row cs2)
  have HF := hide (show MsgAt (w2.setRow (w.heap.size + 1) cs2) (.agg cs2) m2 ∧ Gr w (w2.setRow (w.heap.size + 1) cs2) from by
    have hbut := But.row w2 (w.heap.size + 1) cs2
    refine ⟨⟨r2, by rw [← hc2.is], ?_⟩, h2.gr.fresh hbut (by omega)⟩
    exact hc2.rows.move fun j hj hx => ⟨hbut.block j hj (fun e => hx.1 (by injection e)), trivial⟩)
  clear h2 hc2
  go_wp2_with (first
    | refine wpList_load_row rfl 61 (.tmp 3) (by with_reducible rfl) (w.heap.size + 1 + 1) rfl 61 _ (0, 0) _ hb2 Tryz.underlying61 rfl hsz2 ?_
    | refine wpList_store_row rfl 31 (.tmp 2) (.tmp 11) (by with_reducible rfl) (w.heap.size + 1) cs2 rfl rfl 31 _ hb3 hsz3 ho3 hone2 ?_)
  exact bodyPost_ret (results_cell_row rfl _ _ (w.heap.size + 1) 31 cs2 (0, 0) _ rfl HB4.out Tryz.underlying31 rfl hsz3) rfl ⟨_, rfl, HF.out⟩

end Go.Proofs.YtpabppoohobjpaaGreat

/-
  msg's May by its contract.
-/
namespace Go.Proofs.YtpabppoohobjpaaGreat.Grow
open Go Go.RowKit Go.Proofs.YtpabppoohobjpaaGreat
section
variable {P : Program} {ops : Array Oper} {w0 : World} {n0 : Nat} {Q : (Tmp → Known) → Prop} {o : Oper} {rest : List Oper} {K : Tmp → Known} {Φ : Known} {b : Bool}
/-- a whole variable that lies in memory, where b holds -/
theorem cd_row {ty : TypeId} {x : Operand} {g : Nat} {e : TypeId} {cs : Array Value} {d : TypeDesc} (ho : o.op = .load ty x) (hG : Gd ops K n0 o b) (hx : KnC K b x (Bx g e cs))
    (hu : P.underlying ty = some d) (hd : (match d with | .struct _ | .array _ _ => true | _ => false) = true) (hi : (P.info? ty).map (·.size) = some cs.size) (h : wpGrow P ops w0 n0 Q rest (upd K o.dst (Cd b (Is (.agg cs))))) : wpGrow P ops w0 n0 Q (o :: rest) K := by
  refine cd_step hG (Is.stays _) (fun hb a w _ _ hl => ?_) h
  obtain ⟨h1, h2⟩ : a.eval x = .pointer (some ⟨g, 0, none⟩) ∧ Bl w g e cs := looks_c (Ψ := Bx g e cs) hb (by simp [ho, Op.operands]) hx hl
  unfold does execOp
  simp only [ho, h1, Instr.loadAt, Instr.sureAddr, Sem.run_bind, Sem.run_pure, Result.andThen_ok, run_loadVar_row w g e ty cs (0, 0) d h2 hu hd hi]
  exact ⟨Gr.refl w, rfl⟩
/-- 'T{}', where b holds -/
theorem cd_build {t : TypeId} {cs : Array Value} {Ψ : Known} (ho : o.op = .build t #[]) (hG : Gd ops K n0 o b) (hr : P.built t [] = some cs) (hst : Stays Ψ) (hΨ : ∀ w, Ψ (.agg cs) w)
    (h : wpGrow P ops w0 n0 Q rest (upd K o.dst (Cd b Ψ))) : wpGrow P ops w0 n0 Q (o :: rest) K := by
  refine cd_step hG hst (fun _ a w _ _ _ => ?_) h
  unfold does execOp
  have hc : P.built t ((#[] : Array (Nat × Operand)).map fun (i, x) => (i, a.eval x)).toList = some cs := by simpa using hr
  simp only [ho, Sem.run_bind, run_build w t _ cs hc, Result.andThen_ok]
  exact ⟨Gr.refl w, hΨ w⟩
/-- a call that may use that b holds -/
theorem cd_call1b {f : FuncId} {x : Operand} {ats : Array TypeId} {Ψ : Known} {fn : Func} (ho : o.op = .call { callee := .value (.func f), args := #[x], argTypes := ats }) (hG : Gd ops K n0 o b) (hf : P.funcs[f]? = some fn) (hn : (fn.name == "runtime.NumGoroutine") = false) (hbd : fn.body.isNone = false)
    (hx : KnC K b x Ψ) (hst : Stays Φ) (hc : b = true → ∀ v w, Gr w0 w → Ψ v w → Calls P f #[v] w fun e w' => ∃ u, e = .returned u ∧ Gr w w' ∧ Φ u w') (h : wpGrow P ops w0 n0 Q rest (upd K o.dst (Cd b Φ))) : wpGrow P ops w0 n0 Q (o :: rest) K := by
  refine cd_step hG hst (fun hb a w hg _ hl => ?_) h
  have h1 : Ψ (a.eval x) w := looks_c hb (by simp [ho, Op.operands, Call.operands]) hx hl
  obtain ⟨dst, op, ty, pos, after, guard⟩ := o
  simp only at ho
  subst ho
  unfold does
  rw [execOp_call_go, enters hf hn hbd]
  exact ⟨Gr.refl w, by simpa using hc hb _ w hg h1⟩
end
end Go.Proofs.YtpabppoohobjpaaGreat.Grow
namespace Go.Proofs.YtpabppoohobjpaaGreat
open Go Go.RowKit TxnMath KeyMath MsgMath
set_option maxRecDepth 100000

abbrev MgK (m : MsgT) : Grow.Known := fun v w => MsgAt w v m
theorem MgK.stays (m : MsgT) : Grow.Stays (MgK m) := fun _ _ _ h hg => MsgX.gr h hg
theorem noMsg_at (w : World) : MsgAt w (.agg (cellsM noMsg ⟨.slice none 0 0, (.slice none 0 0, .slice none 0 0), .slice none 0 0, .slice none 0 0⟩).toArray) noMsg :=
  ⟨_, rfl, EntsX.nil _ _, RowsX.none_ _ _, RowX.nil _ _ _, RowX.nil _ _ _⟩

/-- versions are numbers -/
def VersOk (t : TxT) : Prop := ∀ x ∈ t.reads, x.ver ≤ 9223372036854775807
structure MsgVers (m : MsgT) : Prop where
  t : VersOk m.t
  ent : ∀ e ∈ m.entries, VersOk e.t
theorem mayT_lim {t : TxT} (h : mayT t = true) (hv : VersOk t) : TxLim 1000000 t := by
  obtain ⟨h1, h2, h3, h4, h5, h6, h7, h8, h9, h10⟩ := mayT_parts h
  have hk := rising_may h9
  have hw := rising_may h10
  exact ⟨⟨by omega, by omega⟩, ⟨by omega, by omega⟩, by omega, by omega,
    fun x hx => ⟨by have := mayK_size (hk x.key (List.mem_map.2 ⟨x, hx, rfl⟩)); omega, by have := (rdOk_parts (h1 x hx)).2; omega, by have := (rdOk_parts (h1 x hx)).1; omega, hv x hx⟩,
    fun x hx => ⟨by have := mayK_size (hw x.key (List.mem_map.2 ⟨x, hx, rfl⟩)); omega, by have := wrOk_parts (h2 x hx); omega⟩⟩
theorem okN_i64 {z : Int} (h : okN z = true) : I64 z := by
  unfold okN at h
  simp only [Bool.and_eq_true, decide_eq_true_eq] at h
  exact ⟨by omega, by omega⟩
/-- a letter whose fields may be is bounded -/
theorem body_lim {m : MsgT} (h : bodyB m = true) (hv : MsgVers m) : MsgLim (decide (m.kind = 5)) m := by
  unfold bodyB at h
  simp only [Bool.and_eq_true, decide_eq_true_eq] at h
  obtain ⟨⟨⟨⟨⟨⟨⟨⟨⟨⟨⟨⟨h0, h1⟩, h2⟩, h3⟩, h4⟩, h5⟩, h6⟩, h7⟩, h8⟩, h9⟩, h10⟩, h11⟩, h12⟩ := h
  have hn : ∀ z ∈ nums13 m, I64 z := fun z hz => okN_i64 (List.all_eq_true.1 h0 z hz)
  have hk9 := rising_may h9
  have hk12 := rising_may h12
  refine ⟨hn _ (by simp [nums13]), hn _ (by simp [nums13]), hn _ (by simp [nums13]), hn _ (by simp [nums13]), hn _ (by simp [nums13]), hn _ (by simp [nums13]), hn _ (by simp [nums13]), hn _ (by simp [nums13]), hn _ (by simp [nums13]), hn _ (by simp [nums13]), hn _ (by simp [nums13]), hn _ (by simp [nums13]), hn _ (by simp [nums13]),
    by omega, fun e he => ?_, fun h => ?_, by omega, by omega, by omega, fun x hx => by have := mayK_size (hk9 x hx); omega, by omega, fun x hx => ?_⟩
  · have h := List.all_eq_true.1 h4 e he
    unfold entB at h
    simp only [Bool.and_eq_true] at h
    refine ⟨okN_i64 h.1, ?_⟩
    have h2 := h.2
    split at h2
    · rw [of_decide_eq_true h2]
      exact noTxn_lim
    · exact mayT_lim h2 (hv.ent e he)
  · have hk : m.kind = 5 := of_decide_eq_true h
    rw [hk] at h5
    exact mayT_lim (by simpa using h5) hv.t
  · have h := List.all_eq_true.1 h11 x hx
    unfold rdB at h
    simp only [Bool.and_eq_true, decide_eq_true_eq] at h
    exact ⟨by have := mayK_size (hk12 x.key (List.mem_map.2 ⟨x, hx, rfl⟩)); omega, by omega, okN_i64 h.1⟩
theorem erase_list {α : Type} (zero : α) (one : Unit → α → α × Unit) (most : Nat) (s : Unit) (l : List α) : (MsgMath.eraser.list zero one most s l).1 = [] := by
  have h : sized zero (MsgMath.eraser.size s l.length most).1 l = [] := List.eq_nil_of_length_eq_zero (by rw [sized_len]; rfl)
  unfold Hand.list
  rw [h]
  rfl
theorem MsgBnd.erase {m : MsgT} (h : MsgBnd m) (f : Fld) : MsgBnd (MsgMath.eraser.fld f () m).1 := by
  cases f with
  | entries => exact { h with en := by show (MsgMath.eraser.list _ _ _ _ _).1.length ≤ _; rw [erase_list]; exact Nat.zero_le _, ent := fun e he => by have he' : e ∈ (MsgMath.eraser.list noEnt MsgMath.eraser.entry 4 () m.entries).1 := he; rw [erase_list] at he'; cases he' }
  | keys => exact { h with kn := by show (MsgMath.eraser.list _ _ _ _ _).1.length ≤ _; rw [erase_list]; exact Nat.zero_le _, ks := fun e he => by have he' : e ∈ (MsgMath.eraser.list nothing MsgMath.eraser.text 6 () m.keys).1 := he; rw [erase_list] at he'; cases he' }
  | got => exact { h with gn := by show (MsgMath.eraser.list _ _ _ _ _).1.length ≤ _; rw [erase_list]; exact Nat.zero_le _, gk := fun e he => by have he' : e ∈ (MsgMath.eraser.list noRd MsgMath.eraser.read 64 () m.got).1 := he; rw [erase_list] at he'; cases he' }
  | t => exact { h with t := noTxn_lim.bnd }
  | fromKey => exact { h with fk := Nat.zero_le _ }
  | toKey => exact { h with tk := Nat.zero_le _ }
  | _ => exact { h with }
theorem MsgBnd.run : ∀ (l : List Fld) {m : MsgT}, MsgBnd m → MsgBnd (MsgMath.eraser.run l () m).1
  | [], _, h => h
  | f :: l, _, h => MsgBnd.run l (h.erase f)
theorem MsgBnd.rest {m : MsgT} (h : MsgBnd m) : MsgBnd (restOf m) := MsgBnd.run headF (MsgBnd.run (named m.kind) h)
theorem noMsg_bnd : MsgBnd noMsg := ⟨Nat.zero_le _, fun _ h => (by cases h), noTxn_lim.bnd, Nat.zero_le _, Nat.zero_le _, Nat.zero_le _, fun _ h => (by cases h), Nat.zero_le _, fun _ h => (by cases h)⟩

/-- may the letter be? -/
def mayM (m : MsgT) : Bool := headB m && bodyB m && decide (restOf m = noMsg)

set_option maxHeartbeats 2000000 in
theorem MgMay_ok (v : Value) (m : MsgT) (w : World) (hv : MsgAt w v m) (hb : MsgBnd m) (hvs : MsgVers m) : Calls Tryz.prog 11 #[v] w fun e w' => e = .returned (.bool (mayM m)) ∧ Gr w w' := by
  have C0 := hide (fun w' (h : Gr w w') => mayHead_ok v m w' (MsgX.gr hv h))
  have C1 := hide (fun w' (h : Gr w w') => mayBody_ok v m w' (MsgX.gr hv h) hb)
  have C2 := hide (fun (hbb : bodyB m = true) w' (h : Gr w w') => unnamed_ok v m w' (MsgX.gr hv h) (body_lim hbb hvs))
  have C3 := hide (fun v u w' (h : MsgAt w' v (restOf m)) (k : MsgAt w' u noMsg) => MgSame_ok v u (restOf m) noMsg w' h k hb.rest noMsg_bnd)
  obtain ⟨cs, r, rfl, hc⟩ := hv.cells
  have hsz : (Tryz.prog.info? 31).map (·.size) = some cs.size := by rw [hc.size]; kernel_rfl
  clear hc hv
  unfold mayM
  generalize headB m = b0 at C0 ⊢
  generalize bodyB m = b1 at C1 C2 ⊢
  generalize hb2 : decide (restOf m = noMsg) = b2 at C3 ⊢
  clear hb2 hb hvs
  go_enter Tryz.func11, Tryz.ntmps11
  go_upto_region 1 with (fail)
  obtain ⟨W, hW⟩ : ∃ W, w.alloc (.cells cs 31) = W := ⟨_, rfl⟩
  have hgW : Gr w W := by rw [← hW]; exact (Gr.refl _).alloc _
  have hbW : Bl W w.heap.size 31 cs := by rw [← hW]; exact Bl.new _ _ _
  change (Code.region 1 _ false).wp _ _ _ (w.alloc (.cells cs 31))
  rw [hW]
  clear hW
  refine Grow.wp_region_text 15 [3, 4, 5, 6, 7, 8, 9, 10, 11, 12, 13, 14, 2] rfl (by kernel_rfl) (by kernel_rfl) (Grow.Ahead.more (Grow.Ahead.none_ _ _) 1 (Grow.Bx.stays w.heap.size 31 cs) ⟨rfl, hbW⟩) ?_
  refine Grow.grow_row rfl (.inl ⟨rfl, rfl⟩) rfl Tryz.underlying31 rfl hsz ?_
  refine Grow.grow_call1 (Φ := Grow.Is (.bool b0)) rfl (.inl ⟨rfl, rfl⟩) Tryz.func27 (by kernel_rfl) (by kernel_rfl) (Ψ := Grow.Is (.agg cs)) rfl (Grow.Is.stays _) (fun v w' hg hv => by
    obtain rfl : v = _ := hv
    exact (C0.out w' (hgW.trans hg)).mono fun e w1 ⟨h1, h2⟩ => ⟨_, h1, h2, rfl⟩) ?_
  refine Grow.grow_mv (.inl rfl) (.inl ⟨rfl, rfl⟩) rfl ?_
  refine Grow.cd_row rfl (.inl ⟨2, 5, rfl, rfl, rfl, by decide⟩) (.inl rfl) Tryz.underlying31 rfl hsz ?_
  refine Grow.cd_call1 (Φ := Grow.Is (.bool b1)) (Ψ := Grow.Is (.agg cs)) rfl (.inl ⟨2, 5, rfl, rfl, rfl, by decide⟩) Tryz.func28 (by kernel_rfl) (by kernel_rfl) (.inr rfl) (Grow.Is.stays _) (fun v w' hg hv => by
    obtain rfl : v = _ := hv
    exact (C1.out w' (hgW.trans hg)).mono fun e w1 ⟨h1, h2⟩ => ⟨_, h1, h2, rfl⟩) ?_
  refine Grow.pick_and rfl rfl rfl (.inr rfl) ?_
  refine Grow.grow_mv (.inl rfl) (.inl ⟨rfl, rfl⟩) rfl ?_
  refine Grow.cd_row rfl (.inl ⟨6, 9, rfl, rfl, rfl, by decide⟩) (.inl rfl) Tryz.underlying31 rfl hsz ?_
  refine Grow.cd_call1b (Φ := MgK (restOf m)) (Ψ := Grow.Is (.agg cs)) rfl (.inl ⟨6, 9, rfl, rfl, rfl, by decide⟩) Tryz.func29 (by kernel_rfl) (by kernel_rfl) (.inr rfl) (MgK.stays _) (fun hbb v w' hg hv => by
    obtain rfl : v = _ := hv
    exact (C2.out (by cases b0 <;> simp_all) w' (hgW.trans hg)).mono fun e w1 ⟨u, h1, h2, h3⟩ => ⟨u, h1, h3, h2⟩) ?_
  refine Grow.cd_build (Ψ := MgK noMsg) rfl (.inl ⟨6, 9, rfl, rfl, rfl, by decide⟩) (by kernel_rfl) (MgK.stays _) (fun w => noMsg_at w) ?_
  refine Grow.cd_call2 (Φ := Grow.Is (.bool b2)) rfl (.inl ⟨6, 9, rfl, rfl, rfl, by decide⟩) Tryz.func13 (by kernel_rfl) (by kernel_rfl) (.inr rfl) (.inr rfl) (Grow.Is.stays _) (fun v u w' hg hv hu => (C3.out v u w' hv hu).mono fun e w1 ⟨h1, h2⟩ => ⟨_, h1, h2, rfl⟩) ?_
  refine Grow.pick_and rfl rfl rfl (.inr rfl) ?_
  refine Grow.grow_mv (.inr rfl) (.inl ⟨rfl, rfl⟩) rfl ?_
  intro a1 w1 hg hsz hdf hun hk
  have h2 := hk 2
  clear hk hun
  change a1.tmps.getD 2 undef = _ at h2
  have hgr := hgW.trans hg
  rw [Grow.lay_frame a1 15 hsz, hdf]
  simp only [List.range, List.range.loop, List.map_cons, List.map_nil, h2]
  go_wp2_with fail
  go_ret
  exact ⟨rfl, hgr⟩

end Go.Proofs.YtpabppoohobjpaaGreat

/-
  msg's Put by its contract.
-/
namespace Go.Proofs.YtpabppoohobjpaaGreat
open Go Go.RowKit TxnMath KeyMath MsgMath
set_option maxRecDepth 100000

/-- the letter as bytes -/
def encM (m : MsgT) : List UInt8 := (MsgMath.writer.body (MsgMath.writer.head [] m).2 (MsgMath.writer.head [] m).1).2
/-- .. or nothing -/
def putM (m : MsgT) : List UInt8 := if mayM m then encM m else []

/-- where Put stands: its writer in block g, its letter behind it -/
structure PuSt (w W : World) (g : Nat) (l : List UInt8) (m : MsgT) : Prop where
  st : mwS g l W
  let_ : LetX (mwO g) W (g + 1) m
  gr : Gr w W
  apart : ¬ mwO g W (g + 1)
  far : ∀ j, j < w.heap.size → ¬ mwO g W j
  le : w.heap.size ≤ g
theorem PuSt.next {w W W' : World} {g : Nat} {l : List UInt8} {m : MsgT} (h : PuSt w W g l m) {x : MsgT × List UInt8} {e : Ending} (hp : FldPost (mwO g) True (mwS g) (g + 1) W x e W') : e = .returned (.tuple #[]) ∧ PuSt w W' g x.2 x.1 := by
  obtain ⟨he, hS, hl, hr⟩ := hp
  have hg := h.gr.size
  exact ⟨he, hS, hl, ⟨hr.os.trans h.gr.os, hr.tape.trans h.gr.tape, hr.output.trans h.gr.output, Nat.le_trans hg hr.size, fun j hj => (hr.block j (by omega) (h.far j hj) (.inl trivial)).trans (h.gr.block j hj)⟩,
    hr.own _ h.let_.lt h.apart, fun j hj => hr.own j (by omega) (h.far j hj), h.le⟩
theorem PuSt.start {w w1 : World} {m : MsgT} {cs old : Array Value} {r : Rows5} (hg : Gr w w1) (hc : MsgCs Any w m cs r) :
    PuSt w (((w1.alloc (.cells #[.slice none 0 0] 60)).alloc (.cells old 61)).setRow (w1.heap.size + 1) cs) w1.heap.size [] m := by
  have hs := hg.size
  have g0 := (hg.alloc (.cells #[.slice none 0 0] 60)).alloc (.cells old 61)
  have hbut := But.row ((w1.alloc (.cells #[.slice none 0 0] 60)).alloc (.cells old 61)) (w1.heap.size + 1) cs
  have g1 := g0.fresh hbut (by omega)
  have b0 : Bl ((w1.alloc (.cells #[.slice none 0 0] 60)).alloc (.cells old 61)) w1.heap.size 60 #[.slice none 0 0] := (Bl.new w1 _ _).gr ((Gr.refl _).alloc _)
  have b1 : Bl ((w1.alloc (.cells #[.slice none 0 0] 60)).alloc (.cells old 61)) (w1.heap.size + 1) 61 old := by
    have h := Bl.new (w1.alloc (.cells #[.slice none 0 0] 60)) 61 old
    simpa using h
  have b2 : Bl (((w1.alloc (.cells #[.slice none 0 0] 60)).alloc (.cells old 61)).setRow (w1.heap.size + 1) cs) w1.heap.size 60 #[.slice none 0 0] := (hbut.block _ b0.lt (fun e => by injection e with e; omega)).trans b0
  have hO : ∀ j, j ≠ w1.heap.size → ¬ mwO w1.heap.size (((w1.alloc (.cells #[.slice none 0 0] 60)).alloc (.cells old 61)).setRow (w1.heap.size + 1) cs) j := fun j hj h => by
    rcases (mwO_iff b2 j).1 h with h | h
    · exact hj h
    · cases h
  exact ⟨⟨_, b2, OwnE.none_ _ _⟩, LetX.laid (b1.row cs) hc g1 (by omega) (fun j hj => hO j (by omega)), g1, hO _ (by omega), fun j hj => hO j (by omega), hs⟩
theorem head_write (m : MsgT) : MsgMath.writer.head [] m = (m, [] ++ putZ m.kind ++ putZ m.frm ++ putZ m.to ++ putZ m.part) := rfl
theorem may_body {m : MsgT} (h : mayM m = true) : bodyB m = true := by
  unfold mayM at h
  simp only [Bool.and_eq_true] at h
  exact h.1.2

set_option maxHeartbeats 1000000 in
theorem MgPut_ok (v : Value) (m : MsgT) (w : World) (hv : MsgAt w v m) (hb : MsgBnd m) (hvs : MsgVers m) : Calls Tryz.prog 12 #[v] w (PutOwn w (putM m)) := by
  have CM := hide (fun w' (h : Gr w w') => MgMay_ok v m w' (MsgX.gr hv h) hb hvs)
  obtain ⟨cs, r, rfl, hc⟩ := hv.cells
  have hsz : (Tryz.prog.info? 31).map (·.size) = some cs.size := by rw [hc.size]; kernel_rfl
  have hsz' : (Tryz.prog.info? 61).map (·.size) = some cs.size := by rw [hc.size]; kernel_rfl
  have HONE := hide hc.one
  have HSZ := hide hc.size
  have HB0 := hide (show Bl (w.alloc (.cells cs 31)) w.heap.size 31 cs from Bl.new w _ _)
  have HLIM := hide (fun h => body_lim (m := m) (may_body h) hvs)
  have HST := hide (fun w1 old (hg : Gr w w1) => PuSt.start (old := old) hg hc)
  have HE := hide (show putM m = if mayM m then encM m else [] from rfl)
  obtain ⟨R, hR⟩ : ∃ R, putM m = R := ⟨_, rfl⟩
  rw [hR] at HE ⊢
  clear hR
  have HW0 := hide ((Gr.refl w).alloc (.cells cs 31))
  generalize hmay : mayM m = may at CM HLIM HE
  clear hc hv hb hvs hmay
  cases may
  · go_enter Tryz.func12, Tryz.ntmps12
    go_wp2_with (refine wpList_load_row rfl 31 (.tmp 1) (by with_reducible rfl) w.heap.size rfl 31 _ (0, 0) _ HB0.out Tryz.underlying31 rfl hsz ?_)
    refine (CM.out _ HW0.out).mono ?_
    rintro e w1 ⟨rfl, hg1⟩
    have hg := HW0.out.trans hg1
    clear hg1
    go_wp2_with fail
    go_ret
    exact ⟨_, rfl, by rw [HE.out]; exact OwnE.none_ _ _, hg⟩
  · have hlim := HLIM.out rfl
    have E : Hid (R = encM m) := hide (by rw [HE.out]; rfl)
    have HC1 := hide (fun w1 W (h : PuSt w W w1 [] m) => (head_ok (writer_hand w1) [] m W (w1 + 1) h.st (by decide) h.let_ h.apart hlim.kind hlim.frm hlim.to hlim.part).mono (fun e W' hp => h.next hp))
    rw [head_write] at HC1
    have hwt : ([] ++ putZ m.kind ++ putZ m.frm ++ putZ m.to ++ putZ m.part).length ≤ 1000000 := by
      have h1 := putZ_len m.kind
      have h2 := putZ_len m.frm
      have h3 := putZ_len m.to
      have h4 := putZ_len m.part
      simp only [List.length_append, List.length_nil]
      omega
    have HC2 := hide (fun w1 W (h : PuSt w W w1 ([] ++ putZ m.kind ++ putZ m.frm ++ putZ m.to ++ putZ m.part) m) => (body_ok (writer_hand w1) _ m W (w1 + 1) h.st hwt h.let_ h.apart hlim (.inl trivial)).mono (fun e W' hp => h.next hp))
    have HX : Hid ((MsgMath.writer.body ([] ++ putZ m.kind ++ putZ m.frm ++ putZ m.to ++ putZ m.part) m).2 = encM m) := hide rfl
    generalize MsgMath.writer.body ([] ++ putZ m.kind ++ putZ m.frm ++ putZ m.to ++ putZ m.part) m = x at HC2 HX
    generalize [] ++ putZ m.kind ++ putZ m.frm ++ putZ m.to ++ putZ m.part = l1 at HC1 HC2 hwt
    clear hlim hwt HLIM HE
    go_enter Tryz.func12, Tryz.ntmps12
    go_wp2_with (refine wpList_load_row rfl 31 (.tmp 1) (by with_reducible rfl) w.heap.size rfl 31 _ (0, 0) _ HB0.out Tryz.underlying31 rfl hsz ?_)
    refine (CM.out _ HW0.out).mono ?_
    rintro e w1 ⟨rfl, hg1⟩
    have hg := HW0.out.trans hg1
    have HBX := hide (fun o => (HB0.out.gr hg1).gr ((Gr.refl w1).alloc o))
    have HBL := hide (fun o old => (show Bl ((w1.alloc o).alloc (.cells old 61)) (w1.heap.size + 1) 61 old from by
      have h := Bl.new (w1.alloc o) 61 old
      simpa using h))
    have HS0 := hide (fun old => HST.out w1 old hg)
    clear hg hg1 CM HST
    go_wp2_with (first
      | refine wpList_load_row rfl 31 (.tmp 1) (by with_reducible rfl) w.heap.size rfl 31 _ (0, 0) _ (HBX.out _) Tryz.underlying31 rfl hsz ?_
      | refine wpList_store_row rfl 61 (.tmp 4) (.tmp 8) (by with_reducible rfl) (w1.heap.size + 1) cs rfl rfl 61 _ (HBL.out _ _) hsz' HSZ.out.symm HONE.out ?_)
    refine (HC1.out _ _ (HS0.out _)).mono ?_
    rintro e w2 ⟨rfl, h2⟩
    have H2 := hide h2
    clear h2 HC1 HS0 HBX HBL HONE HSZ hsz hsz' HB0 HW0
    go_wp2_with fail
    refine (HC2.out _ _ H2.out).mono ?_
    rintro e w3 ⟨rfl, h3⟩
    clear HC2 H2
    obtain ⟨u, hbl, hown⟩ := h3.st
    have hle := h3.le
    have HG := hide h3.gr
    have d0 : w3.cell? ⟨w1.heap.size, 0, none⟩ = some u := hbl.cell 0
    obtain ⟨A2, c4, rfl, _⟩ := hown.by_
    have HBY := hide (show Own w3 w.heap.size (.slice A2 x.2.length c4) R from by rw [E.out, ← HX.out]; exact hown.base (by omega))
    clear h3 hbl hown
    go_wp2_with fail
    go_ret
    exact ⟨_, rfl, HBY.out, HG.out⟩

end Go.Proofs.YtpabppoohobjpaaGreat

/-
  msg's Take by its contract.
-/
namespace Go.Proofs.YtpabppoohobjpaaGreat
open Go Go.RowKit TxnMath KeyMath MsgMath
set_option maxRecDepth 100000

/-- the letter that the bytes may be -/
def readM (b : List UInt8) : MsgT := (MsgMath.reader.body (MsgMath.reader.head b noMsg).2 (MsgMath.reader.head b noMsg).1).1
def tookM (b : List UInt8) : Bool := !((b.length : Int) == 0 || !(decide (putM (readM b) = b)))
def takenM (b : List UInt8) : MsgT := if tookM b then readM b else noMsg
/-- a letter's zero -/
def zeroCs : Array Value := (cellsM noMsg ⟨.slice none 0 0, (.slice none 0 0, .slice none 0 0), .slice none 0 0, .slice none 0 0⟩).toArray
theorem results_cell2 {P : Program} {fn : Func} {p q : Tmp} {ty : TypeId} (h : fn.results = #[.cell p ty, .tmp q]) (tmps : Array Value) (w : World) (g : Nat) (t : TypeId) (cs : Array Value) (fr : Nat × Nat) (d : TypeDesc)
    (hp : tmps.getD p undef = .pointer (some ⟨g, 0, none⟩)) (hg : w.heap[g]? = some (.cells cs t fr))
    (hu : P.underlying ty = some d) (hd : (match d with | .struct _ | .array _ _ => true | _ => false) = true) (hi : (P.info? ty).map (·.size) = some cs.size) :
    (results fn tmps).run P w = .ok (.tuple #[.agg cs, tmps.getD q undef]) w := by
  have hp' : tmps[p]?.getD undef = .pointer (some ⟨g, 0, none⟩) := by simpa using hp
  simp [results, h, hp', asAddr, run_loadVar_row w g t ty cs fr d hg hu hd hi]
/-- .. in memory of the call's own -/
abbrev From (k : Nat) : Nat → Prop := fun j => k ≤ j

theorem MsgX.any {X : Nat → Prop} {w : World} {v : Value} {m : MsgT} (h : MsgX X w v m) : MsgAt w v m := by
  obtain ⟨r, e, h⟩ := h
  exact ⟨r, e, h.wide fun _ _ => trivial⟩

/-- where Take stands: its reader in block g, its letter behind it; the world as it was ahead of these -/
structure TkSt (wb W : World) (g : Nat) (l : List UInt8) (m : MsgT) : Prop where
  st : mrS wb g l W
  let_ : LetX (mrO wb g) W (g + 1) m
  eq : wb.heap.size = g
theorem TkSt.apart {wb W : World} {g : Nat} {l : List UInt8} {m : MsgT} (h : TkSt wb W g l m) : ¬ mrO wb g W (g + 1) := fun e => by
  have := h.eq
  rcases e with e | e <;> omega
theorem TkSt.gr {wb W : World} {g : Nat} {l : List UInt8} {m : MsgT} (h : TkSt wb W g l m) : Gr wb W := by
  obtain ⟨A, c, _, _, h3, _⟩ := h.st
  exact h3
theorem TkSt.next {wb W W' : World} {g : Nat} {l : List UInt8} {m : MsgT} (h : TkSt wb W g l m) {x : MsgT × List UInt8} {e : Ending} (hp : FldPost (mrO wb g) False (mrS wb g) (g + 1) W x e W') : e = .returned (.tuple #[]) ∧ TkSt wb W' g x.2 x.1 := by
  obtain ⟨he, hS, hl, _⟩ := hp
  exact ⟨he, hS, hl, h.eq⟩
theorem TkSt.start {w : World} {A : Option Addr} {c : Nat} {b : List UInt8} (hb : By w A c b) (hl : b.length ≤ 1000000000) (cs : Array Value) :
    TkSt (w.alloc (.cells cs 31)) (((w.alloc (.cells cs 31)).alloc (.cells #[.slice A b.length c] 72)).alloc (.cells zeroCs 61)) (w.heap.size + 1) b noMsg := by
  have g0 := (Gr.refl w).alloc (.cells cs 31)
  have hs0 : (w.alloc (.cells cs 31)).heap.size = w.heap.size + 1 := by simp
  generalize w.alloc (.cells cs 31) = wb at *
  have g1 := (Gr.refl wb).alloc (.cells #[.slice A b.length c] 72)
  have b2 := Bl.new wb 72 #[.slice A b.length c]
  have hsz : (wb.alloc (.cells #[.slice A b.length c] 72)).heap.size = w.heap.size + 1 + 1 := by simp [hs0]
  rw [hs0] at b2
  generalize wb.alloc (.cells #[.slice A b.length c] 72) = V at *
  have b4 := Bl.new V 61 zeroCs
  rw [hsz] at b4
  refine ⟨⟨A, c, b2.gr ((Gr.refl _).alloc _), hb.gr g0, g1.alloc _, by omega, hl⟩, ⟨_, ⟨_, b4, rfl⟩, Sit.bl b4, ?_⟩, hs0⟩
  exact ⟨EntsX.nil _ _, RowsX.none_ _ _, RowX.nil _ _ _, RowX.nil _ _ _⟩

/-- 'a || b' -/
theorem Grow.pick_or {P : Program} {ops : Array Oper} {w0 : World} {n0 : Nat} {Q : (Tmp → Grow.Known) → Prop} {o : Oper} {rest : List Oper} {K : Tmp → Grow.Known} {c y : Operand} {x z : Bool} (ho : o.op = .pick c (.const (.bool true)) y) (hg : o.guard = none) (hc : Grow.Kn K c (Grow.Is (.bool x))) (hy : Grow.KnC K (!x) y (Grow.Is (.bool z)))
    (h : Grow.wpGrow P ops w0 n0 Q rest (Grow.upd K o.dst (Grow.Is (.bool (x || z))))) : Grow.wpGrow P ops w0 n0 Q (o :: rest) K := by
  refine Grow.grow_step (.inl ⟨rfl, hg⟩) (fun _ => Grow.Is.stays _) (fun a w _ _ hl => ?_) h
  have h1 : a.eval c = .bool x := Grow.looks_op (Ψ := Grow.Is (.bool x)) (by simp [ho, Op.operands]) hc hl
  unfold Grow.does execOp
  rw [ho]
  cases x with
  | true =>
    simp only [h1]
    exact ⟨Gr.refl w, rfl⟩
  | false =>
    have h2 : a.eval y = .bool z := Grow.looks_c (Ψ := Grow.Is (.bool z)) rfl (by simp [ho, Op.operands]) hy hl
    simp only [h1, h2]
    exact ⟨Gr.refl w, rfl⟩
/-- 'not', where b holds -/
theorem Grow.cd_not {P : Program} {ops : Array Oper} {w0 : World} {n0 : Nat} {Q : (Tmp → Grow.Known) → Prop} {o : Oper} {rest : List Oper} {K : Tmp → Grow.Known} {b : Bool} {xt : TypeId} {x : Operand} {z : Bool} (ho : o.op = .unOp .not xt x) (hG : Grow.Gd ops K n0 o b) (hx : Grow.KnC K b x (Grow.Is (.bool z)))
    (h : Grow.wpGrow P ops w0 n0 Q rest (Grow.upd K o.dst (Grow.Cd b (Grow.Is (.bool (!z)))))) : Grow.wpGrow P ops w0 n0 Q (o :: rest) K := by
  refine Grow.cd_step hG (Grow.Is.stays _) (fun hb a w _ _ hl => ?_) h
  have h1 : a.eval x = .bool z := Grow.looks_c (Ψ := Grow.Is (.bool z)) hb (by simp [ho, Op.operands]) hx hl
  unfold Grow.does execOp
  rw [ho]
  simp only [h1]
  exact ⟨Gr.refl w, rfl⟩

theorem noMsg_lim : MsgLim true noMsg where
  kind := ⟨by decide, by decide⟩
  frm := ⟨by decide, by decide⟩
  to := ⟨by decide, by decide⟩
  part := ⟨by decide, by decide⟩
  term := ⟨by decide, by decide⟩
  index := ⟨by decide, by decide⟩
  logTerm := ⟨by decide, by decide⟩
  commit := ⟨by decide, by decide⟩
  ses := ⟨by decide, by decide⟩
  seq := ⟨by decide, by decide⟩
  pos := ⟨by decide, by decide⟩
  shard := ⟨by decide, by decide⟩
  err := ⟨by decide, by decide⟩
  en := Nat.zero_le _
  ent _ h := by cases h
  tt _ := noTxn_lim
  fk := Nat.zero_le _
  tk_ := Nat.zero_le _
  kn := Nat.zero_le _
  ks _ h := by cases h
  gn := Nat.zero_le _
  gs _ h := by cases h
theorem MsgLim.less {m : MsgT} (h : MsgLim true m) (tk : Bool) : MsgLim tk m := { h with tt := fun _ => h.tt rfl }
theorem MsgLim.bnd {m : MsgT} (h : MsgLim true m) : MsgBnd m :=
  ⟨by have := h.en; omega, fun e he => (h.ent e he).2.bnd, (h.tt rfl).bnd, by have := h.fk; omega, by have := h.tk_; omega, by have := h.kn; omega, fun x hx => by have := h.ks x hx; omega, by have := h.gn; omega, fun x hx => by have := (h.gs x hx).key; omega⟩
theorem MsgLim.vers {m : MsgT} (h : MsgLim true m) : MsgVers m := ⟨fun x hx => ((h.tt rfl).rd x hx).ver.2, fun e he x hx => ((h.ent e he).2.rd x hx).ver.2⟩
theorem head_lim (b : List UInt8) : MsgLim true (MsgMath.reader.head b noMsg).1 := hand_lim (reader_hand default 0) noMsg_lim headF b
theorem readM_lim (b : List UInt8) : MsgLim true (readM b) := hand_lim (reader_hand default 0) (head_lim b) _ _

set_option maxHeartbeats 2000000 in
theorem MgTake_ok (A : Option Addr) (c : Nat) (b : List UInt8) (w : World) (hb : By w A c b) (hl : b.length ≤ 1000000000) :
    Calls Tryz.prog 16 #[.slice A b.length c] w fun e w' => ∃ u, e = .returned (.tuple #[u, .bool (tookM b)]) ∧ MsgX (From w.heap.size) w' u (takenM b) ∧ Gr w w' := by
  have HST := hide (fun cs => TkSt.start hb hl cs)
  have hlim1 := head_lim b
  have HC1 := hide (fun W cs (h : TkSt (w.alloc (.cells cs 31)) W (w.heap.size + 1) b noMsg) => (head_ok (reader_hand _ (w.heap.size + 1)) b noMsg W (w.heap.size + 1 + 1) h.st (by decide) h.let_ h.apart noMsg_lim.kind noMsg_lim.frm noMsg_lim.to noMsg_lim.part).mono (fun e W' hp => h.next hp))
  have hfree : Free MsgMath.reader False (named (MsgMath.reader.head b noMsg).1.kind) (MsgMath.reader.head b noMsg).1 := .inr (.inr ⟨fun _ => rfl, fun _ => rfl, fun _ => rfl⟩)
  have HC2 := hide (fun W cs (h : TkSt (w.alloc (.cells cs 31)) W (w.heap.size + 1) (MsgMath.reader.head b noMsg).2 (MsgMath.reader.head b noMsg).1) => (body_ok (reader_hand _ (w.heap.size + 1)) (MsgMath.reader.head b noMsg).2 (MsgMath.reader.head b noMsg).1 W (w.heap.size + 1 + 1) h.st (by decide) h.let_ h.apart (hlim1.less _) hfree).mono (fun e W' hp => h.next hp))
  have hrl := readM_lim b
  have CP := hide (fun v w' (h : MsgAt w' v (readM b)) => MgPut_ok v (readM b) w' h hrl.bnd hrl.vers)
  have CE := hide (fun A' A'' c' c'' w' (h : By w' A' c' (putM (readM b))) (h2 : By w' A'' c'' b) => bytesEq_ok A' A'' c' c'' (putM (readM b)) b w' h h2)
  have HX : Hid ((MsgMath.reader.body (MsgMath.reader.head b noMsg).2 (MsgMath.reader.head b noMsg).1).1 = readM b) := hide rfl
  generalize MsgMath.reader.body (MsgMath.reader.head b noMsg).2 (MsgMath.reader.head b noMsg).1 = x2 at HC2 HX
  generalize MsgMath.reader.head b noMsg = x1 at HC1 HC2
  have HT : Hid (takenM b = if tookM b then readM b else noMsg) := hide rfl
  have HB : Hid (tookM b = !((b.length : Int) == 0 || !(decide (putM (readM b) = b)))) := hide rfl
  generalize takenM b = mt at HT ⊢
  generalize tookM b = tb at HT HB ⊢
  generalize putM (readM b) = pb at CP CE HB
  generalize readM b = mr at HX CP HT
  generalize decide (pb = b) = q at CE HB
  clear hlim1 hfree hrl
  have HBY := hide hb
  clear hb hl
  go_enter Tryz.func16, Tryz.ntmps16
  go_wp2_with fail
  refine (HC1.out _ _ (HST.out _)).mono ?_
  rintro e w1 ⟨rfl, h1⟩
  have H1 := hide h1
  clear h1 HC1 HST
  go_wp2_with fail
  refine (HC2.out _ _ H1.out).mono ?_
  rintro e w2 ⟨rfl, h2⟩
  clear HC2 H1
  obtain ⟨cs2, r2, hb2, hc2⟩ := h2.let_.cells
  have hsz2 : (Tryz.prog.info? 61).map (·.size) = some cs2.size := by rw [hc2.size]; kernel_rfl
  have hsz3 : (Tryz.prog.info? 31).map (·.size) = some cs2.size := by rw [hc2.size]; kernel_rfl
  have ho3 := hide (show 24 = cs2.size from hc2.size.symm)
  have hone2 := hc2.one
  have hgw2 := ((Gr.refl w).alloc _).trans h2.gr
  have hres2 := (Bl.new w _ _).gr h2.gr
  have heq2 := h2.eq
  have hrow2 : MsgX (From (w.heap.size + 1)) w2 (.agg cs2) mr := ⟨r2, by rw [← HX.out, ← hc2.is], by rw [← HX.out]; exact hc2.rows.wide fun j hj => Nat.le_of_not_lt fun h => hj.1 (.inr (by rw [heq2]; exact h))⟩
  have HB5 := hide (fun o => hb2.gr ((Gr.refl w2).alloc o))
  have HB6 := hide (fun old => Bl.new w2 31 old)
  have HN := hide (fun old => (show Gr w2 ((w2.alloc (.cells old 31)).setRow w2.heap.size cs2) ∧ Bl ((w2.alloc (.cells old 31)).setRow w2.heap.size cs2) w2.heap.size 31 cs2 from
    ⟨((Gr.refl w2).alloc _).fresh (But.row _ _ _) (Nat.le_refl _), (Bl.new w2 _ old).row cs2⟩))
  clear h2 hc2 HX heq2
  go_upto_region 6 with (first
    | refine wpList_load_row rfl 61 (.tmp 5) (by with_reducible rfl) (w.heap.size + 1 + 1) rfl 61 _ (0, 0) _ hb2 Tryz.underlying61 rfl hsz2 ?_
    | refine wpList_store_row rfl 31 (.tmp 6) (.tmp 13) (by with_reducible rfl) w2.heap.size cs2 rfl rfl 31 _ (HB6.out _) hsz3 ho3.out hone2 ?_
    | fail)
  change (Code.region 6 _ false).wp _ _ _ ((w2.alloc (.cells zeroCs 31)).setRow w2.heap.size cs2)
  obtain ⟨hgV, hbV⟩ := HN.out zeroCs
  obtain ⟨V, hV⟩ : ∃ V, (w2.alloc (.cells zeroCs 31)).setRow w2.heap.size cs2 = V := ⟨_, rfl⟩
  rw [hV] at hgV hbV ⊢
  have hgwV := hgw2.trans hgV
  have hrowV := hrow2.gr hgV
  have hresV := hres2.gr hgV
  clear hV HN HB5 HB6 hgV hb2 hres2 hrow2 hgw2
  have h2s := hresV.lt
  refine Grow.wp_region_text 26 [14, 15, 16, 17, 18, 19, 20, 21, 22, 23] rfl (by kernel_rfl) (by kernel_rfl) (Grow.Ahead.more (Grow.Ahead.more (Grow.Ahead.more (Grow.Ahead.none_ _ _) 0 (Grow.Sl.stays b) ⟨A, c, rfl, HBY.out.gr hgwV⟩) 6 (Grow.Bx.stays w2.heap.size 31 cs2) ⟨rfl, hbV⟩) 2 (Grow.Is.stays (.pointer (some ⟨w.heap.size, 0, none⟩))) rfl) ?_
  refine Grow.grow_move _ (.inl rfl) (.inl ⟨rfl, rfl⟩) rfl (Grow.Sl.stays b) ?_
  refine Grow.grow_len_sl (l := b) rfl Tryz.underlying22 (.inl ⟨rfl, rfl⟩) rfl ?_
  refine Grow.grow_int (c := .bool ((b.length : Int) == 0)) rfl (.inl ⟨rfl, rfl⟩) rfl (fun _ => rfl) rfl ?_
  refine Grow.grow_mv (.inl rfl) (.inl ⟨rfl, rfl⟩) rfl ?_
  generalize ((b.length : Int) == 0) = x0 at HB ⊢
  refine Grow.cd_row (b := !x0) rfl (.inr ⟨3, 17, true, x0, rfl, rfl, rfl, by decide, rfl⟩) (.inl rfl) Tryz.underlying31 rfl hsz3 ?_
  refine Grow.cd_call1 (b := !x0) (Φ := Grow.Sl pb) (Ψ := Grow.Is (.agg cs2)) rfl (.inr ⟨3, 17, true, x0, rfl, rfl, rfl, by decide, rfl⟩) Tryz.func12 (by kernel_rfl) (by kernel_rfl) (.inr rfl) (Grow.Sl.stays _) (fun v w' hg hv => by
    obtain rfl : v = _ := hv
    refine (CP.out _ w' ((hrowV.gr hg).any)).mono ?_
    rintro e w3 ⟨u, h1, h2, h3⟩
    obtain ⟨A2, c2, rfl, h4⟩ := h2.by_
    exact ⟨_, h1, h3, A2, c2, rfl, h4⟩) ?_
  refine Grow.cd_mv (b := !x0) (.inl rfl) (.inr ⟨3, 17, true, x0, rfl, rfl, rfl, by decide, rfl⟩) (.inl rfl) (Grow.Sl.stays b) ?_
  refine Grow.cd_call2 (b := !x0) (Φ := Grow.Is (.bool q)) (Ψ := Grow.Sl pb) (Ψ' := Grow.Sl b) rfl (.inr ⟨3, 17, true, x0, rfl, rfl, rfl, by decide, rfl⟩) Tryz.func41 (by kernel_rfl) (by kernel_rfl) (.inr rfl) (.inr rfl) (Grow.Is.stays _) (fun v u w' hg hv hu => by
    obtain ⟨A2, c2, rfl, h4⟩ := hv
    obtain ⟨A3, c3, rfl, h5⟩ := hu
    exact (CE.out A2 A3 c2 c3 w' h4 h5).mono fun e w1 ⟨h1, h2⟩ => ⟨_, h1, h2, rfl⟩) ?_
  refine Grow.cd_not (b := !x0) rfl (.inr ⟨3, 17, true, x0, rfl, rfl, rfl, by decide, rfl⟩) (.inr rfl) ?_
  refine Grow.pick_or rfl rfl rfl (.inr rfl) ?_
  intro a1 w3 hg hsz hdf hun hk
  have k2 := hk 2
  have k6 := hk 6
  have k23 := hk 23
  clear hk hun CP CE
  change a1.tmps.getD 2 undef = _ at k2
  change a1.tmps.getD 6 undef = _ ∧ Bl w3 w2.heap.size 31 cs2 at k6
  change a1.tmps.getD 23 undef = _ at k23
  obtain ⟨k6, hb6⟩ := k6
  have hgr := hgwV.trans hg
  have hrow := hrowV.gr hg
  have hres := hresV.gr hg
  clear hgwV hrowV hresV hbV
  generalize (x0 || !q) = no at HB k23
  rw [Grow.lay_frame a1 26 hsz, hdf]
  simp only [List.range, List.range.loop, List.map_cons, List.map_nil, k2, k6, k23]
  change Exit.then _ _ _ { tmps := _, defers := [] } w3
  cases no
  · obtain rfl : tb = true := HB.out
    obtain rfl : mt = mr := HT.out
    have HF := hide (show MsgX (From w.heap.size) (w3.setRow w.heap.size cs2) (.agg cs2) mt ∧ Gr w (w3.setRow w.heap.size cs2) from by
      obtain ⟨r, e, h⟩ := hrow
      have hbut := But.row w3 w.heap.size cs2
      exact ⟨⟨r, e, h.move fun j hj hx => ⟨hbut.block j hj (fun e => by injection e with e; have hx' : w.heap.size + 1 ≤ j := hx; omega), Nat.le_of_succ_le hx⟩⟩, hgr.fresh hbut (Nat.le_refl _)⟩)
    have HB4 := hide (hres.row cs2)
    clear hrow hgr HB HT hg
    go_wp2_with (first
      | refine wpList_load_row rfl 31 (.tmp 6) (by with_reducible rfl) w2.heap.size rfl 31 _ (0, 0) _ hb6 Tryz.underlying31 rfl hsz3 ?_
      | refine wpList_store_row rfl 31 (.tmp 2) (.tmp 25) (by with_reducible rfl) w.heap.size cs2 rfl rfl 31 _ hres hsz3 ho3.out hone2 ?_)
    exact bodyPost_ret (results_cell2 rfl _ _ w.heap.size 31 cs2 (0, 0) _ rfl HB4.out Tryz.underlying31 rfl hsz3) rfl ⟨_, rfl, HF.out⟩
  · obtain rfl : tb = false := HB.out
    obtain rfl : mt = noMsg := HT.out
    have HF := hide (show MsgX (From w.heap.size) (w3.setRow w.heap.size zeroCs) (.agg zeroCs) noMsg ∧ Gr w (w3.setRow w.heap.size zeroCs) from
      ⟨⟨_, rfl, EntsX.nil _ _, RowsX.none_ _ _, RowX.nil _ _ _, RowX.nil _ _ _⟩, hgr.fresh (But.row _ _ _) (Nat.le_refl _)⟩)
    have HB4 := hide (hres.row zeroCs)
    clear hrow hgr HB HT hg
    go_wp2_with (refine wpList_store_row rfl 31 (.tmp 2) (.tmp 24) (by with_reducible rfl) w.heap.size zeroCs rfl rfl 31 _ hres (by kernel_rfl) rfl (by simp [zeroCs, cellsM, Value.oneCell']) ?_)
    exact bodyPost_ret (results_cell2 rfl _ _ w.heap.size 31 zeroCs (0, 0) _ rfl HB4.out Tryz.underlying31 rfl (by kernel_rfl)) rfl ⟨_, rfl, HF.out⟩

end Go.Proofs.YtpabppoohobjpaaGreat
