/-
  epoch's Cut and Sealed by their contracts.
-/
import Derived.Test.YtncdmecppfmmgaaEpSeals
import Derived.Test.YtncdmecppfmmgaaEpRise
import Derived.Test.YtncdmecppfmmgaaIntRows
import Derived.Test.YtncdmecppfmmgaaBaseG
namespace Go.Proofs.Ytncdmecppfmmgaa
open Go Go.RowKit Go.Shelf TxnMath KeyMath MsgMath EpMath
set_option maxRecDepth 100000

attribute [local go_sem] Oper.semAt_some

theorem agg_is : ∀ w, (isAgg 49).run Try.prog w = .ok false w := fun w => by kernel_rfl
theorem agg_iss : ∀ w, (isAgg 46).run Try.prog w = .ok false w := fun w => by kernel_rfl
theorem lit_row (w : World) (A : Option Addr) (n c : Nat) : (Instr.buildSlice 46 1 #[(0, .slice A n c)]).run Try.prog w = .ok (.slice (some ⟨w.heap.size, 0, none⟩) 1 1) (w.alloc (.cells #[.slice A n c] 49)) := by kernel_rfl

/-- numbers of the call's own, from block B on, that don't lie in the row's block -/
abbrev OwK (B : Nat) (l : List Int) : Mine.Known := fun v w o => OwnI w B v l ∧ ∀ k, v.ownBlock = some k → some k ≠ o
theorem OwK.stays (B : Nat) (l : List Int) : Mine.Stays (OwK B l) := fun v w o w' o' ⟨h1, h2⟩ hwf hr => by
  refine ⟨World.ownsRow.kept h1 hr.gb ?_, fun k hk => ?_⟩
  · cases hv : v.ownBlock with
    | none => exact .inl rfl
    | some k => exact .inr (h2 k hv)
  · rcases hr.at_ with e | ⟨m, e, hm⟩
    · rw [e]; exact h2 k hk
    · rw [e]
      intro e2
      injection e2 with e2
      have := (World.ownsRow.lt h1 k hk).2
      omega
/-- a slice of one such row -/
abbrev OwL (B : Nat) (l : List Int) : Mine.Known := fun v w o => ∃ g u, v = .slice (some ⟨g, 0, none⟩) 1 1 ∧ w.cell? ⟨g, 0, none⟩ = some u ∧ some g ≠ o ∧ OwK B l u w o
theorem OwL.stays (B : Nat) (l : List Int) : Mine.Stays (OwL B l) := fun v w o w' o' ⟨g, u, h1, h2, h3, h4⟩ hwf hr => by
  have hlt := World.block_lt_of_cell? w _ h2
  refine ⟨g, u, h1, ?_, ?_, OwK.stays B l u w o w' o' h4 hwf hr⟩
  · rw [World.cell?_of_block (hr.gb.block g hlt h3)]
    exact h2
  · rcases hr.at_ with e | ⟨m, e, hm⟩
    · rw [e]; exact h3
    · rw [e]
      intro e2
      injection e2 with e2
      simp only at hlt
      omega

section
variable {ops : Array Oper} {w0 : World} {n0 : Nat} {Q : (Tmp → Mine.Known) → Tmp → Mine.Known → Prop} {o : Oper} {rest : List Oper} {K : Tmp → Mine.Known} {c : Tmp} {C : Mine.Known}
theorem mine_rising {x y : Operand} {ats : Array TypeId} {b e : Nat} (B : Nat) (ho : o.op = .call { callee := .value (.func 35), args := #[x, y], argTypes := ats }) (hg : o.guard = none) (hd : o.dst ≠ some c) (hx : Mine.Kn K x (Mine.Is (.int .i64 b))) (hy : Mine.Kn K y (Mine.Is (.int .i64 e)))
    (hbe : b ≤ e) (he : e ≤ 1000) (hB : B ≤ w0.heap.size) (h : Mine.wpMine Try.prog ops w0 n0 Q rest (Mine.upd K o.dst (OwK B (risL b e))) c C) : Mine.wpMine Try.prog ops w0 n0 Q (o :: rest) K c C := by
  refine .inl ⟨OwK B (risL b e), fun _ => OwK.stays B _, hd, fun a w ob ob0 hrs hwf _ hl => ?_, h⟩
  rw [if_pos (show Region.wanted o (yielded ops a.tmps) = true by simp [Region.wanted, hg])]
  have h1 : a.eval x = .int .i64 b := Mine.looks_op (Ψ := Mine.Is (.int .i64 b)) (by simp [ho, Op.operands, Call.operands]) hx hl
  have h2 : a.eval y = .int .i64 e := Mine.looks_op (Ψ := Mine.Is (.int .i64 e)) (by simp [ho, Op.operands, Call.operands]) hy hl
  have hBw : B ≤ w.heap.size := Nat.le_trans hB hrs.gb.size
  obtain ⟨dst, op, ty, pos, after, guard⟩ := o
  simp only at ho
  subst ho
  unfold Mine.does
  rw [execOp_call_go, Grow.enters Try.func35 (by kernel_rfl) (by kernel_rfl)]
  refine ⟨Gr.refl w, ?_⟩
  simp only [List.map_toArray, List.map_cons, List.map_nil, h1, h2]
  refine (rising_ok b e hbe he w).mono fun en w' ⟨v, he, ho, hgr⟩ => ?_
  refine ⟨v, he, hgr, ⟨ho.1, ?_⟩, fun k hk e2 => ?_⟩
  · rcases ho.2 with h3 | ⟨g, cap, cur, h3, h4, h5⟩
    · exact .inl h3
    · exact .inr ⟨g, cap, cur, h3, by omega, h5⟩
  · have h3 := (World.ownsRow.lt ho k hk).1
    have h4 := hwf k e2.symm
    omega
theorem mine_lit {x : Operand} {B : Nat} {l : List Int} (ho : o.op = .buildSlice 46 1 #[(0, x)]) (hg : o.guard = none) (hd : o.dst ≠ some c) (hx : Mine.Kn K x (OwK B l)) (h : Mine.wpMine Try.prog ops w0 n0 Q rest (Mine.upd K o.dst (OwL B l)) c C) : Mine.wpMine Try.prog ops w0 n0 Q (o :: rest) K c C := by
  refine Mine.step hg hd (OwL.stays B l) (fun a w ob hwf hl => ?_) h
  have h1 : OwK B l (a.eval x) w ob := Mine.looks_op (Ψ := OwK B l) (by simp [ho, Op.operands]) hx hl
  generalize hv : a.eval x = v at h1
  obtain ⟨A, cc, rfl, _⟩ := h1.1.is
  unfold Mine.does execOp
  simp only [ho, List.map_toArray, List.map_cons, List.map_nil, hv]
  rw [Sem.run_bind, lit_row w]
  have hgr : Gr w (w.alloc (.cells #[.slice A l.length cc] 49)) := (Gr.refl w).alloc _
  refine ⟨hgr, w.heap.size, _, rfl, by rw [(Bl.new w _ _).cell]; rfl, fun e2 => ?_, h1.1.gr hgr, h1.2⟩
  have := hwf w.heap.size e2.symm
  omega
theorem mine_len {x : Operand} {t : TypeId} {A : Option Addr} {n m : Nat} (ho : o.op = .call { callee := .builtin .len, args := #[x], argTypes := #[t] }) (hg : o.guard = none) (hd : o.dst ≠ some c) (ht : Try.prog.underlying t = some (.slice (Try.prog.elem t))) (hx : Mine.Kn K x (Mine.Is (.slice A n m)))
    (h : Mine.wpMine Try.prog ops w0 n0 Q rest (Mine.upd K o.dst (Mine.Is (.int .i64 (n : Int)))) c C) : Mine.wpMine Try.prog ops w0 n0 Q (o :: rest) K c C := Mine.len ho hg hd ht hx h
/-- 'x + 1' -/
theorem mine_add1 {x : Operand} {n : Nat} (ho : o.op = .binOp .add 3 x (.const (.int .i64 1)) 3) (hg : o.guard = none) (hd : o.dst ≠ some c) (hx : Mine.Kn K x (Mine.Is (.int .i64 (n : Int)))) (hn : n ≤ 1000)
    (h : Mine.wpMine Try.prog ops w0 n0 Q rest (Mine.upd K o.dst (Mine.Is (.int .i64 ((n + 1 : Nat) : Int)))) c C) : Mine.wpMine Try.prog ops w0 n0 Q (o :: rest) K c C := by
  refine Mine.step hg hd (Mine.Is.stays _) (fun a w ob _ hl => ?_) h
  have h2 : a.eval x = .int .i64 n := Mine.looks_op (Ψ := Mine.Is (.int .i64 n)) (by simp [ho, Op.operands]) hx hl
  have hr : binOp .add 3 (.int .i64 (n : Int)) (.int .i64 1) = pure (.int .i64 ((n + 1 : Nat) : Int)) := by
    rw [binOp_add]
    unfold Op.intArith
    have hw : IntKind.i64.wrap ((n : Int) + 1) = ((n + 1 : Nat) : Int) := by simp [IntKind.wrap, IntKind.bits, IntKind.signed]; omega
    simp only [hw]
  unfold Mine.does execOp
  simp only [ho, h2]
  rw [Sem.run_bind, show a.eval (.const (.int .i64 1)) = .int .i64 1 from rfl, Grow.run_with_guard (by simp) (by simp) (by rw [hr]; rfl)]
  exact ⟨Gr.refl w, rfl⟩
end

/-- what holds between two rounds -/
structure CutI (w : World) (rec : Loop) (p : List (List Int) × Nat) (W : World) : Prop where
  gr : Gr w W
  mark : W.heap[w.heap.size + 2]? = some (.deferred (some []))
  loop : W.heap[w.heap.size + 3]? = some (.loop rec)
  begin_ : Bl W (w.heap.size + 1) 3 #[.int .i64 (p.2 : Int)]
  rows : ∃ v, Bl W w.heap.size 46 #[v] ∧ RowsI W (w.heap.size + 4) v p.1
theorem CutI.of_gr {w : World} {rec : Loop} {p : List (List Int) × Nat} {W W' : World} (h : CutI w rec p W) (hg : Gr W W') : CutI w rec p W' := by
  obtain ⟨v, h1, h2⟩ := h.rows
  exact ⟨h.gr.trans hg, (hg.block _ (Array.getElem?_eq_some_iff.1 h.mark).1).trans h.mark, (hg.block _ (Array.getElem?_eq_some_iff.1 h.loop).1).trans h.loop, h.begin_.gr hg, v, h1.gr hg, h2.gr hg⟩
/-- the loop's record is turned -/
theorem CutI.turn {w : World} {rec : Loop} {p : List (List Int) × Nat} {W : World} (h : CutI w rec p W) (rec' : Loop) : CutI w rec' p (W.putObj (w.heap.size + 3) (.loop rec')) := by
  obtain ⟨v, h1, h2⟩ := h.rows
  have hlt := (Array.getElem?_eq_some_iff.1 h.loop).1
  refine ⟨⟨h.gr.os, h.gr.tape, h.gr.output, ?_, fun k hk => ?_⟩, ?_, World.putObj_heap_same hlt, ?_, v, ?_, h2.turn _ h.loop rfl⟩
  · simpa [World.putObj] using h.gr.size
  · rw [World.putObj_heap_other (by omega)]; exact h.gr.block k hk
  · rw [World.putObj_heap_other (by omega)]; exact h.mark
  · unfold Bl; rw [World.putObj_heap_other (by omega)]; exact h.begin_
  · unfold Bl; rw [World.putObj_heap_other (by omega)]; exact h1
/-- one batch is shut -/
theorem CutI.next {w : World} {rec : Loop} {p : List (List Int) × Nat} {W w1 w2 : World} (h : CutI w rec p W) (hg : Gr W w1) {v v' : Value} (hb : Bl W w.heap.size 46 #[v]) (hr : RowsI W (w.heap.size + 4) v p.1) (hput : Put1 w1 w2 v v') (hgr : Gr w w2) {ls : List (List Int)} (hrows : RowsI w2 (w.heap.size + 4) v' ls) (b : Nat) :
    Bl w2 w.heap.size 46 #[v] ∧ Bl (w2.setCell ⟨w.heap.size, 0, none⟩ v') (w.heap.size + 1) 3 #[.int .i64 (p.2 : Int)] ∧ CutI w rec (ls, b) ((w2.setCell ⟨w.heap.size, 0, none⟩ v').setCell ⟨w.heap.size + 1, 0, none⟩ (.int .i64 (b : Int))) := by
  have hlow : ∀ k, k < w1.heap.size → k < w.heap.size + 4 → w2.heap[k]? = w1.heap[k]? := fun k hk hk4 => hput.1.block k hk fun e => by
    obtain ⟨xs, _, h2, _⟩ := hr
    have := (World.ownsRow.lt h2 k e.symm).1
    omega
  have hs := hg.size
  have l0 := hb.lt
  have l1 := h.begin_.lt
  have l2 := (Array.getElem?_eq_some_iff.1 h.mark).1
  have l3 := (Array.getElem?_eq_some_iff.1 h.loop).1
  have b0 : Bl w2 w.heap.size 46 #[v] := (hlow _ (by omega) (by omega)).trans (hb.gr hg)
  have b1 : Bl w2 (w.heap.size + 1) 3 #[.int .i64 (p.2 : Int)] := (hlow _ (by omega) (by omega)).trans (h.begin_.gr hg)
  have b2 : w2.heap[w.heap.size + 2]? = some (.deferred (some [])) := (hlow _ (by omega) (by omega)).trans ((hg.block _ l2).trans h.mark)
  have b3 : w2.heap[w.heap.size + 3]? = some (.loop rec) := (hlow _ (by omega) (by omega)).trans ((hg.block _ l3).trans h.loop)
  have s1 : But w2 (w2.setCell ⟨w.heap.size, 0, none⟩ v') w.heap.size := (But.refl w2 _).set 0 v'
  have s2 : But (w2.setCell ⟨w.heap.size, 0, none⟩ v') ((w2.setCell ⟨w.heap.size, 0, none⟩ v').setCell ⟨w.heap.size + 1, 0, none⟩ (.int .i64 (b : Int))) (w.heap.size + 1) := (But.refl _ _).set 0 _
  have l2' := (Array.getElem?_eq_some_iff.1 b2).1
  have l3' := (Array.getElem?_eq_some_iff.1 b3).1
  have z1 : w2.heap.size ≤ (w2.setCell ⟨w.heap.size, 0, none⟩ v').heap.size := s1.size
  have c1 : Bl (w2.setCell ⟨w.heap.size, 0, none⟩ v') (w.heap.size + 1) 3 #[.int .i64 (p.2 : Int)] := (s1.block _ b1.lt (by simp)).trans b1
  refine ⟨b0, c1, ⟨?_, ?_, ?_, ?_, v', ?_, (hrows.but s1 (by omega)).but s2 (by omega)⟩⟩
  · refine ⟨s2.os.trans (s1.os.trans hgr.os), s2.tape.trans (s1.tape.trans hgr.tape), s2.output.trans (s1.output.trans hgr.output), Nat.le_trans hgr.size (Nat.le_trans s1.size s2.size), fun k hk => ?_⟩
    have := hgr.size
    rw [s2.block k (by omega) (by simp; omega), s1.block k (by omega) (by simp; omega)]
    exact hgr.block k hk
  · rw [s2.block _ (by omega) (by simp), s1.block _ (by omega) (by simp)]; exact b2
  · rw [s2.block _ (by omega) (by simp), s1.block _ (by omega) (by simp)]; exact b3
  · exact c1.put 0 _
  · exact (s2.block _ (by omega) (by simp)).trans (b0.put 0 v')

set_option maxHeartbeats 4000000 in
theorem Cut_ok (v : Value) (es : List EntT) (w : World) (hv : EntsX Any w v es) (hl : es.length ≤ 500) :
    Calls Try.prog 24 #[v] w fun e w' => ∃ u, e = .returned u ∧ RowsI w' w.heap.size u (cutL (shuts es)) ∧ Gr w w' := by
  have HV := hide hv
  obtain ⟨A, c, rfl⟩ := hv.is
  clear hv
  have HSL := hide (shuts_len es)
  refine (callsIn_wide (n := 5)).1 ?_
  refine callsIn_of_wp_marks Try.func24 rfl trivial ?_ rfl
  simp only [Try.ntmps24, List.size_toArray, List.length_cons, List.length_nil, Nat.reduceAdd, Nat.reduceSub, Array.replicate_succ, Array.replicate_zero, List.push_toArray, List.append_toArray, List.nil_append, List.cons_append]
  gi_wp2
  obtain ⟨W2, hW2⟩ : ∃ W2, (w.alloc (.cells #[.slice none 0 0] 46)).alloc (.cells #[.int .i64 1] 3) = W2 := ⟨_, rfl⟩
  have hs2 : W2.heap.size = w.heap.size + 2 := by rw [← hW2]; simp
  have g2 : Gr w W2 := by rw [← hW2]; exact ((Gr.refl w).alloc _).alloc _
  have b0 : Bl W2 w.heap.size 46 #[.slice none 0 0] := by rw [← hW2]; exact (Bl.new w _ _).gr ((Gr.refl _).alloc _)
  have b1 : Bl W2 (w.heap.size + 1) 3 #[.int .i64 1] := by
    have := Bl.new (w.alloc (.cells #[.slice none 0 0] 46)) 3 #[.int .i64 1]
    rw [World.size_alloc] at this
    rw [← hW2]; exact this
  rw [hW2]
  clear hW2
  refine Round.rangeFunc rfl (fun args w => Grow.enters Try.func34 (by kernel_rfl) (by kernel_rfl) args w) fun fn D rec hD hrec => ?_
  rw [hs2] at hD
  subst hD
  have h0 : CutI w rec (cloL (shuts es) 0) ((W2.alloc (.deferred (some []))).alloc (.loop rec)) := by
    have e3 : (W2.alloc (.deferred (some []))).heap.size = w.heap.size + 3 := by simp [hs2]
    have g3 : Gr W2 (W2.alloc (.deferred (some []))) := (Gr.refl _).alloc _
    have g4 : Gr (W2.alloc (.deferred (some []))) ((W2.alloc (.deferred (some []))).alloc (.loop rec)) := (Gr.refl _).alloc _
    refine ⟨(g2.trans g3).trans g4, ?_, ?_, (b1.gr g3).gr g4, _, (b0.gr g3).gr g4, RowsI.none_ _ _⟩
    · rw [g4.block _ (by omega), ← hs2]
      exact heap_alloc_new W2 _
    · rw [← e3]
      exact heap_alloc_new _ _
  clear b0 b1 g2 hs2
  have HS := hide (fun (k : Nat) (W : World) (hj : CutI w rec (cloL (shuts es) k) W) (hsh : (shuts es).getD k false = false) => show CutI w rec (cloL (shuts es) (k + 1)) W from by rw [clo_no hsh]; exact hj)
  refine (seals_ok 3 (w.heap.size + 3) (.slice A es.length c) es (by omega) (fun k W => CutI w rec (cloL (shuts es) k) W) (fun k W hj => HV.out.gr hj.gr) (fun k W W' hj hg => hj.of_gr hg) (fun k W hj _ hsh => HS.out k W hj hsh) (fun k W hj hk hsh => ?_) _ h0).mono ?_
  · have HN := hide (clo_yes hsh)
    have HB := hide (clo_begin (shuts es) k)
    have HLN := hide (clo_len (shuts es) k)
    generalize cloL (shuts es) k = p at HN HB HLN hj
    obtain ⟨ls, b⟩ := p
    simp only at HN HB HLN
    obtain ⟨hr1, hr2, hr3, hr4, hr5, hr6⟩ := Round.rec_of hrec
    refine Round.yields hj.loop hr1 (by rw [hr2]; rfl) ?_
    rw [hr3, hr4, hr5, hr2]
    have HJ := hide (hj.turn (Round.busy rec))
    have HL := hide hj.loop
    clear hj h0 HS hrec hr1 hr2 hr3 hr4 hr5 hsh
    gi_wp2
    refine ⟨HL.out, ?_⟩
    generalize W.putObj (w.heap.size + 3) (.loop (Round.busy rec)) = W1 at HJ ⊢
    gi_wp2
    clear HL
    obtain ⟨vr, hb0, hrow⟩ := HJ.out.rows
    have c0 : W1.drew.cell? ⟨w.heap.size, 0, none⟩ = some vr := by show W1.cell? _ = _; rw [hb0.cell]; rfl
    have c1 : W1.drew.cell? ⟨w.heap.size + 1, 0, none⟩ = some (.int .i64 (b : Int)) := by show W1.cell? _ = _; rw [HJ.out.begin_.cell]; rfl
    have HR0 := hide hrow
    have HB0 := hide hb0
    have hsz1 := HJ.out.gr.size
    have hl3 := (Array.getElem?_eq_some_iff.1 HJ.out.loop).1
    clear hb0 hrow
    refine Round.region_round (by kernel_rfl) (by kernel_rfl) (fun ⟨_, _, h⟩ => nomatch h.1) ?_
    refine Mine.any_mine_tail 5 25 [9, 10, 11, 12, 13, 14] rfl (by kernel_rfl) (by kernel_rfl) (by kernel_rfl) (ob0 := none) (Mine.Ahead.more (Mine.Ahead.more (Mine.Ahead.more (Mine.Ahead.none_ _ _ _) 3 (Mine.Ce.stays vr) ⟨⟨w.heap.size, 0, none⟩, by rfl, c0, by intro e; cases e⟩) 4 (Mine.Ce.stays (.int .i64 (b : Int))) ⟨⟨w.heap.size + 1, 0, none⟩, by rfl, c1, by intro e; cases e⟩) 5 (Mine.Is.stays (.int .i64 ((k + 1 : Nat) : Int))) (by rfl)) 25 (C0 := Mine.top) Mine.top_keeps (fun k hk => nomatch hk) trivial ?_
    refine Mine.load rfl rfl (by decide) agg_iss rfl ?_
    refine Mine.load rfl rfl (by decide) agg_i rfl ?_
    refine Mine.move _ (.inl rfl) rfl (by decide) rfl (Mine.Is.stays _) ?_
    refine mine_rising (b := b) (e := k + 1) W1.heap.size rfl rfl (by decide) rfl rfl (by have := HB.out; omega) (by omega) (Nat.le_refl _) ?_
    refine mine_lit rfl rfl (by decide) rfl ?_
    intro a1 w1 ob hr hwf hsz hdf hun hk2 hat
    have h9 : a1.tmps.getD 9 undef = vr := hk2 9
    have h13 : OwL W1.heap.size (risL b (k + 1)) (a1.tmps.getD 13 undef) w1 ob := hk2 13
    obtain ⟨X, hX, hlay⟩ := Grow.lay_kept_by _ a1 25 _ hsz hdf hun
    rw [hX] at h9 h13
    clear hX hun hdf hsz hk2 hwf hat
    obtain ⟨g, u, h13, hcu, _, hou, _⟩ := h13
    subst hlay
    simp only [List.range, List.range.loop, List.map_cons, List.map_nil, List.contains_cons, List.contains_nil, Nat.reduceBEq, Bool.or_false, Bool.or_true, cond_false, cond_true, Array.getD_eq_getD_getElem?, List.getElem?_toArray, List.getElem?_cons_zero, List.getElem?_cons_succ, Option.getD_some, h9, h13, List.drop_succ_cons, List.drop_zero]
    have hg1 : Gr W1 w1 := (Gr.drew (Gr.refl W1)).trans (rs_gr hr)
    have hs1 := hg1.size
    clear hr h9 h13
    refine wpList_pushRow rfl (.tmp 9) (.tmp 13) rfl (w0 := w) (B := w.heap.size + 4) (l := risL b (k + 1)) (g := g) rfl HR0.out hg1 (OwnV.base_ hou (by omega)) (HJ.out.gr.trans hg1) (by omega) (by omega) rfl hcu (fun k hk => (World.ownsRow.lt hou k hk).1) (by have := HLN.out; show ls.length ≤ 100000; omega) ?_
    intro v2 w2 hr2 hg2 hput
    obtain ⟨f1, f2, f3⟩ := HJ.out.next hg1 HB0.out HR0.out hput hg2 hr2 (k + 2)
    have HF3 := hide f3
    obtain ⟨A2, n2, hv2⟩ := hr2.is
    simp only [List.length_append, List.length_cons, List.length_nil] at hv2
    generalize ls.length + (0 + 1) = q at hv2
    subst hv2
    refine wpList_store_slice rfl 46 (.tmp 3) (.tmp 14) rfl rfl (fun w => by kernel_rfl) (g := w.heap.size) (i := 0) rfl rfl f1 (by simp) ?_
    have d1 := f2.cell 0
    have d2 := f2.frozen 0
    simp only [List.getElem?_toArray, List.getElem?_cons_zero] at d1
    clear f1 f2 f3 hput hg2 hr2 hou hcu hg1 c0 c1 HB0 HR0
    have e2 : (k : Int) + 1 + 1 = ((k + 2 : Nat) : Int) := by omega
    rw [wpList]
    gi_wp2
    have F := HF3.out
    rw [show ((k + 2 : Nat) : Int) = (k : Int) + 2 from by omega] at F
    refine ⟨F.loop, ?_⟩
    rw [HN.out, show Round.ready rec = rec from hr6]
    exact F.turn rec
  · rintro e W ⟨⟨u, rfl⟩, hj⟩
    refine ⟨⟨u, rfl⟩, hj.loop, ?_⟩
    have HJ := hide (hj.turn (Round.spent rec))
    clear hj h0 hrec HS
    generalize W.putObj (w.heap.size + 3) (.loop (Round.spent rec)) = W1 at HJ ⊢
    gi_wp2
    have HCL := hide (clo_len (shuts es) es.length)
    have HB := hide (clo_begin (shuts es) es.length)
    have HCUT := hide (show (cloL (shuts es) es.length).1 ++ [risL (cloL (shuts es) es.length).2 (es.length + 1)] = cutL (shuts es) from by unfold cutL; rw [HSL.out])
    generalize cloL (shuts es) es.length = p at HJ HCL HB HCUT
    obtain ⟨ls, b⟩ := p
    simp only at HCL HB HCUT
    obtain ⟨vr, hb0, hrow⟩ := HJ.out.rows
    have c0 : W1.drew.cell? ⟨w.heap.size, 0, none⟩ = some vr := by show W1.cell? _ = _; rw [hb0.cell]; rfl
    have c1 : W1.drew.cell? ⟨w.heap.size + 1, 0, none⟩ = some (.int .i64 (b : Int)) := by show W1.cell? _ = _; rw [HJ.out.begin_.cell]; rfl
    have HR0 := hide hrow
    have hsz1 := HJ.out.gr.size
    have hl3 := (Array.getElem?_eq_some_iff.1 HJ.out.loop).1
    clear hb0 hrow
    refine wpIn_wide.2 ?_
    refine Mine.wp_region_mine_tail 7 25 [17, 18, 19, 20, 21, 22, 23, 24, 2] rfl (by kernel_rfl) (by kernel_rfl) (by kernel_rfl) (by kernel_rfl) (ob0 := none) (Mine.Ahead.more (Mine.Ahead.more (Mine.Ahead.more (Mine.Ahead.none_ _ _ _) 3 (Mine.Ce.stays vr) ⟨⟨w.heap.size, 0, none⟩, by rfl, c0, by intro e; cases e⟩) 4 (Mine.Ce.stays (.int .i64 (b : Int))) ⟨⟨w.heap.size + 1, 0, none⟩, by rfl, c1, by intro e; cases e⟩) 0 (Mine.Is.stays (.slice A es.length c)) (by rfl)) 25 (C0 := Mine.top) Mine.top_keeps (fun k hk => nomatch hk) trivial ?_
    refine Mine.load rfl rfl (by decide) agg_iss rfl ?_
    refine Mine.load rfl rfl (by decide) agg_i rfl ?_
    refine Mine.move _ (.inl rfl) rfl (by decide) rfl (Mine.Is.stays _) ?_
    refine mine_len rfl rfl (by decide) (by kernel_rfl) rfl ?_
    refine mine_add1 rfl rfl (by decide) rfl (by omega) ?_
    refine mine_rising (b := b) (e := es.length + 1) W1.heap.size rfl rfl (by decide) rfl rfl (by have := HB.out; omega) (by omega) (Nat.le_refl _) ?_
    refine mine_lit rfl rfl (by decide) rfl ?_
    intro a1 w1 ob hr hwf hsz hdf hun hk2 hat
    have h9 : a1.tmps.getD 17 undef = vr := hk2 17
    have h13 : OwL W1.heap.size (risL b (es.length + 1)) (a1.tmps.getD 23 undef) w1 ob := hk2 23
    obtain ⟨X, hX, hlay⟩ := Grow.lay_kept_by _ a1 25 _ hsz hdf hun
    rw [hX] at h9 h13
    clear hX hun hdf hsz hk2 hwf hat
    obtain ⟨g, u2, h13, hcu, _, hou, _⟩ := h13
    subst hlay
    simp only [List.range, List.range.loop, List.map_cons, List.map_nil, List.contains_cons, List.contains_nil, Nat.reduceBEq, Bool.or_false, Bool.or_true, cond_false, cond_true, Array.getD_eq_getD_getElem?, List.getElem?_toArray, List.getElem?_cons_zero, List.getElem?_cons_succ, Option.getD_some, h9, h13, List.drop_succ_cons, List.drop_zero]
    have hg1 : Gr W1 w1 := (Gr.drew (Gr.refl W1)).trans (rs_gr hr)
    have hs1 := hg1.size
    clear hr h9 h13
    refine wpList_pushRow rfl (.tmp 17) (.tmp 23) rfl (w0 := w) (B := w.heap.size + 4) (l := risL b (es.length + 1)) (g := g) rfl HR0.out hg1 (OwnV.base_ hou (by omega)) (HJ.out.gr.trans hg1) (by omega) (by omega) rfl hcu (fun k hk => (World.ownsRow.lt hou k hk).1) (by have := HCL.out; show ls.length ≤ 100000; omega) ?_
    intro v2 w2 hr2 hg2 hput
    have hmk : w2.heap[w.heap.size + 2]? = some (.deferred (some [])) := by
      have l2 := (Array.getElem?_eq_some_iff.1 HJ.out.mark).1
      rw [hput.1.block _ (by omega) (fun e => by obtain ⟨xs, _, h2, _⟩ := HR0.out; have := (World.ownsRow.lt h2 _ e.symm).1; omega), hg1.block _ l2]
      exact HJ.out.mark
    rw [HCUT.out] at hr2
    have HR2 := hide hr2
    have HG2 := hide hg2
    have HMK := hide hmk
    obtain ⟨A2, n2, hv2⟩ := hr2.is
    generalize (cutL (shuts es)).length = q at hv2
    subst hv2
    clear hmk hg2 hr2 hput hou hcu hg1 c0 c1 HR0
    go_wp2_with fail
    gi_wp2
    refine ⟨by simp, .inl ⟨_, _, rfl, run_takeDeferred HMK.out, ?_⟩⟩
    refine ⟨_, results_tmp rfl _ _ _, _, rfl, ?_, ?_⟩
    · obtain ⟨xs, q1, q2, q3, q4⟩ := HR2.out.turn (.deferred none) HMK.out rfl
      exact ⟨xs, q1, OwnV.base_ q2 (by omega), fun j hj hj2 => OwnV.base_ (q3 j hj hj2) (by omega), q4⟩
    · have hz := HG2.out.size
      refine ⟨HG2.out.os, HG2.out.tape, HG2.out.output, by simpa [World.putObj] using hz, fun k hk => ?_⟩
      rw [World.putObj_heap_other (by omega)]
      exact HG2.out.block k hk

end Go.Proofs.Ytncdmecppfmmgaa
