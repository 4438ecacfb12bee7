/-
  A member in memory: a block of fourteen cells, four rows of its own (votes, next, match, letters), a log that lies elsewhere and is never written.
-/
import Derived.Test.YthpaoeiackbdoaaRfMath
import Derived.Test.YthpaoeiackbdoaaRowMine
import Derived.Test.YthpaoeiackbdoaaUlJoin
import Derived.StillTailTactics
import Derived.BigRegion
import Derived.Test.YthpaoeiackbdoaaRowStep
namespace Go.Proofs.Ythpaoeiackbdoaa
open Go Go.RowKit TxnMath KeyMath MsgMath BalMath RfMath
set_option maxRecDepth 100000

structure RowsM where
  l : Value
  v : Value
  n : Value
  m : Value
  q : Value
  lo : Nat
/-- a state's cells -/
def rfC (r : RaftT) (R : RowsM) : List Value :=
  [.int .i64 r.me, .int .i64 r.nodes, .int .i64 r.wait, .int .i64 r.term, .int .i64 r.vote, R.l, .int .i64 r.commit, .int .i64 r.role, .int .i64 r.leader, R.v, R.n, R.m, .int .i64 r.clock]
def mbC (r : RaftT) (R : RowsM) : Array Value :=
  #[.int .i64 r.me, .int .i64 r.nodes, .int .i64 r.wait, .int .i64 r.term, .int .i64 r.vote, R.l, .int .i64 r.commit, .int .i64 r.role, .int .i64 r.leader, R.v, R.n, R.m, .int .i64 r.clock, R.q]
/-- the blocks that a member's calls write -/
def Foot (g : Nat) (R : RowsM) (j : Nat) : Prop := j = g ∨ R.v.ownBlock = some j ∨ R.n.ownBlock = some j ∨ R.m.ownBlock = some j ∨ R.q.ownBlock = some j
abbrev Free (g : Nat) (R : RowsM) : Nat → Prop := fun j => ¬ Foot g R j
/-- where its log and its letters lie: from the call's beginning on, and apart from what is written -/
abbrev Home (g : Nat) (R : RowsM) : Nat → Prop := fun j => ¬ Foot g R j ∧ R.lo ≤ j
/-- letters in a row of the call's own; what they hold lies in X -/
def OutX (X : Nat → Prop) (w : World) (v : Value) (ls : List MsgT) : Prop :=
  ∃ f : Nat → Rows5, OwnR 47 24 w 0 v (ls.mapIdx fun j m => cellsM m (f j)) ∧ ∀ j m, ls[j]? = some m → MsgR X w m (f j)
def OwnB (w : World) (v : Value) (l : List Bool) : Prop := OwnV 4 w 0 v (bvals l)

structure MemR (w : World) (g : Nat) (s : StT) (R : RowsM) : Prop where
  bl : Bl w g 81 (mbC s.r R)
  log : EntsX (Home g R) w R.l s.r.log
  votes : OwnB w R.v s.r.votes
  next : OwnI w 0 R.n s.r.next
  mtch : OwnI w 0 R.m s.r.mtch
  out : OutX (Home g R) w R.q s.out
  low : R.lo ≤ w.heap.size
  nv : R.v.ownBlock ≠ some g
  nn : R.n.ownBlock ≠ some g
  nm : R.m.ownBlock ≠ some g
  nq : R.q.ownBlock ≠ some g
  vn : Sep R.v R.n
  vm : Sep R.v R.m
  vq : Sep R.v R.q
  nmm : Sep R.n R.m
  nqq : Sep R.n R.q
  mq : Sep R.m R.q

/-- what a member's call does: its own blocks, and new ones -/
structure Stp (w w' : World) (g : Nat) (R R' : RowsM) : Prop where
  os : w'.os = w.os
  tape : w'.tape = w.tape
  output : w'.output = w.output
  size : w.heap.size ≤ w'.heap.size
  block : ∀ j, j < w.heap.size → ¬ Foot g R j → w'.heap[j]? = w.heap[j]?
  foot : ∀ j, j < w.heap.size → Foot g R' j → Foot g R j
  lo : R'.lo = R.lo

section
variable {w w' w'' : World} {g : Nat} {s : StT} {R R' R'' : RowsM}
theorem Stp.refl (w : World) (g : Nat) (R : RowsM) : Stp w w g R R := ⟨rfl, rfl, rfl, Nat.le_refl _, fun _ _ _ => rfl, fun _ _ h => h, rfl⟩
theorem Stp.trans (h : Stp w w' g R R') (k : Stp w' w'' g R' R'') : Stp w w'' g R R'' :=
  ⟨k.os.trans h.os, k.tape.trans h.tape, k.output.trans h.output, Nat.le_trans h.size k.size,
    fun j hj hf => (k.block j (Nat.lt_of_lt_of_le hj h.size) (fun h2 => hf (h.foot j hj h2))).trans (h.block j hj hf),
    fun j hj hf => h.foot j hj (k.foot j (Nat.lt_of_lt_of_le hj h.size) hf), k.lo.trans h.lo⟩
theorem Stp.of_gr (h : Gr w w') : Stp w w' g R R := ⟨h.os, h.tape, h.output, h.size, fun j hj _ => h.block j hj, fun _ _ hf => hf, rfl⟩
/-- a block of a member's has changed -/
theorem Stp.of_but {b : Nat} (h : But w w' b) (hb : Foot g R b) (hR : ∀ j, Foot g R' j → Foot g R j) (hlo : R'.lo = R.lo) : Stp w w' g R R' :=
  ⟨h.os, h.tape, h.output, h.size, fun j hj hf => h.block j hj (fun e => by injection e with e; subst e; exact hf hb), fun j _ hf => hR j hf, hlo⟩
theorem Stp.moves (h : Stp w w' g R R') : Moves (Free g R) (Free g R') w w' := fun j hj hf => ⟨h.block j hj hf, fun h2 => hf (h.foot j hj h2)⟩
theorem Stp.movesH (h : Stp w w' g R R') : Moves (Home g R) (Home g R') w w' := fun j hj hf => ⟨h.block j hj hf.1, fun h2 => hf.1 (h.foot j hj h2), by rw [h.lo]; exact hf.2⟩
theorem Stp.bl (h : Stp w w' g R R') {b : Nat} {t : TypeId} {cs : Array Value} (hb : Bl w b t cs) (hf : Free g R b) : Bl w' b t cs ∧ Free g R' b :=
  ⟨(h.block b hb.lt hf).trans hb, fun h2 => hf (h.foot b hb.lt h2)⟩
/-- nothing of what was there at the beginning is the member's -/
theorem Stp.gr {w0 : World} (h : Stp w w' g R R') (hg : Gr w0 w) (hf : ∀ j, Foot g R j → w0.heap.size ≤ j) : Gr w0 w' ∧ ∀ j, Foot g R' j → w0.heap.size ≤ j := by
  refine ⟨⟨h.os.trans hg.os, h.tape.trans hg.tape, h.output.trans hg.output, Nat.le_trans hg.size h.size, fun j hj => ?_⟩, fun j hj => ?_⟩
  · rw [h.block j (Nat.lt_of_lt_of_le hj hg.size) (fun h2 => by have := hf j h2; omega)]
    exact hg.block j hj
  · by_cases hlt : j < w.heap.size
    · exact hf j (h.foot j hlt hj)
    · have := hg.size; omega

theorem OutX.move {X X' : Nat → Prop} {v : Value} {ls : List MsgT} (h : OutX X w v ls) (hm : Moves X X' w w') (hb : ∀ b, v.ownBlock = some b → w'.heap[b]? = w.heap[b]?) : OutX X' w' v ls := by
  obtain ⟨f, h1, h2⟩ := h
  exact ⟨f, h1.keep hb, fun j m hj => (h2 j m hj).move hm⟩
theorem OwnV.keep {e : TypeId} {B : Nat} {v : Value} {xs : List Value} (h : OwnV e w B v xs) (hb : ∀ b, v.ownBlock = some b → w'.heap[b]? = w.heap[b]?) : OwnV e w' B v xs := by
  refine ⟨h.1, ?_⟩
  rcases h.2 with h2 | ⟨g, cap, cur, rfl, h3, h4, h5⟩
  · exact .inl h2
  · exact .inr ⟨g, cap, cur, rfl, h3, by rw [hb g rfl]; exact h4, h5⟩
theorem OutX.lt {X : Nat → Prop} {v : Value} {ls : List MsgT} (h : OutX X w v ls) : ∀ b, v.ownBlock = some b → b < w.heap.size := by
  obtain ⟨f, h1, _⟩ := h
  exact fun b hb => (h1.lt b hb).2
theorem MemR.lt (h : MemR w g s R) : ∀ j, Foot g R j → j < w.heap.size := fun j hj => by
  rcases hj with rfl | hj | hj | hj | hj
  · exact h.bl.lt
  · exact OwnV.lt h.votes j hj
  · exact OwnV.lt h.next j hj
  · exact OwnV.lt h.mtch j hj
  · exact h.out.lt j hj
theorem MemR.free_new (h : MemR w g s R) : Free g R w.heap.size := fun hf => by have := h.lt _ hf; omega
theorem MemR.gr (h : MemR w g s R) (hg : Gr w w') : MemR w' g s R :=
  ⟨h.bl.gr hg, h.log.gr hg, OwnV.gr h.votes hg, h.next.gr hg, h.mtch.gr hg, h.out.move (Moves.of_gr hg) (fun b hb => hg.block b (h.out.lt b hb)), Nat.le_trans h.low hg.size, h.nv, h.nn, h.nm, h.nq, h.vn, h.vm, h.vq, h.nmm, h.nqq, h.mq⟩
/-- cells of the member's block have changed: another state, another log -/
theorem MemR.poke {s' : StT} {l : Value} (h : MemR w g s R) (hb : But w w' g) (hbl : Bl w' g 81 (mbC s'.r { R with l := l }))
    (hl : EntsX (Home g R) w l s'.r.log) (hv : s'.r.votes = s.r.votes) (hn : s'.r.next = s.r.next) (hm : s'.r.mtch = s.r.mtch) (ho : s'.out = s.out) : MemR w' g s' { R with l := l } ∧ Stp w w' g R { R with l := l } := by
  have hst : Stp w w' g R { R with l := l } := .of_but hb (.inl rfl) (fun j hj => hj) rfl
  have hk : ∀ b, b < w.heap.size → b ≠ g → w'.heap[b]? = w.heap[b]? := fun b hlt hne => hb.block b hlt (fun e => hne (by injection e))
  refine ⟨⟨hbl, hl.move hst.movesH, ?_, ?_, ?_, ?_, Nat.le_trans h.low hst.size, h.nv, h.nn, h.nm, h.nq, h.vn, h.vm, h.vq, h.nmm, h.nqq, h.mq⟩, hst⟩
  · rw [hv]; exact OwnV.keep h.votes fun b hb2 => hk b (OwnV.lt h.votes b hb2) (fun e => h.nv (by rw [hb2, e]))
  · rw [hn]; exact OwnV.keep h.next fun b hb2 => hk b (OwnV.lt h.next b hb2) (fun e => h.nn (by rw [hb2, e]))
  · rw [hm]; exact OwnV.keep h.mtch fun b hb2 => hk b (OwnV.lt h.mtch b hb2) (fun e => h.nm (by rw [hb2, e]))
  · rw [ho]; exact h.out.move hst.movesH fun b hb2 => hk b (h.out.lt b hb2) (fun e => h.nq (by rw [hb2, e]))
/-- .. a state alone -/
theorem MemR.poke_s {s' : StT} (h : MemR w g s R) (hb : But w w' g) (hbl : Bl w' g 81 (mbC s'.r R))
    (hl : s'.r.log = s.r.log) (hv : s'.r.votes = s.r.votes) (hn : s'.r.next = s.r.next) (hm : s'.r.mtch = s.r.mtch) (ho : s'.out = s.out) : MemR w' g s' R ∧ Stp w w' g R R :=
  MemR.poke (l := R.l) h hb hbl (by rw [hl]; exact h.log) hv hn hm ho
/-- a block of a row's has changed -/
theorem MemR.row {s' : StT} {b : Nat} (h : MemR w g s R) (hb : But w w' b) (hf : Foot g R b) (hg : b ≠ g) (hC : mbC s'.r R = mbC s.r R) (hl : s'.r.log = s.r.log)
    (hv : OwnB w' R.v s'.r.votes ∨ (R.v.ownBlock ≠ some b ∧ s'.r.votes = s.r.votes)) (hn : OwnI w' 0 R.n s'.r.next ∨ (R.n.ownBlock ≠ some b ∧ s'.r.next = s.r.next)) (hm : OwnI w' 0 R.m s'.r.mtch ∨ (R.m.ownBlock ≠ some b ∧ s'.r.mtch = s.r.mtch))
    (hq : R.q.ownBlock ≠ some b) (ho : s'.out = s.out) : MemR w' g s' R ∧ Stp w w' g R R := by
  have hst : Stp w w' g R R := .of_but hb hf (fun j hj => hj) rfl
  have hk : ∀ c, c < w.heap.size → c ≠ b → w'.heap[c]? = w.heap[c]? := fun c hlt hne => hb.block c hlt (fun e => hne (by injection e))
  refine ⟨⟨?_, ?_, ?_, ?_, ?_, ?_, Nat.le_trans h.low hst.size, h.nv, h.nn, h.nm, h.nq, h.vn, h.vm, h.vq, h.nmm, h.nqq, h.mq⟩, hst⟩
  · rw [hC]; exact (hk g h.bl.lt (fun e => hg e.symm)).trans h.bl
  · rw [hl]; exact h.log.move hst.movesH
  · rcases hv with hv | ⟨h1, h2⟩
    · exact hv
    · rw [h2]; exact OwnV.keep h.votes fun c hc => hk c (OwnV.lt h.votes c hc) (fun e => h1 (by rw [hc, e]))
  · rcases hn with hn | ⟨h1, h2⟩
    · exact hn
    · rw [h2]; exact OwnV.keep h.next fun c hc => hk c (OwnV.lt h.next c hc) (fun e => h1 (by rw [hc, e]))
  · rcases hm with hm | ⟨h1, h2⟩
    · exact hm
    · rw [h2]; exact OwnV.keep h.mtch fun c hc => hk c (OwnV.lt h.mtch c hc) (fun e => h1 (by rw [hc, e]))
  · rw [ho]; exact h.out.move hst.movesH fun c hc => hk c (h.out.lt c hc) (fun e => hq (by rw [hc, e]))
theorem MemR.cell (h : MemR w g s R) (i : Nat) : w.cell? ⟨g, i, none⟩ = (mbC s.r R)[i]? := h.bl.cell i
end

end Go.Proofs.Ythpaoeiackbdoaa

/-
  send.
-/
namespace Go.Proofs.Ythpaoeiackbdoaa
open Go Go.RowKit TxnMath KeyMath MsgMath BalMath RfMath
set_option maxRecDepth 100000

namespace Mine
section
variable {P : Program} {ops : Array Oper} {w0 : World} {n0 : Nat} {Q : (Tmp → Known) → Tmp → Known → Prop} {o : Oper} {rest : List Oper} {K : Tmp → Known} {c : Tmp} {C : Known}
/-- the row is loaded from the cell in which it lies -/
theorem chain_loadRc {d : Tmp} {t : TypeId} {x : Operand} {e : TypeId} {k B : Nat} {row : Value} {rs : List (List Value)} (ho : o.op = .load t x) (hd : o.dst = some d) (hg : o.guard = none) (hk : n0 ≤ c) (ha : ∀ w, (isAgg t).run P w = .ok false w) (hx : Kn K x (Ce row))
    (h : wpMine P ops w0 n0 Q rest (upd K (some d) top) d (RowR e k B rs)) : wpMine P ops w0 n0 Q (o :: rest) K c (RowROf e k B row rs) := by
  refine chain hd hg (.inr hk) (RowR.keeps e k B rs) (fun a w ob ob0 _ hwf hl hC => ?_) h
  obtain ⟨ad, h1, hc, _⟩ : ∃ ad, a.eval x = .pointer (some ad) ∧ w.cell? ad = some row ∧ some ad.block ≠ ob := looks_op (Ψ := Ce row) (by simp [ho, Op.operands]) hx hl
  have hr : (Instr.loadAt t (.pointer (some ad))).run P w = .ok row w := by simp [Instr.loadAt, Instr.sureAddr, loadVar, ha w, hc]
  unfold doesC execOp
  simp only [ho, h1]
  rw [Sem.run_bind, hr]
  exact ⟨ob, RS.refl w ob, hwf, hC.1, hC.2⟩
end
end Mine

theorem info_msg : ∃ i, Try.prog.info? 47 = some i ∧ i.zero = some (.agg (cellsM noMsg ⟨.slice none 0 0, (.slice none 0 0, .slice none 0 0), .slice none 0 0, .slice none 0 0⟩).toArray) ∧ i.size = 24 ∧ i.bytes = 288 := info_parts (by kernel_rfl)
theorem cellsM_len (m : MsgT) (r : Rows5) : (cellsM m r).length = 24 := rfl
theorem RowX.one {X : Nat → Prop} {k : Nat} {w : World} {v : Value} {rs : List (List Value)} (h : RowX X k w v rs) : v.oneCell' = true := by
  obtain ⟨A, c, rfl⟩ := h.sl
  exact slice_one
theorem cellsM_one {X : Nat → Prop} {w : World} {m : MsgT} {r : Rows5} (h : MsgR X w m r) : ∀ u ∈ cellsM m r, u.oneCell' = true := by
  obtain ⟨f, he, _⟩ := h.e
  have h1 := he.one
  have h2 := h.p.rd.one
  have h3 := h.p.wr.one
  have h4 := h.k.one
  have h5 := h.g.one
  intro u hu
  simp only [cellsM, List.mem_cons, List.not_mem_nil, or_false] at hu
  rcases hu with rfl | rfl | rfl | rfl | rfl | rfl | rfl | rfl | rfl | rfl | rfl | rfl | rfl | rfl | rfl | rfl | rfl | rfl | rfl | rfl | rfl | rfl | rfl | rfl <;> first | assumption | rfl
theorem OutX.push {X : Nat → Prop} {w' : World} {v' : Value} {ls : List MsgT} {x : MsgT} {r : Rows5} (f : Nat → Rows5) (h2 : ∀ j m, ls[j]? = some m → MsgR X w' m (f j)) (hx : MsgR X w' x r) (ho : OwnR 47 24 w' 0 v' ((ls.mapIdx fun j m => cellsM m (f j)) ++ [cellsM x r])) : OutX X w' v' (ls ++ [x]) := by
  refine ⟨fun j => if j < ls.length then f j else r, ?_, fun j m hj => ?_⟩
  · rw [show (ls ++ [x]).mapIdx (fun j m => cellsM m (if j < ls.length then f j else r)) = (ls.mapIdx fun j m => cellsM m (f j)) ++ [cellsM x r] by
      rw [List.mapIdx_append]
      congr 1
      · refine List.ext_getElem (by simp) fun j h1 h2 => ?_
        simp only [List.length_mapIdx] at h1
        simp [h1]
      · simp]
    exact ho
  · by_cases hlt : j < ls.length
    · rw [List.getElem?_append_left hlt] at hj
      simp only [hlt, if_true]
      exact h2 j m hj
    · rw [List.getElem?_append_right (by omega)] at hj
      have : j - ls.length = 0 := by
        have := (List.getElem?_eq_some_iff.1 hj).1
        simp at this; omega
      rw [this] at hj
      injection hj with hj
      subst hj
      simp only [hlt, if_false]
      exact hx

theorem MemR.pushed {w w1 : World} {g : Nat} {s : StT} {R : RowsM} {row : Value} {x : MsgT} {r : Rows5} {f : Nat → Rows5} (h : MemR w g s R) (hr : Mine.RS w R.q.ownBlock w1 row.ownBlock)
    (hf : ∀ j m, s.out[j]? = some m → MsgR (Home g R) w m (f j)) (hrow : OwnR 47 24 w1 0 row ((s.out.mapIdx fun j m => cellsM m (f j)) ++ [cellsM x r])) (hx : MsgR (Home g R) w x r) :
    MemR (w1.setCell ⟨g, 13, none⟩ row) g { s with out := s.out ++ [x] } { R with q := row } ∧ Stp w (w1.setCell ⟨g, 13, none⟩ row) g R { R with q := row } := by
  have hgq : some g ≠ R.q.ownBlock := fun e => h.nq e.symm
  have hgl := h.bl.lt
  have hb1 : Bl w1 g 81 (mbC s.r R) := (hr.gb.block g hgl hgq).trans h.bl
  have hbut : But w1 (w1.setCell ⟨g, 13, none⟩ row) g := (But.refl w1 g).set 13 row
  have hrb : ∀ b, row.ownBlock = some b → b < w.heap.size → R.q.ownBlock = some b := fun b hb hlt => by
    rcases hr.at_ with e | ⟨k, e, hk⟩
    · rw [← e]; exact hb
    · rw [e] at hb; injection hb with hb; omega
  have hkeep : ∀ b, b < w.heap.size → b ≠ g → R.q.ownBlock ≠ some b → (w1.setCell ⟨g, 13, none⟩ row).heap[b]? = w.heap[b]? := fun b hlt hne hq =>
    (hbut.block b (Nat.lt_of_lt_of_le hlt hr.gb.size) (fun e => hne (by injection e))).trans (hr.gb.block b hlt (fun e => hq e.symm))
  have hnr : row.ownBlock ≠ some g := fun e => by
    have := hrb g e hgl
    exact hgq this.symm
  have hsep : ∀ v : Value, (∀ b, v.ownBlock = some b → b < w.heap.size) → Sep v R.q → Sep v row := fun v hv hs b hb hb2 => hs b hb (hrb b hb2 (hv b hb))
  have hst : Stp w (w1.setCell ⟨g, 13, none⟩ row) g R { R with q := row } := by
    refine ⟨hbut.os.trans hr.gb.os, hbut.tape.trans hr.gb.tape, hbut.output.trans hr.gb.output, Nat.le_trans hr.gb.size hbut.size, fun j hj hf => hkeep j hj (fun e => hf (.inl e)) (fun e => hf (.inr (.inr (.inr (.inr e))))), fun j hj hf => ?_, rfl⟩
    rcases hf with hf | hf | hf | hf | hf
    · exact .inl hf
    · exact .inr (.inl hf)
    · exact .inr (.inr (.inl hf))
    · exact .inr (.inr (.inr (.inl hf)))
    · exact .inr (.inr (.inr (.inr (hrb j hf hj))))
  refine ⟨⟨hb1.put 13 row, h.log.move hst.movesH, ?_, ?_, ?_, ?_, Nat.le_trans h.low hst.size, h.nv, h.nn, h.nm, hnr, h.vn, h.vm, hsep _ (OwnV.lt h.votes) h.vq, h.nmm, hsep _ (OwnV.lt h.next) h.nqq, hsep _ (OwnV.lt h.mtch) h.mq⟩, hst⟩
  · exact OwnV.keep h.votes fun b hb => hkeep b (OwnV.lt h.votes b hb) (fun e => h.nv (by rw [hb, e])) (fun e => h.vq b hb e)
  · exact OwnV.keep h.next fun b hb => hkeep b (OwnV.lt h.next b hb) (fun e => h.nn (by rw [hb, e])) (fun e => h.nqq b hb e)
  · exact OwnV.keep h.mtch fun b hb => hkeep b (OwnV.lt h.mtch b hb) (fun e => h.nm (by rw [hb, e])) (fun e => h.mq b hb e)
  · exact OutX.push f (fun j m hj => (hf j m hj).move hst.movesH) (hx.move hst.movesH) (hrow.keep fun b hb => hbut.block b (hrow.lt b hb).2 (fun e => hnr (by rw [hb]; exact congrArg some (by injection e))))

set_option maxHeartbeats 1000000 in
theorem send_ok (w : World) (g : Nat) (s : StT) (R : RowsM) (h : MemR w g s R) (to : Int) (v : Value) (l : MsgT) (hl : MsgX (Home g R) w v l) (hn : s.out.length ≤ 1000) :
    Calls Try.prog 82 #[.pointer (some ⟨g, 0, none⟩), .int .i64 to, v] w fun e w' => e = .returned (.tuple #[]) ∧ ∃ R', MemR w' g (sendS to l s) R' ∧ Stp w w' g R R' := by
  have HM := hide h
  obtain ⟨r, rfl, hr⟩ := hl
  have HR := hide hr
  have c0 : w.cell? ⟨g, 0, none⟩ = some (.int .i64 s.r.me) := h.cell 0
  have c3 : w.cell? ⟨g, 3, none⟩ = some (.int .i64 s.r.term) := h.cell 3
  have c13 : w.cell? ⟨g, 13, none⟩ = some R.q := h.cell 13
  have hlt := h.bl.lt
  clear h hr
  obtain ⟨me, hme⟩ : ∃ me, s.r.me = me := ⟨_, rfl⟩
  obtain ⟨tm, htm⟩ : ∃ tm, s.r.term = tm := ⟨_, rfl⟩
  rw [hme] at c0
  rw [htm] at c3
  unfold cellsM
  go_enter Try.func82, Try.ntmps82
  go_wp2_with fail
  obtain ⟨W1, hW1⟩ : ∃ W1, w.alloc (.cells (cellsM l r).toArray 47) = W1 := ⟨_, rfl⟩
  simp only [cellsM] at hW1
  rw [hW1]
  have hg1 : Gr w W1 := by rw [← hW1]; exact (Gr.refl _).alloc _
  have hb1 : Bl W1 w.heap.size 47 (cellsM l r).toArray := by rw [← hW1]; exact Bl.new _ _ _
  have HB1 := hide hb1
  have HG1 := hide hg1
  have d0 : W1.cell? ⟨g, 0, none⟩ = some (.int .i64 me) := gr_cell hg1 _ _ c0
  have d3 : W1.cell? ⟨g, 3, none⟩ = some (.int .i64 tm) := gr_cell hg1 _ _ c3
  have d13 : W1.cell? ⟨g, 13, none⟩ = some R.q := gr_cell hg1 _ _ c13
  have b1 : W1.cell? ⟨w.heap.size, 1, none⟩ = some (.int .i64 l.frm) := hb1.cell 1
  have b2 : W1.cell? ⟨w.heap.size, 2, none⟩ = some (.int .i64 l.to) := hb1.cell 2
  have b4 : W1.cell? ⟨w.heap.size, 4, none⟩ = some (.int .i64 l.term) := hb1.cell 4
  have f1 := hb1.frozen 1
  have f2 := hb1.frozen 2
  have f4 := hb1.frozen 4
  have hne : ¬ g = w.heap.size := by omega
  clear hW1 hg1 hb1 c0 c3 c13
  go_region
  obtain ⟨W2, hW2⟩ : ∃ W2, (((W1.setCell ⟨w.heap.size, 1, none⟩ (.int .i64 me)).setCell ⟨w.heap.size, 2, none⟩ (.int .i64 to)).setCell ⟨w.heap.size, 4, none⟩ (.int .i64 tm)).drew = W2 := ⟨_, rfl⟩
  have hb2 : Bl W2 w.heap.size 47 (cellsM { l with frm := me, to := to, term := tm } r).toArray := by rw [← hW2]; exact (((HB1.out.put 1 _).put 2 _).put 4 _).drewN 1
  have hu2 : But W1 W2 w.heap.size := by rw [← hW2]; exact ((((But.refl _ _).set 1 _).set 2 _).set 4 _).drewN 1
  have hg2 : Gr w W2 := HG1.out.fresh_ hu2 (Nat.le_refl _)
  clear HB1 hu2 HG1 d0 d3 b1 b2 b4 f1 f2 f4
  go_wp2_with fail
  rw [hW2]
  obtain ⟨f, hq, hqr⟩ := HM.out.out
  obtain ⟨i0, hi, hz0, hz1, hz2⟩ := info_msg
  have hqlt := fun k hk => (hq.lt k hk).2
  have hql : ∀ k, R.q.ownBlock = some k → k ≠ w.heap.size := fun k hk e => by have := hqlt k hk; omega
  have hMg := HM.out.bl
  have hNQ := HM.out.nq
  obtain ⟨D, hD⟩ : ∃ D, cellsM { l with frm := me, to := to, term := tm } r = D := ⟨_, rfl⟩
  rw [hD] at hb2
  have HDL := hide (show D.length = 24 by rw [← hD]; rfl)
  have HDO := hide (show ∀ u ∈ D, u.oneCell' = true by rw [← hD]; exact cellsM_one (m := { l with frm := me, to := to, term := tm }) ⟨HR.out.e, HR.out.p, HR.out.k, HR.out.g⟩)
  refine Mine.wp_region_mine_tail 10 30 [20, 21, 22, 23, 24, 25, 26, 27, 28, 29] rfl (by kernel_rfl) (by kernel_rfl) (by kernel_rfl) (by kernel_rfl) (ob0 := R.q.ownBlock)
    (Mine.Ahead.more (Mine.Ahead.more (Mine.Ahead.none_ _ _ _) 0 (Mine.Bx.stays g 81 (mbC s.r R)) ⟨rfl, (hMg.gr hg2).drewN 1, fun e => hNQ e.symm⟩) 5 (Mine.Bx.stays w.heap.size 47 D.toArray) ⟨rfl, hb2.drewN 1, fun e => hql _ e.symm rfl⟩)
    31 (C0 := Mine.RowROf 47 24 0 R.q (s.out.mapIdx fun j m => cellsM m (f j))) (Mine.RowROf.keeps _ _ _ _ _) (fun k hk => by have := hqlt k hk; have := hg2.size; show k < W2.heap.size; omega) ⟨(hq.gr hg2).gr ((Gr.refl W2).drewN 1), rfl⟩ ?_
  refine Mine.move _ (.inl rfl) rfl (by decide) rfl (Mine.Bx.stays _ _ _) ?_
  refine Mine.move _ (.inl rfl) rfl (by decide) rfl (Mine.Bx.stays _ _ _) ?_
  refine Mine.nil rfl rfl (by decide) rfl ?_
  refine Mine.field (u := R.q) (j := 13) rfl rfl (by decide) rfl (fun w => by rfl) rfl ?_
  refine Mine.chain_loadRc rfl rfl rfl (by decide) (fun w => by kernel_rfl) rfl ?_
  refine Mine.load_box rfl rfl (by decide) rfl Try.underlying47 rfl (by rw [List.size_toArray, HDL.out]; kernel_rfl) ?_
  refine Mine.lit1R (e := 47) (cs := D) rfl rfl (by decide) rfl (fun W => by rw [← hD]; kernel_rfl) ?_
  refine Mine.chain_appR (cs := D) rfl rfl rfl Try.underlying43 hi hz0 hz1 hz2 rfl (by decide) rfl HDL.out HDO.out (by simp only [List.length_mapIdx]; omega) (by simp only [List.length_mapIdx]; omega) (Nat.zero_le _) ?_
  refine Mine.nil rfl rfl (by decide) rfl ?_
  refine Mine.field_is rfl rfl (by decide) rfl (fun w => by rfl) ?_
  intro a1 w1 ob hr hwf hsz hdf hun hk hat
  have h29 : a1.tmps.getD 29 undef = .pointer (some ⟨g, 13, none⟩) := hk 29
  obtain ⟨hown, hob⟩ := hat
  change OwnR 47 24 w1 0 (a1.tmps.getD 27 undef) ((s.out.mapIdx fun j m => cellsM m (f j)) ++ [D]) at hown
  obtain ⟨X, hX, hlay⟩ := Grow.lay_kept_by _ a1 30 _ hsz hdf hun
  rw [hX] at h29 hown hob
  clear hX hun hdf hsz hk hwf
  subst hlay
  simp only [List.range, List.range.loop, List.map_cons, List.map_nil, List.contains_cons, List.contains_nil, Nat.reduceBEq, Bool.or_false, Bool.or_true, cond_false, cond_true, Array.getD_eq_getD_getElem?, List.getElem?_toArray, List.getElem?_cons_zero, List.getElem?_cons_succ, Option.getD_some, h29, List.drop_succ_cons, List.drop_zero]
  generalize X 27 = row at hown hob ⊢
  subst hob
  replace hr := (Mine.RS.of_gr (o := R.q.ownBlock) (hg2.trans ((Gr.refl W2).drewN 1))).trans hr
  have hb1 : Bl w1 g 81 (mbC s.r R) := (hr.gb.block g hlt (fun e => hNQ e.symm)).trans hMg
  have HE := hide (HM.out.pushed (x := { l with frm := me, to := to, term := tm }) (r := r) hr hqr (by rw [hD]; exact hown) ⟨HR.out.e, HR.out.p, HR.out.k, HR.out.g⟩)
  obtain ⟨A, c, rfl, _⟩ := OwnR.is hown
  clear hr hown hqr hq hMg hNQ HDL HDO hb2 hql hqlt d13
  refine wpList_store_slice rfl 43 (.tmp 29) (.tmp 27) rfl rfl (fun w => by kernel_rfl) (g := g) (i := 13) rfl rfl hb1 (by show 13 < 14; decide) ?_
  clear hb1
  rw [← hme, ← htm] at HE
  generalize ((s.out.mapIdx fun j m => cellsM m (f j)) ++ [D]).length = q at HE ⊢
  generalize w1.setCell ⟨g, 13, none⟩ (.slice A q c) = w2 at HE ⊢
  go_wp2_with fail
  go_end0
  exact ⟨rfl, _, HE.out.1, HE.out.2⟩

end Go.Proofs.Ythpaoeiackbdoaa

/-
  askVote, copied, elected, denials.
-/
namespace Go.Proofs.Ythpaoeiackbdoaa
open Go Go.RowKit TxnMath KeyMath MsgMath BalMath RfMath
set_option maxRecDepth 100000

def rows0 : Rows5 := ⟨.slice none 0 0, (.slice none 0 0, .slice none 0 0), .slice none 0 0, .slice none 0 0⟩
theorem rows0_ok (X : Nat → Prop) (w : World) (m : MsgT) (he : m.entries = []) (ht : m.t = noTxn) (hk : m.keys = []) (hg : m.got = []) : MsgR X w m rows0 :=
  ⟨by rw [he]; exact EntsX.nil X w, by rw [ht]; exact RowsX.none_ X w, by rw [hk]; exact RowX.nil X 1 w, by rw [hg]; exact RowX.nil X 4 w⟩
/-- a member's function that tells nothing -/
def MbPost (w : World) (g : Nat) (R : RowsM) (s' : StT) (e : Ending) (w' : World) : Prop := e = .returned (.tuple #[]) ∧ ∃ R', MemR w' g s' R' ∧ Stp w w' g R R'

theorem send_plain (w : World) (g : Nat) (s : StT) (R : RowsM) (h : MemR w g s R) (to : Int) (l : MsgT) (he : l.entries = []) (ht : l.t = noTxn) (hk : l.keys = []) (hg : l.got = []) (hn : s.out.length ≤ 1000) :
    Calls Try.prog 82 #[.pointer (some ⟨g, 0, none⟩), .int .i64 to, .agg (cellsM l rows0).toArray] w (MbPost w g R (sendS to l s)) :=
  send_ok w g s R h to _ l ⟨rows0, rfl, rows0_ok _ _ _ he ht hk hg⟩ hn

theorem EntsX.any {X : Nat → Prop} {w : World} {v : Value} {es : List EntT} (h : EntsX X w v es) : EntsX Any w v es := h.wide fun _ _ => trivial

theorem askVote_ok (w : World) (g : Nat) (s : StT) (R : RowsM) (h : MemR w g s R) (to : Int) (hl : s.r.log.length ≤ 200) (hn : s.out.length ≤ 1000) :
    Calls Try.prog 87 #[.pointer (some ⟨g, 0, none⟩), .int .i64 to] w (MbPost w g R (askS to s)) := by
  have HM := hide h
  obtain ⟨A, c, hA⟩ := h.log.is
  have c5 : w.cell? ⟨g, 5, none⟩ = some (.slice A s.r.log.length c) := by rw [← hA]; exact h.cell 5
  have HT := hide (Term_ok R.l s.r.log s.r.log.length w h.log.any (by omega))
  obtain ⟨S1, hS1⟩ : ∃ S1, askS to s = S1 := ⟨_, rfl⟩
  have HS : Hid (Calls Try.prog 82 #[.pointer (some ⟨g, 0, none⟩), .int .i64 to, .agg (cellsM (askM s.r) rows0).toArray] w (MbPost w g R S1)) := by rw [← hS1]; exact send_plain w g s R h to (askM s.r) rfl rfl rfl rfl hn
  rw [hA] at HT
  rw [hS1]
  unfold askM cellsM rows0 noMsg noTxn at HS
  simp only at HS
  clear h hA
  generalize termL s.r.log s.r.log.length = tm at HT HS
  generalize s.r.log.length = n at *
  go_enter Try.func87, Try.ntmps87
  go_wp2_with fail
  refine HT.out.mono ?_
  rintro e w1 ⟨rfl, hw⟩
  subst hw
  go_wp2_with fail
  refine HS.out.mono ?_
  rintro e w2 ⟨rfl, R', h1, h2⟩
  have H1 := hide h1
  have H2 := hide h2
  clear h1 h2
  go_wp2_with fail
  go_end0
  exact ⟨rfl, R', H1.out, H2.out⟩

theorem join_none (l : List EntT) : joinL l 0 [] = l := by
  unfold joinL
  rw [if_neg (by omega)]
  cases l <;> simp [frontL]
theorem OwnEnt.entsIn {w : World} {B : Nat} {v : Value} {es : List EntT} (h : OwnEnt (fun j => B ≤ j) w B v es) : EntsX (fun j => B ≤ j) w v es := by
  obtain ⟨f, h1, h2⟩ := h
  exact ⟨f, ⟨h1.rowAt, fun ad n c e _ => by
    subst e
    rcases h1.2.2 with ⟨h3, _⟩ | ⟨g, cap, cur, h3, hb, _⟩
    · cases h3
    · simp only [Value.slice.injEq, Option.some.injEq] at h3
      rw [h3.1]; exact hb⟩, fun j e hj => (h2 j e hj).wide fun k hk => hk.1⟩

theorem copied_ok_ (v : Value) (l : List EntT) (w : World) (hv : EntsX Any w v l) (hl : l.length ≤ 10000) (hb : ∀ e ∈ l, EntBnd e) :
    Calls Try.prog 48 #[v] w fun e w' => ∃ u, e = .returned u ∧ EntsX (fun j => w.heap.size ≤ j) w' u l ∧ Gr w w' := by
  have HJ := hide (Join_ok v (.slice none 0 0) l [] 0 w hv (EntsX.nil Any w) hl (by simp) hb (fun e he => by simp at he))
  obtain ⟨A, c, rfl⟩ := hv.is
  clear hv
  go_enter Try.func48, Try.ntmps48
  go_wp2_with fail
  refine HJ.out.mono ?_
  rintro e w1 ⟨r, rfl, ho, hg⟩
  rw [join_none] at ho
  have HO := hide ho
  have HG := hide hg
  obtain ⟨A', c', rfl⟩ := ho.is
  clear ho hg
  go_wp2_with fail
  go_ret
  exact ⟨_, rfl, HO.out.entsIn, HG.out⟩

theorem OwnB.x {w : World} {v : Value} {l : List Bool} (h : OwnB w v l) : BoolsX w v l := by
  unfold OwnB at h
  obtain ⟨A, c, rfl, _⟩ := OwnV.is h
  exact ⟨A, c, rfl, Mine.vs_own h⟩

theorem elected_ok (w : World) (g : Nat) (s : StT) (R : RowsM) (h : MemR w g s R) (hk : 1 ≤ s.r.nodes ∧ s.r.nodes ≤ 5) (hv : s.r.votes.length ≤ 1000) :
    Calls Try.prog 79 #[.pointer (some ⟨g, 0, none⟩)] w fun e w' => e = .returned (.bool (electedR s.r)) ∧ ∃ n, w' = w.drewN n := by
  obtain ⟨k, hn⟩ : ∃ k : Nat, s.r.nodes = k := ⟨s.r.nodes.toNat, by omega⟩
  have c1 : w.cell? ⟨g, 1, none⟩ = some (.int .i64 k) := by rw [← hn]; exact h.cell 1
  have hx := OwnB.x h.votes
  obtain ⟨A, c, hA, _⟩ := BoolsX.is hx
  have c9 : w.cell? ⟨g, 9, none⟩ = some (.slice A s.r.votes.length c) := by rw [← hA]; exact h.cell 9
  have HN := hide (fun n => Many_ok R.v s.r.votes (w.drewN n) (hx.gr ((Gr.refl w).drewN n)) (by omega))
  have HJ := hide (fun n => Majority_ok k (w.drewN n) (by omega))
  have HE : Hid (electedR s.r = decide (majN k ≤ manyL s.r.votes)) := by unfold Hid electedR; rw [hn]; rfl
  rw [hA] at HN
  generalize s.r.votes = vs at *
  generalize electedR s.r = b at *
  clear h hA hx
  have hml := many_le vs
  have hmj : majN k ≤ 100 := by have : majN k = k / 2 + 1 := rfl; omega
  go_enter Try.func79, Try.ntmps79
  go_wp2_with fail
  go_quiet (first | (with_reducible refine Calls.quiet_of_same (HN.out _)) | (with_reducible refine Calls.quiet_of_same (HJ.out _)))
  go_wp2_with fail
  go_ret
  exact ⟨by rw [HE.out]; simp, _, rfl⟩

end Go.Proofs.Ythpaoeiackbdoaa
