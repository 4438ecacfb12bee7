/-
  msg's eraser is a hand.
-/
import Derived.Test.YtpabppoohobjpaaGreatHandB
import Derived.Test.YtpabppoohobjpaaGreatTxWriter
namespace Go.Proofs.YtpabppoohobjpaaGreat
open Go Go.RowKit TxnMath KeyMath MsgMath
set_option maxRecDepth 100000

section
variable {O : World → Nat → Prop} {rd : Prop} {k o : Nat} {w : World}
theorem Sit.size {t : TypeId} {cs : Array Value} {l : List Value} (h : Sit w k o l) (hb : Bl w k t cs) (hl : 0 < l.length) : o + l.length ≤ cs.size := by
  have h1 := h (l.length - 1) _ (List.getElem?_eq_getElem (show l.length - 1 < l.length by omega))
  rw [hb.cell] at h1
  have := (Array.getElem?_eq_some_iff.1 h1).1
  omega
/-- four cells are set -/
theorem Wr.set4 {t : TypeId} {cs : Array Value} {a b c d : Value} (hb : Bl w k t cs) (ho : o + 4 ≤ cs.size) (hrd : ¬ rd) (hi : ∀ w' u i j, Open False w' k → (O (w'.setCell ⟨k, i, none⟩ u) j ↔ O w' j)) :
    Wr O rd k o [a, b, c, d] w ((((w.setCell ⟨k, o, none⟩ a).setCell ⟨k, o + 1, none⟩ b).setCell ⟨k, o + 2, none⟩ c).setCell ⟨k, o + 3, none⟩ d) := by
  have b1 := hb.put o a
  have b2 := b1.put (o + 1) b
  have b3 := b2.put (o + 2) c
  have w1 := Wr.set (O := O) (rd := rd) (o := o) (v := a) hb (by omega) (fun h => absurd h hrd) (fun j => hi w a o j (.inr ⟨_, _, hb⟩))
  have w2 := Wr.set (O := O) (rd := rd) (o := o + 1) (v := b) b1 (show o + 1 < (cs.setIfInBounds o a).size by simp; omega) (fun h => absurd h hrd) (fun j => hi _ b (o + 1) j (.inr ⟨_, _, b1⟩))
  have w3 := Wr.set (O := O) (rd := rd) (o := o + 2) (v := c) b2 (show o + 2 < ((cs.setIfInBounds o a).setIfInBounds (o + 1) b).size by simp; omega) (fun h => absurd h hrd) (fun j => hi _ c (o + 2) j (.inr ⟨_, _, b2⟩))
  have w4 := Wr.set (O := O) (rd := rd) (o := o + 3) (v := d) b3 (show o + 3 < (((cs.setIfInBounds o a).setIfInBounds (o + 1) b).setIfInBounds (o + 2) c).size by simp; omega) (fun h => absurd h hrd) (fun j => hi _ d (o + 3) j (.inr ⟨_, _, b3⟩))
  exact ((w1.app w2).app w3).app w4
end

/-- the eraser's place -/
def eS : Unit → World → Prop := fun _ _ => True
def eO : World → Nat → Prop := fun _ _ => False
abbrev eV : Value := .iface 87 (.agg #[])

theorem eDisp (name : String) (f : FuncId) (h1 : ∀ w, (nilAhead (Tryz.prog.types.size + Made.depth) 87 (.agg #[]) name).run Tryz.prog w = .ok (some false) w) (h2 : ∀ args w, (callMethod eV name args).run Tryz.prog w = .ok (.enter f (#[.agg #[]] ++ args)) w) : Disp Tryz.prog eV name f (.agg #[]) := ⟨⟨_, _, rfl, h1⟩, h2⟩

/-- one cell is rubbed out -/
theorem er_one {w : World} {k o : Nat} {u v : Value} (hs : Sit w k o [u]) (hop : Open False w k) :
    w.frozen? ⟨k, o, none⟩ = false ∧ LaidPost eO False eS k o [v] () w (.returned (.tuple #[])) ((w.setCell ⟨k, o, none⟩ v).alloc (.cells #[] 87)) := by
  obtain ⟨t, cs, hb⟩ := hop.resolve_left id
  have hsz := hs.size hb (by simp)
  simp at hsz
  have hg := (Gr.refl (w.setCell ⟨k, o, none⟩ v)).alloc (.cells #[] 87)
  exact ⟨hb.frozen o, rfl, trivial, (Wr.set (o := o) (v := v) hb (by omega) (fun h => h.elim) (fun j => Iff.rfl)).of_hr (Hr.of_gr hg fun _ => Iff.rfl) (hb.put o v).lt id⟩

set_option maxHeartbeats 400000 in
theorem er_number (w : World) (k o : Nat) (u : Value) (hs : Sit w k o [u]) (hop : Open False w k) :
    Calls Tryz.prog 156 #[.agg #[], .pointer (some ⟨k, o, none⟩)] w (LaidPost eO False eS k o [.int .i64 0] () w) := by
  obtain ⟨f0, hp⟩ := er_one (v := .int .i64 0) hs hop
  have c0 : w.cell? ⟨k, o, none⟩ = some u := hs.head
  have hk := hs.lt
  have HP := hide hp
  clear hp
  go_enter Tryz.func156, Tryz.ntmps156
  go_wp2_with fail
  go_end0
  exact HP.out

set_option maxHeartbeats 400000 in
theorem er_flag (w : World) (k o : Nat) (u : Value) (hs : Sit w k o [u]) (hop : Open False w k) :
    Calls Tryz.prog 155 #[.agg #[], .pointer (some ⟨k, o, none⟩)] w (LaidPost eO False eS k o [.bool false] () w) := by
  obtain ⟨f0, hp⟩ := er_one (v := .bool false) hs hop
  have c0 : w.cell? ⟨k, o, none⟩ = some u := hs.head
  have hk := hs.lt
  have HP := hide hp
  clear hp
  go_enter Tryz.func155, Tryz.ntmps155
  go_wp2_with fail
  go_end0
  exact HP.out

set_option maxHeartbeats 400000 in
theorem er_text (w : World) (k o : Nat) (u : Value) (hs : Sit w k o [u]) (hop : Open False w k) :
    Calls Tryz.prog 158 #[.agg #[], .pointer (some ⟨k, o, none⟩)] w (LaidPost eO False eS k o [.string ⟨#[]⟩] () w) := by
  obtain ⟨f0, hp⟩ := er_one (v := .string ⟨#[]⟩) hs hop
  have c0 : w.cell? ⟨k, o, none⟩ = some u := hs.head
  have hk := hs.lt
  have HP := hide hp
  clear hp
  go_enter Tryz.func158, Tryz.ntmps158
  go_wp2_with fail
  go_end0
  exact HP.out

set_option maxHeartbeats 400000 in
theorem er_size (w : World) (n m : Nat) : Calls Tryz.prog 157 #[.agg #[], .int .i64 n, .int .i64 m] w (SizedPost eO False eS 0 () w) := by
  have HP := hide (show SizedPost eO False eS 0 () w (.returned (.int .i64 0)) (w.alloc (.cells #[] 87)) from ⟨rfl, trivial, Hr.of_gr ((Gr.refl w).alloc _) fun _ => Iff.rfl⟩)
  go_enter Tryz.func157, Tryz.ntmps157
  go_wp2_with fail
  go_ret
  exact HP.out

set_option maxHeartbeats 400000 in
theorem er_txn (w : World) (k o : Nat) (t : TxT) (p : Value × Value) (X : Nat → Prop) (hs : Sit w k o (txC t p)) (hop : Open False w k) :
    Calls Tryz.prog 159 #[.agg #[], .pointer (some ⟨k, o, none⟩)] w (TxnLaid eO False eS k o X noTxn () w) := by
  obtain ⟨ty, cs, hb⟩ := hop.resolve_left id
  have hsz := hs.size hb (by simp [txC])
  have c0 := hs.head
  have c1 := hs.tail.head
  have c2 := hs.tail.tail.head
  have c3 := hs.tail.tail.tail.head
  have f0 : w.frozen? ⟨k, o, none⟩ = false := hb.frozen o
  have f1 : w.frozen? ⟨k, o + 1, none⟩ = false := hb.frozen _
  have f2 : w.frozen? ⟨k, o + 2, none⟩ = false := hb.frozen _
  have f3 : w.frozen? ⟨k, o + 3, none⟩ = false := hb.frozen _
  have hk := hb.lt
  have hw := Wr.set4 (O := eO) (rd := False) (o := o) (a := .int .i64 0) (b := .int .i64 0) (c := .slice none 0 0) (d := .slice none 0 0) hb (by simpa [txC] using hsz) id (fun _ _ _ _ _ => Iff.rfl)
  have hg := (Gr.refl ((((w.setCell ⟨k, o, none⟩ (.int .i64 0)).setCell ⟨k, o + 1, none⟩ (.int .i64 0)).setCell ⟨k, o + 2, none⟩ (.slice none 0 0)).setCell ⟨k, o + 3, none⟩ (.slice none 0 0))).alloc (.cells #[] 87)
  obtain ⟨_, hb4, _⟩ := hw.bl _ _ hb
  have HP := hide (show TxnLaid eO False eS k o X noTxn () w (.returned (.tuple #[])) (((((w.setCell ⟨k, o, none⟩ (.int .i64 0)).setCell ⟨k, o + 1, none⟩ (.int .i64 0)).setCell ⟨k, o + 2, none⟩ (.slice none 0 0)).setCell ⟨k, o + 3, none⟩ (.slice none 0 0)).alloc (.cells #[] 87)) from
    ⟨rfl, trivial, (.slice none 0 0, .slice none 0 0), hw.of_hr (Hr.of_gr hg fun _ => Iff.rfl) (Bl.lt hb4) id, RowsX.none_ _ _⟩)
  clear hw hg hb4 hb hsz hop hs
  go_enter Tryz.func159, Tryz.ntmps159
  go_wp2_with fail
  go_end0
  exact HP.out

theorem eraser_hand : HandOk Tryz.prog MsgMath.eraser False eV eS eO (fun _ => 0) where
  lt _ h := h.elim
  gr _ _ := ⟨trivial, fun _ => Iff.rfl⟩
  but _ _ _ := ⟨trivial, fun _ => Iff.rfl⟩
  num := ⟨156, .agg #[], eDisp _ _ (fun w => by kernel_rfl) (fun args w => by kernel_rfl), fun _ w k o _ _ _ _ hs hop _ => er_number w k o _ hs hop⟩
  flag := ⟨155, .agg #[], eDisp _ _ (fun w => by kernel_rfl) (fun args w => by kernel_rfl), fun _ w k o _ _ _ _ hs hop => er_flag w k o _ hs hop⟩
  text := ⟨158, .agg #[], eDisp _ _ (fun w => by kernel_rfl) (fun args w => by kernel_rfl), fun _ w k o _ _ _ _ hs hop _ => er_text w k o _ hs hop⟩
  txn := ⟨159, .agg #[], eDisp _ _ (fun w => by kernel_rfl) (fun args w => by kernel_rfl), fun _ w k o t p X _ _ _ hs _ _ hop _ => er_txn w k o t p X hs hop⟩
  size := ⟨157, .agg #[], eDisp _ _ (fun w => by kernel_rfl) (fun args w => by kernel_rfl), fun _ w n m _ _ _ _ => er_size w n m⟩
  rdNum h := h.elim
  rdFlag h := h.elim
  rdText h := h.elim
  rdTxn h := h.elim
  rdSize h := h.elim
  i64 _ _ _ := (show I64 0 from ⟨by decide, by decide⟩)
  short _ _ _ := Nat.zero_le _
  lim _ _ _ := noTxn_lim
  few _ _ _ := .inl (Nat.zero_le _)
  wNum _ _ := by omega
  wFlag _ _ := by omega
  wText _ _ := by omega
  wTxn _ _ := by omega
  wSize _ _ _ := by omega

end Go.Proofs.YtpabppoohobjpaaGreat

/-
  msg's writer is a hand: number, text, txn.
-/
namespace Go.Proofs.YtpabppoohobjpaaGreat
open Go Go.RowKit TxnMath KeyMath MsgMath
set_option maxRecDepth 100000

namespace Mine
open Go.Proofs.YtpabppoohobjpaaGreat.Grow (lis lis_set_ne lis_set_self growB growB_spec)
section
variable {P : Program} {ops : Array Oper} {w0 : World} {n0 : Nat} {Q : (Tmp → Known) → Tmp → Known → Prop} {o : Oper} {rest : List Oper} {K : Tmp → Known} {Φ : Known} {c : Tmp} {C : Known}
/-- a pointer to these cells, which lie elsewhere -/
abbrev Cs (k i : Nat) (l : List Value) : Known := fun v w ob => v = .pointer (some ⟨k, i, none⟩) ∧ Sit w k i l ∧ some k ≠ ob ∧ k < w.heap.size
theorem Cs.stays (k i : Nat) (l : List Value) : Stays (Cs k i l) := fun _ w ob w' ob' ⟨h1, h2, h3, h4⟩ _ hr => ⟨h1, h2.of_block (hr.gb.block k h4 h3), by
  rcases hr.at_ with e | ⟨m, e, hm⟩
  · rw [e]; exact h3
  · rw [e]; intro e2; injection e2 with e2; omega, Nat.lt_of_lt_of_le h4 hr.gb.size⟩
theorem nil_cs {x : Operand} {k i : Nat} {l : List Value} (ho : o.op = .nilCheck x) (hg : o.guard = none) (hd : o.dst ≠ some c) (hx : Kn K x (Cs k i l)) (h : wpMine P ops w0 n0 Q rest (upd K o.dst (Cs k i l)) c C) : wpMine P ops w0 n0 Q (o :: rest) K c C := by
  refine step hg hd (Cs.stays k i l) (fun a w ob _ hl => ?_) h
  obtain ⟨h1, h2⟩ : Cs k i l (a.eval x) w ob := looks_op (Ψ := Cs k i l) (by simp [ho, Op.operands]) hx hl
  unfold does execOp
  simp only [ho, h1]
  exact ⟨Gr.refl w, rfl, h2⟩
theorem load_cs {t : TypeId} {x : Operand} {k i : Nat} {u : Value} {l : List Value} (ho : o.op = .load t x) (hg : o.guard = none) (hd : o.dst ≠ some c) (ha : ∀ w, (isAgg t).run P w = .ok false w) (hx : Kn K x (Cs k i (u :: l))) (h : wpMine P ops w0 n0 Q rest (upd K o.dst (Is u)) c C) : wpMine P ops w0 n0 Q (o :: rest) K c C := by
  refine step hg hd (Is.stays u) (fun a w ob _ hl => ?_) h
  obtain ⟨h1, h2, _⟩ : Cs k i (u :: l) (a.eval x) w ob := looks_op (Ψ := Cs k i (u :: l)) (by simp [ho, Op.operands]) hx hl
  unfold does execOp
  have hr : (Instr.loadAt t (.pointer (some ⟨k, i, none⟩))).run P w = .ok u w := by simp [Instr.loadAt, Instr.sureAddr, loadVar, ha w, h2.head]
  simp only [ho, h1]
  rw [Sem.run_bind, hr]
  exact ⟨Gr.refl w, rfl⟩
end
end Mine

theorem agg_string : ∀ w, (isAgg 9).run Tryz.prog w = .ok false w := fun w => by kernel_rfl
/-- the writer in block g -/
def mwS (g : Nat) (l : List UInt8) (w : World) : Prop := ∃ v, Bl w g 60 #[v] ∧ Own w (g + 1) v l
def mwO (g : Nat) (w : World) (j : Nat) : Prop := j = g ∨ ∃ v, w.cell? ⟨g, 0, none⟩ = some v ∧ v.ownBlock = some j
abbrev mwV (g : Nat) : Value := .iface 63 (.pointer (some ⟨g, 0, none⟩))

theorem mwO_iff {g : Nat} {w : World} {v : Value} (h : Bl w g 60 #[v]) (j : Nat) : mwO g w j ↔ j = g ∨ v.ownBlock = some j := by
  unfold mwO
  have hc : w.cell? ⟨g, 0, none⟩ = some v := h.cell 0
  constructor
  · rintro (h | ⟨u, h1, h2⟩)
    · exact .inl h
    · rw [hc] at h1
      injection h1 with h1
      subst h1
      exact .inr h2
  · rintro (h | h)
    · exact .inl h
    · exact .inr ⟨v, hc, h⟩
theorem mw_lt {g : Nat} {l : List UInt8} {w : World} {j : Nat} (h : mwS g l w) (ho : mwO g w j) : j < w.heap.size := by
  obtain ⟨v, h1, h2⟩ := h
  rcases (mwO_iff h1 j).1 ho with rfl | h
  · exact h1.lt
  · exact (World.ownsRow.lt h2 j h).2
theorem mw_gr {g : Nat} {l : List UInt8} {w w' : World} (h : mwS g l w) (hg : Gr w w') : mwS g l w' ∧ ∀ j, mwO g w' j ↔ mwO g w j := by
  obtain ⟨v, h1, h2⟩ := h
  exact ⟨⟨v, h1.gr hg, h2.gr hg⟩, fun j => (mwO_iff (h1.gr hg) j).trans (mwO_iff h1 j).symm⟩
theorem mw_but {g : Nat} {l : List UInt8} {w w' : World} {k : Nat} (h : mwS g l w) (ho : ¬ mwO g w k) (hb : But w w' k) : mwS g l w' ∧ ∀ j, mwO g w' j ↔ mwO g w j := by
  obtain ⟨v, h1, h2⟩ := h
  have hk : g ≠ k := fun e => ho ((mwO_iff h1 k).2 (.inl e.symm))
  have hv : v.ownBlock ≠ some k := fun e => ho ((mwO_iff h1 k).2 (.inr e))
  have h3 : Bl w' g 60 #[v] := (hb.block g h1.lt (by simpa using hk)).trans h1
  exact ⟨⟨v, h3, World.ownsRow.kept h2 hb (.inr fun e2 => hv e2)⟩, fun j => (mwO_iff h3 j).trans (mwO_iff h1 j).symm⟩

/-- behind the append: the new row is stored -/
theorem mw_done {g k o : Nat} {w w1 : World} {v v' : Value} {l l' : List UInt8} {L : List Value} (h1 : Bl w g 60 #[v]) (h2 : Own w (g + 1) v l) (hrs : Mine.RS w v.ownBlock w1 v'.ownBlock) (hown : Own w1 (g + 1) v' l') (hs : Sit w k o L) (hk : k < w.heap.size) (hO : ¬ mwO g w k) :
    LaidPost (mwO g) True (mwS g) k o L l' w (.returned (.tuple #[])) (w1.setCell ⟨g, 0, none⟩ v') := by
  have hne : some g ≠ v.ownBlock := fun e => by have := (World.ownsRow.lt h2 g e.symm).1; omega
  have hb1 : Bl w1 g 60 #[v] := (hrs.gb.block g h1.lt hne).trans h1
  have hbut : But w1 (w1.setCell ⟨g, 0, none⟩ v') g := (But.refl w1 g).set 0 v'
  have hb2 : Bl (w1.setCell ⟨g, 0, none⟩ v') g 60 #[v'] := hb1.put 0 v'
  have hS : mwS g l' (w1.setCell ⟨g, 0, none⟩ v') := ⟨v', hb2, World.ownsRow.kept hown hbut (by
      cases hv : v'.ownBlock with
      | none => exact .inl rfl
      | some j => exact .inr fun e2 => by injection e2 with e2; have := (World.ownsRow.lt hown j hv).1; omega)⟩
  have hblock : ∀ j, j < w.heap.size → ¬ mwO g w j → (w1.setCell ⟨g, 0, none⟩ v').heap[j]? = w.heap[j]? := fun j hj ho => by
    have hj1 : j ≠ g := fun e => ho ((mwO_iff h1 j).2 (.inl e))
    have hj2 : some j ≠ v.ownBlock := fun e => ho ((mwO_iff h1 j).2 (.inr e.symm))
    rw [hbut.block j (Nat.lt_of_lt_of_le hj hrs.gb.size) (by simpa using hj1)]
    exact hrs.gb.block j hj hj2
  refine ⟨rfl, hS, Wr.same ⟨hrs.gb.os, hrs.gb.tape, hrs.gb.output, by simpa using hrs.gb.size, fun j hj ho _ => hblock j hj ho, fun j hj ho ho2 => ho ?_⟩ (hblock k hk hO) hs⟩
  rcases (mwO_iff hb2 j).1 ho2 with e | e
  · exact (mwO_iff h1 j).2 (.inl e)
  · rcases hrs.at_ with e2 | ⟨m, e2, hm⟩
    · exact (mwO_iff h1 j).2 (.inr (by rw [← e2]; exact e))
    · rw [e2] at e
      injection e with e
      omega

set_option maxHeartbeats 1000000 in
theorem mw_number (g : Nat) (l : List UInt8) (w : World) (k o : Nat) (z : Int) (hS : mwS g l w) (hw : l.length ≤ 500000000) (hO : ¬ mwO g w k) (hs : Sit w k o [.int .i64 z]) (hz : I64 z) :
    Calls Tryz.prog 113 #[.pointer (some ⟨g, 0, none⟩), .pointer (some ⟨k, o, none⟩)] w (LaidPost (mwO g) True (mwS g) k o [.int .i64 z] (l ++ putZ z) w) := by
  obtain ⟨i0, hi, hz0, hz1, hz2⟩ := info_parts info_u8
  have HP : Hid (∀ w : World, Calls Tryz.prog 117 #[.int .i64 z] w fun e w' => ∃ v, e = .returned v ∧ Own w' w.heap.size v (putZ z) ∧ Gr w w') := hide (Put_ok z hz.2)
  obtain ⟨v, h1, h2⟩ := hS
  have hlen : (putZ z).length ≤ 1000 := by have := putZ_len z; omega
  have hkl := hs.lt
  have hke : some k ≠ v.ownBlock := fun e => hO ((mwO_iff h1 k).2 (.inr e.symm))
  generalize putZ z = zz at HP hlen ⊢
  have hne : some g ≠ v.ownBlock := fun e => by have := (World.ownsRow.lt h2 g e.symm).1; omega
  have hgl := h1.lt
  have H1 := hide h1
  have H2 := hide h2
  have HS := hide hs
  have HD := hide (fun w1 v' (hrs : Mine.RS w v.ownBlock w1 v'.ownBlock) (hown : Own w1 (g + 1) v' (l ++ zz)) => mw_done h1 h2 hrs hown hs hkl hO)
  clear h1 h2 hs hO
  go_enter Tryz.func113, Tryz.ntmps113
  go_wp2_with fail
  refine Mine.wp_region_mine_tail 12 16 [4, 5, 6, 7, 8, 9, 10, 11, 12, 13, 14, 15] rfl (by kernel_rfl) (by kernel_rfl) (by kernel_rfl) (by kernel_rfl) (ob0 := v.ownBlock) (Mine.Ahead.more (Mine.Ahead.more (Mine.Ahead.none_ _ _ _) 0 (Mine.Bx.stays g 60 #[v]) ⟨rfl, H1.out.drewN 1, hne⟩) 1 (Mine.Cs.stays k o [.int .i64 z]) ⟨rfl, HS.out.gr ((Gr.refl _).drewN 1), hke, hkl⟩) 16 (C0 := Mine.RowOf 5 (g + 1) v l) (Mine.RowOf.keeps _ _ _ _) (fun k hk => (World.ownsRow.lt H2.out k hk).2) ⟨H2.out.gr ((Gr.refl _).drewN 1), rfl⟩ ?_
  refine Mine.move _ (.inl rfl) rfl (by decide) rfl (Mine.Bx.stays _ _ _) ?_
  refine Mine.move _ (.inl rfl) rfl (by decide) rfl (Mine.Bx.stays _ _ _) ?_
  refine Mine.nil rfl rfl (by decide) rfl ?_
  refine Mine.field (j := 0) rfl rfl (by decide) rfl (fun _ => rfl) rfl ?_
  refine Mine.chain_load rfl rfl rfl (by decide) agg_bytes rfl ?_
  refine Mine.move _ (.inl rfl) rfl (by decide) rfl (Mine.Cs.stays _ _ _) ?_
  refine Mine.nil_cs rfl rfl (by decide) rfl ?_
  refine Mine.load_cs rfl rfl (by decide) agg_int rfl ?_
  refine Mine.call_own rfl rfl (by decide) Tryz.func117 (by kernel_rfl) (by kernel_rfl) rfl HP.out ?_
  refine Mine.chain_app (l := l) (r := zz) rfl rfl rfl Tryz.underlying22 hi hz0 hz1 hz2 rfl (by omega) (by have : (w.drew).heap.size = w.heap.size := rfl; omega) ?_
  refine Mine.nil rfl rfl (by decide) rfl ?_
  refine Mine.field_is (j := 0) rfl rfl (by decide) rfl (fun _ => rfl) ?_
  intro a1 w1 ob hr hwf hsz hdf hun hk hat
  have h15 : a1.tmps.getD 15 undef = .pointer (some ⟨g, 0, none⟩) := hk 15
  obtain ⟨hown, hob⟩ := hat
  change Own w1 (g + 1) (a1.tmps.getD 13 undef) (l ++ zz) at hown
  obtain ⟨X, hX, hlay⟩ := Grow.lay_kept_by _ a1 16 _ hsz hdf hun
  rw [hX] at h15 hown hob
  clear hX hun hdf hsz hk hwf
  subst hlay
  simp only [List.range, List.range.loop, List.map_cons, List.map_nil, List.contains_cons, List.contains_nil, Nat.reduceBEq, Bool.or_false, Bool.or_true, cond_false, cond_true, Array.getD_eq_getD_getElem?, List.getElem?_toArray, List.getElem?_cons_zero, List.getElem?_cons_succ, Option.getD_some, h15, List.drop_succ_cons, List.drop_zero]
  generalize X 13 = row at hown hob ⊢
  subst hob
  replace hr := (Mine.RS.of_gr (o := v.ownBlock) (Gr.drew (Gr.refl w))).trans hr
  have hst := HD.out w1 row hr hown
  obtain ⟨A, c, rfl, _⟩ := hown.rd
  refine wpList_store_slice rfl 22 (.tmp 15) (.tmp 13) rfl rfl (fun w => by kernel_rfl) (g := g) (i := 0) rfl rfl (hr.gb.block g hgl hne |>.trans H1.out) (by simp) ?_
  have HST := hide hst
  clear hst hr hown hne hgl
  generalize w1.setCell ⟨g, 0, none⟩ (.slice A (l ++ zz).length c) = w2 at HST ⊢
  go_wp2_with fail
  go_end0
  exact HST.out

set_option maxHeartbeats 1000000 in
theorem mw_text (g : Nat) (l : List UInt8) (w : World) (k o : Nat) (z : ByteArray) (hS : mwS g l w) (hw : l.length ≤ 500000000) (hO : ¬ mwO g w k) (hs : Sit w k o [.string z]) (hz : z.size ≤ 1000000) :
    Calls Tryz.prog 115 #[.pointer (some ⟨g, 0, none⟩), .pointer (some ⟨k, o, none⟩)] w (LaidPost (mwO g) True (mwS g) k o [.string z] (l ++ txtOf z) w) := by
  obtain ⟨i0, hi, hz0, hz1, hz2⟩ := info_parts info_u8
  have HP : Hid (∀ w : World, Calls Tryz.prog 118 #[.string z] w fun e w' => ∃ v, e = .returned v ∧ Own w' w.heap.size v (txtOf z) ∧ Gr w w') := hide (PutText_ok z (by omega))
  obtain ⟨v, h1, h2⟩ := hS
  have hlen : (txtOf z).length ≤ 1000 := by have := txtOf_len z; omega
  have hkl := hs.lt
  have hke : some k ≠ v.ownBlock := fun e => hO ((mwO_iff h1 k).2 (.inr e.symm))
  generalize txtOf z = zz at HP hlen ⊢
  have hne : some g ≠ v.ownBlock := fun e => by have := (World.ownsRow.lt h2 g e.symm).1; omega
  have hgl := h1.lt
  have H1 := hide h1
  have H2 := hide h2
  have HS := hide hs
  have HD := hide (fun w1 v' (hrs : Mine.RS w v.ownBlock w1 v'.ownBlock) (hown : Own w1 (g + 1) v' (l ++ zz)) => mw_done h1 h2 hrs hown hs hkl hO)
  clear h1 h2 hs hO
  go_enter Tryz.func115, Tryz.ntmps115
  go_wp2_with fail
  refine Mine.wp_region_mine_tail 12 16 [4, 5, 6, 7, 8, 9, 10, 11, 12, 13, 14, 15] rfl (by kernel_rfl) (by kernel_rfl) (by kernel_rfl) (by kernel_rfl) (ob0 := v.ownBlock) (Mine.Ahead.more (Mine.Ahead.more (Mine.Ahead.none_ _ _ _) 0 (Mine.Bx.stays g 60 #[v]) ⟨rfl, H1.out.drewN 1, hne⟩) 1 (Mine.Cs.stays k o [.string z]) ⟨rfl, HS.out.gr ((Gr.refl _).drewN 1), hke, hkl⟩) 16 (C0 := Mine.RowOf 5 (g + 1) v l) (Mine.RowOf.keeps _ _ _ _) (fun k hk => (World.ownsRow.lt H2.out k hk).2) ⟨H2.out.gr ((Gr.refl _).drewN 1), rfl⟩ ?_
  refine Mine.move _ (.inl rfl) rfl (by decide) rfl (Mine.Bx.stays _ _ _) ?_
  refine Mine.move _ (.inl rfl) rfl (by decide) rfl (Mine.Bx.stays _ _ _) ?_
  refine Mine.nil rfl rfl (by decide) rfl ?_
  refine Mine.field (j := 0) rfl rfl (by decide) rfl (fun _ => rfl) rfl ?_
  refine Mine.chain_load rfl rfl rfl (by decide) agg_bytes rfl ?_
  refine Mine.move _ (.inl rfl) rfl (by decide) rfl (Mine.Cs.stays _ _ _) ?_
  refine Mine.nil_cs rfl rfl (by decide) rfl ?_
  refine Mine.load_cs rfl rfl (by decide) agg_string rfl ?_
  refine Mine.call_own rfl rfl (by decide) Tryz.func118 (by kernel_rfl) (by kernel_rfl) rfl HP.out ?_
  refine Mine.chain_app (l := l) (r := zz) rfl rfl rfl Tryz.underlying22 hi hz0 hz1 hz2 rfl (by omega) (by have : (w.drew).heap.size = w.heap.size := rfl; omega) ?_
  refine Mine.nil rfl rfl (by decide) rfl ?_
  refine Mine.field_is (j := 0) rfl rfl (by decide) rfl (fun _ => rfl) ?_
  intro a1 w1 ob hr hwf hsz hdf hun hk hat
  have h15 : a1.tmps.getD 15 undef = .pointer (some ⟨g, 0, none⟩) := hk 15
  obtain ⟨hown, hob⟩ := hat
  change Own w1 (g + 1) (a1.tmps.getD 13 undef) (l ++ zz) at hown
  obtain ⟨X, hX, hlay⟩ := Grow.lay_kept_by _ a1 16 _ hsz hdf hun
  rw [hX] at h15 hown hob
  clear hX hun hdf hsz hk hwf
  subst hlay
  simp only [List.range, List.range.loop, List.map_cons, List.map_nil, List.contains_cons, List.contains_nil, Nat.reduceBEq, Bool.or_false, Bool.or_true, cond_false, cond_true, Array.getD_eq_getD_getElem?, List.getElem?_toArray, List.getElem?_cons_zero, List.getElem?_cons_succ, Option.getD_some, h15, List.drop_succ_cons, List.drop_zero]
  generalize X 13 = row at hown hob ⊢
  subst hob
  replace hr := (Mine.RS.of_gr (o := v.ownBlock) (Gr.drew (Gr.refl w))).trans hr
  have hst := HD.out w1 row hr hown
  obtain ⟨A, c, rfl, _⟩ := hown.rd
  refine wpList_store_slice rfl 22 (.tmp 15) (.tmp 13) rfl rfl (fun w => by kernel_rfl) (g := g) (i := 0) rfl rfl (hr.gb.block g hgl hne |>.trans H1.out) (by simp) ?_
  have HST := hide hst
  clear hst hr hown hne hgl
  generalize w1.setCell ⟨g, 0, none⟩ (.slice A (l ++ zz).length c) = w2 at HST ⊢
  go_wp2_with fail
  go_end0
  exact HST.out

end Go.Proofs.YtpabppoohobjpaaGreat

/-
  msg's writer is a hand: txn, flag, size.
-/
namespace Go.Proofs.YtpabppoohobjpaaGreat
open Go Go.RowKit TxnMath KeyMath MsgMath NumPlain
set_option maxRecDepth 100000

namespace Mine
section
variable {P : Program} {ops : Array Oper} {w0 : World} {n0 : Nat} {Q : (Tmp → Known) → Tmp → Known → Prop} {o : Oper} {rest : List Oper} {K : Tmp → Known} {Φ : Known} {c : Tmp} {C : Known}
/-- a transaction whose rows lie elsewhere -/
abbrev Tx (t : TxT) (p : Value × Value) : Known := fun v w ob => v = .agg (txC t p).toArray ∧ RowsX (fun j => some j ≠ ob ∧ j < w.heap.size) w t p
theorem Tx.stays (t : TxT) (p : Value × Value) : Stays (Tx t p) := fun _ w ob w' ob' ⟨h1, h2⟩ _ hr => ⟨h1, h2.move fun j hj hx => ⟨hr.gb.block j hj hx.1, by
  rcases hr.at_ with e | ⟨m, e, hm⟩
  · rw [e]; exact hx.1
  · rw [e]; intro e2; injection e2 with e2; omega, Nat.lt_of_lt_of_le hj hr.gb.size⟩⟩
/-- a pointer to a transaction whose rows lie elsewhere -/
abbrev Px (k i : Nat) (t : TxT) (p : Value × Value) : Known := fun v w ob => Cs k i (txC t p) v w ob ∧ RowsX (fun j => some j ≠ ob ∧ j < w.heap.size) w t p
theorem Px.stays (k i : Nat) (t : TxT) (p : Value × Value) : Stays (Px k i t p) := fun v w ob w' ob' ⟨h1, h2⟩ hwf hr => ⟨Cs.stays _ _ _ v w ob w' ob' h1 hwf hr, (Tx.stays t p _ w ob w' ob' ⟨rfl, h2⟩ hwf hr).2⟩
theorem nil_px {x : Operand} {k i : Nat} {t : TxT} {p : Value × Value} (ho : o.op = .nilCheck x) (hg : o.guard = none) (hd : o.dst ≠ some c) (hx : Kn K x (Px k i t p)) (h : wpMine P ops w0 n0 Q rest (upd K o.dst (Px k i t p)) c C) : wpMine P ops w0 n0 Q (o :: rest) K c C := by
  refine step hg hd (Px.stays k i t p) (fun a w ob _ hl => ?_) h
  obtain ⟨⟨h1, h2⟩, h3⟩ : Px k i t p (a.eval x) w ob := looks_op (Ψ := Px k i t p) (by simp [ho, Op.operands]) hx hl
  unfold does execOp
  simp only [ho, h1]
  exact ⟨Gr.refl w, ⟨rfl, h2⟩, h3⟩
theorem load_px {ty : TypeId} {x : Operand} {k i : Nat} {t : TxT} {p : Value × Value} (ho : o.op = .load ty x) (hg : o.guard = none) (hd : o.dst ≠ some c) (ha : ∀ w, (isAgg ty).run P w = .ok true w) (hs : ∀ w, (sizeOf ty).run P w = .ok 4 w) (hx : Kn K x (Px k i t p)) (h : wpMine P ops w0 n0 Q rest (upd K o.dst (Tx t p)) c C) : wpMine P ops w0 n0 Q (o :: rest) K c C := by
  refine step hg hd (Tx.stays t p) (fun a w ob _ hl => ?_) h
  obtain ⟨⟨h1, h2, _⟩, h3⟩ : Px k i t p (a.eval x) w ob := looks_op (Ψ := Px k i t p) (by simp [ho, Op.operands]) hx hl
  have hc : (loadCells ⟨k, i, none⟩ 4).run P w = .ok (txC t p).toArray w := run_loadCells_list (P := P) w ⟨k, i, none⟩ (txC t p) (fun j v hj => by
    have e : (⟨k, i, none⟩ : Addr).add j = ⟨k, i + j, none⟩ := by
      unfold Addr.add
      split
      · rename_i h0; simp only [Addr.mk.injEq, and_true, true_and]; omega
      · rfl
    rw [e]
    exact h2 j v hj)
  have hr : (Instr.loadAt ty (.pointer (some ⟨k, i, none⟩))).run P w = .ok (.agg (txC t p).toArray) w := by
    simp only [Instr.loadAt, Instr.sureAddr, loadVar, Sem.run_bind, Sem.run_pure, Result.andThen_ok, ha w, if_true, hs w, hc]
  unfold does execOp
  simp only [ho, h1]
  rw [Sem.run_bind, hr]
  exact ⟨Gr.refl w, rfl, h3⟩
theorem call_tx {f : FuncId} {x : Operand} {ats : Array TypeId} {t : TxT} {p : Value × Value} {fn : Func} {e : TypeId} {r : List UInt8} (ho : o.op = .call { callee := .value (.func f), args := #[x], argTypes := ats }) (hg : o.guard = none) (hd : o.dst ≠ some c) (hf : P.funcs[f]? = some fn) (hn : (fn.name == "runtime.NumGoroutine") = false) (hb : fn.body.isNone = false)
    (hx : Kn K x (Tx t p)) (hc : ∀ w, RowsX Any w t p → Calls P f #[.agg (txC t p).toArray] w fun en w' => ∃ y, en = .returned y ∧ OwnE e w' w.heap.size y r ∧ Gr w w') (h : wpMine P ops w0 n0 Q rest (upd K o.dst (Sl r)) c C) : wpMine P ops w0 n0 Q (o :: rest) K c C := by
  refine step hg hd (Sl.stays r) (fun a w ob hwf hl => ?_) h
  obtain ⟨h1, h2⟩ : Tx t p (a.eval x) w ob := looks_op (Ψ := Tx t p) (by simp [ho, Op.operands, Call.operands]) hx hl
  obtain ⟨dst, op, ty, pos, after, guard⟩ := o
  simp only at ho
  subst ho
  unfold does
  rw [execOp_call_go, Grow.enters hf hn hb]
  refine ⟨Gr.refl w, ?_⟩
  simp only [List.map_toArray, List.map_cons, List.map_nil, h1]
  refine (hc w (h2.wide fun _ _ => trivial)).mono fun en w' ⟨y, he, ho, hgr⟩ => ?_
  have ho2 := ho
  obtain ⟨A, c2, rfl, hby⟩ := ho.by_
  refine ⟨_, he, hgr, A, c2, rfl, hby, fun hl ad hA e2 => ?_⟩
  subst hA
  have h3 := (World.ownsRow.lt ho2 ad.block rfl).1
  have h4 := hwf _ e2.symm
  omega
end
end Mine

theorem putTx_len (t : TxT) : (putTx t).length ≤ 10000 := by
  unfold putTx
  split
  · rename_i h
    obtain ⟨h1, h2, h3, h4, h5, h6, h7, h8, h9, h10⟩ := mayT_parts h
    have a1 := natOf_len t.ses
    have a2 := natOf_len t.seq
    have a3 := (putN_len t.reads.length).2
    have a4 := (putN_len t.writes.length).2
    have a5 := flat_len encR 541 encR_len t.reads
    have a6 := flat_len encW 531 encW_len t.writes
    have e : (encT t).length = (natOf t.ses).length + (natOf t.seq).length + (putN t.reads.length).length + (t.reads.flatMap encR).length + (putN t.writes.length).length + (t.writes.flatMap encW).length := by
      unfold encT
      simp only [List.length_append]
    omega
  · simp
theorem agg_txn : ∀ w, (isAgg 27).run Tryz.prog w = .ok true w := fun w => by kernel_rfl
theorem size_txn : ∀ w, (sizeOf 27).run Tryz.prog w = .ok 4 w := fun w => by kernel_rfl

set_option maxHeartbeats 1000000 in
theorem mw_txn (g : Nat) (l : List UInt8) (w : World) (k o : Nat) (z : TxT) (p : Value × Value) (hS : mwS g l w) (hw : l.length ≤ 500000000) (hO : ¬ mwO g w k) (hs : Sit w k o (txC z p)) (hR : RowsX (fun j => ¬ mwO g w j) w z p) (hz : TxLim 1000000 z) :
    Calls Tryz.prog 116 #[.pointer (some ⟨g, 0, none⟩), .pointer (some ⟨k, o, none⟩)] w (LaidPost (mwO g) True (mwS g) k o (txC z p) (l ++ putTx z) w) := by
  obtain ⟨i0, hi, hz0, hz1, hz2⟩ := info_parts info_u8
  have HP : Hid (∀ w : World, RowsX Any w z p → Calls Tryz.prog 119 #[.agg (txC z p).toArray] w fun e w' => ∃ v, e = .returned v ∧ Own w' w.heap.size v (putTx z) ∧ Gr w w') := hide (fun w h => TxPutOwn_ok _ z w h.txAt hz)
  obtain ⟨v, h1, h2⟩ := hS
  have hlen : (putTx z).length ≤ 10000 := putTx_len z
  have hkl := hs.lt
  have hke : some k ≠ v.ownBlock := fun e => hO ((mwO_iff h1 k).2 (.inr e.symm))
  generalize putTx z = zz at HP hlen ⊢
  have hne : some g ≠ v.ownBlock := fun e => by have := (World.ownsRow.lt h2 g e.symm).1; omega
  have hgl := h1.lt
  have H1 := hide h1
  have H2 := hide h2
  have HS := hide hs
  have HRR := hide (show RowsX (fun j => some j ≠ v.ownBlock ∧ j < (w.drewN 1).heap.size) (w.drewN 1) z p from hR.move fun j hj hx => ⟨rfl, fun e => hx ((mwO_iff h1 j).2 (.inr e.symm)), hj⟩)
  have HD := hide (fun w1 v' (hrs : Mine.RS w v.ownBlock w1 v'.ownBlock) (hown : Own w1 (g + 1) v' (l ++ zz)) => mw_done h1 h2 hrs hown hs hkl hO)
  clear h1 h2 hs hO hR
  go_enter Tryz.func116, Tryz.ntmps116
  go_wp2_with fail
  refine Mine.wp_region_mine_tail 12 16 [4, 5, 6, 7, 8, 9, 10, 11, 12, 13, 14, 15] rfl (by kernel_rfl) (by kernel_rfl) (by kernel_rfl) (by kernel_rfl) (ob0 := v.ownBlock) (Mine.Ahead.more (Mine.Ahead.more (Mine.Ahead.none_ _ _ _) 0 (Mine.Bx.stays g 60 #[v]) ⟨rfl, H1.out.drewN 1, hne⟩) 1 (Mine.Px.stays k o z p) ⟨⟨rfl, HS.out.gr ((Gr.refl _).drewN 1), hke, hkl⟩, HRR.out⟩) 16 (C0 := Mine.RowOf 5 (g + 1) v l) (Mine.RowOf.keeps _ _ _ _) (fun k hk => (World.ownsRow.lt H2.out k hk).2) ⟨H2.out.gr ((Gr.refl _).drewN 1), rfl⟩ ?_
  refine Mine.move _ (.inl rfl) rfl (by decide) rfl (Mine.Bx.stays _ _ _) ?_
  refine Mine.move _ (.inl rfl) rfl (by decide) rfl (Mine.Bx.stays _ _ _) ?_
  refine Mine.nil rfl rfl (by decide) rfl ?_
  refine Mine.field (j := 0) rfl rfl (by decide) rfl (fun _ => rfl) rfl ?_
  refine Mine.chain_load rfl rfl rfl (by decide) agg_bytes rfl ?_
  refine Mine.move _ (.inl rfl) rfl (by decide) rfl (Mine.Px.stays _ _ _ _) ?_
  refine Mine.nil_px rfl rfl (by decide) rfl ?_
  refine Mine.load_px rfl rfl (by decide) agg_txn size_txn rfl ?_
  refine Mine.call_tx rfl rfl (by decide) Tryz.func119 (by kernel_rfl) (by kernel_rfl) rfl HP.out ?_
  refine Mine.chain_app (l := l) (r := zz) rfl rfl rfl Tryz.underlying22 hi hz0 hz1 hz2 rfl (by omega) (by have : (w.drew).heap.size = w.heap.size := rfl; omega) ?_
  refine Mine.nil rfl rfl (by decide) rfl ?_
  refine Mine.field_is (j := 0) rfl rfl (by decide) rfl (fun _ => rfl) ?_
  intro a1 w1 ob hr hwf hsz hdf hun hk hat
  have h15 : a1.tmps.getD 15 undef = .pointer (some ⟨g, 0, none⟩) := hk 15
  obtain ⟨hown, hob⟩ := hat
  change Own w1 (g + 1) (a1.tmps.getD 13 undef) (l ++ zz) at hown
  obtain ⟨X, hX, hlay⟩ := Grow.lay_kept_by _ a1 16 _ hsz hdf hun
  rw [hX] at h15 hown hob
  clear hX hun hdf hsz hk hwf
  subst hlay
  simp only [List.range, List.range.loop, List.map_cons, List.map_nil, List.contains_cons, List.contains_nil, Nat.reduceBEq, Bool.or_false, Bool.or_true, cond_false, cond_true, Array.getD_eq_getD_getElem?, List.getElem?_toArray, List.getElem?_cons_zero, List.getElem?_cons_succ, Option.getD_some, h15, List.drop_succ_cons, List.drop_zero]
  generalize X 13 = row at hown hob ⊢
  subst hob
  replace hr := (Mine.RS.of_gr (o := v.ownBlock) (Gr.drew (Gr.refl w))).trans hr
  have hst := HD.out w1 row hr hown
  obtain ⟨A, c, rfl, _⟩ := hown.rd
  refine wpList_store_slice rfl 22 (.tmp 15) (.tmp 13) rfl rfl (fun w => by kernel_rfl) (g := g) (i := 0) rfl rfl (hr.gb.block g hgl hne |>.trans H1.out) (by simp) ?_
  have HST := hide hst
  clear hst hr hown hne hgl
  generalize w1.setCell ⟨g, 0, none⟩ (.slice A (l ++ zz).length c) = w2 at HST ⊢
  go_wp2_with fail
  go_end0
  exact HST.out

set_option maxHeartbeats 400000 in
theorem mw_size (g : Nat) (l : List UInt8) (w : World) (n m : Nat) (hS : mwS g l w) (hw : l.length ≤ 500000000) (hn : n ≤ 1000000) :
    Calls Tryz.prog 114 #[.pointer (some ⟨g, 0, none⟩), .int .i64 n, .int .i64 m] w (SizedPost (mwO g) True (mwS g) n (l ++ putZ n) w) := by
  obtain ⟨W, hW⟩ : ∃ W, w.alloc (.cells #[.int .i64 n] 3) = W := ⟨_, rfl⟩
  have hg : Gr w W := by rw [← hW]; exact (Gr.refl _).alloc _
  have hbx : Bl W w.heap.size 3 #[.int .i64 n] := by rw [← hW]; exact Bl.new _ _ _
  obtain ⟨hS1, ho1⟩ := mw_gr hS hg
  have hOb : ¬ mwO g W w.heap.size := fun h => by have := mw_lt hS ((ho1 _).1 h); omega
  have C1 := hide (mw_number g l W w.heap.size 0 n hS1 hw hOb (Sit.bl hbx) ⟨by omega, by omega⟩)
  have HR := hide (Hr.of_gr (O := mwO g) (rd := True) (C := fun _ => False) hg ho1)
  have HW := hide hW
  clear hS hS1 ho1 hOb hbx hg hW
  go_enter Tryz.func114, Tryz.ntmps114
  go_wp2_with fail
  rw [HW.out]
  refine C1.out.mono ?_
  rintro e w1 ⟨rfl, hS1, hW1⟩
  have c1 : w1.cell? ⟨w.heap.size, 0, none⟩ = some (.int .i64 n) := hW1.at_.head
  have HP := hide (show SizedPost (mwO g) True (mwS g) n (l ++ putZ n) w (.returned (.int .i64 n)) w1 from ⟨rfl, hS1, HR.out.after hW1.hr (fun j hj h => by omega)⟩)
  clear hS1 hW1 C1
  go_wp2_with fail
  go_ret
  exact HP.out

set_option maxHeartbeats 400000 in
theorem mw_flag (g : Nat) (l : List UInt8) (w : World) (k o : Nat) (z : Bool) (hS : mwS g l w) (hw : l.length ≤ 500000000) (hO : ¬ mwO g w k) (hs : Sit w k o [.bool z]) :
    Calls Tryz.prog 112 #[.pointer (some ⟨g, 0, none⟩), .pointer (some ⟨k, o, none⟩)] w (LaidPost (mwO g) True (mwS g) k o [.bool z] (l ++ putZ (if z then 1 else 0)) w) := by
  have c0 : w.cell? ⟨k, o, none⟩ = some (.bool z) := hs.head
  have hk := hs.lt
  cases z
  · obtain ⟨W, hW⟩ : ∃ W, w.alloc (.cells #[.int .i64 0] 3) = W := ⟨_, rfl⟩
    have hg : Gr w W := by rw [← hW]; exact (Gr.refl _).alloc _
    have hbx : Bl W w.heap.size 3 #[.int .i64 0] := by rw [← hW]; exact Bl.new _ _ _
    obtain ⟨hS1, ho1⟩ := mw_gr hS hg
    have hOb : ¬ mwO g W w.heap.size := fun h => by have := mw_lt hS ((ho1 _).1 h); omega
    have C1 := hide (mw_number g l W w.heap.size 0 0 hS1 hw hOb (Sit.bl hbx) ⟨by decide, by decide⟩)
    have HR := hide (Hr.of_gr (O := mwO g) (rd := True) (C := (· = k)) hg ho1)
    have HS := hide hs
    have HO := hide hO
    have HW := hide hW
    clear hS hS1 ho1 hOb hbx hg hW hs hO
    go_enter Tryz.func112, Tryz.ntmps112
    go_wp2_with fail
    rw [HW.out]
    refine C1.out.mono ?_
    rintro e w1 ⟨rfl, hS1, hW1⟩
    have HP := hide (show LaidPost (mwO g) True (mwS g) k o [.bool false] (l ++ putZ (if false then 1 else 0)) w (.returned (.tuple #[])) w1 from by
      have hr := HR.out.after hW1.hr (C := (· = k)) (fun j hj h => by omega)
      exact ⟨rfl, hS1, Wr.same hr (hr.block k hk HO.out (.inl trivial)) HS.out⟩)
    clear hS1 hW1 C1
    go_wp2_with fail
    go_end0
    exact HP.out
  · obtain ⟨W, hW⟩ : ∃ W, w.alloc (.cells #[.int .i64 1] 3) = W := ⟨_, rfl⟩
    have hg : Gr w W := by rw [← hW]; exact (Gr.refl _).alloc _
    have hbx : Bl W w.heap.size 3 #[.int .i64 1] := by rw [← hW]; exact Bl.new _ _ _
    obtain ⟨hS1, ho1⟩ := mw_gr hS hg
    have hOb : ¬ mwO g W w.heap.size := fun h => by have := mw_lt hS ((ho1 _).1 h); omega
    have C1 := hide (mw_number g l W w.heap.size 0 1 hS1 hw hOb (Sit.bl hbx) ⟨by decide, by decide⟩)
    have HR := hide (Hr.of_gr (O := mwO g) (rd := True) (C := (· = k)) hg ho1)
    have HS := hide hs
    have HO := hide hO
    have HW := hide hW
    clear hS hS1 ho1 hOb hbx hg hW hs hO
    go_enter Tryz.func112, Tryz.ntmps112
    go_wp2_with fail
    rw [HW.out]
    refine C1.out.mono ?_
    rintro e w1 ⟨rfl, hS1, hW1⟩
    have HP := hide (show LaidPost (mwO g) True (mwS g) k o [.bool true] (l ++ putZ (if true then 1 else 0)) w (.returned (.tuple #[])) w1 from by
      have hr := HR.out.after hW1.hr (C := (· = k)) (fun j hj h => by omega)
      exact ⟨rfl, hS1, Wr.same hr (hr.block k hk HO.out (.inl trivial)) HS.out⟩)
    clear hS1 hW1 C1
    go_wp2_with fail
    go_end0
    exact HP.out

theorem mwDisp (g : Nat) (name : String) (f : FuncId) (h1 : ∀ w, (nilAhead (Tryz.prog.types.size + Made.depth) 63 (.pointer (some ⟨g, 0, none⟩)) name).run Tryz.prog w = .ok (some false) w) (h2 : ∀ args w, (callMethod (mwV g) name args).run Tryz.prog w = .ok (.enter f (#[.pointer (some ⟨g, 0, none⟩)] ++ args)) w) : Disp Tryz.prog (mwV g) name f (.pointer (some ⟨g, 0, none⟩)) := ⟨⟨_, _, rfl, h1⟩, h2⟩
theorem writer_hand (g : Nat) : HandOk Tryz.prog MsgMath.writer True (mwV g) (mwS g) (mwO g) List.length where
  lt := mw_lt
  gr := mw_gr
  but := mw_but
  num := ⟨113, .pointer (some ⟨g, 0, none⟩), mwDisp g _ _ (fun w => by kernel_rfl) (fun args w => by kernel_rfl), fun s w k o z hS hw hO hs _ hz => mw_number g s w k o z hS hw hO hs hz⟩
  flag := ⟨112, .pointer (some ⟨g, 0, none⟩), mwDisp g _ _ (fun w => by kernel_rfl) (fun args w => by kernel_rfl), fun s w k o z hS hw hO hs _ => mw_flag g s w k o z hS hw hO hs⟩
  text := ⟨115, .pointer (some ⟨g, 0, none⟩), mwDisp g _ _ (fun w => by kernel_rfl) (fun args w => by kernel_rfl), fun s w k o z hS hw hO hs _ hz => mw_text g s w k o z hS hw hO hs hz⟩
  txn := ⟨116, .pointer (some ⟨g, 0, none⟩), mwDisp g _ _ (fun w => by kernel_rfl) (fun args w => by kernel_rfl), fun s w k o t p X hS hw hO hs hX hR _ hz =>
    (mw_txn g s w k o t p hS hw hO hs (hR.wide fun j hj => (hX j hj).1) hz).mono fun e w' ⟨h1, h2, h3⟩ => ⟨h1, h2, p, h3, hR.move (h3.hr.keeps fun j hj => ⟨(hX j hj).1, .inl trivial⟩)⟩⟩
  size := ⟨114, .pointer (some ⟨g, 0, none⟩), mwDisp g _ _ (fun w => by kernel_rfl) (fun args w => by kernel_rfl), fun s w n m hS hw hn _ => mw_size g s w n m hS hw hn⟩
  rdNum _ _ _ := rfl
  rdFlag _ _ _ := rfl
  rdText _ _ _ := rfl
  rdTxn _ _ _ := rfl
  rdSize _ _ _ _ := rfl
  i64 _ _ h := h
  short _ _ h := h
  lim _ _ h := h
  few _ _ _ := .inl (Nat.le_refl _)
  wNum s z := by show (s ++ putZ z).length ≤ _; have := putZ_len z; rw [List.length_append]; omega
  wFlag s z := by show (s ++ putZ (if z then 1 else 0)).length ≤ _; have := putZ_len (if z then 1 else 0); rw [List.length_append]; omega
  wText s z := by show (s ++ txtOf z).length ≤ _; have := txtOf_len z; rw [List.length_append]; omega
  wTxn s t := by show (s ++ putTx t).length ≤ _; have := putTx_len t; rw [List.length_append]; omega
  wSize s n m := by show (s ++ putZ n).length ≤ _; have := putZ_len n; rw [List.length_append]; omega

end Go.Proofs.YtpabppoohobjpaaGreat
