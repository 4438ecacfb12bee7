/-
  wal's Sync, wantsNext, begin and Append by their contracts.
-/
import Derived.Test.YtkcfieoflkhdpaaDoorWalObj
import Derived.Test.YtkcfieoflkhdpaaDoorFrPut
import Derived.Test.YtkcfieoflkhdpaaDoorFrameWords
namespace Go.Proofs.YtkcfieoflkhdpaaDoor.WalDo
open Go Go.RowKit MapS DiskMem DiskOps DiskApp WalMath WalName WalObj FrameMath
set_option maxRecDepth 100000

/-- how many bytes a file has -/
def lenOf (F : Fs) (s : List UInt8) : Nat := ((getE F s).map fun f => f.b.length).getD 0
def syncW (F : Fs) (b : UInt8) (n : Nat) : Int × Fs := if n = 0 then (0, F) else syncF F (pieceL b n)
def beginW (room : Nat) (F : Fs) (b : UInt8) (n : Nat) (l : List UInt8) : Int × Fs × Nat :=
  if n = 9999 then (3, F, n) else if (appendF room F (pname b (n + 1)) l).1 = 0 then (0, (syncW (appendF room F (pname b (n + 1)) l).2 b n).2, n + 1) else ((appendF room F (pname b (n + 1)) l).1, (appendF room F (pname b (n + 1)) l).2, n)
def wantB (F : Fs) (b : UInt8) (size n : Nat) : Bool := decide (n = 0) || decide (size ≤ lenOf F (pieceL b n))
def appendW (room : Nat) (F : Fs) (b : UInt8) (size n : Nat) (l : List UInt8) : Int × Fs × Nat :=
  if 60000 < l.length then (1, F, n) else if wantB F b size n = true then beginW room F b n (enc l) else ((appendF room F (pname b n) (enc l)).1, (appendF room F (pname b n) (enc l)).2, n)

/-- a wal on a disk, each in blocks of its own -/
structure WSt (lo : Nat) (S : Nat → Prop) (w : World) (d room : Nat) (F : Fs) (g : Nat) (b : UInt8) (size n : Nat) : Prop where
  use : Use lo S w d room F
  wal : WalAt w g d b size n
  gS : ¬ S g
  tab : TabW w
  tl : tabG < lo
  lo : lo ≤ g
theorem WSt.loS {lo : Nat} {S : Nat → Prop} {w : World} {d room : Nat} {F : Fs} {g : Nat} {b : UInt8} {size n : Nat} (h : WSt lo S w d room F g b size n) : lo ≤ w.heap.size := Nat.le_trans h.lo (Nat.le_of_lt (Bl.lt h.wal))
theorem WSt.tS {lo : Nat} {S : Nat → Prop} {w : World} {d room : Nat} {F : Fs} {g : Nat} {b : UInt8} {size n : Nat} (h : WSt lo S w d room F g b size n) : ¬ S tabG := fun e => by have := h.use.lo _ e; have := h.tl; omega
theorem WSt.gr {lo : Nat} {S : Nat → Prop} {w w' : World} {d room : Nat} {F : Fs} {g : Nat} {b : UInt8} {size n : Nat} (h : WSt lo S w d room F g b size n) (hg : Gr w w') : WSt lo S w' d room F g b size n := ⟨h.use.gr hg, h.wal.gr hg, h.gS, h.tab.gr hg, h.tl, h.lo⟩
/-- what a call has done -/
def WDone (lo : Nat) (S : Nat → Prop) (w : World) (d room : Nat) (g : Nat) (b : UInt8) (size : Nat) (x : Int × Fs × Nat) (e : Ending) (w' : World) : Prop :=
  e = .returned (.int .i64 x.1) ∧ WSt lo (ext S w w') w' d room x.2.1 g b size x.2.2 ∧ Only (fun i => S i ∨ i = g) w w'
theorem WSt.same {lo : Nat} {S : Nat → Prop} {w w' : World} {d room : Nat} {F : Fs} {g : Nat} {b : UInt8} {size n : Nat} (h : WSt lo S w d room F g b size n) (hg : Gr w w') (r : Int) : WDone lo S w d room g b size (r, F, n) (.returned (.int .i64 r)) w' :=
  ⟨rfl, ⟨⟨(h.use.gr hg).is.mono fun i hi => .inl hi, fun i hi => by
    have := h.loS
    rcases hi with hi | hi
    · exact h.use.lo i hi
    · omega, fun i hi => by
    rcases hi with hi | hi
    · exact (h.use.gr hg).hi i hi
    · exact hi.2⟩, h.wal.gr hg, fun e => by
    rcases e with e | e
    · exact h.gS e
    · have := Bl.lt h.wal; omega, h.tab.gr hg, h.tl, h.lo⟩, Only.gr hg _⟩
/-- the disk has done something -/
theorem WSt.did {lo : Nat} {S : Nat → Prop} {w w1 w' : World} {d room : Nat} {F F' : Fs} {g : Nat} {b : UInt8} {size n : Nat} {r : Int} {e : Ending} (h : WSt lo S w d room F g b size n) (hg : Gr w w1) (hd : Does S w1 d room r F' e w') : WDone lo S w d room g b size (r, F', n) e w' := by
  obtain ⟨h1, h2, h3⟩ := does_done h.use hg hd h.loS
  have hgl := Bl.lt h.wal
  refine ⟨h1, ⟨h2, h.wal.only h3 h.gS, fun e => ?_, h.tab.only h3 h.tS, h.tl, h.lo⟩, h3.mono fun i _ hi => .inl hi⟩
  rcases e with e | e
  · exact h.gS e
  · omega
theorem WDone.back {lo : Nat} {S : Nat → Prop} {w w1 w' : World} {d room g : Nat} {F : Fs} {b : UInt8} {size n : Nat} {x : Int × Fs × Nat} {e : Ending} (h0 : WSt lo S w d room F g b size n) (hg : Gr w w1) (h : WDone lo S w1 d room g b size x e w') : WDone lo S w d room g b size x e w' := by
  obtain ⟨h1, h2, h3⟩ := h
  have hgl := Bl.lt h0.wal
  have hs := hg.size
  refine ⟨h1, ⟨⟨h2.use.is.mono fun i hi => ?_, fun i hi => ?_, fun i hi => ?_⟩, h2.wal, fun e => ?_, h2.tab, h2.tl, h2.lo⟩, ?_⟩
  · rcases hi with hi | hi
    · exact .inl hi
    · exact .inr ⟨by omega, hi.2⟩
  · have := h0.loS
    rcases hi with hi | hi
    · exact h0.use.lo i hi
    · omega
  · rcases hi with hi | hi
    · exact h2.use.hi i (.inl hi)
    · exact hi.2
  · rcases e with e | e
    · exact h0.gS e
    · omega
  · exact (Only.gr hg _).trans h3 fun i hi e => e
theorem gr_of_rs {w w' : World} {o : Option Nat} (h : Mine.RS w none w' o) : Gr w w' := ⟨h.gb.os, h.gb.tape, h.gb.output, h.gb.size, fun k hk => h.gb.block k hk (by simp)⟩

section
open Grow
variable {P : Program} {ops : Array Oper} {w0 : World} {n0 : Nat} {Q : (Tmp → Known) → Prop} {o : Oper} {rest : List Oper} {K : Tmp → Known} {Φ Ψ : Known}
theorem grow_ext {x : Operand} {i : Nat} (ho : o.op = .extract x i) (hw : Wanted ops K n0 o true) (hx : Kn K x Φ) (hst : Stays Ψ) (hr : ∀ v w, Φ v w → ∃ u, (Instr.extract v i).run P w = .ok u w ∧ Ψ u w)
    (h : wpGrow P ops w0 n0 Q rest (upd K o.dst Ψ)) : wpGrow P ops w0 n0 Q (o :: rest) K := by
  refine grow_step hw (fun _ => hst) (fun a w _ _ hl => ?_) h
  have h1 : Φ (a.eval x) w := looks_op (by simp [ho, Op.operands]) hx hl
  obtain ⟨u, h2, h3⟩ := hr _ w h1
  unfold does execOp
  simp only [ho, Sem.run_bind, h2]
  exact ⟨Gr.refl w, h3⟩
end

/-- what Read hands back: a slice of that length, and whether there is one -/
abbrev RdK (L : Nat) : Grow.Known := fun v _ => ∃ A c ok, v = .tuple #[.slice A L c, .bool ok]
theorem RdK.stays (L : Nat) : Grow.Stays (RdK L) := fun _ _ _ h _ => h

section
variable {lo : Nat} {S : Nat → Prop} {w : World} {d room : Nat} {F : Fs} {g : Nat} {b : UInt8} {size n : Nat}

set_option maxHeartbeats 1000000 in
theorem sync_ok (hb : 97 ≤ b.toNat ∧ b.toNat ≤ 122) (hn : n ≤ 9999) (h : WSt lo S w d room F g b size n) :
    Calls Tryd.prog 8 #[.pointer (some ⟨g, 0, none⟩)] w (WDone lo S w d room g b size ((syncW F b n).1, (syncW F b n).2, n)) := by
  have c3 := Bl.cell h.wal 3
  simp only [walC, List.getElem?_toArray, List.getElem?_cons_zero, List.getElem?_cons_succ] at c3
  have HW := hide h
  have HB := hide hb
  clear h hb
  by_cases hz : n = 0
  · subst hz
    rw [show syncW F b 0 = (0, F) from rfl]
    go_enter Tryd.func8, Tryd.ntmps8
    go_wp2_with fail
    go_ret
    exact HW.out.same (Gr.refl w) 0
  have hs : Hid (syncW F b n = syncF F (pieceL b n)) := hide (by unfold syncW; rw [if_neg hz])
  have hz2 : ((n : Int) == 0) = false := by simpa using hz
  obtain ⟨x, hx⟩ : ∃ x, syncF F (pieceL b n) = x := ⟨_, rfl⟩
  rw [hs.out, hx]
  have HX := hide hx
  clear hx hs
  go_enter Tryd.func8, Tryd.ntmps8
  go_wp2_with fail
  refine Mine.wp_region_mine_tail 6 17 [10, 11, 12, 13, 14, 15, 16, 2] rfl (by kernel_rfl) (by kernel_rfl) (by kernel_rfl) (by kernel_rfl) (ob0 := none) (Mine.Ahead.more (Mine.Ahead.none_ _ _ _) 0 (Mine.Tb.stays (Mine.Bx.stays g 55 (walC d b size n))) ⟨⟨by rfl, Bl.drewN HW.out.wal 1, by intro e; cases e⟩, HW.out.tab.gr (Gr.drew (Gr.refl w)), by intro e; cases e⟩) 17 (C0 := Mine.top) Mine.top_keeps (fun k hk => nomatch hk) trivial ?_
  refine Mine.move _ (.inl rfl) rfl (by decide) rfl (Mine.Tb.stays (Mine.Bx.stays _ _ _)) ?_
  refine Mine.nilT rfl rfl (by decide) rfl ?_
  refine Mine.fieldT (j := 0) rfl rfl (by decide) rfl (fun _ => rfl) rfl ?_
  refine Mine.loadT rfl rfl (by decide) agg_disk rfl ?_
  refine Mine.move _ (.inl rfl) rfl (by decide) rfl (Mine.Tb.stays (Mine.Bx.stays _ _ _)) ?_
  refine Mine.callB (z := .string (pname b n)) rfl rfl (by decide) Tryd.func19 (by kernel_rfl) (by kernel_rfl) rfl (fun w1 hb1 ht1 => last_ok g d b HB.out size n (by omega) w1 hb1 ht1) ?_
  intro a1 w1 ob hr hwf hsz hdf hun hk hat
  have h13 : a1.tmps.getD 13 undef = ptr d := (hk 13).1
  have h15 : a1.tmps.getD 15 undef = .string (pname b n) := hk 15
  obtain ⟨X, hX, hlay⟩ := Grow.lay_kept_by _ a1 17 _ hsz hdf hun
  rw [hX] at h13 h15
  clear hX hun hdf hsz hk hwf hat
  subst hlay
  simp only [List.range, List.range.loop, List.map_cons, List.map_nil, List.contains_cons, List.contains_nil, Nat.reduceBEq, Bool.or_false, Bool.or_true, cond_false, cond_true, Array.getD_eq_getD_getElem?, List.getElem?_toArray, List.getElem?_cons_zero, List.getElem?_cons_succ, Option.getD_some, h13, h15, List.drop_succ_cons, List.drop_zero]
  have hg1 : Gr w w1 := (Gr.drew (Gr.refl w)).trans (gr_of_rs hr)
  clear hr h13 h15
  have HG := hide hg1
  clear hg1
  have HC : Hid (Calls Tryd.prog 18 #[.pointer (some ⟨d, 0, none⟩), .string (pname b n)] w1 (Does S w1 d room x.1 x.2)) := hide (by
    have := Sync_ok (s := pname b n) (HW.out.use.gr HG.out).is (by rw [pname_size]; unfold maxLen; omega)
    rw [pname_list, HX.out] at this
    exact this)
  unfold ptr
  go_wp2_with (go_at_call 18; refine HC.out.mono ?_; rintro e w2 ⟨rfl, ho2⟩; have HO := hide ho2; clear ho2)
  go_ret
  exact HW.out.did HG.out ⟨rfl, HO.out⟩

set_option maxHeartbeats 1000000 in
theorem wants_ok (hb : 97 ≤ b.toNat ∧ b.toNat ≤ 122) (hn : n ≤ 9999) (h : WSt lo S w d room F g b size n) :
    Calls Tryd.prog 23 #[.pointer (some ⟨g, 0, none⟩)] w fun e w' => e = .returned (.bool (wantB F b size n)) ∧ Gr w w' := by
  have c3 := Bl.cell h.wal 3
  simp only [walC, List.getElem?_toArray, List.getElem?_cons_zero, List.getElem?_cons_succ] at c3
  have HW := hide h
  have HB := hide hb
  clear h hb
  by_cases hz : n = 0
  · subst hz
    rw [show wantB F b size 0 = true from rfl]
    go_enter Tryd.func23, Tryd.ntmps23
    go_wp2_with fail
    go_ret
    exact ⟨rfl, Gr.refl w⟩
  have hz2 : ((n : Int) == 0) = false := by simpa using hz
  obtain ⟨L, hL⟩ : ∃ L, lenOf F (pieceL b n) = L := ⟨_, rfl⟩
  have hwb : Hid (wantB F b size n = decide (size ≤ L)) := hide (by unfold wantB; rw [hL, decide_eq_false hz, Bool.false_or])
  have HL := hide hL
  rw [hwb.out]
  clear hwb hL
  go_enter Tryd.func23, Tryd.ntmps23
  go_wp2_with fail
  refine Grow.wp_region_kept 27 [11, 12, 13, 14, 15, 16, 17, 10, 18, 19, 3, 4] rfl (by kernel_rfl) (by kernel_rfl) (by kernel_rfl) (Grow.Ahead.more (Grow.Ahead.none_ _ _) 0 (Grow.Bx.stays g 55 (walC d b size n)) ⟨rfl, Bl.drewN HW.out.wal 1⟩) ?_
  refine Grow.grow_mvx (.inl rfl) (.inl ⟨rfl, rfl⟩) rfl ?_
  refine Grow.grow_nil rfl (.inl ⟨rfl, rfl⟩) rfl ?_
  refine Grow.grow_field (j := 0) (Ψ := Grow.Is (ptr d)) rfl (.inl ⟨rfl, rfl⟩) rfl (fun _ => rfl) rfl (Grow.Is.stays _) (fun _ _ => rfl) ?_
  refine Grow.grow_load_k rfl agg_disk (.inl ⟨rfl, rfl⟩) rfl (Grow.Is.stays _) ?_
  refine Grow.grow_mvx (.inl rfl) (.inl ⟨rfl, rfl⟩) rfl ?_
  refine Grow.grow_call1 (Φ := Grow.Is (.string (pname b n))) rfl (.inl ⟨rfl, rfl⟩) Tryd.func19 (by kernel_rfl) (by kernel_rfl) (Ψ := Grow.Bx g 55 (walC d b size n)) rfl (Grow.Is.stays _) (fun v w' hg hv => by
    obtain ⟨rfl, hb1⟩ := hv
    exact (last_ok g d b HB.out size n hn w' hb1 (HW.out.tab.gr (((Gr.refl w).drewN 1).trans hg))).mono fun e w1 ⟨he, hg1⟩ => ⟨_, he, hg1, rfl⟩) ?_
  refine Grow.grow_call2 (Φ := RdK L) rfl (.inl ⟨rfl, rfl⟩) Tryd.func29 (by kernel_rfl) (by kernel_rfl) (Ψ := Grow.Is (ptr d)) (Ψ' := Grow.Is (.string (pname b n))) rfl rfl (RdK.stays L) (fun v u w' hg hv hu => by
    obtain rfl : v = _ := hv
    obtain rfl : u = _ := hu
    refine (Read_ok (s := pname b n) (HW.out.use.gr (((Gr.refl w).drewN 1).trans hg)).is (by rw [pname_size]; unfold maxLen; omega)).mono ?_
    rintro e w1 ⟨hg1, h2⟩
    rw [pname_list] at h2
    have hl := HL.out
    unfold lenOf at hl
    cases hf : getE F (pieceL b n) with
    | none =>
      rw [hf] at h2 hl
      exact ⟨_, h2, hg1, none, 0, false, by rw [← hl]; rfl⟩
    | some f =>
      rw [hf] at h2 hl
      obtain ⟨x, h3, h4⟩ := h2
      obtain ⟨A, c, rfl, _⟩ := h4.by_
      exact ⟨_, h3, hg1, A, c, true, by rw [← hl]; rfl⟩) ?_
  refine Grow.grow_move _ (.inl rfl) (.inl ⟨rfl, rfl⟩) rfl (RdK.stays L) ?_
  refine grow_ext (Ψ := fun v _ => ∃ A c, v = .slice A L c) rfl (.inl ⟨rfl, rfl⟩) rfl (fun _ _ _ h _ => h) (fun v w ⟨A, c, ok, e⟩ => ⟨_, by rw [e]; rfl, A, c, rfl⟩) ?_
  refine grow_ext (Ψ := fun v _ => ∃ ok, v = .bool ok) rfl (.inl ⟨rfl, rfl⟩) rfl (fun _ _ _ h _ => h) (fun v w ⟨A, c, ok, e⟩ => ⟨_, by rw [e]; rfl, ok, rfl⟩) ?_
  refine Grow.grow_move _ (.inr rfl) (.inl ⟨rfl, rfl⟩) rfl (fun _ _ _ h _ => h) ?_
  refine Grow.grow_move _ (.inr rfl) (.inl ⟨rfl, rfl⟩) rfl (fun _ _ _ h _ => h) ?_
  intro a1 w1 hg1 hs1 hd1 hu1 hk1
  obtain ⟨A, c, h3⟩ : ∃ A c, a1.tmps.getD 3 undef = .slice A L c := hk1 3
  obtain ⟨X, hX, hlay⟩ := Grow.lay_kept_by _ a1 27 _ hs1 hd1 hu1
  rw [hX] at h3
  clear hX hu1 hd1 hs1 hk1
  subst hlay
  simp only [List.range, List.range.loop, List.map_cons, List.map_nil, List.contains_cons, List.contains_nil, Nat.reduceBEq, Bool.or_false, Bool.or_true, cond_false, cond_true, Array.getD_eq_getD_getElem?, List.getElem?_toArray, List.getElem?_cons_zero, List.getElem?_cons_succ, Option.getD_some, h3]
  clear h3
  have hgw : Gr w w1 := ((Gr.refl w).drewN 1).trans hg1
  have c2 := Bl.cell (HW.out.wal.gr hgw) 2
  simp only [walC, List.getElem?_toArray, List.getElem?_cons_zero, List.getElem?_cons_succ] at c2
  have HG := hide hgw
  clear hgw hg1
  have hdec : ∀ (W : World), (binOp .geq 3 (.int .i64 (L : Int)) (.int .i64 (size : Int))).run Tryd.prog W = .ok (.bool (decide (size ≤ L))) W := fun W => by
    rw [binOp_geq]
    simp
  go_wp2_with fail
  go_ret
  exact ⟨rfl, HG.out⟩

theorem WDone.next {x y : Int × Fs × Nat} {e e' : Ending} {w2 w3 : World} (h0 : WSt lo S w d room F g b size n) (h1 : WDone lo S w d room g b size x e w2) (h2 : WDone lo (ext S w w2) w2 d room g b size y e' w3) : WDone lo S w d room g b size y e' w3 := by
  obtain ⟨_, s1, o1⟩ := h1
  obtain ⟨e2, s2, o2⟩ := h2
  have hgl := Bl.lt h0.wal
  have hs1 := o1.size
  have hs2 := o2.size
  have hsub : ∀ i, ext (ext S w w2) w2 w3 i → ext S w w3 i := fun i hi => by
    rcases hi with (hi | hi) | hi
    · exact .inl hi
    · exact .inr ⟨hi.1, by omega⟩
    · exact .inr ⟨by omega, hi.2⟩
  refine ⟨e2, ⟨⟨s2.use.is.mono hsub, fun i hi => ?_, fun i hi => ?_⟩, s2.wal, fun e => ?_, s2.tab, s2.tl, s2.lo⟩, o1.trans o2 fun i hi e => ?_⟩
  · have := h0.loS
    rcases hi with hi | hi
    · exact h0.use.lo i hi
    · omega
  · rcases hi with hi | hi
    · have := h0.use.hi i hi; omega
    · exact hi.2
  · rcases e with e | e
    · exact h0.gS e
    · omega
  · rcases e with (e | e) | e
    · exact .inl e
    · omega
    · exact .inr e
/-- a piece more is counted -/
theorem WSt.bump (h : WSt lo S w d room F g b size n) : WDone lo S w d room g b size (0, F, n + 1) (.returned (.int .i64 0)) (w.setCell ⟨g, 3, none⟩ (.int .i64 ((n : Int) + 1))) := by
  have ho : Only (onB g) w (w.setCell ⟨g, 3, none⟩ (.int .i64 ((n : Int) + 1))) := (Only.refl _ w).set1 _ _
  have hne : ∀ i, S i → ¬ onB g i := fun i hi e => h.gS (by rw [show g = i from e.symm]; exact hi)
  have hs := ho.size
  have hse : (w.setCell ⟨g, 3, none⟩ (.int .i64 ((n : Int) + 1))).heap.size = w.heap.size := by simp
  have hgl := Bl.lt h.wal
  have u := h.use.only ho hne
  refine ⟨rfl, ⟨⟨u.is.mono fun i hi => .inl hi, fun i hi => ?_, fun i hi => ?_⟩, Bl.put h.wal 3 _, fun e => ?_, h.tab.only ho (fun e => ?_), h.tl, h.lo⟩, ho.mono fun i _ e => .inr e⟩
  · rcases hi with hi | hi
    · exact h.use.lo i hi
    · omega
  · rcases hi with hi | hi
    · exact u.hi i hi
    · exact hi.2
  · rcases e with e | e
    · exact h.gS e
    · omega
  · have := h.tl
    have := h.lo
    rw [show tabG = g from e] at *
    omega

set_option maxHeartbeats 2000000 in
theorem begin_ok_ (hb : 97 ≤ b.toNat ∧ b.toNat ≤ 122) (hn : n ≤ 9999) (h : WSt lo S w d room F g b size n) (A : Option Addr) (m c : Nat) (l : List UInt8) (hm : m = l.length) (hl : By w A c l) (ha : Away S A l.length) (hcnt : F.length ≤ 1000000000) (hsz : usedF F + l.length ≤ 1000000000) :
    Calls Tryd.prog 24 #[.pointer (some ⟨g, 0, none⟩), .slice A m c] w (WDone lo S w d room g b size (beginW room F b n l)) := by
  subst hm
  have c3 := Bl.cell h.wal 3
  simp only [walC, List.getElem?_toArray, List.getElem?_cons_zero, List.getElem?_cons_succ] at c3
  have HW := hide h
  have HB := hide hb
  have HL := hide hl
  have HA := hide ha
  have HZ := hide hsz
  clear h hb hl ha hsz
  by_cases hz : n = 9999
  · subst hz
    rw [show beginW room F b 9999 l = (3, F, 9999) from rfl]
    go_enter Tryd.func24, Tryd.ntmps24
    go_wp2_with fail
    go_ret
    exact HW.out.same (Gr.refl w) 3
  have hz2 : ((n : Int) == 9999) = false := by simp; omega
  have hn2 : n + 1 ≤ 9999 := by omega
  obtain ⟨x, hx⟩ : ∃ x, appendF room F (pname b (n + 1)) l = x := ⟨_, rfl⟩
  have hs : Hid (beginW room F b n l = if x.1 = 0 then (0, (syncW x.2 b n).2, n + 1) else (x.1, x.2, n)) := hide (by unfold beginW; rw [if_neg hz, hx])
  obtain ⟨y, hy⟩ : ∃ y, beginW room F b n l = y := ⟨_, rfl⟩
  rw [hy]
  have HY : Hid (y = if x.1 = 0 then (0, (syncW x.2 b n).2, n + 1) else (x.1, x.2, n)) := hide (hy.symm.trans hs.out)
  clear hy
  have HX := hide hx
  have HN := hide hn
  have hadd : binOp .add 3 (.int .i64 (n : Int)) (.int .i64 1) = pure (.int .i64 ((n : Int) + 1)) := add_i64 _ _ _ (by omega) (by omega)
  clear hx hs hz
  go_enter Tryd.func24, Tryd.ntmps24
  go_wp2_with fail
  refine Mine.wp_region_mine_tail 15 39 [11, 12, 13, 14, 15, 16, 17, 18, 19, 20, 21, 22, 23, 24, 25, 26, 5] rfl (by kernel_rfl) (by kernel_rfl) (by kernel_rfl) (by kernel_rfl) (ob0 := none) (Mine.Ahead.more (Mine.Ahead.more (Mine.Ahead.none_ _ _ _) 0 (Mine.Tb.stays (Mine.Bx.stays g 55 (walC d b size n))) ⟨⟨by rfl, Bl.drewN HW.out.wal 1, by intro e; cases e⟩, HW.out.tab.gr (Gr.drew (Gr.refl w)), by intro e; cases e⟩) 1 (Mine.Is.stays (.slice A l.length c)) (by rfl)) 39 (C0 := Mine.top) Mine.top_keeps (fun k hk => nomatch hk) trivial ?_
  refine Mine.move _ (.inl rfl) rfl (by decide) rfl (Mine.Tb.stays (Mine.Bx.stays _ _ _)) ?_
  refine Mine.nilT rfl rfl (by decide) rfl ?_
  refine Mine.fieldT (j := 0) rfl rfl (by decide) rfl (fun _ => rfl) rfl ?_
  refine Mine.loadT rfl rfl (by decide) agg_disk rfl ?_
  refine Mine.move _ (.inl rfl) rfl (by decide) rfl (Mine.Tb.stays (Mine.Bx.stays _ _ _)) ?_
  refine Mine.nilT rfl rfl (by decide) rfl ?_
  refine Mine.fieldT (j := 1) rfl rfl (by decide) rfl (fun _ => rfl) rfl ?_
  refine Mine.loadT rfl rfl (by decide) agg_names rfl ?_
  refine Mine.move _ (.inl rfl) rfl (by decide) rfl (Mine.Tb.stays (Mine.Bx.stays _ _ _)) ?_
  refine Mine.nilT rfl rfl (by decide) rfl ?_
  refine Mine.fieldT (j := 3) rfl rfl (by decide) rfl (fun _ => rfl) rfl ?_
  refine Mine.loadT rfl rfl (by decide) agg_int2 rfl ?_
  refine Mine.binT rfl rfl (by decide) rfl hadd ?_
  refine Mine.call2T (z := .string (pname b (n + 1))) rfl rfl (by decide) Tryd.func28 (by kernel_rfl) (by kernel_rfl) rfl rfl (fun w1 ht1 => by
    have := piece_ok b HB.out (n + 1) hn2 w1 ht1
    push_cast at this
    exact this) ?_
  refine Mine.move _ (.inl rfl) rfl (by decide) rfl (Mine.Is.stays _) ?_
  intro a1 w1 ob hr hwf hsz hdf hun hk hat
  have h14 : a1.tmps.getD 14 undef = ptr d := (hk 14).1
  have h24 : a1.tmps.getD 24 undef = .string (pname b (n + 1)) := hk 24
  have h25 : a1.tmps.getD 25 undef = .slice A l.length c := hk 25
  obtain ⟨X, hX, hlay⟩ := Grow.lay_kept_by _ a1 39 _ hsz hdf hun
  rw [hX] at h14 h24 h25
  clear hX hun hdf hsz hk hwf hat
  subst hlay
  simp only [List.range, List.range.loop, List.map_cons, List.map_nil, List.contains_cons, List.contains_nil, Nat.reduceBEq, Bool.or_false, Bool.or_true, cond_false, cond_true, Array.getD_eq_getD_getElem?, List.getElem?_toArray, List.getElem?_cons_zero, List.getElem?_cons_succ, Option.getD_some, h14, h24, h25, List.drop_succ_cons, List.drop_zero]
  have hg1 : Gr w w1 := (Gr.drew (Gr.refl w)).trans (gr_of_rs hr)
  clear hr h14 h24 h25
  have HG := hide hg1
  clear hg1 hadd
  have HC : Hid (Calls Tryd.prog 25 #[.pointer (some ⟨d, 0, none⟩), .string (pname b (n + 1)), .slice A l.length c] w1 (Does S w1 d room x.1 x.2)) := hide (by
    have := Append_ok (s := pname b (n + 1)) (HW.out.use.gr HG.out).is (by rw [pname_size]; omega) A l.length c l rfl (HL.out.gr HG.out) HA.out hcnt HZ.out
    rw [HX.out] at this
    exact this)
  unfold ptr
  by_cases hx0 : x.1 = 0
  · have d0 : (x.1 != 0) = false := by simpa using hx0
    have H0 := hide hx0
    clear hx0
    go_wp2_with (go_at_call 25; refine HC.out.mono ?_; rintro e w2 ⟨rfl, ho2⟩; have HO := hide ho2; clear ho2)
    have D2 := hide (HW.out.did (F' := x.2) (r := x.1) HG.out ⟨rfl, HO.out⟩)
    have HC2 := hide (sync_ok HB.out HN.out D2.out.2.1)
    clear HC HO
    go_wp2_with (go_at_call 8; refine HC2.out.mono ?_; rintro e w3 hd3; have D3 := hide hd3; obtain rfl := hd3.1; have c4 := Bl.cell hd3.2.1.wal 3; have f4 := Bl.frozen hd3.2.1.wal 3; clear hd3; simp only [walC, List.getElem?_toArray, List.getElem?_cons_zero, List.getElem?_cons_succ] at c4)
    go_ret
    rw [HY.out, if_pos H0.out]
    exact WDone.next HW.out (WDone.next HW.out D2.out D3.out) (WDone.next HW.out D2.out D3.out).2.1.bump
  · have d0 : (x.1 != 0) = true := by simpa using hx0
    have H0 := hide hx0
    clear hx0
    go_wp2_with (go_at_call 25; refine HC.out.mono ?_; rintro e w2 ⟨rfl, ho2⟩; have HO := hide ho2; clear ho2)
    go_ret
    rw [HY.out, if_neg H0.out]
    exact HW.out.did (F' := x.2) HG.out ⟨rfl, HO.out⟩

set_option maxHeartbeats 2000000 in
theorem append_ok (hb : 97 ≤ b.toNat ∧ b.toNat ≤ 122) (hn : n ≤ 9999) (h : WSt lo S w d room F g b size n) (A : Option Addr) (m c : Nat) (l : List UInt8) (hm : m = l.length) (hl : By w A c l) (hmax : (l.length : Int) ≤ 140737488351232) (hcnt : F.length ≤ 1000000000) (hsz : usedF F ≤ 900000000) :
    Calls Tryd.prog 11 #[.pointer (some ⟨g, 0, none⟩), .slice A m c] w (WDone lo S w d room g b size (appendW room F b size n l)) := by
  subst hm
  have HW := hide h
  have HB := hide hb
  have HP := hide (Put_ok A l.length c l rfl w hl hmax)
  clear h hb hl
  by_cases hlong : 60000 < l.length
  · have hs : Hid (appendW room F b size n l = (1, F, n)) := hide (by unfold appendW; rw [if_pos hlong])
    have hp : Hid (putB l = false) := hide (by unfold putB; simp; omega)
    rw [hs.out]
    clear hs
    go_enter Tryd.func11, Tryd.ntmps11
    go_wp2_with (go_at_call 22; refine HP.out.mono ?_; rintro e w1 ⟨v, t, rfl, _, hg1⟩; have HG := hide hg1; clear hg1; rw [hp.out])
    go_ret
    exact HW.out.same HG.out 1
  · have hp : Hid (putB l = true ∧ putL l = enc l) := hide (by unfold putB putL; simp; omega)
    have hel : (enc l).length ≤ 60006 := by rw [enc_length]; omega
    obtain ⟨wb, hwb⟩ : ∃ wb, wantB F b size n = wb := ⟨_, rfl⟩
    have HWB := hide hwb
    cases wb with
    | true =>
      have hs : Hid (appendW room F b size n l = beginW room F b n (enc l)) := hide (by unfold appendW; rw [if_neg hlong, if_pos hwb])
      rw [hs.out]
      clear hs hwb
      go_enter Tryd.func11, Tryd.ntmps11
      go_wp2_with (go_at_call 22; refine HP.out.mono ?_; rintro e w1 ⟨v, t, rfl, ho1, hg1⟩; rw [hp.out.1]; rw [hp.out.2] at ho1; obtain ⟨A1, c1, rfl, hb1, hn1⟩ := OwnE.by_new ho1; clear ho1; have HG := hide hg1; have HL := hide hb1; have HA : Hid (Away S A1 (enc l).length) := hide (fun hl0 ad hA e => by have h1 := hn1 hl0 ad hA; have h2 := HW.out.use.hi _ e; omega); clear hg1 hb1 hn1)
      have W1 := hide (HW.out.gr HG.out)
      have HWN := hide (wants_ok HB.out hn W1.out)
      rw [HWB.out] at HWN
      clear HP hp
      go_wp2_with (go_at_call 23; refine HWN.out.mono ?_; rintro e w2 ⟨rfl, hg2⟩; have HG2 := hide hg2; clear hg2)
      have HC := hide (begin_ok_ HB.out hn (W1.out.gr HG2.out) A1 (enc l).length c1 (enc l) rfl (HL.out.gr HG2.out) HA.out hcnt (by omega))
      clear HWN
      go_wp2_with (go_at_call 24; refine HC.out.mono ?_; rintro e w3 hd; have HD := hide hd; obtain rfl := hd.1; clear hd)
      go_ret
      exact WDone.back HW.out (HG.out.trans HG2.out) HD.out
    | false =>
      have hs : Hid (appendW room F b size n l = ((appendF room F (pname b n) (enc l)).1, (appendF room F (pname b n) (enc l)).2, n)) := hide (by unfold appendW; rw [if_neg hlong, hwb]; rfl)
      rw [hs.out]
      obtain ⟨x, hx⟩ : ∃ x, appendF room F (pname b n) (enc l) = x := ⟨_, rfl⟩
      rw [hx]
      have HX := hide hx
      clear hs hwb hx
      go_enter Tryd.func11, Tryd.ntmps11
      go_wp2_with (go_at_call 22; refine HP.out.mono ?_; rintro e w1 ⟨v, t, rfl, ho1, hg1⟩; rw [hp.out.1]; rw [hp.out.2] at ho1; obtain ⟨A1, c1, rfl, hb1, hn1⟩ := OwnE.by_new ho1; clear ho1; have HG := hide hg1; have HL := hide hb1; have HA : Hid (Away S A1 (enc l).length) := hide (fun hl0 ad hA e => by have h1 := hn1 hl0 ad hA; have h2 := HW.out.use.hi _ e; omega); clear hg1 hb1 hn1)
      have W1 := hide (HW.out.gr HG.out)
      have HWN := hide (wants_ok HB.out hn W1.out)
      rw [HWB.out] at HWN
      clear HP hp
      go_wp2_with (go_at_call 23; refine HWN.out.mono ?_; rintro e w2 ⟨rfl, hg2⟩; have HG2 := hide hg2; clear hg2)
      clear HWN
      have W2 := hide (W1.out.gr HG2.out)
      refine Mine.wp_region_mine_tail 7 29 [21, 22, 23, 24, 25, 26, 27, 28, 4] rfl (by kernel_rfl) (by kernel_rfl) (by kernel_rfl) (by kernel_rfl) (ob0 := none) (Mine.Ahead.more (Mine.Ahead.more (Mine.Ahead.none_ _ _ _) 0 (Mine.Tb.stays (Mine.Bx.stays g 55 (walC d b size n))) ⟨⟨by rfl, Bl.drewN W2.out.wal 1, by intro e; cases e⟩, W2.out.tab.gr (Gr.drew (Gr.refl w2)), by intro e; cases e⟩) 5 (Mine.Is.stays (.slice A1 (enc l).length c1)) (by rfl)) 29 (C0 := Mine.top) Mine.top_keeps (fun k hk => nomatch hk) trivial ?_
      refine Mine.move _ (.inl rfl) rfl (by decide) rfl (Mine.Tb.stays (Mine.Bx.stays _ _ _)) ?_
      refine Mine.nilT rfl rfl (by decide) rfl ?_
      refine Mine.fieldT (j := 0) rfl rfl (by decide) rfl (fun _ => rfl) rfl ?_
      refine Mine.loadT rfl rfl (by decide) agg_disk rfl ?_
      refine Mine.move _ (.inl rfl) rfl (by decide) rfl (Mine.Tb.stays (Mine.Bx.stays _ _ _)) ?_
      refine Mine.callB (z := .string (pname b n)) rfl rfl (by decide) Tryd.func19 (by kernel_rfl) (by kernel_rfl) rfl (fun w1 hb1 ht1 => last_ok g d b HB.out size n (by omega) w1 hb1 ht1) ?_
      refine Mine.move _ (.inl rfl) rfl (by decide) rfl (Mine.Is.stays _) ?_
      intro a1 w3 ob hr hwf hsz2 hdf hun hk hat
      have h24 : a1.tmps.getD 24 undef = ptr d := (hk 24).1
      have h26 : a1.tmps.getD 26 undef = .string (pname b n) := hk 26
      have h27 : a1.tmps.getD 27 undef = .slice A1 (enc l).length c1 := hk 27
      obtain ⟨X, hX, hlay⟩ := Grow.lay_kept_by _ a1 29 _ hsz2 hdf hun
      rw [hX] at h24 h26 h27
      clear hX hun hdf hsz2 hk hwf hat
      subst hlay
      simp only [List.range, List.range.loop, List.map_cons, List.map_nil, List.contains_cons, List.contains_nil, Nat.reduceBEq, Bool.or_false, Bool.or_true, cond_false, cond_true, Array.getD_eq_getD_getElem?, List.getElem?_toArray, List.getElem?_cons_zero, List.getElem?_cons_succ, Option.getD_some, h24, h26, h27, List.drop_succ_cons, List.drop_zero]
      have HG3 : Hid (Gr w2 w3) := hide ((Gr.drew (Gr.refl w2)).trans (gr_of_rs hr))
      clear hr h24 h26 h27
      have HC : Hid (Calls Tryd.prog 25 #[.pointer (some ⟨d, 0, none⟩), .string (pname b n), .slice A1 (enc l).length c1] w3 (Does S w3 d room x.1 x.2)) := hide (by
        have := Append_ok (s := pname b n) (W2.out.use.gr HG3.out).is (by rw [pname_size]; omega) A1 (enc l).length c1 (enc l) rfl (HL.out.gr (HG2.out.trans HG3.out)) HA.out hcnt (by omega)
        rw [HX.out] at this
        exact this)
      unfold ptr
      go_wp2_with (go_at_call 25; refine HC.out.mono ?_; rintro e w4 ⟨rfl, ho2⟩; have HO := hide ho2; clear ho2)
      go_ret
      exact HW.out.did (F' := x.2) ((HG.out.trans HG2.out).trans HG3.out) ⟨rfl, HO.out⟩
end

end Go.Proofs.YtkcfieoflkhdpaaDoor.WalDo
