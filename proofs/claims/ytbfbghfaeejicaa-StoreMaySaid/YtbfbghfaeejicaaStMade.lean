/-
  The law's made, by its contract.
-/
import Derived.Test.YtbfbghfaeejicaaStFacts
import Derived.Test.YtbfbghfaeejicaaStRefWrite
import Derived.Test.YtbfbghfaeejicaaPlayMade
import Derived.Deep.Cut
namespace Go.Proofs.Ytbfbghfaeejicaa.Mine
open Go Go.RowKit Go.Proofs.Ytbfbghfaeejicaa
/-- what the call that changes the block hands back -/
abbrev Pe (g : Nat) (Φ : Value → World → Prop) : Known := fun v w o => o = some g ∧ Φ v w
theorem Pe.keeps (g : Nat) {Φ : Value → World → Prop} (h : ∀ v w w', Φ v w → Gr w w' → Φ v w') : Keeps (Pe g Φ) := fun v w _ w' hh hg => ⟨hh.1, h v w w' hh.2 hg⟩
section
variable {P : Program} {ops : Array Oper} {w0 : World} {n0 : Nat} {Q : (Tmp → Known) → Tmp → Known → Prop} {o : Oper} {rest : List Oper} {K : Tmp → Known} {c : Tmp} {C : Known}
theorem pickE2 {d : Tmp} {f : FuncId} {x y : Operand} {ats : Array TypeId} {u v : Value} {fn : Func} {g : Nat} {I : World → Prop} {Φ : Value → World → Prop} (ho : o.op = .call { callee := .value (.func f), args := #[x, y], argTypes := ats }) (hd : o.dst = some d) (hg : o.guard = none) (hk : n0 ≤ c) (hf : P.funcs[f]? = some fn) (hn : (fn.name == "runtime.NumGoroutine") = false) (hb : fn.body.isNone = false)
    (hx : Kn K x (Is u)) (hy : Kn K y (Is v)) (hI : ∀ v w w', Φ v w → Gr w w' → Φ v w') (hc : ∀ w, I w → Calls P f #[u, v] w fun en w' => ∃ z, en = .returned z ∧ But w w' g ∧ Φ z w')
    (h : wpMine P ops w0 n0 Q rest (upd K (some d) top) d (Pe g Φ)) : wpMine P ops w0 n0 Q (o :: rest) K c (At g I) := by
  refine chain hd hg (.inr hk) (Pe.keeps g hI) (fun a w ob ob0 hrs hwf hl hC => ?_) h
  obtain ⟨rfl, hIw⟩ := hC
  have h1 : a.eval x = u := looks_op (Ψ := Is u) (by simp [ho, Op.operands, Call.operands]) hx hl
  have h2 : a.eval y = v := looks_op (Ψ := Is v) (by simp [ho, Op.operands, Call.operands]) hy hl
  obtain ⟨dst, op, ty, pos, after, guard⟩ := o
  simp only at ho
  subst ho
  unfold doesC
  rw [execOp_call_go, Grow.enters hf hn hb]
  show Calls _ _ _ _ _
  simp only [List.map_toArray, List.map_cons, List.map_nil, h1, h2]
  exact (hc w hIw).mono fun en w' ⟨z, he, hbt, hIw'⟩ => ⟨z, some g, he, RS.of_but hbt, fun k hk2 => Nat.lt_of_lt_of_le (hwf k hk2) hbt.size, rfl, hIw'⟩
/-- a field of what it hands back -/
theorem pe_field {d : Tmp} {ty : TypeId} {i : Nat} {g : Nat} {Φ Φ' : Value → World → Prop} (ho : o.op = .field ty (.tmp c) i) (hd : o.dst = some d) (hg : o.guard = none) (hI : ∀ v w w', Φ' v w → Gr w w' → Φ' v w') (hr : ∀ v w, Φ v w → ∃ z, (Instr.field ty v i).run P w = .ok z w ∧ Φ' z w)
    (h : wpMine P ops w0 n0 Q rest (upd K (some d) top) d (Pe g Φ')) : wpMine P ops w0 n0 Q (o :: rest) K c (Pe g Φ) := by
  refine chain hd hg (.inl (looks_tmp (by simp [ho, Op.operands]))) (Pe.keeps g hI) (fun a w ob ob0 _ hwf _ hC => ?_) h
  obtain ⟨rfl, h2⟩ := hC
  obtain ⟨z, h3, h4⟩ := hr _ w h2
  unfold doesC execOp
  simp only [ho, show a.eval (.tmp c) = a.tmps.getD c undef from rfl]
  rw [Sem.run_bind, h3]
  exact ⟨some g, RS.refl w _, hwf, rfl, h4⟩
end
end Go.Proofs.Ytbfbghfaeejicaa.Mine

namespace Go.Proofs.Ytbfbghfaeejicaa
open Go Go.RowKit ChMath KeyMath StMath TxnMath
set_option maxRecDepth 100000

/-- in the midst of it: the result's cell, the picks, the store -/
structure MdI (w0 wr : World) (gS : Nat) (A : Option Addr) (c : Nat) (l : List UInt8) (n : Nat) (u : Value) (s : StT) : Prop where
  pk : Pk wr (w0.heap.size + 1) A c l n
  res : Bl wr w0.heap.size 26 #[.slice none 0 0, .int .i64 0]
  box : Bl wr gS 26 #[u, .int .i64 s.mark]
  st : ChnsX wr u s.chains
  at_ : w0.heap.size + 2 ≤ gS
  gr : Gr w0 wr
theorem MdI.grow {w0 w w' : World} {gS : Nat} {A : Option Addr} {c : Nat} {l : List UInt8} {n : Nat} {u : Value} {s : StT} (h : MdI w0 w gS A c l n u s) (hg : Gr w w') : MdI w0 w' gS A c l n u s :=
  ⟨h.pk.gr hg, h.res.gr hg, h.box.gr hg, h.st.gr hg, h.at_, h.gr.trans hg⟩
theorem MdI.pick {w0 w w' : World} {gS : Nat} {A : Option Addr} {c : Nat} {l : List UInt8} {n n' : Nat} {u : Value} {s : StT} (h : MdI w0 w gS A c l n u s) (hb : But w w' (w0.heap.size + 1)) (hp : Pk w' (w0.heap.size + 1) A c l n') : MdI w0 w' gS A c l n' u s :=
  ⟨hp, h.res.but_ hb (by omega), h.box.but_ hb (by have := h.at_; omega), h.st.picks hb h.pk.bl, h.at_, h.gr.fresh_ hb (by omega)⟩
/-- another store lies in the cell -/
theorem MdI.put {w0 w w' : World} {gS : Nat} {A : Option Addr} {c : Nat} {l : List UInt8} {n : Nat} {u v : Value} {s t : StT} (h : MdI w0 w gS A c l n u s) (h0 : By w0 A c l) (hv : ChnsX w v t.chains) (hb : But w w' gS) (hbl : Bl w' gS 26 #[v, .int .i64 t.mark]) : MdI w0 w' gS A c l n v t := by
  obtain ⟨uA, uc, rfl⟩ := h.st.is
  exact ⟨⟨h.pk.bl.but_ hb (by have := h.at_; omega), h0.gr (h.gr.fresh_ hb (by have := h.at_; omega)), h.pk.off, h.pk.le⟩, h.res.but_ hb (by have := h.at_; omega), hbl, hv.picks hb h.box, h.at_, h.gr.fresh_ hb (by have := h.at_; omega)⟩
/-- what is written, as it comes back -/
def TxW (w : World) (v : Value) (ws : List WrT) : Prop := ∃ a b rA rn rc wv, v = .agg #[.int .i64 a, .int .i64 b, .slice rA rn rc, wv] ∧ RowAt 3 w wv (ws.map wrC)
theorem TxW.gr {w w' : World} {v : Value} {ws : List WrT} (h : TxW w v ws) (hg : Gr w w') : TxW w' v ws := by
  obtain ⟨a, b, rA, rn, rc, wv, h1, h2⟩ := h
  exact ⟨a, b, rA, rn, rc, wv, h1, h2.gr hg⟩
theorem OwnTx.txw {w : World} {B : Nat} {v : Value} {t : TxT} (h : OwnTx w B v t) : TxW w v t.writes := by
  obtain ⟨rv, wv, rfl, h1, h2, _⟩ := h
  obtain ⟨rA, rc, rfl, _⟩ := h1.rowAt
  exact ⟨_, _, _, _, _, _, rfl, h2.rowAt⟩

def StMadePost (w : World) (e : Ending) (w' : World) : Prop := ∃ u s, e = .returned (.agg #[u, .int .i64 s.mark]) ∧ ChnsX w' u s.chains ∧ Good 36 48 s ∧ Gr w w'
set_option maxHeartbeats 4000000 in
theorem stMade_ok (A : Option Addr) (c : Nat) (l : List UInt8) (w : World) (hv : By w A c l) (hl : l.length ≤ 150) :
    Calls Try.prog 9 #[.slice A l.length c] w (StMadePost w) := by
  have HV := hide hv
  have hlen : (l.length : Int) ≤ 1000000000 := by omega
  clear hv
  go_enter Try.func9, Try.ntmps9
  go_upto_region 1 with (fail)
  obtain ⟨W1, hW1⟩ : ∃ W1, w.alloc (.cells #[.slice none 0 0, .int .i64 0] 26) = W1 := ⟨_, rfl⟩
  have hg1 : Gr w W1 := by rw [← hW1]; exact (Gr.refl _).alloc _
  have hb1 : Bl W1 w.heap.size 26 #[.slice none 0 0, .int .i64 0] := by rw [← hW1]; exact Bl.new _ _ _
  have hsz1 : W1.heap.size = w.heap.size + 1 := by rw [← hW1]; simp
  rw [hW1]
  clear hW1
  go_wp2_with fail
  refine (Made_ok A c l W1 (HV.out.gr hg1)).mono ?_
  rintro e w2 ⟨rfl, hg2, hp2⟩
  rw [hsz1] at hp2 ⊢
  go_upto_region 3 with (fail)
  obtain ⟨W3, hW3⟩ : ∃ W3, w2.alloc (.cells #[.slice none 0 0, .int .i64 0] 26) = W3 := ⟨_, rfl⟩
  have hg3 : Gr w2 W3 := by rw [← hW3]; exact (Gr.refl _).alloc _
  have hb3 : Bl W3 w2.heap.size 26 #[.slice none 0 0, .int .i64 0] := by rw [← hW3]; exact Bl.new _ _ _
  rw [hW3]
  obtain ⟨gS, hgS⟩ : ∃ gS, w2.heap.size = gS := ⟨_, rfl⟩
  have hp2l := hp2.bl.lt
  rw [hgS] at hb3 ⊢
  have HI := hide (show MdI w W3 gS A c l 0 (.slice none 0 0) ⟨[], 0⟩ from ⟨hp2.gr hg3, hb1.gr (hg2.trans hg3), hb3, ChnsX.nil _ _ _, by omega, hg1.trans (hg2.trans hg3)⟩)
  clear hW3 hg1 hb1 hsz1 hg2 hp2 hg3 hb3 hgS hp2l
  go_wp2_with fail
  go_loopw [5, 6] (fun p i wr => ∃ (k P n : Nat) (u : Value) (s : StT), i = .int .i64 k ∧ p = .int .i64 P ∧ k ≤ 12 ∧ P ≤ 3 * k ∧ Hid (MdI w wr gS A c l n u s) ∧ Hid (Good P (4 * k) s)) (fun _ i _ => 12 - (intOf i).toNat)
  case atStart => exact ⟨0, 0, 0, _, ⟨[], 0⟩, rfl, rfl, by omega, by omega, HI, Good.zero⟩
  case round =>
    clear HI
    obtain ⟨k, P, n, u, s, rfl, rfl, hk, hP, HI, HG⟩ := hrel
    obtain ⟨cs, m⟩ := s
    obtain ⟨uA, uc, hu⟩ := HI.out.st.is
    simp only at hu
    obtain ⟨q, hq⟩ : ∃ q, cs.length = q := ⟨_, rfl⟩
    rw [hq] at hu
    subst hu
    by_cases hlt : k < 12
    · have hlt' : (k : Int) < 12 := by omega
      go_wp2_with fail
      refine (Over_ok _ A c l n wr HI.out.pk).mono ?_
      rintro e w3 ⟨⟨b, rfl⟩, hg3⟩
      have HI3 := hide (HI.out.grow hg3)
      clear HI hg3
      cases b
      · go_wp2_with fail
        refine (Num_ok _ A c l n 3 (by decide) (by decide) hlen w3 HI3.out.pk).mono ?_
        rintro e w4 ⟨rfl, hb4, hp4⟩
        have HI4 := hide (HI3.out.pick hb4 hp4)
        have hv4 := pickV_lt l n 3 (by decide)
        generalize pickV l n 3 = v3 at hv4
        generalize pickN l n = n2 at HI4
        obtain ⟨P2, hP2⟩ : ∃ P2, P + 1 + v3 = P2 := ⟨_, rfl⟩
        have hP2' : (P : Int) + 1 + (v3 : Int) = (P2 : Int) := by omega
        clear hb4 hp4 HI3
        go_upto_region 8 with (fail)
        refine Mine.wp_region_mine_tail 5 40 [24, 25, 26, 27, 28, 29] rfl (by kernel_rfl) (by kernel_rfl) (by kernel_rfl) (by kernel_rfl) (ob0 := some (w.heap.size + 1))
          (Mine.Ahead.more (Mine.Ahead.more (Mine.Ahead.more (Mine.Ahead.none_ _ _ _) 4 (Mine.Bx.stays gS 26 #[.slice uA q uc, .int .i64 m]) (by exact ⟨rfl, HI4.out.box.drewN 1, fun e => by injection e with e; have := HI4.out.at_; omega⟩)) 5 (Mine.Is.stays (.int .i64 (P2 : Int))) (by rfl)) 3 (Mine.Is.stays (.pointer (some ⟨w.heap.size + 1, 0, none⟩))) (by rfl))
          40 (C0 := Mine.At (w.heap.size + 1) (fun W => MdI w W gS A c l n2 (.slice uA q uc) ⟨cs, m⟩)) (Mine.At.keeps _ (fun _ _ h hg => h.grow hg)) (fun k hk => by injection hk with hk; rw [← hk]; exact HI4.out.pk.bl.lt) ⟨rfl, HI4.out.grow ((Gr.refl _).drewN 1)⟩ ?_
        refine Mine.load_box rfl rfl (by decide) rfl Try.underlying26 rfl (by kernel_rfl) ?_
        refine Mine.move (.tmp 5) (.inl rfl) rfl (by decide) rfl (Mine.Is.stays _) ?_
        refine Mine.move (.tmp 3) (.inl rfl) rfl (by decide) rfl (Mine.Is.stays _) ?_
        refine Mine.pickE2 (u := .pointer (some ⟨w.heap.size + 1, 0, none⟩)) (v := .int .i64 ((1 : Nat) : Int)) (Φ := fun v W => TxW W v (txP l n2 1).1.writes ∧ MdI w W gS A c l (txP l n2 1).2 (.slice uA q uc) ⟨cs, m⟩) rfl rfl rfl (Nat.le_refl _) Try.func11 (by kernel_rfl) (by kernel_rfl) rfl (fun _ _ => rfl) (fun v W W' h hg => ⟨h.1.gr hg, h.2.grow hg⟩) (fun W h => (Txn_ok (w.heap.size + 1) A c l n2 1 (by decide) hlen W h.pk).mono fun e W' ⟨v, he, htx, hbt, hpk⟩ => ⟨v, he, hbt, htx.txw, h.pick hbt hpk⟩) ?_
        refine Mine.pe_field (Φ' := fun v W => RowAt 3 W v ((txP l n2 1).1.writes.map wrC) ∧ MdI w W gS A c l (txP l n2 1).2 (.slice uA q uc) ⟨cs, m⟩) rfl rfl rfl (fun v W W' h hg => ⟨h.1.gr hg, h.2.grow hg⟩) (fun v W h => by
          obtain ⟨⟨ta, tb, rA, rn, rc, wv, rfl, hrow⟩, hi⟩ := h
          obtain ⟨wA, wc, rfl, _⟩ := RowAt.is hrow
          exact ⟨_, by kernel_rfl, hrow, hi⟩) ?_
        intro a1 w5 ob hr hwf hsz' hdf hun hk2 hat
        have h24 : a1.tmps.getD 24 undef = .agg #[.slice uA q uc, .int .i64 m] := hk2 24
        have h25 : a1.tmps.getD 25 undef = .int .i64 (P2 : Int) := hk2 25
        have h27 : RowAt 3 w5 (a1.tmps.getD 28 undef) ((txP l n2 1).1.writes.map wrC) ∧ MdI w w5 gS A c l (txP l n2 1).2 (.slice uA q uc) ⟨cs, m⟩ := hat.2
        obtain ⟨X, hX, hlay⟩ := Grow.lay_kept_by _ a1 40 _ hsz' hdf hun
        rw [hX] at h24 h25 h27
        clear hX hun hdf hsz' hk2 hwf hat hr
        obtain ⟨hrow, hi5⟩ := h27
        have htw := tx_writes l n2 1
        generalize (txP l n2 1).1.writes = tws at htw hrow
        generalize (txP l n2 1).2 = n4 at hi5
        obtain ⟨wA, wc, hwv, _⟩ := RowAt.is hrow
        obtain ⟨wn, hwn⟩ : ∃ wn, tws.length = wn := ⟨_, rfl⟩
        rw [hwn] at hwv
        rw [hwv] at hrow
        subst hlay
        simp only [List.range, List.range.loop, List.map_cons, List.map_nil, List.contains_cons, List.contains_nil, Nat.reduceBEq, Bool.or_false, Bool.or_true, cond_false, cond_true, Array.getD_eq_getD_getElem?, List.getElem?_toArray, List.getElem?_cons_zero, List.getElem?_cons_succ, Option.getD_some, h24, h25, hwv, List.drop_succ_cons, List.drop_zero]
        have HI5 := hide hi5
        have HROW := hide hrow
        have HGW := hide (HG.out.write (p := P2) (by omega) htw.1 htw.2)
        have HLN := hide htw.2
        clear hi5 hrow h24 h25 hwv htw HI4
        go_wp2_with fail
        refine (RefWrite_ok (.slice uA q uc) m P2 cs _ tws w5 HI5.out.st (4 * k) HG.out.bnd (by have := HLN.out; omega) HROW.out).mono ?_
        rintro e w6 ⟨u6, rfl, hu6, hg6⟩
        have hi6 := HI5.out.grow hg6
        have HU6 := hide hu6
        obtain ⟨A6, c6, hu6e⟩ := hu6.is
        obtain ⟨q6, hq6⟩ : ∃ q6, (writeR P2 tws cs).length = q6 := ⟨_, rfl⟩
        rw [hq6] at hu6e
        subst hu6e
        have f0 := hi6.box.frozen 0
        have f1 := hi6.box.frozen 1
        have k0 : w6.cell? ⟨gS, 0, none⟩ = some (.slice uA q uc) := hi6.box.cell 0
        have k1 : w6.cell? ⟨gS, 1, none⟩ = some (.int .i64 m) := hi6.box.cell 1
        have HI6 := hide hi6
        clear hi6 hu6 hg6 HI5 HROW
        go_upto_region 9 with (fail)
        obtain ⟨W7, hW7⟩ : ∃ W7, (w6.setCell ⟨gS, 0, none⟩ (.slice A6 q6 c6)).setCell ⟨gS, 1, none⟩ (.int .i64 m) = W7 := ⟨_, rfl⟩
        have hb7 : Bl W7 gS 26 #[.slice A6 q6 c6, .int .i64 m] := by rw [← hW7]; exact (HI6.out.box.put 0 _).put 1 _
        have hu7 : But w6 W7 gS := by rw [← hW7]; exact ((But.refl _ _).set 0 _).set 1 _
        rw [hW7]
        have HI7 := hide (HI6.out.put (t := ⟨writeR P2 tws cs, m⟩) HV.out HU6.out hu7 hb7)
        have HG7 := hide (show Good P2 (4 * (k + 1)) ⟨writeR P2 tws cs, m⟩ from by rw [show 4 * (k + 1) = 4 * k + 4 by omega]; exact HGW.out)
        generalize writeR P2 tws cs = ds at HI7 HG7 hq6
        clear hW7 hb7 hu7 f0 f1 k0 k1 HI6 HU6 HGW HLN HG hwn
        go_wp2_with fail
        refine (Num_ok _ A c l n4 9 (by decide) (by decide) hlen W7 HI7.out.pk).mono ?_
        rintro e w8 ⟨rfl, hb8, hp8⟩
        have HI8 := hide (HI7.out.pick hb8 hp8)
        have hv8 := pickV_lt l n4 9 (by decide)
        generalize pickV l n4 9 = v8 at hv8
        generalize pickN l n4 = n8 at HI8
        clear hb8 hp8 HI7
        by_cases h80 : v8 = 0
        · subst h80
          have hP3 : ((P2 : Int) + 1) = ((P2 + 1 : Nat) : Int) := by omega
          have hP2b : P2 ≤ 36 := by omega
          go_wp2_with fail
          refine Mine.wp_region_mine_tail 5 40 [33, 34, 35, 36, 37, 38] rfl (by kernel_rfl) (by kernel_rfl) (by kernel_rfl) (by kernel_rfl) (ob0 := some (w.heap.size + 1))
            (Mine.Ahead.more (Mine.Ahead.more (Mine.Ahead.more (Mine.Ahead.none_ _ _ _) 4 (Mine.Bx.stays gS 26 #[.slice A6 q6 c6, .int .i64 m]) (by exact ⟨rfl, HI8.out.box.drewN 1, fun e => by injection e with e; have := HI8.out.at_; omega⟩)) 5 (Mine.Is.stays (.int .i64 (P2 : Int))) (by rfl)) 3 (Mine.Is.stays (.pointer (some ⟨w.heap.size + 1, 0, none⟩))) (by rfl))
            40 (C0 := Mine.At (w.heap.size + 1) (fun W => MdI w W gS A c l n8 (.slice A6 q6 c6) ⟨ds, m⟩)) (Mine.At.keeps _ (fun _ _ h hg => h.grow hg)) (fun k hk => by injection hk with hk; rw [← hk]; exact HI8.out.pk.bl.lt) ⟨rfl, HI8.out.grow ((Gr.refl _).drewN 1)⟩ ?_
          refine Mine.load_box rfl rfl (by decide) rfl Try.underlying26 rfl (by kernel_rfl) ?_
          refine Mine.move (.tmp 3) (.inl rfl) rfl (by decide) rfl (Mine.Is.stays _) ?_
          refine Mine.move (.tmp 5) (.inl rfl) rfl (by decide) rfl (Mine.Is.stays _) ?_
          refine Mine.run1 (x := .tmp 35) (v := .int .i64 ((P2 + 1 : Nat) : Int)) rfl (by decide) (by simp [Op.operands]) rfl (fun a W hx => by
            have hr : binOp .add 3 (.int .i64 (P2 : Int)) (.int .i64 1) = pure (.int .i64 ((P2 + 1 : Nat) : Int)) := by
              rw [binOp_add]
              unfold Op.intArith
              have hw : IntKind.i64.wrap ((P2 : Int) + 1) = ((P2 + 1 : Nat) : Int) := by simp [IntKind.wrap, IntKind.bits, IntKind.signed]; omega
              simp only [hw]
            unfold execOp
            simp only [hx]
            rw [Sem.run_bind, show a.eval (.const (.int .i64 1)) = .int .i64 1 from rfl, Grow.run_with_guard (by simp) (by simp) (by rw [hr]; rfl)]
            rfl) ?_
          refine Mine.pick2 (u := .pointer (some ⟨w.heap.size + 1, 0, none⟩)) (v := .int .i64 ((P2 + 1 : Nat) : Int)) (z := .int .i64 (pickV l n8 (P2 + 1) : Nat)) (I' := fun W => MdI w W gS A c l (pickN l n8) (.slice A6 q6 c6) ⟨ds, m⟩) rfl rfl rfl (Nat.le_refl _) Try.func27 (by kernel_rfl) (by kernel_rfl) rfl rfl (fun _ _ h hg => h.grow hg) (fun W h => (Num_ok (w.heap.size + 1) A c l n8 (P2 + 1) (by omega) (by omega) hlen W h.pk).mono fun e W' ⟨he, hbt, hpk⟩ => ⟨he, hbt, h.pick hbt hpk⟩) ?_
          intro a1 w9 ob hr hwf hsz' hdf hun hk2 hat
          have h33 : a1.tmps.getD 33 undef = .agg #[.slice A6 q6 c6, .int .i64 m] := hk2 33
          have h37 : a1.tmps.getD 37 undef = .int .i64 (pickV l n8 (P2 + 1) : Nat) := hk2 37
          have hi9 : MdI w w9 gS A c l (pickN l n8) (.slice A6 q6 c6) ⟨ds, m⟩ := hat.2.2
          obtain ⟨X, hX, hlay⟩ := Grow.lay_kept_by _ a1 40 _ hsz' hdf hun
          rw [hX] at h33 h37
          clear hX hun hdf hsz' hk2 hwf hat hr
          have hv9 := pickV_lt l n8 (P2 + 1) (by omega)
          generalize pickV l n8 (P2 + 1) = v9 at hv9 h37
          generalize pickN l n8 = n9 at hi9
          subst hlay
          simp only [List.range, List.range.loop, List.map_cons, List.map_nil, List.contains_cons, List.contains_nil, Nat.reduceBEq, Bool.or_false, Bool.or_true, cond_false, cond_true, Array.getD_eq_getD_getElem?, List.getElem?_toArray, List.getElem?_cons_zero, List.getElem?_cons_succ, Option.getD_some, h33, h37, List.drop_succ_cons, List.drop_zero]
          have HI9 := hide hi9
          clear hi9 h33 h37 HI8
          have HG9 := hide (HG7.out.trim (m := (v9 : Int)) (by omega))
          go_wp2_with fail
          refine (RefStTrim_ok ⟨ds, m⟩ (.slice A6 q6 c6) v9 w9 HI9.out.st (HG7.out.bnd.len (by omega))).mono ?_
          rintro e w10 ⟨u10, rfl, hu10, hg10⟩
          have hi10 := HI9.out.grow hg10
          have HU10 := hide hu10
          obtain ⟨t, ht⟩ : ∃ t, trimRS ⟨ds, m⟩ (v9 : Int) = t := ⟨_, rfl⟩
          rw [ht] at HU10 hu10 HG9 ⊢
          obtain ⟨tc, tm⟩ := t
          simp only at HU10 hu10 ⊢
          obtain ⟨A7, c7, hu7e⟩ := hu10.is
          obtain ⟨q7, hq7⟩ : ∃ q7, tc.length = q7 := ⟨_, rfl⟩
          rw [hq7] at hu7e
          subst hu7e
          have f0 := hi10.box.frozen 0
          have f1 := hi10.box.frozen 1
          have k0 : w10.cell? ⟨gS, 0, none⟩ = some (.slice A6 q6 c6) := hi10.box.cell 0
          have k1 : w10.cell? ⟨gS, 1, none⟩ = some (.int .i64 m) := hi10.box.cell 1
          have HI10 := hide hi10
          clear hi10 hu10 hg10 HI9 ht
          go_upto_region 6 with (fail)
          obtain ⟨W11, hW11⟩ : ∃ W11, (w10.setCell ⟨gS, 0, none⟩ (.slice A7 q7 c7)).setCell ⟨gS, 1, none⟩ (.int .i64 tm) = W11 := ⟨_, rfl⟩
          have hb11 : Bl W11 gS 26 #[.slice A7 q7 c7, .int .i64 tm] := by rw [← hW11]; exact (HI10.out.box.put 0 _).put 1 _
          have hu11 : But w10 W11 gS := by rw [← hW11]; exact ((But.refl _ _).set 0 _).set 1 _
          rw [hW11]
          have HI11 := hide (HI10.out.put (t := ⟨tc, tm⟩) HV.out HU10.out hu11 hb11)
          clear hW11 hb11 hu11 f0 f1 k0 k1 HI10 HU10
          go_wp2_with fail
          go_roundw
          case rel => exact ⟨k + 1, P2, n9, _, ⟨tc, tm⟩, by go_num, rfl, by omega, by omega, HI11, HG9⟩
          case measure => simp [intOf]; omega
        · have h80' : ¬ (v8 : Int) = 0 := by omega
          go_wp2_with fail
          go_roundw
          case rel => exact ⟨k + 1, P2, n8, _, ⟨ds, m⟩, by go_num, rfl, by omega, by omega, HI8, HG7⟩
          case measure => simp [intOf]; omega
      · have hg0 := HG.out.wide (P' := 36) (N' := 48) (by omega) (by omega)
        have m0 : w3.cell? ⟨gS, 0, none⟩ = some (.slice uA q uc) := HI3.out.box.cell 0
        have m1 : w3.cell? ⟨gS, 1, none⟩ = some (.int .i64 m) := HI3.out.box.cell 1
        have n0 : w3.cell? ⟨w.heap.size, 0, none⟩ = some (.slice none 0 0) := HI3.out.res.cell 0
        have n1 : w3.cell? ⟨w.heap.size, 1, none⟩ = some (.int .i64 0) := HI3.out.res.cell 1
        have g0 := HI3.out.res.frozen 0
        have g1 := HI3.out.res.frozen 1
        go_wp2_with fail
        obtain ⟨W4, hW4⟩ : ∃ W4, (w3.setCell ⟨w.heap.size, 0, none⟩ (.slice uA q uc)).setCell ⟨w.heap.size, 1, none⟩ (.int .i64 m) = W4 := ⟨_, rfl⟩
        have hb6 : Bl W4 w.heap.size 26 #[.slice uA q uc, .int .i64 m] := by rw [← hW4]; exact (HI3.out.res.put 0 _).put 1 _
        have hu6 : But w3 W4 w.heap.size := by rw [← hW4]; exact ((But.refl _ _).set 0 _).set 1 _
        rw [hW4]
        refine bodyPost_ret (results_cell_row rfl _ W4 w.heap.size 26 _ (0, 0) _ rfl hb6 Try.underlying26 rfl (by kernel_rfl)) rfl ?_
        exact ⟨_, ⟨cs, m⟩, rfl, HI3.out.st.picks hu6 HI3.out.res, hg0, HI3.out.gr.fresh_ hu6 (Nat.le_refl _)⟩
    · have hk12 : ¬ (k : Int) < 12 := by omega
      have hg0 := HG.out.wide (P' := 36) (N' := 48) (by omega) (by omega)
      have m0 : wr.cell? ⟨gS, 0, none⟩ = some (.slice uA q uc) := HI.out.box.cell 0
      have m1 : wr.cell? ⟨gS, 1, none⟩ = some (.int .i64 m) := HI.out.box.cell 1
      have n0 : wr.cell? ⟨w.heap.size, 0, none⟩ = some (.slice none 0 0) := HI.out.res.cell 0
      have n1 : wr.cell? ⟨w.heap.size, 1, none⟩ = some (.int .i64 0) := HI.out.res.cell 1
      have g0 := HI.out.res.frozen 0
      have g1 := HI.out.res.frozen 1
      go_wp2_with fail
      obtain ⟨W4, hW4⟩ : ∃ W4, (wr.setCell ⟨w.heap.size, 0, none⟩ (.slice uA q uc)).setCell ⟨w.heap.size, 1, none⟩ (.int .i64 m) = W4 := ⟨_, rfl⟩
      have hb6 : Bl W4 w.heap.size 26 #[.slice uA q uc, .int .i64 m] := by rw [← hW4]; exact (HI.out.res.put 0 _).put 1 _
      have hu6 : But wr W4 w.heap.size := by rw [← hW4]; exact ((But.refl _ _).set 0 _).set 1 _
      rw [hW4]
      refine bodyPost_ret (results_cell_row rfl _ W4 w.heap.size 26 _ (0, 0) _ rfl hb6 Try.underlying26 rfl (by kernel_rfl)) rfl ?_
      exact ⟨_, ⟨cs, m⟩, rfl, HI.out.st.picks hu6 HI.out.res, hg0, HI.out.gr.fresh_ hu6 (Nat.le_refl _)⟩
end Go.Proofs.Ytbfbghfaeejicaa
