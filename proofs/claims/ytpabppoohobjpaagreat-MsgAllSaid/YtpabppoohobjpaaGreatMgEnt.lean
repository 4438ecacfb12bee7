/-
  Entries: mayEntry, each, sameEntry, EqualFunc; Equal of texts; by their contracts.
-/
import Derived.Test.YtpabppoohobjpaaGreatHandRd
import Derived.Test.YtpabppoohobjpaaGreatTxSame
import Derived.Test.YtpabppoohobjpaaGreatBaseL
import Derived.Deep.Cut
import Derived.Test.YtpabppoohobjpaaGreatTxEqual
namespace Go.Proofs.YtpabppoohobjpaaGreat
open Go Go.RowKit TxnMath KeyMath MsgMath
set_option maxRecDepth 100000

/-- an entry that may be -/
def entB (e : EntT) : Bool := okN e.term && (if e.shut = true then decide (e.t = noTxn) else mayT e.t)

theorem noTxn_bnd : TxBnd noTxn := noTxn_lim.bnd
set_option maxHeartbeats 1000000 in
theorem mayEntry_ok (e : EntT) (p : Value × Value) (w : World) (hp : RowsX Any w e.t p) (hb : TxBnd e.t) : Calls Tryz.prog 49 #[.agg (entC e p).toArray] w fun en w' => en = .returned (.bool (entB e)) ∧ Gr w w' := by
  have hg : ∀ o, Gr w (w.alloc o) := fun o => (Gr.refl _).alloc o
  have CN := hide (fun w => mayNumber_ok e.term w)
  have CS := hide (fun w' (h : Gr w w') => TxSameB_ok (.agg (txC e.t p).toArray) (.agg #[.int .i64 0, .int .i64 0, .slice none 0 0, .slice none 0 0]) e.t noTxn w' (hp.gr h).txAt (TxAt.none_ w') hb noTxn_bnd)
  have CM := hide (fun w' (h : Gr w w') => TxMayB_ok (.agg (txC e.t p).toArray) e.t w' (hp.gr h).txAt hb)
  obtain ⟨⟨pr, pw⟩, ep⟩ : ∃ q : Value × Value, q = p := ⟨_, rfl⟩
  subst ep
  have HG := hide hg
  have HE := hide (show entB e = (okN e.term && (if e.shut = true then decide (e.t = noTxn) else mayT e.t)) from rfl)
  obtain ⟨A, c, rfl, _⟩ := hp.rd.1.is
  obtain ⟨B, d, rfl, _⟩ := hp.wr.1.is
  show Calls _ _ #[.agg #[.int .i64 e.term, .bool e.shut, .int .i64 e.t.ses, .int .i64 e.t.seq, .slice A e.t.reads.length c, .slice B e.t.writes.length d]] _ _
  change Hid (∀ w', Gr w w' → Calls _ _ #[.agg #[.int .i64 e.t.ses, .int .i64 e.t.seq, .slice A e.t.reads.length c, .slice B e.t.writes.length d], _] _ _) at CS
  change Hid (∀ w', Gr w w' → Calls _ _ #[.agg #[.int .i64 e.t.ses, .int .i64 e.t.seq, .slice A e.t.reads.length c, .slice B e.t.writes.length d]] _ _) at CM
  rw [HE.out]
  clear HE hp hb hg
  generalize okN e.term = b at CN ⊢
  generalize decide (e.t = noTxn) = b2 at CS ⊢
  generalize mayT e.t = b3 at CM ⊢
  generalize e.shut = sh
  cases sh
  all_goals cases b
  all_goals
    go_enter Tryz.func49, Tryz.ntmps49
    go_wp2_with fail
    refine (CN.out _).mono ?_
    rintro en w1 ⟨rfl, rfl⟩
    go_wp2_with fail
  · go_ret
    exact ⟨rfl, HG.out _⟩
  · refine (CM.out _ (HG.out _)).mono ?_
    rintro en w1 ⟨rfl, hg1⟩
    go_wp2_with fail
    go_ret
    exact ⟨rfl, (HG.out _).trans hg1⟩
  · go_ret
    exact ⟨rfl, HG.out _⟩
  · refine (CS.out _ (HG.out _)).mono ?_
    rintro en w1 ⟨rfl, hg1⟩
    go_wp2_with fail
    go_ret
    exact ⟨rfl, (HG.out _).trans hg1⟩

set_option maxHeartbeats 1000000 in
theorem eachEntry_ok (v : Value) (es : List EntT) (w : World) (hv : EntsX Any w v es) (hn : es.length ≤ 1000000) (hb : ∀ e ∈ es, TxBnd e.t) :
    Calls Tryz.prog 48 #[v, .func (.func 49) #[] #[]] w fun e w' => e = .returned (.bool (es.all entB)) ∧ Gr w w' := by
  obtain ⟨A, c, rfl⟩ := hv.is
  have HR := hide hv
  have HBD := hide hb
  clear hv hb
  obtain ⟨b, hb⟩ : ∃ b, es.all entB = b := ⟨_, rfl⟩
  have HB := hide hb
  rw [hb]
  clear hb
  go_enter Tryz.func48, Tryz.ntmps48
  go_wp2_with fail
  go_loopw [9] (fun i wr => ∃ k : Nat, i = .int .i64 k ∧ k ≤ es.length ∧ Hid (∀ j (hj : j < es.length), j < k → entB es[j] = true) ∧ Gr w wr) (fun i _ => es.length - (intOf i).toNat)
  case atStart => exact ⟨0, rfl, by omega, fun j hj hk => absurd hk (by omega), Gr.refl _⟩
  case round =>
    obtain ⟨k, rfl, hk, hso, hgr⟩ := hrel
    by_cases hlt : k < es.length
    · have hlt' : (k : Int) < (es.length : Int) := by omega
      obtain ⟨ad, c', p, e1, hp, a0, a1, a2, a3, a4, a5⟩ := (HR.out.gr hgr).ent hlt
      simp only [Value.slice.injEq, true_and] at e1
      obtain ⟨rfl, rfl⟩ := e1
      have hno := hide (all_false (p := entB) hlt)
      have hyes := hide (all_more hso.out hlt)
      have HC := hide (fun w' (h : Gr wr w') => mayEntry_ok es[k] p w' (hp.gr h) (HBD.out _ (List.getElem_mem hlt)))
      obtain ⟨A2, c2, e2, _⟩ := hp.rd.1.is
      obtain ⟨B2, d2, e3, _⟩ := hp.wr.1.is
      obtain ⟨pr, pw⟩ := p
      simp only at e2 e3
      subst e2 e3
      obtain ⟨x, hx⟩ : ∃ x, es[k]'hlt = x := ⟨_, rfl⟩
      simp only [hx] at a0 a1 a2 a3 a4 a5 hno hyes HC
      clear hx hso hp
      change Hid (∀ w', Gr wr w' → Calls _ _ #[.agg #[.int .i64 x.term, .bool x.shut, .int .i64 x.t.ses, .int .i64 x.t.seq, _, _]] _ _) at HC
      generalize hq : entB x = q at HC hno hyes
      clear hq
      go_wp2_with fail
      refine (HC.out _ ((Gr.refl wr).alloc _)).mono ?_
      rintro e w3 ⟨rfl, hg3⟩
      replace hgr := hgr.trans (((Gr.refl wr).alloc _).trans hg3)
      clear hg3 a0 a1 a2 a3 a4 a5 HC
      cases q
      · have E := hide (HB.out.symm.trans (hno.out rfl))
        clear hno hyes
        go_wp2_with fail
        go_ret
        exact ⟨by rw [E.out]; rfl, hgr⟩
      · replace hyes := hide (hyes.out rfl)
        clear hno
        go_wp2_with fail
        go_roundw
        case rel => exact ⟨k + 1, by go_num, by omega, hyes, hgr⟩
        case measure => simp [intOf]; omega
    · obtain rfl : k = es.length := by omega
      have E := hide (HB.out.symm.trans (all_done (Nat.le_refl _) hso.out))
      clear hso
      go_wp2_with fail
      go_ret
      exact ⟨by rw [E.out]; rfl, hgr⟩

set_option maxHeartbeats 400000 in
theorem EqualS_ok (v u : Value) (xs ys : List ByteArray) (w : World) (hv : RowAt 1 w v (xs.map strC)) (hu : RowAt 1 w u (ys.map strC)) (hx : xs.length ≤ 1000000000) :
    Calls Tryz.prog 36 #[v, u] w fun e w' => e = .returned (.bool (decide (xs = ys))) ∧ Gr w w' := by
  have HA := hide hv
  have HB := hide hu
  obtain ⟨A, c, rfl, hc, _⟩ := hv
  obtain ⟨B, d, rfl, hd, _⟩ := hu
  rw [List.length_map] at HA hc ⊢
  rw [List.length_map] at HB hd ⊢
  by_cases hl : xs.length = ys.length
  · have h : (xs.length : Int) = (ys.length : Int) := by omega
    go_enter Tryz.func36, Tryz.ntmps36
    go_wp2_with fail
    go_loopw [13] (fun i wr => ∃ k : Nat, i = .int .i64 k ∧ k ≤ xs.length ∧ Hid (∀ j, j < k → xs[j]? = ys[j]?) ∧ Gr w wr) (fun i _ => xs.length - (intOf i).toNat)
    case atStart => exact ⟨0, rfl, by omega, fun j hj => absurd hj (by omega), Gr.refl _⟩
    case round =>
      obtain ⟨k, rfl, hk, hso, hgr⟩ := hrel
      by_cases hlt : k < xs.length
      · have hlt' : (k : Int) < (xs.length : Int) := by omega
        have hlt2 : (k : Int) < (ys.length : Int) := by omega
        have hno := hide (list_ne hlt (by omega : k < ys.length))
        have hyes := hide (same_more hso.out hlt (by omega : k < ys.length))
        obtain ⟨x, hxk⟩ : ∃ x, xs[k]'hlt = x := ⟨_, rfl⟩
        obtain ⟨y, hyk⟩ : ∃ y, ys[k]'(by omega) = y := ⟨_, rfl⟩
        obtain ⟨ad, c', e1, _, a0, z1⟩ := (HA.out.gr hgr).cell (j := k) (r := strC x) (by rw [List.getElem?_map, List.getElem?_eq_getElem hlt, hxk]; rfl) (by simp [strC])
        obtain ⟨bd, d', e2, _, b0, z2⟩ := (HB.out.gr hgr).cell (j := k) (r := strC y) (by rw [List.getElem?_map, List.getElem?_eq_getElem (by omega), hyk]; rfl) (by simp [strC])
        rw [hxk, hyk] at hno hyes
        simp only [Value.slice.injEq, List.length_map] at e1 e2
        obtain ⟨rfl, _, rfl⟩ := e1
        obtain ⟨rfl, _, rfl⟩ := e2
        replace a0 := a0 _ rfl
        replace b0 := b0 _ rfl
        rw [Nat.mul_one] at a0 b0
        clear hxk hyk hso z1 z2
        by_cases hxy : x.toList = y.toList
        · have hee := bytes_eq hxy
          clear hxy
          subst hee
          have hbb : (x.toList != x.toList) = false := by simp
          replace hyes := hide (hyes.out rfl)
          clear hno
          go_wp2_with fail
          go_region
          go_wp2_with fail
          go_roundw
          case rel => exact ⟨k + 1, by go_num, by omega, hyes, hgr.drew⟩
          case measure => simp [intOf]; omega
        · replace hno := hide (hno.out (fun e => hxy (by rw [e])))
          have hbc : (x.toList == y.toList) = false := by rw [beq_eq_false_iff_ne]; exact hxy
          clear hyes
          go_wp2_with fail
          go_region
          go_wp2_with fail
          go_ret
          exact ⟨by rw [decide_eq_false hno.out]; rfl, hgr.drew⟩
      · obtain rfl : k = xs.length := by omega
        have hs := hide (list_same hl hso.out)
        clear hso hl
        go_wp2_with fail
        go_ret
        exact ⟨by rw [decide_eq_true hs.out]; rfl, hgr⟩
  · have h : ¬ (xs.length : Int) = (ys.length : Int) := by omega
    have hno : xs ≠ ys := fun e => hl (by rw [e])
    rw [decide_eq_false hno]
    go_enter Tryz.func36, Tryz.ntmps36
    go_wp2_with fail
    go_ret
    exact ⟨rfl, Gr.refl _⟩

set_option maxHeartbeats 1000000 in
theorem sameEntry_ok (x y : EntT) (p q : Value × Value) (w : World) (hp : RowsX Any w x.t p) (hq : RowsX Any w y.t q) (hx : TxBnd x.t) (hy : TxBnd y.t) :
    Calls Tryz.prog 34 #[.agg (entC x p).toArray, .agg (entC y q).toArray] w fun en w' => en = .returned (.bool (decide (x = y))) ∧ Gr w w' := by
  have CS := hide (fun w' (h : Gr w w') => TxSameB_ok (.agg (txC x.t p).toArray) (.agg (txC y.t q).toArray) x.t y.t w' (hp.gr h).txAt (hq.gr h).txAt hx hy)
  obtain ⟨A, c, e1, _⟩ := hp.rd.1.is
  obtain ⟨B, d, e2, _⟩ := hp.wr.1.is
  obtain ⟨A', c', e3, _⟩ := hq.rd.1.is
  obtain ⟨B', d', e4, _⟩ := hq.wr.1.is
  obtain ⟨p1, p2⟩ := p
  obtain ⟨q1, q2⟩ := q
  simp only at e1 e2 e3 e4
  subst e1 e2 e3 e4
  have hg0 : ∀ o o', Gr w ((w.alloc o).alloc o') := fun o o' => ((Gr.refl _).alloc _).alloc _
  have HG := hide hg0
  have HD := hide (ent_cases x y)
  obtain ⟨b, hb⟩ : ∃ b, decide (x = y) = b := ⟨_, rfl⟩
  have HBB := hide hb
  rw [hb]
  clear hp hq hx hy hg0 hb
  show Calls _ _ #[.agg #[.int .i64 x.term, .bool x.shut, .int .i64 x.t.ses, .int .i64 x.t.seq, _, _], .agg #[.int .i64 y.term, .bool y.shut, .int .i64 y.t.ses, .int .i64 y.t.seq, _, _]] _ _
  change Hid (∀ w', Gr w w' → Calls _ _ #[.agg #[.int .i64 x.t.ses, .int .i64 x.t.seq, _, _], .agg #[.int .i64 y.t.ses, .int .i64 y.t.seq, _, _]] _ _) at CS
  by_cases h1 : x.term = y.term
  rotate_left
  · have E := hide (show b = false by rw [← HBB.out]; exact decide_eq_false (fun e => h1 (by rw [e])))
    clear HBB HD
    go_enter Tryz.func34, Tryz.ntmps34
    go_wp2_with fail
    go_ret
    exact ⟨by rw [E.out]; rfl, HG.out _ _⟩
  by_cases h2 : x.shut = y.shut
  rotate_left
  · have E := hide (show b = false by rw [← HBB.out]; exact decide_eq_false (fun e => h2 (by rw [e])))
    clear HBB HD
    go_enter Tryz.func34, Tryz.ntmps34
    go_wp2_with fail
    go_ret
    exact ⟨by rw [E.out]; rfl, HG.out _ _⟩
  have E := hide (show decide (x.t = y.t) = b by
    rw [← HBB.out]
    have h1' := h1
    have h2' := h2
    cases x; cases y
    simp only at h1' h2'
    subst h1' h2'
    simp)
  rw [E.out] at CS
  clear HBB HD E
  go_enter Tryz.func34, Tryz.ntmps34
  go_wp2_with fail
  refine (CS.out _ (HG.out _ _)).mono ?_
  rintro en w1 ⟨rfl, hg1⟩
  go_wp2_with fail
  go_ret
  exact ⟨rfl, (HG.out _ _).trans hg1⟩

set_option maxHeartbeats 1000000 in
theorem EqualE_ok (v u : Value) (xs ys : List EntT) (w : World) (hv : EntsX Any w v xs) (hu : EntsX Any w u ys) (hx : xs.length ≤ 1000000000) (hbx : ∀ e ∈ xs, TxBnd e.t) (hby : ∀ e ∈ ys, TxBnd e.t) :
    Calls Tryz.prog 33 #[v, u, .func (.func 34) #[] #[]] w fun e w' => e = .returned (.bool (decide (xs = ys))) ∧ Gr w w' := by
  have HA := hide hv
  have HB := hide hu
  obtain ⟨A, c, rfl⟩ := hv.is
  obtain ⟨B, d, rfl⟩ := hu.is
  have HX := hide hbx
  have HY := hide hby
  clear hv hu hbx hby
  by_cases hl : xs.length = ys.length
  · have h : (xs.length : Int) = (ys.length : Int) := by omega
    have HL := hide hl
    clear hl
    go_enter Tryz.func33, Tryz.ntmps33
    go_wp2_with fail
    go_loopw [17] (fun i wr => ∃ k : Nat, i = .int .i64 k ∧ k ≤ xs.length ∧ Hid (∀ j, j < k → xs[j]? = ys[j]?) ∧ Gr w wr) (fun i _ => xs.length - (intOf i).toNat)
    case atStart => exact ⟨0, rfl, by omega, fun j hj => absurd hj (by omega), Gr.refl _⟩
    case round =>
      obtain ⟨k, rfl, hk, hso, hgr⟩ := hrel
      by_cases hlt : k < xs.length
      · have hlt' : (k : Int) < (xs.length : Int) := by omega
        have hly : k < ys.length := by have := HL.out; omega
        have hlt2 : (k : Int) < (ys.length : Int) := by omega
        have hno := hide (list_ne hlt hly)
        have hyes := hide (same_more hso.out hlt hly)
        obtain ⟨ad, c', p, e1, hp, a0, a1, a2, a3, a4, a5⟩ := (HA.out.gr hgr).ent hlt
        obtain ⟨bd, d', q, e2, hq, b0, b1, b2, b3, b4, b5⟩ := (HB.out.gr hgr).ent hly
        simp only [Value.slice.injEq, true_and] at e1 e2
        obtain ⟨rfl, rfl⟩ := e1
        obtain ⟨rfl, rfl⟩ := e2
        have HC := hide (fun w' (h : Gr wr w') => sameEntry_ok xs[k] ys[k] p q w' (hp.gr h) (hq.gr h) (HX.out _ (List.getElem_mem hlt)) (HY.out _ (List.getElem_mem hly)))
        obtain ⟨A2, c2, e3, _⟩ := hp.rd.1.is
        obtain ⟨B2, d2, e4, _⟩ := hp.wr.1.is
        obtain ⟨A3, c3, e5, _⟩ := hq.rd.1.is
        obtain ⟨B3, d3, e6, _⟩ := hq.wr.1.is
        obtain ⟨p1, p2⟩ := p
        obtain ⟨q1, q2⟩ := q
        simp only at e3 e4 e5 e6
        subst e3 e4 e5 e6
        obtain ⟨x, hxk⟩ : ∃ x, xs[k]'hlt = x := ⟨_, rfl⟩
        obtain ⟨y, hyk⟩ : ∃ y, ys[k]'hly = y := ⟨_, rfl⟩
        simp only [hxk, hyk] at a0 a1 a2 a3 a4 a5 b0 b1 b2 b3 b4 b5 HC hno hyes
        clear hxk hyk hso hp hq
        change Hid (∀ w', Gr wr w' → Calls _ _ #[.agg #[.int .i64 x.term, .bool x.shut, .int .i64 x.t.ses, .int .i64 x.t.seq, _, _], .agg #[.int .i64 y.term, .bool y.shut, .int .i64 y.t.ses, .int .i64 y.t.seq, _, _]] _ _) at HC
        have g0 : ∀ o, Gr wr (wr.alloc o) := fun o => (Gr.refl wr).alloc o
        have d0 := fun o => gr_cell (g0 o) _ _ b0
        have d1 := fun o => gr_cell (g0 o) _ _ b1
        have d2 := fun o => gr_cell (g0 o) _ _ b2
        have d3 := fun o => gr_cell (g0 o) _ _ b3
        have d4 := fun o => gr_cell (g0 o) _ _ b4
        have d5 := fun o => gr_cell (g0 o) _ _ b5
        clear g0
        cases hd : decide (x = y)
        · replace hno := hide (hno.out (of_decide_eq_false hd))
          rw [hd] at HC
          clear hd hyes
          go_wp2_with fail
          refine (HC.out _ (((Gr.refl wr).alloc _).alloc _)).mono ?_
          rintro e w3 ⟨rfl, hg3⟩
          replace hgr := hgr.trans ((((Gr.refl wr).alloc _).alloc _).trans hg3)
          clear hg3 a0 a1 a2 a3 a4 a5 b0 b1 b2 b3 b4 b5 d0 d1 d2 d3 d4 d5 HC
          go_wp2_with fail
          go_ret
          exact ⟨by rw [decide_eq_false hno.out]; rfl, hgr⟩
        · replace hyes := hide (hyes.out (of_decide_eq_true hd))
          rw [hd] at HC
          clear hd hno
          go_wp2_with fail
          refine (HC.out _ (((Gr.refl wr).alloc _).alloc _)).mono ?_
          rintro e w3 ⟨rfl, hg3⟩
          replace hgr := hgr.trans ((((Gr.refl wr).alloc _).alloc _).trans hg3)
          clear hg3 a0 a1 a2 a3 a4 a5 b0 b1 b2 b3 b4 b5 d0 d1 d2 d3 d4 d5 HC
          go_wp2_with fail
          go_roundw
          case rel => exact ⟨k + 1, by go_num, by omega, hyes, hgr⟩
          case measure => simp [intOf]; omega
      · obtain rfl : k = xs.length := by omega
        have hs := hide (list_same HL.out hso.out)
        clear hso
        go_wp2_with fail
        go_ret
        exact ⟨by rw [decide_eq_true hs.out]; rfl, hgr⟩
  · have h : ¬ (xs.length : Int) = (ys.length : Int) := by omega
    have hno : xs ≠ ys := fun e => hl (by rw [e])
    rw [decide_eq_false hno]
    go_enter Tryz.func33, Tryz.ntmps33
    go_wp2_with fail
    go_ret
    exact ⟨rfl, Gr.refl _⟩

end Go.Proofs.YtpabppoohobjpaaGreat

/-
  msg's mayHead, mayNumbers and mayBody by their contracts.
-/
namespace Go.Proofs.YtpabppoohobjpaaGreat
open Go Go.RowKit TxnMath KeyMath MsgMath
set_option maxRecDepth 100000

/-- what asking whether a letter may be wants of it: its texts may be long -/
structure MsgBnd (m : MsgT) : Prop where
  en : m.entries.length ≤ 1000000
  ent : ∀ e ∈ m.entries, TxBnd e.t
  t : TxBnd m.t
  fk : m.fromKey.size ≤ 281474976710656
  tk : m.toKey.size ≤ 281474976710656
  kn : m.keys.length ≤ 1000000
  ks : ∀ s ∈ m.keys, (s.size : Int) ≤ 281474976710656
  gn : m.got.length ≤ 1000000
  gk : ∀ x ∈ m.got, (x.key.size : Int) ≤ 281474976710656
def cellsV (m : MsgT) (eA : Option Addr) (eC : Nat) (rA : Option Addr) (rC : Nat) (wA : Option Addr) (wC : Nat) (kA : Option Addr) (kC : Nat) (gA : Option Addr) (gC : Nat) : Array Value := #[.int .i64 m.kind, .int .i64 m.frm, .int .i64 m.to, .int .i64 m.part, .int .i64 m.term, .int .i64 m.index, .int .i64 m.logTerm, .int .i64 m.commit, .bool m.ok, .slice eA m.entries.length eC, .int .i64 m.t.ses, .int .i64 m.t.seq, .slice rA m.t.reads.length rC, .slice wA m.t.writes.length wC, .int .i64 m.ses, .int .i64 m.seq, .int .i64 m.pos, .int .i64 m.shard, .bool m.span, .string m.fromKey, .string m.toKey, .slice kA m.keys.length kC, .slice gA m.got.length gC, .int .i64 m.err]
/-- the letter as a value, its rows spelt out -/
theorem MsgX.open_ {X : Nat → Prop} {w : World} {v : Value} {m : MsgT} (h : MsgX X w v m) : ∃ eA eC rA rC wA wC kA kC gA gC, v = .agg (cellsV m eA eC rA rC wA wC kA kC gA gC) ∧ EntsX X w (.slice eA m.entries.length eC) m.entries ∧ RowsX X w m.t (.slice rA m.t.reads.length rC, .slice wA m.t.writes.length wC) ∧
    RowX X 1 w (.slice kA m.keys.length kC) (m.keys.map strC) ∧ RowX X 4 w (.slice gA m.got.length gC) (m.got.map rdC) := by
  obtain ⟨⟨e, ⟨p1, p2⟩, k, g⟩, rfl, h1, h2, h3, h4⟩ := h
  simp only at h1 h2 h3 h4
  obtain ⟨eA, eC, rfl⟩ := h1.is
  obtain ⟨rA, rC, e2, _⟩ := h2.rd.1.is
  obtain ⟨wA, wC, e3, _⟩ := h2.wr.1.is
  simp only at e2 e3
  subst e2 e3
  obtain ⟨kA, kC, rfl, _⟩ := h3.1.is
  obtain ⟨gA, gC, rfl, _⟩ := h4.1.is
  exact ⟨eA, eC, rA, rC, wA, wC, kA, kC, gA, gC, rfl, h1, h2, h3, h4⟩
theorem RowX.gr {X : Nat → Prop} {k : Nat} {w w' : World} {v : Value} {rs : List (List Value)} (h : RowX X k w v rs) (hg : Gr w w') (hk : ∀ r ∈ rs, 0 < r.length) : RowX X k w' v rs := h.move (Moves.of_gr hg) hk
def headB (m : MsgT) : Bool := (decide (1 ≤ m.kind) && decide (m.kind ≤ 9)) && ((decide (0 ≤ m.part) && decide (m.part ≤ 2)) && ((decide (1 ≤ m.frm) && decide (m.frm ≤ 5)) && ((decide (1 ≤ m.to) && decide (m.to ≤ 5)) && !(m.frm == m.to))))

set_option maxHeartbeats 1000000 in
theorem mayHead_ok (v : Value) (m : MsgT) (w : World) (hv : MsgAt w v m) : Calls Tryz.prog 27 #[v] w fun e w' => e = .returned (.bool (headB m)) ∧ Gr w w' := by
  obtain ⟨eA, eC, rA, rC, wA, wC, kA, kC, gA, gC, rfl, _⟩ := hv.open_
  have hg : ∀ o, Gr w (w.alloc o) := fun o => (Gr.refl _).alloc o
  have HG := hide hg
  have HE := hide (show headB m = ((decide (1 ≤ m.kind) && decide (m.kind ≤ 9)) && ((decide (0 ≤ m.part) && decide (m.part ≤ 2)) && ((decide (1 ≤ m.frm) && decide (m.frm ≤ 5)) && ((decide (1 ≤ m.to) && decide (m.to ≤ 5)) && !(m.frm == m.to))))) from rfl)
  have C0 := hide (within_ok m.kind 1 9)
  have C1 := hide (within_ok m.part 0 2)
  have C2 := hide (within_ok m.frm 1 5)
  have C3 := hide (within_ok m.to 1 5)
  clear hv hg
  show Calls _ _ #[.agg #[.int .i64 m.kind, .int .i64 m.frm, .int .i64 m.to, .int .i64 m.part, .int .i64 m.term, .int .i64 m.index, .int .i64 m.logTerm, .int .i64 m.commit, .bool m.ok, .slice eA m.entries.length eC, .int .i64 m.t.ses, .int .i64 m.t.seq, .slice rA m.t.reads.length rC, .slice wA m.t.writes.length wC, .int .i64 m.ses, .int .i64 m.seq, .int .i64 m.pos, .int .i64 m.shard, .bool m.span, .string m.fromKey, .string m.toKey, .slice kA m.keys.length kC, .slice gA m.got.length gC, .int .i64 m.err]] _ _
  rw [HE.out]
  clear HE
  generalize (decide (1 ≤ m.kind) && decide (m.kind ≤ 9)) = b0 at C0 ⊢
  generalize (decide (0 ≤ m.part) && decide (m.part ≤ 2)) = b1 at C1 ⊢
  generalize (decide (1 ≤ m.frm) && decide (m.frm ≤ 5)) = b2 at C2 ⊢
  generalize (decide (1 ≤ m.to) && decide (m.to ≤ 5)) = b3 at C3 ⊢
  cases b0
  · go_enter Tryz.func27, Tryz.ntmps27
    go_wp2_with fail
    refine (C0.out _).mono ?_
    rintro e w1 ⟨rfl, rfl⟩
    go_wp2_with fail
    go_ret
    exact ⟨rfl, HG.out _⟩
  cases b1
  · go_enter Tryz.func27, Tryz.ntmps27
    go_wp2_with fail
    refine (C0.out _).mono ?_
    rintro e w1 ⟨rfl, rfl⟩
    go_wp2_with fail
    refine (C1.out _).mono ?_
    rintro e w1 ⟨rfl, rfl⟩
    go_wp2_with fail
    go_ret
    exact ⟨rfl, HG.out _⟩
  cases b2
  · go_enter Tryz.func27, Tryz.ntmps27
    go_wp2_with fail
    refine (C0.out _).mono ?_
    rintro e w1 ⟨rfl, rfl⟩
    go_wp2_with fail
    refine (C1.out _).mono ?_
    rintro e w1 ⟨rfl, rfl⟩
    go_wp2_with fail
    refine (C2.out _).mono ?_
    rintro e w1 ⟨rfl, rfl⟩
    go_wp2_with fail
    go_ret
    exact ⟨rfl, HG.out _⟩
  cases b3
  · go_enter Tryz.func27, Tryz.ntmps27
    go_wp2_with fail
    refine (C0.out _).mono ?_
    rintro e w1 ⟨rfl, rfl⟩
    go_wp2_with fail
    refine (C1.out _).mono ?_
    rintro e w1 ⟨rfl, rfl⟩
    go_wp2_with fail
    refine (C2.out _).mono ?_
    rintro e w1 ⟨rfl, rfl⟩
    go_wp2_with fail
    refine (C3.out _).mono ?_
    rintro e w1 ⟨rfl, rfl⟩
    go_wp2_with fail
    go_ret
    exact ⟨rfl, HG.out _⟩
  go_enter Tryz.func27, Tryz.ntmps27
  go_wp2_with fail
  refine (C0.out _).mono ?_
  rintro e w1 ⟨rfl, rfl⟩
  go_wp2_with fail
  refine (C1.out _).mono ?_
  rintro e w1 ⟨rfl, rfl⟩
  go_wp2_with fail
  refine (C2.out _).mono ?_
  rintro e w1 ⟨rfl, rfl⟩
  go_wp2_with fail
  refine (C3.out _).mono ?_
  rintro e w1 ⟨rfl, rfl⟩
  go_wp2_with fail
  go_ret
  exact ⟨rfl, HG.out _⟩

def nums13 (m : MsgT) : List Int := [m.kind, m.frm, m.to, m.part, m.term, m.index, m.logTerm, m.commit, m.ses, m.seq, m.pos, m.shard, m.err]
def numV (m : MsgT) : Value := .agg ((nums13 m).map (Value.int .i64)).toArray

set_option maxHeartbeats 1000000 in
theorem numbers_ok (v : Value) (m : MsgT) (w : World) (hv : MsgAt w v m) : Calls Tryz.prog 32 #[v] w fun e w' => e = .returned (numV m) ∧ Gr w w' := by
  obtain ⟨eA, eC, rA, rC, wA, wC, kA, kC, gA, gC, rfl, _⟩ := hv.open_
  clear hv
  show Calls _ _ #[.agg #[.int .i64 m.kind, .int .i64 m.frm, .int .i64 m.to, .int .i64 m.part, .int .i64 m.term, .int .i64 m.index, .int .i64 m.logTerm, .int .i64 m.commit, .bool m.ok, .slice eA m.entries.length eC, .int .i64 m.t.ses, .int .i64 m.t.seq, .slice rA m.t.reads.length rC, .slice wA m.t.writes.length wC, .int .i64 m.ses, .int .i64 m.seq, .int .i64 m.pos, .int .i64 m.shard, .bool m.span, .string m.fromKey, .string m.toKey, .slice kA m.keys.length kC, .slice gA m.got.length gC, .int .i64 m.err]] _ _
  go_enter Tryz.func32, Tryz.ntmps32
  go_wp2_with fail
  exact bodyPost_ret (results_cell_row rfl _ _ (w.heap.size + 1) 64 _ _ _ rfl (heap_alloc2_new _ _ _) Tryz.underlying64 rfl (by kernel_rfl)) rfl ⟨rfl, (((Gr.refl w).alloc _).alloc _)⟩

end Go.Proofs.YtpabppoohobjpaaGreat

/-
  msg's mayNumbers by its contract.
-/
namespace Go.Proofs.YtpabppoohobjpaaGreat
open Go Go.RowKit TxnMath KeyMath MsgMath
set_option maxRecDepth 100000

/-- a struct or an array -/
def aggD : TypeDesc → Bool
  | .struct _ => true
  | .array _ _ => true
  | _ => false
/-- an array's element -/
theorem run_index_arr {P : Program} (t e : TypeId) (n : Nat) (cs : Array Value) (kd : IntKind) (k : Nat) (z : Value) (h : P.underlying t = some (.array n e)) (hk : k < n) (hz : cs[k]? = some z) (hc : P.cellsOf e = 1) {ie : TypeInfo} (hi : P.info? e = some ie) (d : TypeDesc) (hu : P.underlying e = some d) (hd : aggD d = false) (w : World) :
    (Instr.index t (.agg cs) (.int kd (k : Int))).run P w = .ok z w := by
  have hn : (0 ≤ (k : Int) ∧ (k : Int) < (n : Int)) := by omega
  have e2 : (sizeOf e).run P w = .ok 1 w := by rw [run_sizeOf w hi, hc]
  have e3 : (isAgg e).run P w = .ok false w := by
    simp only [isAgg, Sem.run_bind, run_underlying hu, Result.andThen_ok]
    rw [← hd]
    cases d <;> rfl
  simp [Instr.index, run_underlying h, asIntOf, hk, e2, e3, hz, Nat.mul_one, go_sem]

set_option maxHeartbeats 1000000 in
theorem mayNumbers_ok (v : Value) (m : MsgT) (w : World) (hv : MsgAt w v m) : Calls Tryz.prog 47 #[v] w fun e w' => e = .returned (.bool ((nums13 m).all okN)) ∧ Gr w w' := by
  have HC := hide (fun w' (h : Gr w w') => numbers_ok v m w' (MsgX.gr hv h))
  obtain ⟨eA, eC, rA, rC, wA, wC, kA, kC, gA, gC, rfl, _⟩ := hv.open_
  clear hv
  have hl : (nums13 m).length = 13 := rfl
  have hix := hide (fun k (hk : k < (nums13 m).length) => (show ((nums13 m).map (Value.int .i64)).toArray[k]? = some (.int .i64 (nums13 m)[k]) by rw [List.getElem?_toArray, List.getElem?_map, List.getElem?_eq_getElem hk]; rfl))
  change Hid (∀ w', Gr w w' → Calls _ _ #[.agg #[.int .i64 m.kind, .int .i64 m.frm, .int .i64 m.to, .int .i64 m.part, .int .i64 m.term, .int .i64 m.index, .int .i64 m.logTerm, .int .i64 m.commit, .bool m.ok, .slice eA m.entries.length eC, .int .i64 m.t.ses, .int .i64 m.t.seq, .slice rA m.t.reads.length rC, .slice wA m.t.writes.length wC, .int .i64 m.ses, .int .i64 m.seq, .int .i64 m.pos, .int .i64 m.shard, .bool m.span, .string m.fromKey, .string m.toKey, .slice kA m.keys.length kC, .slice gA m.got.length gC, .int .i64 m.err]] _ (fun e w'' => e = .returned (.agg ((nums13 m).map (Value.int .i64)).toArray) ∧ Gr w' w'')) at HC
  show Calls _ _ #[.agg #[.int .i64 m.kind, .int .i64 m.frm, .int .i64 m.to, .int .i64 m.part, .int .i64 m.term, .int .i64 m.index, .int .i64 m.logTerm, .int .i64 m.commit, .bool m.ok, .slice eA m.entries.length eC, .int .i64 m.t.ses, .int .i64 m.t.seq, .slice rA m.t.reads.length rC, .slice wA m.t.writes.length wC, .int .i64 m.ses, .int .i64 m.seq, .int .i64 m.pos, .int .i64 m.shard, .bool m.span, .string m.fromKey, .string m.toKey, .slice kA m.keys.length kC, .slice gA m.got.length gC, .int .i64 m.err]] _ _
  generalize nums13 m = xs at HC hl hix ⊢
  have HL := hide hl
  obtain ⟨vs, hvs⟩ : ∃ vs : Array Value, (xs.map (Value.int .i64)).toArray = vs := ⟨_, rfl⟩
  rw [hvs] at HC
  simp only [hvs] at hix
  have HVS := hide hvs
  clear hvs hl
  obtain ⟨b, hb⟩ : ∃ b, xs.all okN = b := ⟨_, rfl⟩
  have HB := hide hb
  rw [hb]
  clear hb
  --A
  go_enter Tryz.func47, Tryz.ntmps47
  go_wp2_with (refine wpList_load_row rfl 31 (.tmp 1) (by with_reducible rfl) w.heap.size rfl 31 _ (0, 0) _ (heap_alloc_new w _) Tryz.underlying31 rfl (by kernel_rfl) ?_)
  refine (HC.out _ ((Gr.refl w).alloc _)).mono ?_
  rintro e w1 ⟨rfl, hg⟩
  have hgw := ((Gr.refl w).alloc _).trans hg
  clear hg HC
  go_wp2_with fail
  go_loopw [7] (fun i wr => ∃ k : Nat, i = .int .i64 k ∧ k ≤ 13 ∧ Hid (∀ j (hj : j < xs.length), j < k → okN xs[j] = true) ∧ Gr w wr) (fun i _ => 13 - (intOf i).toNat)
  case atStart => exact ⟨0, rfl, by omega, fun j hj hk => absurd hk (by omega), hgw⟩
  case round =>
    obtain ⟨k, rfl, hk, hso, hgr⟩ := hrel
    by_cases hlt : k < 13
    · have hlt' : (k : Int) < 13 := by omega
      have hkx : k < xs.length := by rw [HL.out]; exact hlt
      have hno := hide (all_false (p := okN) hkx)
      have hyes := hide (all_more hso.out hkx)
      have hat := hix.out k hkx
      have HC := hide (fun w' => mayNumber_ok xs[k] w')
      generalize xs[k] = z at hat hno hyes HC
      clear hso
      clear hkx
      generalize okN z = q at HC hno hyes
      have hrun : ∀ w', (Instr.index 64 (.agg vs) (.int .i64 (k : Int))).run Tryz.prog w' = .ok (.int .i64 z) w' := run_index_arr _ _ 13 vs .i64 k _ Tryz.underlying64 hlt hat (by kernel_rfl) (ie := (Tryz.prog.info? 3).get (by kernel_rfl)) (by kernel_rfl) _ Tryz.underlying3 rfl
      clear hat
      go_wp2_with fail
      refine (HC.out _).mono ?_
      rintro e w3 ⟨rfl, rfl⟩
      clear hrun HC
      cases q
      · have E := hide (HB.out.symm.trans (hno.out rfl))
        clear hno hyes
        go_wp2_with fail
        go_ret
        exact ⟨by rw [E.out]; rfl, hgr⟩
      · replace hyes := hide (hyes.out rfl)
        clear hno
        go_wp2_with fail
        go_roundw
        case rel => exact ⟨k + 1, by go_num, by omega, hyes, hgr⟩
        case measure => simp [intOf]; omega
    · obtain rfl : k = 13 := by omega
      have E := hide (HB.out.symm.trans (all_done (by rw [HL.out]; exact Nat.le_refl _) hso.out))
      clear hso
      go_wp2_with fail
      go_ret
      exact ⟨by rw [E.out]; rfl, hgr⟩

end Go.Proofs.YtpabppoohobjpaaGreat

/-
  msg's mayBody by its contract: a chain of '&&', walked once.
-/
namespace Go.Proofs.YtpabppoohobjpaaGreat
open Go Go.RowKit TxnMath KeyMath MsgMath
set_option maxRecDepth 100000

/-- slices that read so -/
abbrev EnK (l : List EntT) : Grow.Known := fun v w => (∃ A c, v = .slice A l.length c) ∧ EntsX Any w v l
theorem EnK.stays (l : List EntT) : Grow.Stays (EnK l) := fun _ _ _ ⟨h1, h2⟩ hg => ⟨h1, h2.gr hg⟩
abbrev KsK (l : List ByteArray) : Grow.Known := fun v w => (∃ A c, v = .slice A l.length c) ∧ RowAt 1 w v (l.map strC)
theorem KsK.stays (l : List ByteArray) : Grow.Stays (KsK l) := fun _ _ _ ⟨h1, h2⟩ hg => ⟨h1, h2.gr hg⟩
abbrev GsK (l : List RdT) : Grow.Known := fun v w => (∃ A c, v = .slice A l.length c) ∧ RowAt 4 w v (l.map rdC)
theorem GsK.stays (l : List RdT) : Grow.Stays (GsK l) := fun _ _ _ ⟨h1, h2⟩ hg => ⟨h1, h2.gr hg⟩
abbrev TxK (t : TxT) : Grow.Known := fun v w => TxAt w v t
theorem TxAt.gr_ {w w' : World} {v : Value} {t : TxT} (h : TxAt w v t) (hg : Gr w w') : TxAt w' v t := by
  obtain ⟨a, b, e, h1, h2⟩ := h
  exact ⟨a, b, e, h1.gr hg, h2.gr hg⟩
theorem TxK.stays (t : TxT) : Grow.Stays (TxK t) := fun _ _ _ h hg => TxAt.gr_ h hg

/-- what mayBody answers -/
def bodyB (m : MsgT) : Bool :=
  (nums13 m).all okN && decide (m.shard < 3) && decide (m.err ≤ 6) && decide ((m.entries.length : Int) ≤ 4) && m.entries.all entB && (!(m.kind == 5) || mayT m.t) && decide ((m.fromKey.size : Int) ≤ 8) && decide ((m.toKey.size : Int) ≤ 8) &&
    decide ((m.keys.length : Int) ≤ 6) && risingK m.keys && decide ((m.got.length : Int) ≤ 64) && m.got.all rdB && risingK (m.got.map (·.key))

set_option maxHeartbeats 4000000 in
theorem mayBody_ok (v : Value) (m : MsgT) (w : World) (hv : MsgAt w v m) (hb : MsgBnd m) : Calls Tryz.prog 28 #[v] w fun e w' => e = .returned (.bool (bodyB m)) ∧ Gr w w' := by
  have C0 := hide (fun w' (h : Gr w w') => mayNumbers_ok v m w' (MsgX.gr hv h))
  obtain ⟨eA, eC, rA, rC, wA, wC, kA, kC, gA, gC, rfl, hE, hT, hK, hG⟩ := hv.open_
  clear hv
  have C1 := hide (fun v w' (h : EntsX Any w' v m.entries) => eachEntry_ok v m.entries w' h hb.en hb.ent)
  have C2 := hide (fun v w' (h : TxAt w' v m.t) => TxMayB_ok v m.t w' h hb.t)
  have C3 := hide (show ∀ v w', KsK m.keys v w' → Calls Tryz.prog 51 #[v] w' fun e w'' => e = .returned (.bool (risingK m.keys)) ∧ Gr w' w'' from fun v w' h => by
    obtain ⟨⟨A, c, rfl⟩, h2⟩ := h
    exact mgRising_ok A m.keys.length c m.keys rfl w' (strW_of h2).2 hb.ks (by have := hb.kn; omega))
  have C4 := hide (fun v w' (h : RowAt 4 w' v (m.got.map rdC)) => eachRead_ok v m.got w' h hb.gn)
  have HS := hide (fun (s : ByteArray) (hs : s ∈ m.got.map (·.key)) => (show s.size ≤ maxLen by obtain ⟨x, hx, rfl⟩ := List.mem_map.1 hs; have := hb.gk x hx; unfold maxLen; omega))
  have C5 := hide (show ∀ v w', RowAt 4 w' v (m.got.map rdC) → Calls Tryz.prog 54 #[v] w' fun e w'' => ∃ u, e = .returned u ∧ Gr w' w'' ∧ KsK (m.got.map (·.key)) u w'' from fun v w' h => by
    refine (keysOf_ok v m.got w' h hb.gn).mono ?_
    rintro e w1 ⟨u, he, ho, hg⟩
    refine ⟨u, he, hg, ?_⟩
    obtain ⟨A, c, e2, hle, hrd⟩ := OwnV.is ho
    simp only [List.length_map] at e2 hle hrd
    refine ⟨⟨A, c, by rw [e2, List.length_map]⟩, A, c, by rw [e2]; simp, by simpa using hle, fun j i r x hj hi => ?_⟩
    rw [List.getElem?_map] at hj
    obtain ⟨s, hs, rfl⟩ := Option.map_eq_some_iff.1 hj
    obtain ⟨hj', rfl⟩ := List.getElem?_eq_some_iff.1 hs
    rcases i with _ | i
    · simp [strC] at hi
      subst hi
      rw [List.length_map] at hj'
      obtain ⟨ad, e3, e4⟩ := hrd j hj'
      exact ⟨ad, e3, by simpa using e4⟩
    · simp [strC] at hi)
  have C6 := hide (show ∀ v w', KsK (m.got.map (·.key)) v w' → Calls Tryz.prog 51 #[v] w' fun e w'' => e = .returned (.bool (risingK (m.got.map (·.key)))) ∧ Gr w' w'' from fun v w' h => by
    obtain ⟨⟨A, c, rfl⟩, h2⟩ := h
    exact mgRising_ok A (m.got.map (·.key)).length c (m.got.map (·.key)) rfl w' (strW_of h2).2 (fun s hs => by obtain ⟨x, hx, rfl⟩ := List.mem_map.1 hs; exact hb.gk x hx) (by have := hb.gn; rw [List.length_map]; omega))
  unfold bodyB
  generalize (nums13 m).all okN = b0 at C0 ⊢
  generalize m.entries.all entB = b1 at C1 ⊢
  generalize mayT m.t = b2 at C2 ⊢
  generalize risingK m.keys = b3 at C3 ⊢
  generalize m.got.all rdB = b4 at C4 ⊢
  generalize risingK (m.got.map (·.key)) = b5 at C6 ⊢
  clear hb HS
  go_enter Tryz.func28, Tryz.ntmps28
  go_upto_region 1 with (fail)
  obtain ⟨W, hW⟩ : ∃ W, w.alloc (.cells (cellsV m eA eC rA rC wA wC kA kC gA gC) 31) = W := ⟨_, rfl⟩
  have hgW : Gr w W := by rw [← hW]; exact (Gr.refl _).alloc _
  have hbW : Bl W w.heap.size 31 (cellsV m eA eC rA rC wA wC kA kC gA gC) := by rw [← hW]; exact Bl.new _ _ _
  change (Code.region 1 _ false).wp _ _ _ (w.alloc (.cells (cellsV m eA eC rA rC wA wC kA kC gA gC) 31))
  rw [hW]
  clear hW
  refine Grow.wp_region_text 76 [3, 4, 5, 6, 7, 8, 9, 10, 11, 12, 13, 14, 15, 16, 17, 18, 19, 20, 21, 22, 23, 24, 25, 26, 27, 28, 29, 30, 31, 32, 33, 34, 35, 36, 37, 38, 39, 40, 41, 42, 43, 44, 45, 46, 47, 48, 49, 50, 51, 52, 53, 54, 55, 56, 57, 58, 59, 60, 61, 62, 63, 64, 65, 66, 67, 68, 69, 70, 71, 72, 73, 74, 75, 2] rfl (by kernel_rfl) (by kernel_rfl) (Grow.Ahead.more (Grow.Ahead.none_ _ _) 1 (Grow.Bx.stays w.heap.size 31 (cellsV m eA eC rA rC wA wC kA kC gA gC)) ⟨rfl, hbW⟩) ?_
  refine Grow.grow_row rfl (.inl ⟨rfl, rfl⟩) rfl Tryz.underlying31 rfl (by kernel_rfl) ?_
  refine Grow.grow_call1 (Φ := Grow.Is (.bool b0)) rfl (.inl ⟨rfl, rfl⟩) Tryz.func47 (by kernel_rfl) (by kernel_rfl) (Ψ := Grow.Is (.agg (cellsV m eA eC rA rC wA wC kA kC gA gC))) rfl (Grow.Is.stays _) (fun v w' hg hv => by
    obtain rfl : v = _ := hv
    exact (C0.out w' (hgW.trans hg)).mono fun e w1 ⟨h1, h2⟩ => ⟨_, h1, h2, rfl⟩) ?_
  refine Grow.grow_mv (.inl rfl) (.inl ⟨rfl, rfl⟩) rfl ?_
  refine Grow.cd_field (j := 17) (u := .int .i64 m.shard) (Ψ := (Grow.Is (.int .i64 m.shard))) rfl (.inl ⟨2, 5, rfl, rfl, rfl, by decide⟩) (.inl rfl) (fun w => by kernel_rfl) rfl (Grow.Is.stays _) (fun _ _ => rfl) ?_
  refine Grow.cd_load rfl (fun w => by kernel_rfl) (.inl ⟨2, 5, rfl, rfl, rfl, by decide⟩) (.inr rfl) (Grow.Is.stays _) ?_
  refine Grow.cd_int (c := .bool (decide (m.shard < 3))) rfl (.inl ⟨2, 5, rfl, rfl, rfl, by decide⟩) (.inr rfl) (fun _ => rfl) (by rw [show binOp .lss _ _ _ = pure (.bool (decide (m.shard < 3))) from rfl]) ?_
  refine Grow.pick_and rfl rfl rfl (.inr rfl) ?_
  refine Grow.grow_mv (.inl rfl) (.inl ⟨rfl, rfl⟩) rfl ?_
  refine Grow.cd_field (j := 23) (u := .int .i64 m.err) (Ψ := (Grow.Is (.int .i64 m.err))) rfl (.inl ⟨7, 10, rfl, rfl, rfl, by decide⟩) (.inl rfl) (fun w => by kernel_rfl) rfl (Grow.Is.stays _) (fun _ _ => rfl) ?_
  refine Grow.cd_load rfl (fun w => by kernel_rfl) (.inl ⟨7, 10, rfl, rfl, rfl, by decide⟩) (.inr rfl) (Grow.Is.stays _) ?_
  refine Grow.cd_int (c := .bool (decide (m.err ≤ 6))) rfl (.inl ⟨7, 10, rfl, rfl, rfl, by decide⟩) (.inr rfl) (fun _ => rfl) (by rw [show binOp .leq _ _ _ = pure (.bool (decide (m.err ≤ 6))) from rfl]) ?_
  refine Grow.pick_and rfl rfl rfl (.inr rfl) ?_
  refine Grow.grow_mv (.inl rfl) (.inl ⟨rfl, rfl⟩) rfl ?_
  refine Grow.cd_field (j := 9) (u := .slice eA m.entries.length eC) (Ψ := (EnK m.entries)) rfl (.inl ⟨12, 15, rfl, rfl, rfl, by decide⟩) (.inl rfl) (fun w => by kernel_rfl) rfl (EnK.stays _) (fun w' hg => ⟨⟨_, _, rfl⟩, hE.gr (hgW.trans hg)⟩) ?_
  refine Grow.cd_load rfl (fun w => by kernel_rfl) (.inl ⟨12, 15, rfl, rfl, rfl, by decide⟩) (.inr rfl) (EnK.stays _) ?_
  refine Grow.cd_len_k (n := m.entries.length) rfl Tryz.underlying23 (.inl ⟨12, 15, rfl, rfl, rfl, by decide⟩) (.inr rfl) (fun v w h => h.1) ?_
  refine Grow.cd_int (c := .bool (decide ((m.entries.length : Int) ≤ 4))) rfl (.inl ⟨12, 15, rfl, rfl, rfl, by decide⟩) (.inr rfl) (fun _ => rfl) (by rw [show binOp .leq _ _ _ = pure (.bool (decide ((m.entries.length : Int) ≤ 4))) from rfl]) ?_
  refine Grow.pick_and rfl rfl rfl (.inr rfl) ?_
  refine Grow.grow_mv (.inl rfl) (.inl ⟨rfl, rfl⟩) rfl ?_
  refine Grow.cd_field (j := 9) (u := .slice eA m.entries.length eC) (Ψ := (EnK m.entries)) rfl (.inl ⟨18, 21, rfl, rfl, rfl, by decide⟩) (.inl rfl) (fun w => by kernel_rfl) rfl (EnK.stays _) (fun w' hg => ⟨⟨_, _, rfl⟩, hE.gr (hgW.trans hg)⟩) ?_
  refine Grow.cd_load rfl (fun w => by kernel_rfl) (.inl ⟨18, 21, rfl, rfl, rfl, by decide⟩) (.inr rfl) (EnK.stays _) ?_
  refine Grow.cd_call2 (Φ := Grow.Is (.bool b1)) rfl (.inl ⟨18, 21, rfl, rfl, rfl, by decide⟩) Tryz.func48 (by kernel_rfl) (by kernel_rfl) (Ψ' := Grow.Is (.func (.func 49) #[] #[])) (.inr rfl) (fun _ => rfl) (Grow.Is.stays _) (fun v u w' hg hv hu => by
    obtain rfl : u = _ := hu
    exact (C1.out v w' hv.2).mono fun e w1 ⟨h1, h2⟩ => ⟨_, h1, h2, rfl⟩) ?_
  refine Grow.pick_and rfl rfl rfl (.inr rfl) ?_
  refine Grow.grow_mv (.inl rfl) (.inl ⟨rfl, rfl⟩) rfl ?_
  refine Grow.cd_field (j := 0) (u := .int .i64 m.kind) (Ψ := (Grow.Is (.int .i64 m.kind))) rfl (.inl ⟨23, 26, rfl, rfl, rfl, by decide⟩) (.inl rfl) (fun w => by kernel_rfl) rfl (Grow.Is.stays _) (fun _ _ => rfl) ?_
  refine Grow.cd_load rfl (fun w => by kernel_rfl) (.inl ⟨23, 26, rfl, rfl, rfl, by decide⟩) (.inr rfl) (Grow.Is.stays _) ?_
  refine Grow.cd_int (c := .bool (!(m.kind == 5))) rfl (.inl ⟨23, 26, rfl, rfl, rfl, by decide⟩) (.inr rfl) (fun _ => rfl) (by rw [show binOp .neq _ _ _ = pure (.bool (!(m.kind == 5))) from rfl]) ?_
  refine Grow.cd_mv (.inl rfl) (.inl ⟨23, 26, rfl, rfl, rfl, by decide⟩) (.inr rfl) (Grow.Is.stays _) ?_
  refine Grow.cd_field_s (j := 10) rfl (.inr ⟨27, 30, _, _, rfl, rfl, rfl, by decide, rfl⟩) (.inl rfl) (fun w => by kernel_rfl) ?_
  refine Grow.cd_load_s (Ψ := TxK m.t) [.int .i64 m.t.ses, .int .i64 m.t.seq, .slice rA m.t.reads.length rC, .slice wA m.t.writes.length wC] rfl (fun w => by kernel_rfl) (fun w => by kernel_rfl) (.inr ⟨27, 30, _, _, rfl, rfl, rfl, by decide, rfl⟩) (.inr rfl) rfl (fun k u hk => by
    rcases k with _ | _ | _ | _ | k <;> simp at hk <;> subst hk <;> rfl) (TxK.stays _) (fun w' hg => (hT.gr (hgW.trans hg)).txAt) ?_
  refine Grow.cd_call1 (Φ := Grow.Is (.bool b2)) rfl (.inr ⟨27, 30, _, _, rfl, rfl, rfl, by decide, rfl⟩) Tryz.func50 (by kernel_rfl) (by kernel_rfl) (.inr rfl) (Grow.Is.stays _) (fun v w' hg hv => (C2.out v w' hv).mono fun e w1 ⟨h1, h2⟩ => ⟨_, h1, h2, rfl⟩) ?_
  refine Grow.cd_pick_or rfl (.inl ⟨23, 26, rfl, rfl, rfl, by decide⟩) (.inr rfl) (.inr rfl) ?_
  refine Grow.pick_and rfl rfl rfl (.inr rfl) ?_
  refine Grow.grow_mv (.inl rfl) (.inl ⟨rfl, rfl⟩) rfl ?_
  refine Grow.cd_field (j := 19) (u := .string m.fromKey) (Ψ := (Grow.Is (.string m.fromKey))) rfl (.inl ⟨33, 36, rfl, rfl, rfl, by decide⟩) (.inl rfl) (fun w => by kernel_rfl) rfl (Grow.Is.stays _) (fun _ _ => rfl) ?_
  refine Grow.cd_load rfl (fun w => by kernel_rfl) (.inl ⟨33, 36, rfl, rfl, rfl, by decide⟩) (.inr rfl) (Grow.Is.stays _) ?_
  refine Grow.cd_len_str rfl Tryz.underlying9 (.inl ⟨33, 36, rfl, rfl, rfl, by decide⟩) (.inr rfl) ?_
  refine Grow.cd_int (c := .bool (decide ((m.fromKey.size : Int) ≤ 8))) rfl (.inl ⟨33, 36, rfl, rfl, rfl, by decide⟩) (.inr rfl) (fun _ => rfl) (by rw [show binOp .leq _ _ _ = pure (.bool (decide ((m.fromKey.size : Int) ≤ 8))) from rfl]) ?_
  refine Grow.pick_and rfl rfl rfl (.inr rfl) ?_
  refine Grow.grow_mv (.inl rfl) (.inl ⟨rfl, rfl⟩) rfl ?_
  refine Grow.cd_field (j := 20) (u := .string m.toKey) (Ψ := (Grow.Is (.string m.toKey))) rfl (.inl ⟨39, 42, rfl, rfl, rfl, by decide⟩) (.inl rfl) (fun w => by kernel_rfl) rfl (Grow.Is.stays _) (fun _ _ => rfl) ?_
  refine Grow.cd_load rfl (fun w => by kernel_rfl) (.inl ⟨39, 42, rfl, rfl, rfl, by decide⟩) (.inr rfl) (Grow.Is.stays _) ?_
  refine Grow.cd_len_str rfl Tryz.underlying9 (.inl ⟨39, 42, rfl, rfl, rfl, by decide⟩) (.inr rfl) ?_
  refine Grow.cd_int (c := .bool (decide ((m.toKey.size : Int) ≤ 8))) rfl (.inl ⟨39, 42, rfl, rfl, rfl, by decide⟩) (.inr rfl) (fun _ => rfl) (by rw [show binOp .leq _ _ _ = pure (.bool (decide ((m.toKey.size : Int) ≤ 8))) from rfl]) ?_
  refine Grow.pick_and rfl rfl rfl (.inr rfl) ?_
  refine Grow.grow_mv (.inl rfl) (.inl ⟨rfl, rfl⟩) rfl ?_
  refine Grow.cd_field (j := 21) (u := .slice kA m.keys.length kC) (Ψ := (KsK m.keys)) rfl (.inl ⟨45, 48, rfl, rfl, rfl, by decide⟩) (.inl rfl) (fun w => by kernel_rfl) rfl (KsK.stays _) (fun w' hg => ⟨⟨_, _, rfl⟩, hK.1.gr (hgW.trans hg)⟩) ?_
  refine Grow.cd_load rfl (fun w => by kernel_rfl) (.inl ⟨45, 48, rfl, rfl, rfl, by decide⟩) (.inr rfl) (KsK.stays _) ?_
  refine Grow.cd_len_k (n := m.keys.length) rfl Tryz.underlying28 (.inl ⟨45, 48, rfl, rfl, rfl, by decide⟩) (.inr rfl) (fun v w h => h.1) ?_
  refine Grow.cd_int (c := .bool (decide ((m.keys.length : Int) ≤ 6))) rfl (.inl ⟨45, 48, rfl, rfl, rfl, by decide⟩) (.inr rfl) (fun _ => rfl) (by rw [show binOp .leq _ _ _ = pure (.bool (decide ((m.keys.length : Int) ≤ 6))) from rfl]) ?_
  refine Grow.pick_and rfl rfl rfl (.inr rfl) ?_
  refine Grow.grow_mv (.inl rfl) (.inl ⟨rfl, rfl⟩) rfl ?_
  refine Grow.cd_field (j := 21) (u := .slice kA m.keys.length kC) (Ψ := (KsK m.keys)) rfl (.inl ⟨51, 54, rfl, rfl, rfl, by decide⟩) (.inl rfl) (fun w => by kernel_rfl) rfl (KsK.stays _) (fun w' hg => ⟨⟨_, _, rfl⟩, hK.1.gr (hgW.trans hg)⟩) ?_
  refine Grow.cd_load rfl (fun w => by kernel_rfl) (.inl ⟨51, 54, rfl, rfl, rfl, by decide⟩) (.inr rfl) (KsK.stays _) ?_
  refine Grow.cd_call1 (Φ := Grow.Is (.bool b3)) rfl (.inl ⟨51, 54, rfl, rfl, rfl, by decide⟩) Tryz.func51 (by kernel_rfl) (by kernel_rfl) (.inr rfl) (Grow.Is.stays _) (fun v w' hg hv => (C3.out v w' hv).mono fun e w1 ⟨h1, h2⟩ => ⟨_, h1, h2, rfl⟩) ?_
  refine Grow.pick_and rfl rfl rfl (.inr rfl) ?_
  refine Grow.grow_mv (.inl rfl) (.inl ⟨rfl, rfl⟩) rfl ?_
  refine Grow.cd_field (j := 22) (u := .slice gA m.got.length gC) (Ψ := (GsK m.got)) rfl (.inl ⟨56, 59, rfl, rfl, rfl, by decide⟩) (.inl rfl) (fun w => by kernel_rfl) rfl (GsK.stays _) (fun w' hg => ⟨⟨_, _, rfl⟩, hG.1.gr (hgW.trans hg)⟩) ?_
  refine Grow.cd_load rfl (fun w => by kernel_rfl) (.inl ⟨56, 59, rfl, rfl, rfl, by decide⟩) (.inr rfl) (GsK.stays _) ?_
  refine Grow.cd_len_k (n := m.got.length) rfl Tryz.underlying24 (.inl ⟨56, 59, rfl, rfl, rfl, by decide⟩) (.inr rfl) (fun v w h => h.1) ?_
  refine Grow.cd_int (c := .bool (decide ((m.got.length : Int) ≤ 64))) rfl (.inl ⟨56, 59, rfl, rfl, rfl, by decide⟩) (.inr rfl) (fun _ => rfl) (by rw [show binOp .leq _ _ _ = pure (.bool (decide ((m.got.length : Int) ≤ 64))) from rfl]) ?_
  refine Grow.pick_and rfl rfl rfl (.inr rfl) ?_
  refine Grow.grow_mv (.inl rfl) (.inl ⟨rfl, rfl⟩) rfl ?_
  refine Grow.cd_field (j := 22) (u := .slice gA m.got.length gC) (Ψ := (GsK m.got)) rfl (.inl ⟨62, 65, rfl, rfl, rfl, by decide⟩) (.inl rfl) (fun w => by kernel_rfl) rfl (GsK.stays _) (fun w' hg => ⟨⟨_, _, rfl⟩, hG.1.gr (hgW.trans hg)⟩) ?_
  refine Grow.cd_load rfl (fun w => by kernel_rfl) (.inl ⟨62, 65, rfl, rfl, rfl, by decide⟩) (.inr rfl) (GsK.stays _) ?_
  refine Grow.cd_call2 (Φ := Grow.Is (.bool b4)) rfl (.inl ⟨62, 65, rfl, rfl, rfl, by decide⟩) Tryz.func52 (by kernel_rfl) (by kernel_rfl) (Ψ' := Grow.Is (.func (.func 53) #[] #[])) (.inr rfl) (fun _ => rfl) (Grow.Is.stays _) (fun v u w' hg hv hu => by
    obtain rfl : u = _ := hu
    exact (C4.out v w' hv.2).mono fun e w1 ⟨h1, h2⟩ => ⟨_, h1, h2, rfl⟩) ?_
  refine Grow.pick_and rfl rfl rfl (.inr rfl) ?_
  refine Grow.grow_mv (.inl rfl) (.inl ⟨rfl, rfl⟩) rfl ?_
  refine Grow.cd_field (j := 22) (u := .slice gA m.got.length gC) (Ψ := (GsK m.got)) rfl (.inl ⟨67, 70, rfl, rfl, rfl, by decide⟩) (.inl rfl) (fun w => by kernel_rfl) rfl (GsK.stays _) (fun w' hg => ⟨⟨_, _, rfl⟩, hG.1.gr (hgW.trans hg)⟩) ?_
  refine Grow.cd_load rfl (fun w => by kernel_rfl) (.inl ⟨67, 70, rfl, rfl, rfl, by decide⟩) (.inr rfl) (GsK.stays _) ?_
  refine Grow.cd_call1 (Φ := KsK (m.got.map (·.key))) rfl (.inl ⟨67, 70, rfl, rfl, rfl, by decide⟩) Tryz.func54 (by kernel_rfl) (by kernel_rfl) (.inr rfl) (KsK.stays _) (fun v w' hg hv => (C5.out v w' hv.2).mono fun e w1 h => h) ?_
  refine Grow.cd_call1 (Φ := Grow.Is (.bool b5)) rfl (.inl ⟨67, 70, rfl, rfl, rfl, by decide⟩) Tryz.func51 (by kernel_rfl) (by kernel_rfl) (.inr rfl) (Grow.Is.stays _) (fun v w' hg hv => (C6.out v w' hv).mono fun e w1 ⟨h1, h2⟩ => ⟨_, h1, h2, rfl⟩) ?_
  refine Grow.pick_and rfl rfl rfl (.inr rfl) ?_
  refine Grow.grow_mv (.inr rfl) (.inl ⟨rfl, rfl⟩) rfl ?_
  intro a1 w1 hg hsz hdf hun hk
  have h2 := hk 2
  clear hk hun
  change a1.tmps.getD 2 undef = _ at h2
  have hgr := hgW.trans hg
  rw [Grow.lay_frame a1 76 hsz, hdf]
  simp only [List.range, List.range.loop, List.map_cons, List.map_nil, h2]
  go_wp2_with fail
  go_ret
  exact ⟨rfl, hgr⟩

end Go.Proofs.YtpabppoohobjpaaGreat

/-
  msg's Same by its contract: a chain of '&&' in whatever order, walked once.
-/
namespace Go.Proofs.YtpabppoohobjpaaGreat
open Go Go.RowKit TxnMath KeyMath MsgMath
set_option maxRecDepth 100000

theorem all_range_int : ∀ (xs ys : List Int), xs.length = ys.length → ((List.range xs.length).all fun i => xs.getD i 0 == ys.getD i 0) = (xs == ys)
  | [], [], _ => rfl
  | x :: xs, y :: ys, h => by
    have ih := all_range_int xs ys (by simpa using h)
    rw [List.length_cons, List.range_succ_eq_map, List.all_cons, List.all_map]
    simp only [List.getD_cons_zero, Function.comp_def, List.getD_cons_succ, ih]
    simp [List.cons_beq_cons]
  | [], _ :: _, h => by simp at h
  | _ :: _, [], h => by simp at h
/-- arrays of numbers are compared -/
theorem run_equalIn_ints {P : Program} (w : World) (d : Nat) (t e : TypeId) (n : Nat) (ht : P.underlying t = some (.array n e)) (he : P.underlying e = some (.int .i64)) (hsz : ∀ w, (sizeOf e).run P w = .ok 1 w)
    (xs ys : List Int) (hx : xs.length = n) (hy : ys.length = n) :
    (Op.equalIn (d + 2) t (.agg (xs.map (Value.int .i64)).toArray) (.agg (ys.map (Value.int .i64)).toArray)).run P w = .ok (xs == ys) w := by
  rw [← all_range_int xs ys (hx.trans hy.symm), hx, List.range_eq_range', Op.equalIn]
  simp only [Sem.run_bind, run_underlying ht, Result.andThen_ok, hsz, Std.Legacy.Range.forIn_eq_forIn_range', Std.Legacy.Range.size, Nat.sub_zero, Nat.add_sub_cancel, Nat.div_one]
  have hl : ∀ i ∈ List.range' 0 n 1, i < n := fun i hi => by simpa using (List.mem_range'_1.1 hi).2
  generalize List.range' 0 n 1 = l at hl ⊢
  induction l with
  | nil => simp
  | cons i l ih =>
    have hi : i < n := hl i (by simp)
    have px : (part e (xs.map (Value.int .i64)).toArray (i * 1)).run P w = .ok (.int .i64 (xs.getD i 0)) w := by
      simp [part, isAgg, run_underlying he, List.getD, List.getElem?_eq_getElem (show i < xs.length by omega)]
    have py : (part e (ys.map (Value.int .i64)).toArray (i * 1)).run P w = .ok (.int .i64 (ys.getD i 0)) w := by
      simp [part, isAgg, run_underlying he, List.getD, List.getElem?_eq_getElem (show i < ys.length by omega)]
    have pe : (Op.equalIn (d + 1) e (.int .i64 (xs.getD i 0)) (.int .i64 (ys.getD i 0))).run P w = .ok (xs.getD i 0 == ys.getD i 0) w := run_equalIn_int w d e .i64 .i64 _ _ he
    simp only [List.forIn_cons, Sem.run_bind, px, py, pe, Result.andThen_ok, List.all_cons]
    cases hb : (xs.getD i 0 == ys.getD i 0)
    · simp
    · simp only [Bool.not_true, Bool.false_eq_true, if_false, Sem.run_pure, Result.andThen_ok, Bool.true_and]
      exact ih fun j hj => hl j (by simp [hj])
theorem run_eql_ints {P : Program} (w : World) (t e : TypeId) (n : Nat) (ht : P.underlying t = some (.array n e)) (he : P.underlying e = some (.int .i64)) (hsz : ∀ w, (sizeOf e).run P w = .ok 1 w)
    (xs ys : List Int) (hx : xs.length = n) (hy : ys.length = n) :
    (binOp .eql t (.agg (xs.map (Value.int .i64)).toArray) (.agg (ys.map (Value.int .i64)).toArray)).run P w = .ok (.bool (decide (xs = ys))) w := by
  rw [run_eql_struct, run_equalIn_ints w 9998 t e n ht he hsz xs ys hx hy]
  have : (xs == ys) = decide (xs = ys) := by rw [Bool.eq_iff_iff]; simp
  rw [this]
  rfl

theorem same_all (a m : MsgT) : (decide (nums13 a = nums13 m) && (a.ok == m.ok) && (a.span == m.span) && decide (a.fromKey = m.fromKey) && decide (a.toKey = m.toKey) && decide (a.entries = m.entries) && decide (a.t = m.t) && decide (a.keys = m.keys) && decide (a.got = m.got)) = decide (a = m) := by
  rw [Bool.eq_iff_iff]
  simp only [Bool.and_eq_true, decide_eq_true_eq, beq_iff_eq]
  constructor
  · rintro ⟨⟨⟨⟨⟨⟨⟨⟨h1, h2⟩, h3⟩, h4⟩, h5⟩, h6⟩, h7⟩, h8⟩, h9⟩
    unfold nums13 at h1
    cases a
    cases m
    simp_all
  · rintro rfl
    simp

set_option maxHeartbeats 4000000 in
theorem MgSame_ok (v u : Value) (a m : MsgT) (w : World) (hv : MsgAt w v a) (hu : MsgAt w u m) (hb : MsgBnd a) (hc : MsgBnd m) : Calls Tryz.prog 13 #[v, u] w fun e w' => e = .returned (.bool (decide (a = m))) ∧ Gr w w' := by
  rw [← same_all]
  have C0 := hide (fun w' (h : Gr w w') => numbers_ok v a w' (MsgX.gr hv h))
  have D0 := hide (fun w' (h : Gr w w') => numbers_ok u m w' (MsgX.gr hu h))
  obtain ⟨eA, eC, rA, rC, wA, wC, kA, kC, gA, gC, rfl, hE, hT, hK, hG⟩ := hv.open_
  obtain ⟨fA, fC, sA, sC, xA, xC, lA, lC, hA, hC, rfl, iE, iT, iK, iG⟩ := hu.open_
  clear hv hu
  have C1 := hide (fun v u w' (h : EntsX Any w' v a.entries) (k : EntsX Any w' u m.entries) => EqualE_ok v u a.entries m.entries w' h k (by have := hb.en; omega) hb.ent hc.ent)
  have C2 := hide (fun v u w' (h : TxAt w' v a.t) (k : TxAt w' u m.t) => TxSameB_ok v u a.t m.t w' h k hb.t hc.t)
  have C3 := hide (fun v u w' (h : RowAt 1 w' v (a.keys.map strC)) (k : RowAt 1 w' u (m.keys.map strC)) => EqualS_ok v u a.keys m.keys w' h k (by have := hb.kn; omega))
  have C4 := hide (fun v u w' (h : RowAt 4 w' v (a.got.map rdC)) (k : RowAt 4 w' u (m.got.map rdC)) => EqualR_ok v u a.got m.got w' h k (by have := hb.gn; omega) (by have := hc.gn; omega))
  clear hb hc
  go_enter Tryz.func13, Tryz.ntmps13
  go_upto_region 1 with (fail)
  obtain ⟨W, hW⟩ : ∃ W, (w.alloc (.cells (cellsV a eA eC rA rC wA wC kA kC gA gC) 31)).alloc (.cells (cellsV m fA fC sA sC xA xC lA lC hA hC) 31) = W := ⟨_, rfl⟩
  have hgW : Gr w W := by rw [← hW]; exact ((Gr.refl _).alloc _).alloc _
  have hbW : Bl W w.heap.size 31 (cellsV a eA eC rA rC wA wC kA kC gA gC) := by rw [← hW]; exact (Bl.new _ _ _).gr ((Gr.refl _).alloc _)
  have hbV : Bl W (w.heap.size + 1) 31 (cellsV m fA fC sA sC xA xC lA lC hA hC) := by
    rw [← hW]
    have := Bl.new (w.alloc (.cells (cellsV a eA eC rA rC wA wC kA kC gA gC) 31)) 31 (cellsV m fA fC sA sC xA xC lA lC hA hC)
    simpa using this
  change (Code.region 1 _ true).wp _ _ _ ((w.alloc (.cells (cellsV a eA eC rA rC wA wC kA kC gA gC) 31)).alloc (.cells (cellsV m fA fC sA sC xA xC lA lC hA hC) 31))
  rw [hW]
  clear hW
  refine Grow.wp_region_grown 66 rfl (by kernel_rfl) (by kernel_rfl) (Grow.Ahead.more (Grow.Ahead.more (Grow.Ahead.none_ _ _) 2 (Grow.Bx.stays w.heap.size 31 (cellsV a eA eC rA rC wA wC kA kC gA gC)) ⟨rfl, hbW.drewN 1⟩) 3 (Grow.Bx.stays (w.heap.size + 1) 31 (cellsV m fA fC sA sC xA xC lA lC hA hC)) ⟨rfl, hbV.drewN 1⟩) ?_
  refine Grow.grow_row rfl (.inl ⟨rfl, rfl⟩) rfl Tryz.underlying31 rfl (by kernel_rfl) ?_
  refine Grow.grow_call1 (Φ := Grow.Is (numV a)) rfl (.inl ⟨rfl, rfl⟩) Tryz.func32 (by kernel_rfl) (by kernel_rfl) (Ψ := Grow.Is (.agg (cellsV a eA eC rA rC wA wC kA kC gA gC))) rfl (Grow.Is.stays _) (fun v w' hg hv => by
    obtain rfl : v = _ := hv
    exact (C0.out w' (hgW.trans ((Gr.refl W).drew.trans hg))).mono fun e w1 ⟨h1, h2⟩ => ⟨_, h1, h2, rfl⟩) ?_
  refine Grow.grow_row rfl (.inl ⟨rfl, rfl⟩) rfl Tryz.underlying31 rfl (by kernel_rfl) ?_
  refine Grow.grow_call1 (Φ := Grow.Is (numV m)) rfl (.inl ⟨rfl, rfl⟩) Tryz.func32 (by kernel_rfl) (by kernel_rfl) (Ψ := Grow.Is (.agg (cellsV m fA fC sA sC xA xC lA lC hA hC))) rfl (Grow.Is.stays _) (fun v w' hg hv => by
    obtain rfl : v = _ := hv
    exact (D0.out w' (hgW.trans ((Gr.refl W).drew.trans hg))).mono fun e w1 ⟨h1, h2⟩ => ⟨_, h1, h2, rfl⟩) ?_
  refine Grow.grow_bin (c := .bool (decide (nums13 a = nums13 m))) rfl (.inl ⟨rfl, rfl⟩) rfl rfl (fun w => by rw [Sem.run_bind, numV, numV, run_eqGuard_agg w _ _ _ _ _ _ (by kernel_rfl)]; exact run_eql_ints w _ _ 13 Tryz.underlying64 Tryz.underlying3 (fun w => by kernel_rfl) (nums13 a) (nums13 m) rfl rfl) ?_
  refine Grow.grow_mv (.inl rfl) (.inl ⟨rfl, rfl⟩) rfl ?_
  refine Grow.cd_field (j := 8) (u := .bool a.ok) (Ψ := (Grow.Is (.bool a.ok))) rfl (.inl ⟨5, 10, rfl, rfl, rfl, by decide⟩) (.inl rfl) (fun w => by kernel_rfl) rfl (Grow.Is.stays _) (fun _ _ => rfl) ?_
  refine Grow.cd_load rfl (fun w => by kernel_rfl) (.inl ⟨5, 10, rfl, rfl, rfl, by decide⟩) (.inr rfl) (Grow.Is.stays _) ?_
  refine Grow.cd_field (j := 8) (u := .bool m.ok) (Ψ := (Grow.Is (.bool m.ok))) rfl (.inl ⟨5, 10, rfl, rfl, rfl, by decide⟩) (.inl rfl) (fun w => by kernel_rfl) rfl (Grow.Is.stays _) (fun _ _ => rfl) ?_
  refine Grow.cd_load rfl (fun w => by kernel_rfl) (.inl ⟨5, 10, rfl, rfl, rfl, by decide⟩) (.inr rfl) (Grow.Is.stays _) ?_
  refine Grow.cd_bin (c := .bool (a.ok == m.ok)) rfl (.inl ⟨5, 10, rfl, rfl, rfl, by decide⟩) (.inr rfl) (.inr rfl) (fun w => Grow.run_with_guard (by simp) (by simp) (run_eql_bool w _ _ _ Tryz.underlying4)) ?_
  refine Grow.pick_and rfl rfl rfl (.inr rfl) ?_
  refine Grow.grow_mv (.inl rfl) (.inl ⟨rfl, rfl⟩) rfl ?_
  refine Grow.cd_field (j := 18) (u := .bool a.span) (Ψ := (Grow.Is (.bool a.span))) rfl (.inl ⟨12, 17, rfl, rfl, rfl, by decide⟩) (.inl rfl) (fun w => by kernel_rfl) rfl (Grow.Is.stays _) (fun _ _ => rfl) ?_
  refine Grow.cd_load rfl (fun w => by kernel_rfl) (.inl ⟨12, 17, rfl, rfl, rfl, by decide⟩) (.inr rfl) (Grow.Is.stays _) ?_
  refine Grow.cd_field (j := 18) (u := .bool m.span) (Ψ := (Grow.Is (.bool m.span))) rfl (.inl ⟨12, 17, rfl, rfl, rfl, by decide⟩) (.inl rfl) (fun w => by kernel_rfl) rfl (Grow.Is.stays _) (fun _ _ => rfl) ?_
  refine Grow.cd_load rfl (fun w => by kernel_rfl) (.inl ⟨12, 17, rfl, rfl, rfl, by decide⟩) (.inr rfl) (Grow.Is.stays _) ?_
  refine Grow.cd_bin (c := .bool (a.span == m.span)) rfl (.inl ⟨12, 17, rfl, rfl, rfl, by decide⟩) (.inr rfl) (.inr rfl) (fun w => Grow.run_with_guard (by simp) (by simp) (run_eql_bool w _ _ _ Tryz.underlying4)) ?_
  refine Grow.pick_and rfl rfl rfl (.inr rfl) ?_
  refine Grow.grow_mv (.inl rfl) (.inl ⟨rfl, rfl⟩) rfl ?_
  refine Grow.cd_field (j := 19) (u := .string a.fromKey) (Ψ := (Grow.Is (.string a.fromKey))) rfl (.inl ⟨19, 24, rfl, rfl, rfl, by decide⟩) (.inl rfl) (fun w => by kernel_rfl) rfl (Grow.Is.stays _) (fun _ _ => rfl) ?_
  refine Grow.cd_load rfl (fun w => by kernel_rfl) (.inl ⟨19, 24, rfl, rfl, rfl, by decide⟩) (.inr rfl) (Grow.Is.stays _) ?_
  refine Grow.cd_field (j := 19) (u := .string m.fromKey) (Ψ := (Grow.Is (.string m.fromKey))) rfl (.inl ⟨19, 24, rfl, rfl, rfl, by decide⟩) (.inl rfl) (fun w => by kernel_rfl) rfl (Grow.Is.stays _) (fun _ _ => rfl) ?_
  refine Grow.cd_load rfl (fun w => by kernel_rfl) (.inl ⟨19, 24, rfl, rfl, rfl, by decide⟩) (.inr rfl) (Grow.Is.stays _) ?_
  refine Grow.cd_bin (c := .bool (decide (a.fromKey = m.fromKey))) rfl (.inl ⟨19, 24, rfl, rfl, rfl, by decide⟩) (.inr rfl) (.inr rfl) (fun w => Grow.run_with_guard (by simp) (by simp) (by rw [binOp_string_eql, Grow.str_eq]; rfl)) ?_
  refine Grow.pick_and rfl rfl rfl (.inr rfl) ?_
  refine Grow.grow_mv (.inl rfl) (.inl ⟨rfl, rfl⟩) rfl ?_
  refine Grow.cd_field (j := 20) (u := .string a.toKey) (Ψ := (Grow.Is (.string a.toKey))) rfl (.inl ⟨26, 31, rfl, rfl, rfl, by decide⟩) (.inl rfl) (fun w => by kernel_rfl) rfl (Grow.Is.stays _) (fun _ _ => rfl) ?_
  refine Grow.cd_load rfl (fun w => by kernel_rfl) (.inl ⟨26, 31, rfl, rfl, rfl, by decide⟩) (.inr rfl) (Grow.Is.stays _) ?_
  refine Grow.cd_field (j := 20) (u := .string m.toKey) (Ψ := (Grow.Is (.string m.toKey))) rfl (.inl ⟨26, 31, rfl, rfl, rfl, by decide⟩) (.inl rfl) (fun w => by kernel_rfl) rfl (Grow.Is.stays _) (fun _ _ => rfl) ?_
  refine Grow.cd_load rfl (fun w => by kernel_rfl) (.inl ⟨26, 31, rfl, rfl, rfl, by decide⟩) (.inr rfl) (Grow.Is.stays _) ?_
  refine Grow.cd_bin (c := .bool (decide (a.toKey = m.toKey))) rfl (.inl ⟨26, 31, rfl, rfl, rfl, by decide⟩) (.inr rfl) (.inr rfl) (fun w => Grow.run_with_guard (by simp) (by simp) (by rw [binOp_string_eql, Grow.str_eq]; rfl)) ?_
  refine Grow.pick_and rfl rfl rfl (.inr rfl) ?_
  refine Grow.grow_mv (.inl rfl) (.inl ⟨rfl, rfl⟩) rfl ?_
  refine Grow.cd_field (j := 9) (u := .slice eA a.entries.length eC) (Ψ := (EnK a.entries)) rfl (.inl ⟨33, 38, rfl, rfl, rfl, by decide⟩) (.inl rfl) (fun w => by kernel_rfl) rfl (EnK.stays _) (fun w' hg => ⟨⟨_, _, rfl⟩, hE.gr (hgW.trans ((Gr.refl W).drew.trans hg))⟩) ?_
  refine Grow.cd_load rfl (fun w => by kernel_rfl) (.inl ⟨33, 38, rfl, rfl, rfl, by decide⟩) (.inr rfl) (EnK.stays _) ?_
  refine Grow.cd_field (j := 9) (u := .slice fA m.entries.length fC) (Ψ := (EnK m.entries)) rfl (.inl ⟨33, 38, rfl, rfl, rfl, by decide⟩) (.inl rfl) (fun w => by kernel_rfl) rfl (EnK.stays _) (fun w' hg => ⟨⟨_, _, rfl⟩, iE.gr (hgW.trans ((Gr.refl W).drew.trans hg))⟩) ?_
  refine Grow.cd_load rfl (fun w => by kernel_rfl) (.inl ⟨33, 38, rfl, rfl, rfl, by decide⟩) (.inr rfl) (EnK.stays _) ?_
  refine Grow.cd_call3 (Φ := Grow.Is (.bool (decide (a.entries = m.entries)))) rfl (.inl ⟨33, 38, rfl, rfl, rfl, by decide⟩) Tryz.func33 (by kernel_rfl) (by kernel_rfl) (Ψ'' := Grow.Is (.func (.func 34) #[] #[])) (.inr rfl) (.inr rfl) (fun _ => rfl) (Grow.Is.stays _) (fun v u s w' hg hv hu hs => by
    obtain rfl : s = _ := hs
    exact (C1.out v u w' hv.2 hu.2).mono fun e w1 ⟨h1, h2⟩ => ⟨_, h1, h2, rfl⟩) ?_
  refine Grow.pick_and rfl rfl rfl (.inr rfl) ?_
  refine Grow.grow_mv (.inl rfl) (.inl ⟨rfl, rfl⟩) rfl ?_
  refine Grow.cd_field_s (j := 10) rfl (.inl ⟨40, 45, rfl, rfl, rfl, by decide⟩) (.inl rfl) (fun w => by kernel_rfl) ?_
  refine Grow.cd_load_s (Ψ := TxK a.t) [.int .i64 a.t.ses, .int .i64 a.t.seq, .slice rA a.t.reads.length rC, .slice wA a.t.writes.length wC] rfl (fun w => by kernel_rfl) (fun w => by kernel_rfl) (.inl ⟨40, 45, rfl, rfl, rfl, by decide⟩) (.inr rfl) rfl (fun k u hk => by
    rcases k with _ | _ | _ | _ | k <;> simp at hk <;> subst hk <;> rfl) (TxK.stays _) (fun w' hg => (hT.gr (hgW.trans ((Gr.refl W).drew.trans hg))).txAt) ?_
  refine Grow.cd_field_s (j := 10) rfl (.inl ⟨40, 45, rfl, rfl, rfl, by decide⟩) (.inl rfl) (fun w => by kernel_rfl) ?_
  refine Grow.cd_load_s (Ψ := TxK m.t) [.int .i64 m.t.ses, .int .i64 m.t.seq, .slice sA m.t.reads.length sC, .slice xA m.t.writes.length xC] rfl (fun w => by kernel_rfl) (fun w => by kernel_rfl) (.inl ⟨40, 45, rfl, rfl, rfl, by decide⟩) (.inr rfl) rfl (fun k u hk => by
    rcases k with _ | _ | _ | _ | k <;> simp at hk <;> subst hk <;> rfl) (TxK.stays _) (fun w' hg => (iT.gr (hgW.trans ((Gr.refl W).drew.trans hg))).txAt) ?_
  refine Grow.cd_call2 (Φ := Grow.Is (.bool (decide (a.t = m.t)))) rfl (.inl ⟨40, 45, rfl, rfl, rfl, by decide⟩) Tryz.func35 (by kernel_rfl) (by kernel_rfl) (.inr rfl) (.inr rfl) (Grow.Is.stays _) (fun v u w' hg hv hu => (C2.out v u w' hv hu).mono fun e w1 ⟨h1, h2⟩ => ⟨_, h1, h2, rfl⟩) ?_
  refine Grow.pick_and rfl rfl rfl (.inr rfl) ?_
  refine Grow.grow_mv (.inl rfl) (.inl ⟨rfl, rfl⟩) rfl ?_
  refine Grow.cd_field (j := 21) (u := .slice kA a.keys.length kC) (Ψ := (KsK a.keys)) rfl (.inl ⟨47, 52, rfl, rfl, rfl, by decide⟩) (.inl rfl) (fun w => by kernel_rfl) rfl (KsK.stays _) (fun w' hg => ⟨⟨_, _, rfl⟩, hK.1.gr (hgW.trans ((Gr.refl W).drew.trans hg))⟩) ?_
  refine Grow.cd_load rfl (fun w => by kernel_rfl) (.inl ⟨47, 52, rfl, rfl, rfl, by decide⟩) (.inr rfl) (KsK.stays _) ?_
  refine Grow.cd_field (j := 21) (u := .slice lA m.keys.length lC) (Ψ := (KsK m.keys)) rfl (.inl ⟨47, 52, rfl, rfl, rfl, by decide⟩) (.inl rfl) (fun w => by kernel_rfl) rfl (KsK.stays _) (fun w' hg => ⟨⟨_, _, rfl⟩, iK.1.gr (hgW.trans ((Gr.refl W).drew.trans hg))⟩) ?_
  refine Grow.cd_load rfl (fun w => by kernel_rfl) (.inl ⟨47, 52, rfl, rfl, rfl, by decide⟩) (.inr rfl) (KsK.stays _) ?_
  refine Grow.cd_call2 (Φ := Grow.Is (.bool (decide (a.keys = m.keys)))) rfl (.inl ⟨47, 52, rfl, rfl, rfl, by decide⟩) Tryz.func36 (by kernel_rfl) (by kernel_rfl) (.inr rfl) (.inr rfl) (Grow.Is.stays _) (fun v u w' hg hv hu => (C3.out v u w' hv.2 hu.2).mono fun e w1 ⟨h1, h2⟩ => ⟨_, h1, h2, rfl⟩) ?_
  refine Grow.pick_and rfl rfl rfl (.inr rfl) ?_
  refine Grow.grow_mv (.inl rfl) (.inl ⟨rfl, rfl⟩) rfl ?_
  refine Grow.cd_field (j := 22) (u := .slice gA a.got.length gC) (Ψ := (GsK a.got)) rfl (.inl ⟨54, 59, rfl, rfl, rfl, by decide⟩) (.inl rfl) (fun w => by kernel_rfl) rfl (GsK.stays _) (fun w' hg => ⟨⟨_, _, rfl⟩, hG.1.gr (hgW.trans ((Gr.refl W).drew.trans hg))⟩) ?_
  refine Grow.cd_load rfl (fun w => by kernel_rfl) (.inl ⟨54, 59, rfl, rfl, rfl, by decide⟩) (.inr rfl) (GsK.stays _) ?_
  refine Grow.cd_field (j := 22) (u := .slice hA m.got.length hC) (Ψ := (GsK m.got)) rfl (.inl ⟨54, 59, rfl, rfl, rfl, by decide⟩) (.inl rfl) (fun w => by kernel_rfl) rfl (GsK.stays _) (fun w' hg => ⟨⟨_, _, rfl⟩, iG.1.gr (hgW.trans ((Gr.refl W).drew.trans hg))⟩) ?_
  refine Grow.cd_load rfl (fun w => by kernel_rfl) (.inl ⟨54, 59, rfl, rfl, rfl, by decide⟩) (.inr rfl) (GsK.stays _) ?_
  refine Grow.cd_call2 (Φ := Grow.Is (.bool (decide (a.got = m.got)))) rfl (.inl ⟨54, 59, rfl, rfl, rfl, by decide⟩) Tryz.func37 (by kernel_rfl) (by kernel_rfl) (.inr rfl) (.inr rfl) (Grow.Is.stays _) (fun v u w' hg hv hu => (C4.out v u w' hv.2 hu.2).mono fun e w1 ⟨h1, h2⟩ => ⟨_, h1, h2, rfl⟩) ?_
  refine Grow.pick_and rfl rfl rfl (.inr rfl) ?_
  refine Grow.grow_mv (.inr rfl) (.inl ⟨rfl, rfl⟩) rfl ?_
  intro a1 w1 hg hsz hdf hk
  have h2 := hk 4
  clear hk
  change a1.tmps.getD 4 undef = _ at h2
  have hgr := hgW.trans ((Gr.refl W).drew.trans hg)
  rw [Grow.lay_frame a1 66 hsz, hdf]
  simp only [List.range, List.range.loop, List.map_cons, List.map_nil, h2]
  go_wp2_with fail
  go_ret
  exact ⟨rfl, hgr⟩

end Go.Proofs.YtpabppoohobjpaaGreat
