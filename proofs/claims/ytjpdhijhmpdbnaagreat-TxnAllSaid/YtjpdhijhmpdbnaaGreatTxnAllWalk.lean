/-
  The walk of 'TxnAll'.
-/
import Derived.Test.YtjpdhijhmpdbnaaGreatTxnMade
import Derived.Test.YtjpdhijhmpdbnaaGreatTxnTake
import Derived.Test.YtjpdhijhmpdbnaaGreatBaseG
import Derived.Test.YtjpdhijhmpdbnaaGreatLent
import Derived.Deep.CutBlock
import Derived.Deep.DeepCutAuto
namespace Go.Proofs.YtjpdhijhmpdbnaaGreat
open Go Go.RowKit TxnMath KeyMath NumPlain TakeMath
set_option maxRecDepth 100000

theorem nats_stays (l : List Nat) : Grow.Stays (fun v w => NatsAt w v l) := fun _ _ _ h hg => h.gr hg
theorem size_ints : ∀ w, (sizeOf (Tryz.prog.elem 35)).run Tryz.prog w = .ok 1 w := fun w => by kernel_rfl
theorem may_lim {t : TxT} (h : mayT t = true) (hv : ∀ x ∈ t.reads, x.ver ≤ 9223372036854775807) : TxLim 1000000 t := by
  obtain ⟨h1, h2, h3, h4, h5, h6, h7, h8, h9, h10⟩ := mayT_parts h
  have hk := rising_may h9
  have hw := rising_may h10
  exact ⟨⟨by omega, by omega⟩, ⟨by omega, by omega⟩, by omega, by omega,
    fun x hx => ⟨by have := mayK_size (hk x.key (List.mem_map.2 ⟨x, hx, rfl⟩)); omega, by have := (rdOk_parts (h1 x hx)).2; omega, by have := (rdOk_parts (h1 x hx)).1; omega, hv x hx⟩,
    fun x hx => ⟨by have := mayK_size (hw x.key (List.mem_map.2 ⟨x, hx, rfl⟩)); omega, by have := wrOk_parts (h2 x hx); omega⟩⟩
theorem taken_lim (l : List UInt8) : TxLim 1000000 (takenT l) := by
  unfold takenT
  cases h : txOf l with
  | none => exact no_lim
  | some tr =>
    obtain ⟨t, r⟩ := tr
    obtain ⟨_, h2, h3⟩ := txOf_some h
    exact may_lim h2 h3
theorem NatsAt.at_ {w : World} {A : Option Addr} {n c : Nat} {l : List Nat} (h : NatsAt w (.slice A n c) l) {j : Nat} (hj : j < l.length) : ∃ ad, A = some ad ∧ w.cell? (ad.add j) = some (.int .i64 (l[j] : Int)) := by
  obtain ⟨A', c', e, h2⟩ := h
  simp at e
  obtain ⟨rfl, _, rfl⟩ := e
  exact h2 j hj
def AllYes (w : World) (e : Ending) (w' : World) : Prop := e = .returned (.bool true) ∧ Gr w w'

set_option maxRecDepth 100000 in
set_option maxHeartbeats 2000000 in
theorem walk_TxnAll (w : World) (A : Option Addr) (n c : Nat) (l : List UInt8) (hn : n = l.length) (hby : By w A c l) (v : Value) (t : TxT) (hv : TxAt w v t) (ht : TxLim reachBytes t) (s : Int) (hs : (Lit.int .i64 s).wf = true) (q : Int) (hq : (Lit.int .i64 q).wf = true)
    (B : Option Addr) (m d : Nat) (r : List UInt8) (hm : m = r.length) (hbr : By w B d r) :
    Calls Tryz.prog 3 #[.slice A n c, v, .int .i64 s, .int .i64 q, .slice B m d] w (AllYes w) := by
  subst hn hm
  have HS := hide (i64_of hs)
  have HQ := hide (i64_of hq)
  clear hs hq
  have HBY := hide hby
  have HBR := hide hbr
  have HV := hide hv
  have HT := hide ht
  obtain ⟨ta, tb, tA, tn, tc, tB, tm, td, rfl⟩ := hv.shape
  clear hby hbr hv ht
  have hg0 := (Gr.refl w).alloc (.cells #[.int .i64 ta, .int .i64 tb, .slice tA tn tc, .slice tB tm td] 26)
  have HB0 := hide (Bl.new w 26 #[.int .i64 ta, .int .i64 tb, .slice tA tn tc, .slice tB tm td])
  have HBG := hide (begun_ok (w.alloc (.cells #[.int .i64 ta, .int .i64 tb, .slice tA tn tc, .slice tB tm td] 26)))
  obtain ⟨b, hb⟩ : ∃ b, lightT t = b := ⟨_, rfl⟩
  have HLI := hide (fun w' (h : Gr w w') => Light_ok _ t w' (HV.out.gr h) HT.out)
  rw [hb] at HLI
  by_cases h1 : (30 : Int) < (l.length : Int)
  · clear hb
    go_enter Tryz.func3, Tryz.ntmps3
    go_wp2_with fail
    refine HBG.out.mono ?_
    rintro e w1 ⟨rfl, hg1⟩
    go_wp2_with fail
    go_ret
    exact ⟨rfl, hg0.trans hg1⟩
  cases b
  · clear hb
    go_enter Tryz.func3, Tryz.ntmps3
    go_wp2_with fail
    refine HBG.out.mono ?_
    rintro e w1 ⟨rfl, hg1⟩
    obtain ⟨t0, t1, t2, t3⟩ := (HB0.out.gr hg1).four
    go_wp2_with fail
    refine (HLI.out _ (hg0.trans hg1)).mono ?_
    rintro e w2 ⟨rfl, hg2⟩
    go_wp2_with fail
    go_ret
    exact ⟨rfl, (hg0.trans hg1).trans hg2⟩
  have hlim60 := light_lim HT.out hb
  clear hb
  have hlim : TxLim 1000000 t := ⟨hlim60.ses, hlim60.seq, by have := hlim60.rn; omega, by have := hlim60.wn; omega, fun x hx => ⟨by have := (hlim60.rd x hx).key; omega, by have := (hlim60.rd x hx).val; omega, (hlim60.rd x hx).ver⟩, fun x hx => ⟨by have := (hlim60.wr x hx).key; omega, by have := (hlim60.wr x hx).val; omega⟩⟩
  have HLT := hide hlim
  clear hlim hlim60
  by_cases h2 : (100 : Int) < (r.length : Int)
  · go_enter Tryz.func3, Tryz.ntmps3
    go_wp2_with fail
    refine HBG.out.mono ?_
    rintro e w1 ⟨rfl, hg1⟩
    obtain ⟨t0, t1, t2, t3⟩ := (HB0.out.gr hg1).four
    go_wp2_with fail
    refine (HLI.out _ (hg0.trans hg1)).mono ?_
    rintro e w2 ⟨rfl, hg2⟩
    go_wp2_with fail
    go_ret
    exact ⟨rfl, (hg0.trans hg1).trans hg2⟩
  by_cases h3 : (100 : Int) < q
  · go_enter Tryz.func3, Tryz.ntmps3
    go_wp2_with fail
    refine HBG.out.mono ?_
    rintro e w1 ⟨rfl, hg1⟩
    obtain ⟨t0, t1, t2, t3⟩ := (HB0.out.gr hg1).four
    go_wp2_with fail
    refine (HLI.out _ (hg0.trans hg1)).mono ?_
    rintro e w2 ⟨rfl, hg2⟩
    go_wp2_with fail
    go_ret
    exact ⟨rfl, (hg0.trans hg1).trans hg2⟩
  go_enter Tryz.func3, Tryz.ntmps3
  go_wp2_with fail
  refine HBG.out.mono ?_
  rintro e w1 ⟨rfl, hg1⟩
  obtain ⟨t0, t1, t2, t3⟩ := (HB0.out.gr hg1).four
  go_wp2_with fail
  refine (HLI.out _ (hg0.trans hg1)).mono ?_
  rintro e w2 ⟨rfl, hg2⟩
  have hga := (hg0.trans hg1).trans hg2
  have HB2 := hide ((HB0.out.gr hg1).gr hg2)
  clear t0 t1 t2 t3 HBG HB0 hg0 hg1 hg2 HLI
  generalize w.heap.size = gT at HB2 ⊢
  go_wp2_with fail
  refine (Made_ok A c l w2 (HBY.out.gr hga)).mono ?_
  rintro e w3 ⟨rfl, hg3, hpk⟩
  go_wp2_with fail
  refine (Txn_ok w2.heap.size A c l 0 9 (by decide) (by omega) w3 hpk).mono ?_
  intro e w4 hp
  obtain ⟨ma, mb, mA, mn, mc, mB, mm, md, rfl, hmx, hb4⟩ := hp.made
  have hlm := txP_lim l 0 9 (by decide)
  clear hp hpk
  generalize (txP l 0 9).1 = u at hmx hlm
  have hg24 : Gr w2 w4 := hg3.fresh hb4 (Nat.le_refl _)
  have hg4 := hga.trans hg24
  have HLM := hide hlm
  have HMX := hide hmx
  obtain ⟨t0, t1, t2, t3⟩ := ((HB2.out.gr hg24).gr ((Gr.refl w4).alloc (.cells #[.int .i64 ma, .int .i64 mb, .slice mA mn mc, .slice mB mm md] 26))).four
  clear hlm hmx hg3 hb4 hga
  go_wp2_with fail
  clear t0 t1 t2 t3
  have hal : Gr w4 ((w4.alloc (.cells #[.int .i64 ma, .int .i64 mb, .slice mA mn mc, .slice mB mm md] 26)).alloc (.cells #[.int .i64 ta, .int .i64 tb, .slice tA tn tc, .slice tB tm td, .int .i64 ma, .int .i64 mb, .slice mA mn mc, .slice mB mm md] 26)) := ((Gr.refl _).alloc _).alloc _
  have hbb : Bl ((w4.alloc (.cells #[.int .i64 ma, .int .i64 mb, .slice mA mn mc, .slice mB mm md] 26)).alloc (.cells #[.int .i64 ta, .int .i64 tb, .slice tA tn tc, .slice tB tm td, .int .i64 ma, .int .i64 mb, .slice mA mn mc, .slice mB mm md] 26)) (w4.heap.size + 1) 26 #[.int .i64 ta, .int .i64 tb, .slice tA tn tc, .slice tB tm td, .int .i64 ma, .int .i64 mb, .slice mA mn mc, .slice mB mm md] := by
    have := Bl.new (w4.alloc (.cells #[.int .i64 ma, .int .i64 mb, .slice mA mn mc, .slice mB mm md] 26)) 26 #[.int .i64 ta, .int .i64 tb, .slice tA tn tc, .slice tB tm td, .int .i64 ma, .int .i64 mb, .slice mA mn mc, .slice mB mm md]
    rwa [show (w4.alloc (.cells #[.int .i64 ma, .int .i64 mb, .slice mA mn mc, .slice mB mm md] 26)).heap.size = w4.heap.size + 1 by simp] at this
  generalize ((w4.alloc (.cells #[.int .i64 ma, .int .i64 mb, .slice mA mn mc, .slice mB mm md] 26)).alloc (.cells #[.int .i64 ta, .int .i64 tb, .slice tA tn tc, .slice tB tm td, .int .i64 ma, .int .i64 mb, .slice mA mn mc, .slice mB mm md] 26)) = w6 at hal hbb ⊢
  generalize w4.heap.size + 1 = gB at hbb ⊢
  have hg6 := hg4.trans hal
  have HV6 := hide (HV.out.gr hg6)
  have HM6 := hide (HMX.out.gr hal)
  have HB6 := hide ((HB2.out.gr hg24).gr hal)
  have HBB := hide hbb
  clear hal hbb hg4 hg24 HMX HB2 HV
  have HPICK := hide (show ∀ j : Nat, j < 2 → ∃ ya yb yA yn yc yB ym yd y, ((#[.int .i64 ta, .int .i64 tb, .slice tA tn tc, .slice tB tm td, .int .i64 ma, .int .i64 mb, .slice mA mn mc, .slice mB mm md] : Array Value)[j * 4]? = some (.int .i64 ya) ∧ (#[.int .i64 ta, .int .i64 tb, .slice tA tn tc, .slice tB tm td, .int .i64 ma, .int .i64 mb, .slice mA mn mc, .slice mB mm md] : Array Value)[j * 4 + 1]? = some (.int .i64 yb) ∧ (#[.int .i64 ta, .int .i64 tb, .slice tA tn tc, .slice tB tm td, .int .i64 ma, .int .i64 mb, .slice mA mn mc, .slice mB mm md] : Array Value)[j * 4 + 2]? = some (.slice yA yn yc) ∧ (#[.int .i64 ta, .int .i64 tb, .slice tA tn tc, .slice tB tm td, .int .i64 ma, .int .i64 mb, .slice mA mn mc, .slice mB mm md] : Array Value)[j * 4 + 3]? = some (.slice yB ym yd)) ∧
      TxAt w6 (.agg #[.int .i64 ya, .int .i64 yb, .slice yA yn yc, .slice yB ym yd]) y ∧ TxLim 1000000 y from fun j hj => by
    match j, hj with
    | 0, _ => exact ⟨ta, tb, tA, tn, tc, tB, tm, td, t, ⟨rfl, rfl, rfl, rfl⟩, HV6.out, HLT.out⟩
    | 1, _ => exact ⟨ma, mb, mA, mn, mc, mB, mm, md, u, ⟨rfl, rfl, rfl, rfl⟩, HM6.out, HLM.out⟩)
  go_loopw [13] (fun i wr => ∃ j : Nat, i = .int .i64 j ∧ j ≤ 2 ∧ Gr w6 wr) (fun i _ => 2 - (intOf i).toNat)
  case atStart => exact ⟨0, rfl, by omega, Gr.refl _⟩
  case round =>
    obtain ⟨j, rfl, hj, hgr⟩ := hrel
    by_cases hlt : j < 2
    · have hlt' : (j : Int) < 2 := by omega
      obtain ⟨ya, yb, yA, yn, yc, yB, ym, yd, y, ⟨i0, i1, i2, i3⟩, hyt, hyl⟩ := HPICK.out j hlt
      have a0 : wr.cell? ⟨gB, j * 4, none⟩ = some (.int .i64 ya) := ((HBB.out.gr hgr).cell _).trans i0
      have a1 : wr.cell? ⟨gB, j * 4 + 1, none⟩ = some (.int .i64 yb) := ((HBB.out.gr hgr).cell _).trans i1
      have a2 : wr.cell? ⟨gB, j * 4 + 2, none⟩ = some (.slice yA yn yc) := ((HBB.out.gr hgr).cell _).trans i2
      have a3 : wr.cell? ⟨gB, j * 4 + 3, none⟩ = some (.slice yB ym yd) := ((HBB.out.gr hgr).cell _).trans i3
      have eadd : (⟨gB, 0, none⟩ : Addr).add (j * 4) = ⟨gB, j * 4, none⟩ := by unfold Addr.add; split <;> simp_all
      have HYT := hide hyt
      have HYL := hide hyl
      clear i0 i1 i2 i3 hyt hyl
      go_wp2_with fail
      have hg7 := (Gr.refl wr).alloc (.cells #[.int .i64 ya, .int .i64 yb, .slice yA yn yc, .slice yB ym yd] 26)
      have hX7 := Bl.new wr 26 #[.int .i64 ya, .int .i64 yb, .slice yA yn yc, .slice yB ym yd]
      generalize wr.alloc (.cells #[.int .i64 ya, .int .i64 yb, .slice yA yn yc, .slice yB ym yd] 26) = w7 at hg7 hX7 ⊢
      generalize wr.heap.size = gX at hX7 ⊢
      have hg67 := hgr.trans hg7
      have HX7 := hide hX7
      have HC1 := hide (fun w' (h : Gr w6 w') => TxMay_ok _ y w' (HYT.out.gr h) HYL.out)
      have HC2 := hide (fun w' (h : Gr w6 w') => RefMayTxn_ok _ y w' (HYT.out.gr h) HYL.out)
      have HC3 := hide (fun w' (h : Gr w6 w') => TxPut_ok _ y w' (HYT.out.gr h) HYL.out)
      have HC4 := hide (fun w' (h : Gr w6 w') => RefPutTxn_ok _ y w' (HYT.out.gr h) HYL.out)
      have HC5 := hide (fun w' (h : Gr w6 w') => TxSame_ok _ _ y t w' (HYT.out.gr h) (HV6.out.gr h) HYL.out HLT.out)
      have HC6 := hide (fun w' (h : Gr w6 w') => SameTxn_ok _ _ y t w' (HYT.out.gr h) (HV6.out.gr h) (by have := HYL.out.rn; omega) (by have := HLT.out.rn; omega) (by have := HLT.out.wn; omega))
      clear a0 a1 a2 a3 eadd hX7
      have hz : Gr w6 w7.drew := hg67.drewN 1
      refine Grow.wp_region_kept 190 [60, 61, 62, 63, 64, 65, 66, 67, 68, 69, 70, 71, 72, 73, 74, 75, 76, 77, 78, 79, 80, 81, 82] rfl (by kernel_rfl) (by kernel_rfl) (by kernel_rfl) (Grow.Ahead.more (Grow.Ahead.more (Grow.Ahead.none_ _ _) 6 (Grow.Bx.stays gT 26 #[.int .i64 ta, .int .i64 tb, .slice tA tn tc, .slice tB tm td]) ⟨rfl, (HB6.out.gr hg67).drewN 1⟩) 14 (Grow.Bx.stays gX 26 #[.int .i64 ya, .int .i64 yb, .slice yA yn yc, .slice yB ym yd]) ⟨rfl, HX7.out.drewN 1⟩) ?_
      refine Grow.grow_row rfl (.inl ⟨rfl, rfl⟩) rfl Tryz.underlying26 rfl (by kernel_rfl) ?_
      refine Grow.grow_call1 (Φ := Grow.Is (.bool (mayT y))) rfl (.inl ⟨rfl, rfl⟩) Tryz.func8 (by kernel_rfl) (by kernel_rfl) (Ψ := Grow.Is (.agg #[.int .i64 ya, .int .i64 yb, .slice yA yn yc, .slice yB ym yd])) rfl (Grow.Is.stays _) (fun v w' hg hv => by
        have hv' : v = .agg #[.int .i64 ya, .int .i64 yb, .slice yA yn yc, .slice yB ym yd] := hv
        rw [hv']
        exact (HC1.out w' (hz.trans hg)).mono fun e w'' ⟨he, hg2⟩ => ⟨_, he, hg2, rfl⟩) ?_
      refine Grow.grow_row rfl (.inl ⟨rfl, rfl⟩) rfl Tryz.underlying26 rfl (by kernel_rfl) ?_
      refine Grow.grow_call1 (Φ := Grow.Is (.bool (mayT y))) rfl (.inl ⟨rfl, rfl⟩) Tryz.func9 (by kernel_rfl) (by kernel_rfl) (Ψ := Grow.Is (.agg #[.int .i64 ya, .int .i64 yb, .slice yA yn yc, .slice yB ym yd])) rfl (Grow.Is.stays _) (fun v w' hg hv => by
        have hv' : v = .agg #[.int .i64 ya, .int .i64 yb, .slice yA yn yc, .slice yB ym yd] := hv
        rw [hv']
        exact (HC2.out w' (hz.trans hg)).mono fun e w'' ⟨he, hg2⟩ => ⟨_, he, hg2, rfl⟩) ?_
      refine Grow.grow_bool_alike rfl Tryz.underlying4 rfl (.inl ⟨rfl, rfl⟩) rfl rfl ?_
      refine Grow.grow_mv (.inl rfl) (.inl ⟨rfl, rfl⟩) rfl ?_
      refine Grow.grow_row rfl (.inr ⟨5, false, 65, rfl, rfl, rfl, by decide⟩) rfl Tryz.underlying26 rfl (by kernel_rfl) ?_
      refine Grow.grow_call1 (Φ := Grow.Sl (putTx y)) rfl (.inr ⟨5, false, 65, rfl, rfl, rfl, by decide⟩) Tryz.func10 (by kernel_rfl) (by kernel_rfl) (Ψ := Grow.Is (.agg #[.int .i64 ya, .int .i64 yb, .slice yA yn yc, .slice yB ym yd])) rfl (Grow.Sl.stays _) (fun v w' hg hv => by
        have hv' : v = .agg #[.int .i64 ya, .int .i64 yb, .slice yA yn yc, .slice yB ym yd] := hv
        rw [hv']
        exact (HC3.out w' (hz.trans hg)).mono fun e w'' ⟨A2, c2, he, hb, hg2⟩ => ⟨_, he, hg2, A2, c2, rfl, hb⟩) ?_
      refine Grow.grow_conv rfl (.inr ⟨5, false, 65, rfl, rfl, rfl, by decide⟩) rfl Tryz.underlying22 Tryz.underlying5 Tryz.underlying9 ?_
      refine Grow.grow_row rfl (.inr ⟨5, false, 65, rfl, rfl, rfl, by decide⟩) rfl Tryz.underlying26 rfl (by kernel_rfl) ?_
      refine Grow.grow_call1 (Φ := Grow.Sl (putTx y)) rfl (.inr ⟨5, false, 65, rfl, rfl, rfl, by decide⟩) Tryz.func11 (by kernel_rfl) (by kernel_rfl) (Ψ := Grow.Is (.agg #[.int .i64 ya, .int .i64 yb, .slice yA yn yc, .slice yB ym yd])) rfl (Grow.Sl.stays _) (fun v w' hg hv => by
        have hv' : v = .agg #[.int .i64 ya, .int .i64 yb, .slice yA yn yc, .slice yB ym yd] := hv
        rw [hv']
        exact (HC4.out w' (hz.trans hg)).mono fun e w'' ⟨y2, he, ho, hg2⟩ => by
          obtain ⟨A2, c2, rfl, hb⟩ := ho.by_
          exact ⟨_, he, hg2, A2, c2, rfl, hb⟩) ?_
      refine Grow.grow_conv rfl (.inr ⟨5, false, 65, rfl, rfl, rfl, by decide⟩) rfl Tryz.underlying22 Tryz.underlying5 Tryz.underlying9 ?_
      refine Grow.grow_str_alike rfl rfl (.inr ⟨5, false, 65, rfl, rfl, rfl, by decide⟩) rfl rfl ?_
      refine Grow.grow_pick_no rfl (.inl ⟨rfl, rfl⟩) rfl rfl (Grow.Is.stays _) ?_
      refine Grow.grow_mv (.inl rfl) (.inl ⟨rfl, rfl⟩) rfl ?_
      refine Grow.grow_row rfl (.inr ⟨14, false, 74, rfl, rfl, rfl, by decide⟩) rfl Tryz.underlying26 rfl (by kernel_rfl) ?_
      refine Grow.grow_row rfl (.inr ⟨14, false, 74, rfl, rfl, rfl, by decide⟩) rfl Tryz.underlying26 rfl (by kernel_rfl) ?_
      refine Grow.grow_call2 (Φ := Grow.Is (.bool (decide (y = t)))) rfl (.inr ⟨14, false, 74, rfl, rfl, rfl, by decide⟩) Tryz.func12 (by kernel_rfl) (by kernel_rfl) (Ψ := Grow.Is (.agg #[.int .i64 ya, .int .i64 yb, .slice yA yn yc, .slice yB ym yd])) (Ψ' := Grow.Is (.agg #[.int .i64 ta, .int .i64 tb, .slice tA tn tc, .slice tB tm td])) rfl rfl (Grow.Is.stays _) (fun v v' w' hg hv hv2 => by
        have h1 : v = .agg #[.int .i64 ya, .int .i64 yb, .slice yA yn yc, .slice yB ym yd] := hv
        have h2 : v' = .agg #[.int .i64 ta, .int .i64 tb, .slice tA tn tc, .slice tB tm td] := hv2
        rw [h1, h2]
        exact (HC5.out w' (hz.trans hg)).mono fun e w'' ⟨he, hg2⟩ => ⟨_, he, hg2, rfl⟩) ?_
      refine Grow.grow_row rfl (.inr ⟨14, false, 74, rfl, rfl, rfl, by decide⟩) rfl Tryz.underlying26 rfl (by kernel_rfl) ?_
      refine Grow.grow_row rfl (.inr ⟨14, false, 74, rfl, rfl, rfl, by decide⟩) rfl Tryz.underlying26 rfl (by kernel_rfl) ?_
      refine Grow.grow_call2 (Φ := Grow.Is (.bool (decide (y = t)))) rfl (.inr ⟨14, false, 74, rfl, rfl, rfl, by decide⟩) Tryz.func13 (by kernel_rfl) (by kernel_rfl) (Ψ := Grow.Is (.agg #[.int .i64 ya, .int .i64 yb, .slice yA yn yc, .slice yB ym yd])) (Ψ' := Grow.Is (.agg #[.int .i64 ta, .int .i64 tb, .slice tA tn tc, .slice tB tm td])) rfl rfl (Grow.Is.stays _) (fun v v' w' hg hv hv2 => by
        have h1 : v = .agg #[.int .i64 ya, .int .i64 yb, .slice yA yn yc, .slice yB ym yd] := hv
        have h2 : v' = .agg #[.int .i64 ta, .int .i64 tb, .slice tA tn tc, .slice tB tm td] := hv2
        rw [h1, h2]
        exact (HC6.out w' (hz.trans hg)).mono fun e w'' ⟨he, hg2⟩ => ⟨_, he, hg2, rfl⟩) ?_
      refine Grow.grow_bool_alike rfl Tryz.underlying4 rfl (.inr ⟨14, false, 74, rfl, rfl, rfl, by decide⟩) rfl rfl ?_
      refine Grow.grow_pick_no rfl (.inl ⟨rfl, rfl⟩) rfl rfl (Grow.Is.stays _) ?_
      intro a1 w8 hg8 hs1 hd1 hu1 hk1
      have h82 : a1.tmps.getD 82 undef = .bool false := hk1 82
      obtain ⟨X, hX, hlay⟩ := Grow.lay_kept_by _ a1 190 _ hs1 hd1 hu1
      rw [hX] at h82
      clear hX hu1 hd1 hs1 hk1 HC1 HC2 HC3 HC4 HC5 HC6
      subst hlay
      simp only [List.range, List.range.loop, List.map_cons, List.map_nil, List.contains_cons, List.contains_nil, Nat.reduceBEq, Bool.or_false, Bool.or_true, cond_false, cond_true, Array.getD_eq_getD_getElem?, List.getElem?_toArray, List.getElem?_cons_zero, List.getElem?_cons_succ, Option.getD_some, h82]
      clear h82
      have hg78 : Gr w7 w8 := ((Gr.refl w7).drewN 1).trans hg8
      have hg68 := hg67.trans hg78
      have HX8 := hide (HX7.out.gr hg78)
      clear hg8 hg67 hz HX7 hg7
      go_wp2_with fail
      have hg9 := (Gr.refl w8).alloc (.cells #[.int .i64 q, .int .i64 1, .int .i64 2, .int .i64 3] 3)
      have hN9 := Bl.new w8 3 #[.int .i64 q, .int .i64 1, .int .i64 2, .int .i64 3]
      generalize w8.alloc (.cells #[.int .i64 q, .int .i64 1, .int .i64 2, .int .i64 3] 3) = w9 at hg9 hN9 ⊢
      generalize w8.heap.size = gN at hN9 ⊢
      have hg69 := hg68.trans hg9
      have HX9 := hide (HX8.out.gr hg9)
      have HCL := hide (fun w' (h : Gr w9 w') => (show Grow.Cl ⟨gN, 0, none⟩ 4 4 [.int .i64 q, .int .i64 1, .int .i64 2, .int .i64 3] (.slice (some ⟨gN, 0, none⟩) 4 4) w' from ⟨rfl, rfl, fun j u hu => by
        have e : (⟨gN, 0, none⟩ : Addr).add j = ⟨gN, j, none⟩ := by unfold Addr.add; split <;> simp_all
        rw [e, (hN9.gr h).cell]
        simpa using hu⟩))
      clear hN9 hg9 hg78 HX8
      have HNS := hide (show ∀ z : Nat, z < 4 → ∃ nz : Int, ([.int .i64 q, .int .i64 1, .int .i64 2, .int .i64 3] : List Value)[z]? = some (.int .i64 nz) ∧ I64 nz ∧ nz ≤ 1000000 from fun z hz => by
        match z, hz with
        | 0, _ => exact ⟨q, rfl, HQ.out, by omega⟩
        | 1, _ => exact ⟨1, rfl, ⟨by decide, by decide⟩, by decide⟩
        | 2, _ => exact ⟨2, rfl, ⟨by decide, by decide⟩, by decide⟩
        | 3, _ => exact ⟨3, rfl, ⟨by decide, by decide⟩, by decide⟩)
      go_loopw [16] (fun i wz => ∃ z : Nat, i = .int .i64 z ∧ z ≤ 4 ∧ Gr w9 wz) (fun i _ => 4 - (intOf i).toNat)
      case atStart => exact ⟨0, rfl, by omega, Gr.refl _⟩
      case round =>
        obtain ⟨z, rfl, hz, hgz⟩ := hrel
        by_cases hlz : z < 4
        · have hlz' : (z : Int) < 4 := by omega
          obtain ⟨nz, hnz, hn64, hnm⟩ := HNS.out z hlz
          have HR1 := hide (fun w' (h : Gr w6 w') => TxReads_ok _ y nz w' (HYT.out.gr h) HYL.out hn64 hnm)
          have HR2 := hide (fun w' (h : Gr w6 w') => RefReads_ok _ y nz w' (HYT.out.gr h) HYL.out hn64 hnm)
          have HT1 := hide (fun s' (hs' : I64 s') w' (h : Gr w6 w') => TxTouches_ok _ y s' nz w' (HYT.out.gr h) HYL.out hs' hn64)
          have HT2 := hide (fun s' w' (h : Gr w6 w') => RefTouches_ok _ y s' nz w' (HYT.out.gr h) HYL.out hn64)
          have hg6z := hg69.trans hgz
          have HNZ := hide hnz
          have HNM := hide hnm
          clear hn64 hnm hnz
          go_wp2_with fail
          have hgz1 := hgz.drewN 1
          have hz6 : Gr w6 wr.drew := hg6z.drewN 1
          refine Grow.wp_region_kept 190 [89, 90, 91, 92, 93, 94, 95, 96, 97, 98, 99, 100, 17, 18] rfl (by kernel_rfl) (by kernel_rfl) (by kernel_rfl) (Grow.Ahead.more (Grow.Ahead.more (Grow.Ahead.more (Grow.Ahead.none_ _ _) 14 (Grow.Bx.stays gX 26 #[.int .i64 ya, .int .i64 yb, .slice yA yn yc, .slice yB ym yd]) ⟨rfl, (HX9.out.gr hgz).drewN 1⟩) 15 (Grow.Cl.stays ⟨gN, 0, none⟩ 4 4 [.int .i64 q, .int .i64 1, .int .i64 2, .int .i64 3]) (by exact HCL.out _ hgz1)) 16 (Grow.Is.stays (.int .i64 (z : Int))) rfl) ?_
          refine Grow.grow_row rfl (.inl ⟨rfl, rfl⟩) rfl Tryz.underlying26 rfl (by kernel_rfl) ?_
          refine Grow.grow_mvc (.inl rfl) (.inl ⟨rfl, rfl⟩) rfl ?_
          refine Grow.grow_mv (.inl rfl) (.inl ⟨rfl, rfl⟩) rfl ?_
          refine Grow.grow_index z rfl Tryz.underlying35 size_ints (.inl ⟨rfl, rfl⟩) rfl rfl rfl HNZ.out ?_
          refine Grow.grow_load rfl agg_int (.inl ⟨rfl, rfl⟩) rfl ?_
          refine Grow.grow_call2 (Φ := fun v w => NatsAt w v (readsOf y nz)) rfl (.inl ⟨rfl, rfl⟩) Tryz.func14 (by kernel_rfl) (by kernel_rfl) (Ψ := Grow.Is (.agg #[.int .i64 ya, .int .i64 yb, .slice yA yn yc, .slice yB ym yd])) (Ψ' := Grow.Is (.int .i64 nz)) rfl rfl (nats_stays _) (fun v v' w' hg hv hv2 => by
            have h1 : v = .agg #[.int .i64 ya, .int .i64 yb, .slice yA yn yc, .slice yB ym yd] := hv
            have h2 : v' = .int .i64 nz := hv2
            rw [h1, h2]
            exact (HR1.out w' (hz6.trans hg)).mono fun e w'' ⟨u2, he, hn, hg2⟩ => ⟨_, he, hg2, hn⟩) ?_
          refine Grow.grow_row rfl (.inl ⟨rfl, rfl⟩) rfl Tryz.underlying26 rfl (by kernel_rfl) ?_
          refine Grow.grow_mvc (.inl rfl) (.inl ⟨rfl, rfl⟩) rfl ?_
          refine Grow.grow_mv (.inl rfl) (.inl ⟨rfl, rfl⟩) rfl ?_
          refine Grow.grow_index z rfl Tryz.underlying35 size_ints (.inl ⟨rfl, rfl⟩) rfl rfl rfl HNZ.out ?_
          refine Grow.grow_load rfl agg_int (.inl ⟨rfl, rfl⟩) rfl ?_
          refine Grow.grow_call2 (Φ := fun v w => NatsAt w v (readsOf y nz)) rfl (.inl ⟨rfl, rfl⟩) Tryz.func15 (by kernel_rfl) (by kernel_rfl) (Ψ := Grow.Is (.agg #[.int .i64 ya, .int .i64 yb, .slice yA yn yc, .slice yB ym yd])) (Ψ' := Grow.Is (.int .i64 nz)) rfl rfl (nats_stays _) (fun v v' w' hg hv hv2 => by
            have h1 : v = .agg #[.int .i64 ya, .int .i64 yb, .slice yA yn yc, .slice yB ym yd] := hv
            have h2 : v' = .int .i64 nz := hv2
            rw [h1, h2]
            exact (HR2.out w' (hz6.trans hg)).mono fun e w'' ⟨u2, he, hn, hg2⟩ => ⟨_, he, hg2, hn⟩) ?_
          refine Grow.grow_move (.tmp 94) (.inr rfl) (.inl ⟨rfl, rfl⟩) rfl (nats_stays _) ?_
          refine Grow.grow_move (.tmp 100) (.inr rfl) (.inl ⟨rfl, rfl⟩) rfl (nats_stays _) ?_
          intro a1 w10 hg10 hs1 hd1 hu1 hk1
          have h17 : NatsAt w10 (a1.tmps.getD 17 undef) (readsOf y nz) := hk1 17
          have h18 : NatsAt w10 (a1.tmps.getD 18 undef) (readsOf y nz) := hk1 18
          obtain ⟨X, hX, hlay⟩ := Grow.lay_kept_by _ a1 190 _ hs1 hd1 hu1
          rw [hX] at h17 h18
          clear hX hu1 hd1 hs1 hk1 HR1 HR2
          obtain ⟨A7, c7, e7, n7⟩ := h17
          obtain ⟨A8, c8, e8, n8⟩ := h18
          subst hlay
          simp only [List.range, List.range.loop, List.map_cons, List.map_nil, List.contains_cons, List.contains_nil, Nat.reduceBEq, Bool.or_false, Bool.or_true, cond_false, cond_true, Array.getD_eq_getD_getElem?, List.getElem?_toArray, List.getElem?_cons_zero, List.getElem?_cons_succ, Option.getD_some, e7, e8]
          clear e7 e8
          have N7 := hide (show NatsAt w10 (.slice A7 (readsOf y nz).length c7) (readsOf y nz) from ⟨A7, c7, rfl, n7⟩)
          have N8 := hide (show NatsAt w10 (.slice A8 (readsOf y nz).length c8) (readsOf y nz) from ⟨A8, c8, rfl, n8⟩)
          clear n7 n8
          have hgzA := (hgz.drewN 1).trans hg10
          have hg6A := hz6.trans hg10
          clear hg10 hz6 hgz1 hgz hg6z
          go_wp2_with fail
          have hgz1 := hgzA.drewN 1
          have hz6 : Gr w6 w10.drew := hg6A.drewN 1
          refine Grow.wp_region_kept 190 [101, 102, 103, 104, 105, 106, 107, 108, 109, 110, 111, 112, 113, 114, 115, 116, 117, 118, 119, 120, 121, 122, 123, 124, 125, 126, 127, 128, 129, 130, 131, 132, 133, 134, 135, 136, 137] rfl (by kernel_rfl) (by kernel_rfl) (by kernel_rfl) (Grow.Ahead.more (Grow.Ahead.more (Grow.Ahead.more (Grow.Ahead.more (Grow.Ahead.more (Grow.Ahead.more (Grow.Ahead.none_ _ _) 14 (Grow.Bx.stays gX 26 #[.int .i64 ya, .int .i64 yb, .slice yA yn yc, .slice yB ym yd]) ⟨rfl, (HX9.out.gr hgzA).drewN 1⟩) 15 (Grow.Cl.stays ⟨gN, 0, none⟩ 4 4 [.int .i64 q, .int .i64 1, .int .i64 2, .int .i64 3]) (by exact HCL.out _ hgz1)) 16 (Grow.Is.stays (.int .i64 (z : Int))) rfl) 17 (nats_stays (readsOf y nz)) (by exact N7.out.gr ((Gr.refl w10).drewN 1))) 18 (nats_stays (readsOf y nz)) (by exact N8.out.gr ((Gr.refl w10).drewN 1))) 2 (Grow.Is.stays (.int .i64 s)) rfl) ?_
          refine Grow.grow_move (.tmp 17) (.inl rfl) (.inl ⟨rfl, rfl⟩) rfl (nats_stays _) ?_
          refine Grow.grow_len_k (Ψ := fun v w => NatsAt w v (readsOf y nz)) (n := (readsOf y nz).length) rfl Tryz.underlying35 (.inl ⟨rfl, rfl⟩) rfl (fun v w ⟨A2, c2, h, _⟩ => ⟨A2, c2, h⟩) ?_
          refine Grow.grow_move (.tmp 18) (.inl rfl) (.inl ⟨rfl, rfl⟩) rfl (nats_stays _) ?_
          refine Grow.grow_len_k (Ψ := fun v w => NatsAt w v (readsOf y nz)) (n := (readsOf y nz).length) rfl Tryz.underlying35 (.inl ⟨rfl, rfl⟩) rfl (fun v w ⟨A2, c2, h, _⟩ => ⟨A2, c2, h⟩) ?_
          refine Grow.grow_int_alike rfl rfl (.inl ⟨rfl, rfl⟩) rfl rfl ?_
          refine Grow.grow_mv (.inl rfl) (.inl ⟨rfl, rfl⟩) rfl ?_
          refine Grow.grow_row rfl (.inr ⟨5, false, 106, rfl, rfl, rfl, by decide⟩) rfl Tryz.underlying26 rfl (by kernel_rfl) ?_
          refine Grow.grow_mv (.inl rfl) (.inr ⟨5, false, 106, rfl, rfl, rfl, by decide⟩) rfl ?_
          refine Grow.grow_mvc (.inl rfl) (.inr ⟨5, false, 106, rfl, rfl, rfl, by decide⟩) rfl ?_
          refine Grow.grow_mv (.inl rfl) (.inr ⟨5, false, 106, rfl, rfl, rfl, by decide⟩) rfl ?_
          refine Grow.grow_index z rfl Tryz.underlying35 size_ints (.inr ⟨5, false, 106, rfl, rfl, rfl, by decide⟩) rfl rfl rfl HNZ.out ?_
          refine Grow.grow_load rfl agg_int (.inr ⟨5, false, 106, rfl, rfl, rfl, by decide⟩) rfl ?_
          refine Grow.grow_call3 (Φ := Grow.Is (.bool (touchT y s nz))) rfl (.inr ⟨5, false, 106, rfl, rfl, rfl, by decide⟩) Tryz.func16 (by kernel_rfl) (by kernel_rfl) (Ψ := Grow.Is (.agg #[.int .i64 ya, .int .i64 yb, .slice yA yn yc, .slice yB ym yd])) (Ψ' := Grow.Is (.int .i64 s)) (Ψ'' := Grow.Is (.int .i64 nz)) rfl rfl rfl (Grow.Is.stays _) (fun v v' v'' w' hg hv hv2 hv3 => by
            have h1 : v = .agg #[.int .i64 ya, .int .i64 yb, .slice yA yn yc, .slice yB ym yd] := hv
            have h2 : v' = .int .i64 s := hv2
            have h3 : v'' = .int .i64 nz := hv3
            rw [h1, h2, h3]
            exact (HT1.out s HS.out w' (hz6.trans hg)).mono fun e w'' ⟨he, hg2⟩ => ⟨_, he, hg2, rfl⟩) ?_
          refine Grow.grow_row rfl (.inr ⟨5, false, 106, rfl, rfl, rfl, by decide⟩) rfl Tryz.underlying26 rfl (by kernel_rfl) ?_
          refine Grow.grow_mv (.inl rfl) (.inr ⟨5, false, 106, rfl, rfl, rfl, by decide⟩) rfl ?_
          refine Grow.grow_mvc (.inl rfl) (.inr ⟨5, false, 106, rfl, rfl, rfl, by decide⟩) rfl ?_
          refine Grow.grow_mv (.inl rfl) (.inr ⟨5, false, 106, rfl, rfl, rfl, by decide⟩) rfl ?_
          refine Grow.grow_index z rfl Tryz.underlying35 size_ints (.inr ⟨5, false, 106, rfl, rfl, rfl, by decide⟩) rfl rfl rfl HNZ.out ?_
          refine Grow.grow_load rfl agg_int (.inr ⟨5, false, 106, rfl, rfl, rfl, by decide⟩) rfl ?_
          refine Grow.grow_call3 (Φ := Grow.Is (.bool (touchT y s nz))) rfl (.inr ⟨5, false, 106, rfl, rfl, rfl, by decide⟩) Tryz.func17 (by kernel_rfl) (by kernel_rfl) (Ψ := Grow.Is (.agg #[.int .i64 ya, .int .i64 yb, .slice yA yn yc, .slice yB ym yd])) (Ψ' := Grow.Is (.int .i64 s)) (Ψ'' := Grow.Is (.int .i64 nz)) rfl rfl rfl (Grow.Is.stays _) (fun v v' v'' w' hg hv hv2 hv3 => by
            have h1 : v = .agg #[.int .i64 ya, .int .i64 yb, .slice yA yn yc, .slice yB ym yd] := hv
            have h2 : v' = .int .i64 s := hv2
            have h3 : v'' = .int .i64 nz := hv3
            rw [h1, h2, h3]
            exact (HT2.out s w' (hz6.trans hg)).mono fun e w'' ⟨he, hg2⟩ => ⟨_, he, hg2, rfl⟩) ?_
          refine Grow.grow_bool_alike rfl Tryz.underlying4 rfl (.inr ⟨5, false, 106, rfl, rfl, rfl, by decide⟩) rfl rfl ?_
          refine Grow.grow_pick_no rfl (.inl ⟨rfl, rfl⟩) rfl rfl (Grow.Is.stays _) ?_
          refine Grow.grow_mv (.inl rfl) (.inl ⟨rfl, rfl⟩) rfl ?_
          refine Grow.grow_row rfl (.inr ⟨22, false, 123, rfl, rfl, rfl, by decide⟩) rfl Tryz.underlying26 rfl (by kernel_rfl) ?_
          refine Grow.grow_mvc (.inl rfl) (.inr ⟨22, false, 123, rfl, rfl, rfl, by decide⟩) rfl ?_
          refine Grow.grow_mv (.inl rfl) (.inr ⟨22, false, 123, rfl, rfl, rfl, by decide⟩) rfl ?_
          refine Grow.grow_index z rfl Tryz.underlying35 size_ints (.inr ⟨22, false, 123, rfl, rfl, rfl, by decide⟩) rfl rfl rfl HNZ.out ?_
          refine Grow.grow_load rfl agg_int (.inr ⟨22, false, 123, rfl, rfl, rfl, by decide⟩) rfl ?_
          refine Grow.grow_call3 (Φ := Grow.Is (.bool (touchT y 1 nz))) rfl (.inr ⟨22, false, 123, rfl, rfl, rfl, by decide⟩) Tryz.func16 (by kernel_rfl) (by kernel_rfl) (Ψ := Grow.Is (.agg #[.int .i64 ya, .int .i64 yb, .slice yA yn yc, .slice yB ym yd])) (Ψ' := Grow.Is (.int .i64 1)) (Ψ'' := Grow.Is (.int .i64 nz)) rfl (fun _ => rfl) rfl (Grow.Is.stays _) (fun v v' v'' w' hg hv hv2 hv3 => by
            have h1 : v = .agg #[.int .i64 ya, .int .i64 yb, .slice yA yn yc, .slice yB ym yd] := hv
            have h2 : v' = .int .i64 1 := hv2
            have h3 : v'' = .int .i64 nz := hv3
            rw [h1, h2, h3]
            exact (HT1.out 1 ⟨by decide, by decide⟩ w' (hz6.trans hg)).mono fun e w'' ⟨he, hg2⟩ => ⟨_, he, hg2, rfl⟩) ?_
          refine Grow.grow_row rfl (.inr ⟨22, false, 123, rfl, rfl, rfl, by decide⟩) rfl Tryz.underlying26 rfl (by kernel_rfl) ?_
          refine Grow.grow_mvc (.inl rfl) (.inr ⟨22, false, 123, rfl, rfl, rfl, by decide⟩) rfl ?_
          refine Grow.grow_mv (.inl rfl) (.inr ⟨22, false, 123, rfl, rfl, rfl, by decide⟩) rfl ?_
          refine Grow.grow_index z rfl Tryz.underlying35 size_ints (.inr ⟨22, false, 123, rfl, rfl, rfl, by decide⟩) rfl rfl rfl HNZ.out ?_
          refine Grow.grow_load rfl agg_int (.inr ⟨22, false, 123, rfl, rfl, rfl, by decide⟩) rfl ?_
          refine Grow.grow_call3 (Φ := Grow.Is (.bool (touchT y 1 nz))) rfl (.inr ⟨22, false, 123, rfl, rfl, rfl, by decide⟩) Tryz.func17 (by kernel_rfl) (by kernel_rfl) (Ψ := Grow.Is (.agg #[.int .i64 ya, .int .i64 yb, .slice yA yn yc, .slice yB ym yd])) (Ψ' := Grow.Is (.int .i64 1)) (Ψ'' := Grow.Is (.int .i64 nz)) rfl (fun _ => rfl) rfl (Grow.Is.stays _) (fun v v' v'' w' hg hv hv2 hv3 => by
            have h1 : v = .agg #[.int .i64 ya, .int .i64 yb, .slice yA yn yc, .slice yB ym yd] := hv
            have h2 : v' = .int .i64 1 := hv2
            have h3 : v'' = .int .i64 nz := hv3
            rw [h1, h2, h3]
            exact (HT2.out 1 w' (hz6.trans hg)).mono fun e w'' ⟨he, hg2⟩ => ⟨_, he, hg2, rfl⟩) ?_
          refine Grow.grow_bool_alike rfl Tryz.underlying4 rfl (.inr ⟨22, false, 123, rfl, rfl, rfl, by decide⟩) rfl rfl ?_
          refine Grow.grow_pick_no rfl (.inl ⟨rfl, rfl⟩) rfl rfl (Grow.Is.stays _) ?_
          intro a2 w11 hg11 hs2 hd2 hu2 hk2
          have h137 : a2.tmps.getD 137 undef = .bool false := hk2 137
          obtain ⟨Y, hY, hlay2⟩ := Grow.lay_kept_by _ a2 190 _ hs2 hd2 hu2
          rw [hY] at h137
          clear hY hu2 hd2 hs2 hk2 HT1 HT2
          subst hlay2
          simp only [List.range, List.range.loop, List.map_cons, List.map_nil, List.contains_cons, List.contains_nil, Nat.reduceBEq, Bool.or_false, Bool.or_true, cond_false, cond_true, Array.getD_eq_getD_getElem?, List.getElem?_toArray, List.getElem?_cons_zero, List.getElem?_cons_succ, Option.getD_some, h137]
          clear h137
          have hgAB : Gr w10 w11 := ((Gr.refl w10).drewN 1).trans hg11
          have hgzB := hgzA.trans hgAB
          have hg6B := hg6A.trans hgAB
          have M7 := hide (N7.out.gr hgAB)
          have M8 := hide (N8.out.gr hgAB)
          clear hg11 hz6 hgz1 hgzA hg6A hgAB N7 N8
          have hLl : (readsOf y nz).length ≤ 1000000 := by
            have := readsTo_len y nz (max nz 1).toNat
            unfold readsOf
            have hb := HNM.out
            omega
          obtain ⟨L, hL⟩ : ∃ L, readsOf y nz = L := ⟨_, rfl⟩
          rw [hL] at hLl M7 M8 ⊢
          clear hL
          go_wp2_with fail
          go_loopw [19] (fun i wq => ∃ a : Nat, i = .int .i64 a ∧ a ≤ L.length ∧ Gr w11 wq) (fun i _ => L.length - (intOf i).toNat)
          case atStart => exact ⟨0, rfl, by omega, Gr.refl _⟩
          case round =>
            obtain ⟨a, rfl, ha, hgq⟩ := hrel
            by_cases hla : a < L.length
            · have hla' : (a : Int) < (L.length : Int) := by omega
              obtain ⟨p7, rfl, k7⟩ := (M7.out.gr hgq).at_ hla
              obtain ⟨p8, rfl, k8⟩ := (M8.out.gr hgq).at_ hla
              generalize L[a] = va at k7 k8
              go_wp2_with fail
              go_quiet (fail)
              go_wp2_with fail
              go_roundw
              case rel => exact ⟨a + 1, by go_num, by omega, hgq.drewN _⟩
              case measure => simp [intOf]; omega
            · obtain rfl : a = L.length := by omega
              go_wp2_with fail
              go_roundw
              case rel => exact ⟨z + 1, by go_num, by omega, hgzB.trans hgq⟩
              case measure => simp [intOf]; omega
        · obtain rfl : z = 4 := by omega
          go_wp2_with fail
          go_roundw
          case rel => exact ⟨j + 1, by go_num, by omega, hg69.trans hgz⟩
          case measure => simp [intOf]; omega
    · obtain rfl : j = 2 := by omega
      have hg0r := hg6.trans hgr
      have hrl : (r.length : Int) ≤ 100 := by omega
      clear HPICK HBB HB6 HV6 HM6
      go_wp2_with fail
      refine (Lent_ok B _ d r rfl wr (HBR.out.gr hg0r) (by omega)).mono ?_
      rintro e w7 ⟨gL, cur, rfl, hbl, hcur, hg7⟩
      have hg07 := hg0r.trans hg7
      have HBL := hide hbl
      have HCUR := hide hcur
      have hbyL := hcur.by_ hbl (by omega)
      clear hbl hcur hg0r hg7
      go_wp2_with fail
      refine (TxTake_ok _ r.length (r.length + 6) r rfl w7 hbyL (by omega)).mono ?_
      rintro e w8 ⟨v8, rfl, htx8, hg8⟩
      obtain ⟨xa, xb, xA, xn, xc, xB, xm, xd, rfl⟩ := htx8.shape
      have hg08 := hg07.trans hg8
      have HX8 := hide htx8
      have HLX := hide (taken_lim r)
      clear htx8 hbyL hg07
      go_wp2_with fail
      have hg9 := (Gr.refl w8).alloc (.cells #[.int .i64 xa, .int .i64 xb, .slice xA xn xc, .slice xB xm xd] 26)
      have hX9 := Bl.new w8 26 #[.int .i64 xa, .int .i64 xb, .slice xA xn xc, .slice xB xm xd]
      generalize w8.alloc (.cells #[.int .i64 xa, .int .i64 xb, .slice xA xn xc, .slice xB xm xd] 26) = w9 at hg9 hX9 ⊢
      generalize w8.heap.size = gX at hX9 ⊢
      have hg09 := hg08.trans hg9
      have hg79 := hg8.trans hg9
      refine (RefTakeTxn_ok B _ d r rfl w9 (HBR.out.gr hg09) (by omega)).mono ?_
      rintro e w10 ⟨v10, rfl, htx10, hg10⟩
      obtain ⟨ya, yb, yA, yn, yc, yB, ym, yd, rfl⟩ := htx10.shape
      have hal := (Gr.refl w10).alloc (.cells #[.int .i64 ya, .int .i64 yb, .slice yA yn yc, .slice yB ym yd] 26)
      have hX11 := hX9.gr (hg10.trans hal)
      have hY11 := Bl.new w10 26 #[.int .i64 ya, .int .i64 yb, .slice yA yn yc, .slice yB ym yd]
      have hg811 := hg9.trans (hg10.trans hal)
      have hg711 := hg79.trans (hg10.trans hal)
      have hg011 := hg09.trans (hg10.trans hal)
      have HY10 := hide (htx10.gr hal)
      generalize hTK : takenT r = tk at *
      clear hTK htx10 hg9 hX9 hg8 hg08 hg09 hg79 hg10
      generalize takenK r = tkk
      generalize takenB r = tkb
      obtain ⟨x0, x1, x2, x3⟩ := hX11.four
      obtain ⟨y0, y1, y2, y3⟩ := hY11.four
      have HX11 := hide hX11
      have HY11 := hide hY11
      clear hX11 hY11
      have HS1 := hide (fun w' (h8 : Gr w8 w') (hA : TxAt w' (.agg #[.int .i64 ya, .int .i64 yb, .slice yA yn yc, .slice yB ym yd]) tk) => TxSame_ok _ _ tk tk w' (HX8.out.gr h8) hA HLX.out HLX.out)
      have HS2 := hide (fun w' (h8 : Gr w8 w') (hA : TxAt w' (.agg #[.int .i64 ya, .int .i64 yb, .slice yA yn yc, .slice yB ym yd]) tk) => SameTxn_ok _ _ tk tk w' (HX8.out.gr h8) hA (by have := HLX.out.rn; omega) (by have := HLX.out.rn; omega) (by have := HLX.out.wn; omega))
      rw [decide_eq_true rfl] at HS1 HS2
      go_wp2_with fail
      refine (HS1.out _ hg811 HY10.out).mono ?_
      rintro e w12 ⟨rfl, hg12⟩
      clear x0 x1 x2 x3 y0 y1 y2 y3
      obtain ⟨x0, x1, x2, x3⟩ := (HX11.out.gr hg12).four
      obtain ⟨y0, y1, y2, y3⟩ := (HY11.out.gr hg12).four
      go_wp2_with fail
      refine (HS2.out _ (hg811.trans hg12) (HY10.out.gr hg12)).mono ?_
      rintro e w13 ⟨rfl, hg13⟩
      have hg713 := hg711.trans (hg12.trans hg13)
      have hg013 := hg011.trans (hg12.trans hg13)
      clear x0 x1 x2 x3 y0 y1 y2 y3 HS1 HS2
      cases tkb
      all_goals
        go_wp2_with fail
        refine (Back_ok B _ d r rfl gL cur w13 (HBR.out.gr hg013) (HBL.out.gr hg713) HCUR.out (by omega)).mono ?_
        rintro e w14 ⟨rfl, rfl⟩
        go_wp2_with fail
        go_ret
        exact ⟨rfl, hg013⟩

end Go.Proofs.YtjpdhijhmpdbnaaGreat
