/-
  The walk of 'StorePast'.
-/
import Derived.Test.YtbfbghfaeejicaaStBegun
import Derived.Test.YtbfbghfaeejicaaStMade
import Derived.Test.YtbfbghfaeejicaaStSpanMath
import Derived.Test.YtbfbghfaeejicaaStLate
namespace Go.Proofs.Ytbfbghfaeejicaa
open Go Go.RowKit ChMath KeyMath StMath TxnMath
set_option maxRecDepth 100000

theorem info_st : (Try.prog.info? 26).map (fun i => (i.zero, i.size, i.bytes)) = some (some (.agg #[.slice none 0 0, .int .i64 0]), 2, 32) := by kernel_rfl

set_option maxHeartbeats 8000000 in
theorem walk_StorePast (w : World) (A : Option Addr) (n c : Nat) (l : List UInt8) (hn : n = l.length) (hby : By w A c l) (B : Option Addr) (m d : Nat) (r : List UInt8) (hm : m = r.length) (hbr : By w B d r) (a : Int) (ha : (Lit.int .u8 a).wf = true) (b : Int) (hb : (Lit.int .u8 b).wf = true) :
    Calls Try.prog 5 #[.slice A n c, .slice B m d, .int .u8 a, .int .u8 b] w fun e w' => e = .returned (.bool true) ∧ Gr w w' := by
  subst hn hm
  have HBY := hide hby
  have HBR := hide hbr
  clear hby hbr
  obtain ⟨na, rfl, hna⟩ := u8_nat ha
  obtain ⟨nb, rfl, hnb⟩ := u8_nat hb
  clear ha hb
  by_cases h1 : (150 : Int) < (l.length : Int)
  · go_enter Try.func5, Try.ntmps5
    go_wp2_with fail
    refine (stBegun_ok _).mono ?_
    rintro e w1 ⟨rfl, hg1⟩
    go_wp2_with fail
    go_ret
    exact ⟨rfl, hg1⟩
  by_cases h2 : (20 : Int) < (r.length : Int)
  · go_enter Try.func5, Try.ntmps5
    go_wp2_with fail
    refine (stBegun_ok _).mono ?_
    rintro e w1 ⟨rfl, hg1⟩
    go_wp2_with fail
    go_ret
    exact ⟨rfl, hg1⟩
  obtain ⟨kp, hkp⟩ : ∃ k, nb % 40 = k := ⟨_, rfl⟩
  have ep : (nb : Int) % 40 = (kp : Int) := by omega
  have hkp40 : kp < 40 := by omega
  clear hkp
  go_enter Try.func5, Try.ntmps5
  go_wp2_with fail
  refine (stBegun_ok _).mono ?_
  rintro e w1 ⟨rfl, hg1⟩
  have HG1 := hide hg1
  clear hg1
  go_wp2_with fail
  refine (stMade_ok A c l w1 (HBY.out.gr HG1.out) (by omega)).mono ?_
  rintro e w2 ⟨u, ⟨cs, mk⟩, rfl, hu, hgood, hg2⟩
  simp only at hu
  obtain ⟨uA, uc, rfl⟩ := hu.is
  have HGOOD := hide hgood
  have hmk : 0 ≤ mk := hgood.low
  have hmk2 : mk ≤ 36 := hgood.high
  obtain ⟨q, hq⟩ : ∃ q, cs.length = q := ⟨_, rfl⟩
  rw [hq] at hu ⊢
  clear hgood hq
  go_upto_region 6 with (fail)
  obtain ⟨W2, hW2⟩ : ∃ W2, w2.alloc (.cells #[.slice uA q uc, .int .i64 mk] 26) = W2 := ⟨_, rfl⟩
  have hgx : Gr w2 W2 := by rw [← hW2]; exact (Gr.refl _).alloc _
  have hb2 : Bl W2 w2.heap.size 26 #[.slice uA q uc, .int .i64 mk] := by rw [← hW2]; exact Bl.new _ _ _
  rw [hW2]
  obtain ⟨g2, hg2e⟩ : ∃ g2, w2.heap.size = g2 := ⟨_, rfl⟩
  rw [hg2e] at hb2 ⊢
  have HB2 := hide hb2
  have HU2 := hide (hu.gr hgx)
  have HG2 := hide (HG1.out.trans (hg2.trans hgx))
  have k0 : W2.cell? ⟨g2, 0, none⟩ = some (.slice uA q uc) := hb2.cell 0
  have k1 : W2.cell? ⟨g2, 1, none⟩ = some (.int .i64 mk) := hb2.cell 1
  clear hW2 hgx hb2 hg2e hu hg2 HG1
  go_upto_region 7 with (fail)
  obtain ⟨pn, hpn, hpn2⟩ : ∃ pn : Nat, max mk (kp : Int) = (pn : Int) ∧ pn ≤ 39 := ⟨(max mk (kp : Int)).toNat, by omega, by omega⟩
  have hmkp : mk ≤ (pn : Int) := by omega
  rw [hpn]
  clear hpn k0 k1
  have hws := tx_writes r 0 1
  obtain ⟨ws, hwse⟩ : ∃ ws, (txP r 0 1).1.writes = ws := ⟨_, rfl⟩
  rw [hwse] at hws
  have hgd : Good 40 52 ⟨writeC ((pn + 1 : Nat) : Int) ws cs, mk⟩ := HGOOD.out.put (p := pn + 1) (by omega) (by omega) (by omega) hws.1 hws.2
  have hsw : ∀ q, seenC q (findC q (writeC ((pn + 1 : Nat) : Int) ws cs)) (pn : Int) = seenC q (findC q cs) (pn : Int) := fun q => seen_write (by omega) q HGOOD.out.ok.rise
  have HW := hide (fun W lv (h : Gr W2 W) (hr : RowAt 3 W lv (ws.map wrC)) => Write_ok (.slice uA q uc) mk ((pn + 1 : Nat) : Int) cs lv ws W (HU2.out.gr h) 48 HGOOD.out.bnd (by have := hws.2; omega) hr)
  have HTX := hide (fun g W (h : Pk W g B d r 0) => Txn_ok g B d r 0 1 (by decide) (by omega) W h)
  unfold TxnPost at HTX
  obtain ⟨ds, hds⟩ : ∃ ds, writeC ((pn + 1 : Nat) : Int) ws cs = ds := ⟨_, rfl⟩
  rw [hds] at hgd hsw HW
  have HGD := hide hgd
  have HSW := hide hsw
  clear hgd hsw hds hws
  have hp1 : Try.prog.follows .mixedOrders = true := by kernel_rfl
  obtain ⟨ist, hist, _, his2, _⟩ := info_parts info_st
  refine Mine.wp_region_mine_tail 9 134 [38, 39, 40, 41, 42, 43, 44, 45, 11] rfl (by kernel_rfl) (by kernel_rfl) (by kernel_rfl) (by kernel_rfl) (ob0 := none)
    (Mine.Ahead.more (Mine.Ahead.more (Mine.Ahead.more (Mine.Ahead.none_ _ _ _) 9 (Mine.Bx.stays g2 26 #[.slice uA q uc, .int .i64 mk]) (by exact ⟨rfl, HB2.out.drewN 1, by simp⟩)) 10 (Mine.Is.stays (.int .i64 (pn : Int))) (by rfl)) 1 (Mine.Wi.stays (Mine.far_pay W2) (.slice B r.length d)) (by exact ⟨rfl, (Gr.refl W2).drewN 1, fun _ h => by cases h⟩))
    134 (C0 := fun _ _ o => o = none) (fun _ _ _ _ h _ => h) (fun k hk => by cases hk) rfl ?_
  refine Mine.load_box rfl rfl (by decide) rfl Try.underlying26 rfl (by kernel_rfl) ?_
  refine Mine.move (.tmp 10) (.inl rfl) rfl (by decide) rfl (Mine.Is.stays _) ?_
  refine Mine.is2 (x := .tmp 39) (y := .const (.int .i64 1)) (u := .int .i64 (pn : Int)) (v := .int .i64 1) (.int .i64 ((pn + 1 : Nat) : Int)) rfl (by decide) (by simp [Op.operands]) (by simp [Op.operands]) rfl (fun _ _ => rfl) (fun a w h1 h2 => ?_) ?_
  · unfold execOp
    have hw : IntKind.i64.wrap ((pn : Int) + 1) = (pn : Int) + 1 := IntWalk.i64_in _ (by omega)
    simp only [h1, h2]
    simp [go_sem, hw]
  refine Mine.move (.tmp 1) (.inl rfl) rfl (by decide) rfl (Mine.Wi.stays (Mine.far_pay W2) _) ?_
  refine Mine.chain_newF (Ψ := fun g W => Pk W g B d r 0) rfl rfl rfl (Nat.le_refl _) Try.func10 (by kernel_rfl) (by kernel_rfl) rfl (fun g W W' h hg => h.gr hg) (fun W hg => (Made_ok B d r W (HBR.out.gr (HG2.out.trans hg))).mono fun e W' ⟨he, hgr, hpk⟩ => ⟨_, he, hgr, Nat.le_refl _, hpk.bl.lt, hpk⟩) ?_
  refine Mine.chain_useF (q := .int .i64 1) (Φ := fun v W => TxW W v ws) rfl rfl rfl Try.func11 (by kernel_rfl) (by kernel_rfl) (fun _ _ => rfl) (fun v W W' h hg => h.gr hg) (fun g W _ _ hpk => (HTX.out g W hpk).mono fun e W' ⟨v, he, htx, hbt, _⟩ => ⟨v, he, hbt, by have := htx.txw; rw [hwse] at this; exact this⟩) ?_
  refine Mine.chain_fieldF (Φ' := fun v W => RowAt 3 W v (ws.map wrC)) rfl rfl rfl (fun v W W' h hg => h.gr hg) (fun v W h => by
    obtain ⟨ta, tb, rA, rn, rc, wv, rfl, hrow⟩ := h
    obtain ⟨wA, wc, rfl, _⟩ := RowAt.is hrow
    exact ⟨_, by kernel_rfl, hrow⟩) ?_
  refine Mine.chain_callF (Φ' := fun v W => ∃ u, v = .agg #[u, .int .i64 mk] ∧ ChnsX W u ds) rfl rfl rfl Try.func23 (by kernel_rfl) (by kernel_rfl) rfl rfl (fun v W W' ⟨u, h1, h2⟩ hg => ⟨u, h1, h2.gr hg⟩) (fun v W hg hrow => (HW.out W v hg hrow).mono fun e W' ⟨u, he, hu, hgr⟩ => ⟨_, he, hgr, u, rfl, hu⟩) ?_
  refine Mine.alloc (e := 26) (cs := #[.slice none 0 0, .int .i64 0]) rfl (by decide) (fun a W => by kernel_rfl) ?_
  intro a1 w5 ob hr hwf hs5 hd5 hu5 hk5 hat
  have h11 : Mine.Nw W2.drew.heap.size 26 #[.slice none 0 0, .int .i64 0] (a1.tmps.getD 11 undef) w5 ob := hk5 11
  have h45 : Mine.PeF W2 (fun v W => ∃ u, v = .agg #[u, .int .i64 mk] ∧ ChnsX W u ds) (a1.tmps.getD 45 undef) w5 ob := hat
  obtain ⟨Y, hY, hlay⟩ := Grow.lay_kept_by _ a1 134 _ hs5 hd5 hu5
  rw [hY] at h11 h45
  clear hY hu5 hd5 hs5 hk5 hwf hat hr
  obtain ⟨g5, h11, hg5, hb5, _⟩ := h11
  obtain ⟨_, hgr5, u5, h45, hx5⟩ := h45
  obtain ⟨tA, tc, rfl⟩ := hx5.is
  obtain ⟨z, hz⟩ : ∃ z, ds.length = z := ⟨_, rfl⟩
  rw [hz] at hx5 h45
  subst hlay
  simp only [List.range, List.range.loop, List.map_cons, List.map_nil, List.contains_cons, List.contains_nil, Nat.reduceBEq, Bool.or_false, Bool.or_true, cond_false, cond_true, Array.getD_eq_getD_getElem?, List.getElem?_toArray, List.getElem?_cons_zero, List.getElem?_cons_succ, Option.getD_some, h11, h45, List.drop_succ_cons, List.drop_zero]
  refine wpList_store_agg rfl 26 (.tmp 11) (.tmp 45) rfl rfl hist [.slice tA z tc, .int .i64 mk] (by rw [his2]; rfl) (fun v hv => by
    simp only [List.mem_cons, List.not_mem_nil, or_false] at hv
    rcases hv with rfl | rfl <;> simp [Value.oneCell']) rfl rfl hb5 rfl ?_
  have hbut : But w5 (w5.setCells g5 0 [.slice tA z tc, .int .i64 mk]) g5 := but_setCells _ _ (But.refl _ _)
  have hb5' : Bl (w5.setCells g5 0 [.slice tA z tc, .int .i64 mk]) g5 26 #[.slice tA z tc, .int .i64 mk] := (hb5.put 0 _).put 1 _
  have hgs : W2.drew.heap.size = W2.heap.size := rfl
  have hg6 : Gr W2 (w5.setCells g5 0 [.slice tA z tc, .int .i64 mk]) := Gr.fresh_ hgr5 hbut (by omega)
  have hx6 : ChnsX (w5.setCells g5 0 [.slice tA z tc, .int .i64 mk]) (.slice tA z tc) ds := hx5.picks hbut hb5
  generalize w5.setCells g5 0 [.slice tA z tc, .int .i64 mk] = W6 at hb5' hg6 hx6
  have HX6 := hide hx6
  have HB5 := hide hb5'
  have HG6 := hide hg6
  clear hbut hb5 hb5' hg6 hgs hx5 hx6 h11 h45 hgr5 hg5 HW HTX hwse
  obtain ⟨mm, hmm⟩ : ∃ mm : Nat, min (na : Int) (pn : Int) = (mm : Int) := ⟨min na pn, by omega⟩
  have hmp : (mm : Int) ≤ (pn : Int) := by omega
  have HGC0 := hide (HGD.out.cut (m := (mm : Int)) (by omega))
  have hsu0 : ∀ q, seenC q (findC q (trimS ⟨ds, mk⟩ mm).chains) (pn : Int) = seenC q (findC q cs) (pn : Int) := fun q => (trimS_seen hmp q).trans (HSW.out q)
  have hlu0 : ∀ q, lastP (findC q (trimS ⟨ds, mk⟩ mm).chains) = lastP (findC q ds) := fun q => trimS_last q
  have hmu0 : (trimS ⟨ds, mk⟩ mm).mark ≤ (pn : Int) := trimS_mark hmp hmkp
  have HTR := hide (StTrim_ok ⟨ds, mk⟩ (.slice tA z tc) mm W6 HX6.out (HGD.out.bnd.len (by omega)))
  unfold StPost at HTR
  obtain ⟨us, hus⟩ : ∃ us, trimS ⟨ds, mk⟩ mm = us := ⟨_, rfl⟩
  rw [hus] at HGC0 hsu0 hlu0 hmu0 HTR
  obtain ⟨es, mu⟩ := us
  simp only at hsu0 hlu0 hmu0 HTR
  have HSU := hide hsu0
  have HLU := hide hlu0
  clear hsu0 hlu0 hus
  have k0 : W6.cell? ⟨g5, 0, none⟩ = some (.slice tA z tc) := HB5.out.cell 0
  have k1 : W6.cell? ⟨g5, 1, none⟩ = some (.int .i64 mk) := HB5.out.cell 1
  go_wp2_with fail
  refine HTR.out.mono ?_
  rintro e w7 ⟨u7, rfl, hu7, hg7⟩
  obtain ⟨eA, ec, rfl⟩ := hu7.is
  obtain ⟨y, hy⟩ : ∃ y, es.length = y := ⟨_, rfl⟩
  rw [hy] at hu7 ⊢
  clear k0 k1 HTR hmm hz hy
  go_upto_region 9 with (fail)
  obtain ⟨W7, hW7⟩ : ∃ W7, w7.alloc (.cells #[.slice eA y ec, .int .i64 mu] 26) = W7 := ⟨_, rfl⟩
  have hgx : Gr w7 W7 := by rw [← hW7]; exact (Gr.refl _).alloc _
  have hb7 : Bl W7 w7.heap.size 26 #[.slice eA y ec, .int .i64 mu] := by rw [← hW7]; exact Bl.new _ _ _
  rw [hW7]
  obtain ⟨g7, hg7e⟩ : ∃ g7, w7.heap.size = g7 := ⟨_, rfl⟩
  rw [hg7e] at hb7 ⊢
  have hg67 : Gr W6 W7 := hg7.trans hgx
  have HB7 := hide hb7
  have HE7 := hide (hu7.gr hgx)
  have HX7 := hide (HX6.out.gr hg67)
  have HB57 := hide (HB5.out.gr hg67)
  have HG7 := hide (HG2.out.trans (HG6.out.trans hg67))
  have HU7 := hide (HU2.out.gr (HG6.out.trans hg67))
  have HB27 := hide (HB2.out.gr (HG6.out.trans hg67))
  clear hW7 hgx hb7 hg7e hu7 hg7 hg67 HX6 HB5 HU2 HB2 HG2 HG6
  have HSP := hide (fun W (h : Gr W7 W) => Span_ok ⟨cs, mk⟩ nothing nothing pn (.slice uA q uc) W (HU7.out.gr h) (HGOOD.out.bnd.len (by omega)))
  rw [spanS_ok (show ¬ (pn : Int) < mk by omega)] at HSP
  have HSQ := hide (fun W (h : Gr W7 W) => Span_ok ⟨es, mu⟩ nothing nothing pn (.slice eA y ec) W (HE7.out.gr h) (HGC0.out.bnd.len (by omega)))
  rw [spanS_ok (show ¬ (pn : Int) < mu by omega), show (⟨es, mu⟩ : StT).chains = es from rfl, past_span HGOOD.out HGC0.out (pn : Int) nothing nothing HSU.out] at HSQ
  have hL6 : (spanC nothing nothing (pn : Int) cs).length ≤ 6 := by
    rw [show cs = (⟨cs, mk⟩ : StT).chains from rfl, HGOOD.out.span]
    exact spanK_le keysL
  have hgot : ∀ r ∈ spanC nothing nothing (pn : Int) cs, seenC r.key (findC r.key es) (pn : Int) = r := fun r hr => (HSU.out r.key).trans (span_got HGOOD.out hr)
  unfold SpanPost at HSP HSQ
  simp only at HSP HSQ
  obtain ⟨L, hL⟩ : ∃ L, spanC nothing nothing (pn : Int) cs = L := ⟨_, rfl⟩
  rw [hL] at HSP HSQ hL6 hgot
  have HGOT := hide hgot
  clear hgot hL
  have HGET := hide (fun W (x : ByteArray) (h : Gr W7 W) => Get_ok ⟨es, mu⟩ x pn (.slice eA y ec) W (HE7.out.gr h) (HGC0.out.bnd.len (by omega)))
  have hgs : ∀ x, getS ⟨es, mu⟩ x (pn : Int) = (seenC x (findC x es) (pn : Int), 0) := fun x => if_neg (by show ¬ (pn : Int) < mu; omega)
  simp only [hgs] at HGET
  unfold GetPost at HGET
  have HLE := hide (fun W (k : ByteArray) (h : Gr W7 W) => StLast_ok k (.slice eA y ec) mu es W (HE7.out.gr h) (HGC0.out.bnd.len (by omega)))
  simp only [HLU.out] at HLE
  have HLD := hide (fun W (k : ByteArray) (h : Gr W7 W) => StLast_ok k (.slice tA z tc) mk ds W (HX7.out.gr h) (HGD.out.bnd.len (by omega)))
  have HMAY := hide (fun W (h : Gr W7 W) => StMay_ok ⟨es, mu⟩ (.slice eA y ec) W (HE7.out.gr h) (HGC0.out.bnd.len (by omega)) HGC0.out.big)
  rw [HGC0.out.may] at HMAY
  unfold nothing at HSP HSQ
  have k0 : W7.cell? ⟨g2, 0, none⟩ = some (.slice uA q uc) := HB27.out.cell 0
  have k1 : W7.cell? ⟨g2, 1, none⟩ = some (.int .i64 mk) := HB27.out.cell 1
  clear hgs
  go_wp2_with fail
  refine (HSP.out _ (Gr.refl W7)).mono ?_
  rintro e w8 ⟨v, rfl, hv, hg8⟩
  obtain ⟨vA, vc, rfl⟩ := hv.is
  have HV := hide hv.rowAt
  have HG8 := hide hg8
  obtain ⟨nl, hnl⟩ : ∃ nl, L.length = nl := ⟨_, rfl⟩
  rw [hnl] at hL6 ⊢
  have HNL := hide hnl
  have k0 : w8.cell? ⟨g7, 0, none⟩ = some (.slice eA y ec) := (HB7.out.gr hg8).cell 0
  have k1 : w8.cell? ⟨g7, 1, none⟩ = some (.int .i64 mu) := (HB7.out.gr hg8).cell 1
  clear hv hg8 HSP
  go_wp2_with fail
  refine (HSQ.out _ HG8.out).mono ?_
  rintro e w9 ⟨v, rfl, hv, hg9⟩
  obtain ⟨sA, sc, rfl⟩ := hv.is
  rw [hnl]
  have HV9 := hide (HV.out.gr hg9)
  have HS9 := hide hv.rowAt
  have HG9 := hide (HG8.out.trans hg9)
  clear hv hg9 HSQ k0 k1 hnl HV HG8
  go_wp2_with fail
  go_loopw [17] (fun i wr => ∃ j : Nat, i = .int .i64 (j : Int) ∧ j ≤ nl ∧ Hid (Gr w9 wr)) (fun i _ => nl - (intOf i).toNat)
  case atStart => exact ⟨0, rfl, by omega, hide (Gr.refl _)⟩
  case round =>
    obtain ⟨j, rfl, hj, HR⟩ := hrel
    by_cases hlt : j < nl
    · have hlt' : (j : Int) < (nl : Int) := by omega
      have hjl : j < L.length := by have := HNL.out; omega
      have HR7 := hide (HG9.out.trans HR.out)
      have hgr := HGOT.out L[j] (List.getElem_mem hjl)
      have hLj : L[j]? = some L[j] := List.getElem?_eq_getElem hjl
      have ha := (HV9.out.gr HR.out).cell (j := j) (r := rdC L[j]) (by rw [List.getElem?_map, hLj]; rfl) (by simp [rdC])
      have hbb := (HS9.out.gr HR.out).cell (j := j) (r := rdC L[j]) (by rw [List.getElem?_map, hLj]; rfl) (by simp [rdC])
      have HGX := hide (fun W (h : Gr W7 W) => HGET.out W L[j].key h)
      have HLX := hide (fun W (h : Gr W7 W) => HLE.out W L[j].key h)
      have HLY := hide (fun W (h : Gr W7 W) => HLD.out W L[j].key h)
      rw [hgr] at HGX
      generalize lastP (findC L[j].key ds) = lp at HLX HLY
      generalize L[j] = R at ha hbb HGX HLX HLY
      clear hgr hLj hjl
      obtain ⟨ad, ac, e1, -, a0, a1⟩ := ha
      obtain ⟨bd, bc, e2, -, b0, b1⟩ := hbb
      replace a0 := a0 (.string R.key) rfl
      have a2 := a1 1 (.int .i64 R.ver) (by decide) rfl
      have a3 := a1 2 (.string R.val) (by decide) rfl
      have a4 := a1 3 (.bool R.there) (by decide) rfl
      replace b0 := b0 (.string R.key) rfl
      have b2 := b1 1 (.int .i64 R.ver) (by decide) rfl
      have b3 := b1 2 (.string R.val) (by decide) rfl
      have b4 := b1 3 (.bool R.there) (by decide) rfl
      simp only [Value.slice.injEq] at e1 e2
      obtain ⟨rfl, -, -⟩ := e1
      obtain ⟨rfl, -, -⟩ := e2
      have HA := hide (show ∀ W, Gr wr W → W.cell? (ad.add (j * 4)) = some (.string R.key) ∧ W.cell? ⟨(ad.add (j * 4)).block, (ad.add (j * 4)).off + 1, none⟩ = some (.int .i64 R.ver) ∧ W.cell? ⟨(ad.add (j * 4)).block, (ad.add (j * 4)).off + 2, none⟩ = some (.string R.val) ∧ W.cell? ⟨(ad.add (j * 4)).block, (ad.add (j * 4)).off + 3, none⟩ = some (.bool R.there) from fun W h => ⟨gr_cell h _ _ a0, gr_cell h _ _ a2, gr_cell h _ _ a3, gr_cell h _ _ a4⟩)
      have HB := hide (show ∀ W, Gr wr W → W.cell? (bd.add (j * 4)) = some (.string R.key) ∧ W.cell? ⟨(bd.add (j * 4)).block, (bd.add (j * 4)).off + 1, none⟩ = some (.int .i64 R.ver) ∧ W.cell? ⟨(bd.add (j * 4)).block, (bd.add (j * 4)).off + 2, none⟩ = some (.string R.val) ∧ W.cell? ⟨(bd.add (j * 4)).block, (bd.add (j * 4)).off + 3, none⟩ = some (.bool R.there) from fun W h => ⟨gr_cell h _ _ b0, gr_cell h _ _ b2, gr_cell h _ _ b3, gr_cell h _ _ b4⟩)
      clear a0 a1 a2 a3 a4 b0 b1 b2 b3 b4
      obtain ⟨ie, hie, _, hi2, _⟩ := info_parts info_rd
      go_wp2_with fail
      refine Edge.wp_region_laid 10 12 93 rfl hp1 (by kernel_rfl) (fun _ _ _ _ h => h) ?_
      refine Mine.any_mine_tail 12 134 [84, 85, 86, 87, 88, 89, 90, 91, 83, 92, 93, 18, 19] rfl (by kernel_rfl) (by kernel_rfl) (by kernel_rfl) (ob0 := none)
        (Mine.Ahead.more (Mine.Ahead.more (Mine.Ahead.more (Mine.Ahead.more (Mine.Ahead.none_ _ _ _) 12 (Mine.Bx.stays g7 26 #[.slice eA y ec, .int .i64 mu]) (by exact ⟨rfl, (HB7.out.gr HR7.out).drewN 1, by simp⟩)) 13 (Mine.Wi.stays (Mine.far_pay wr) (.slice (some ad) nl vc)) (by exact ⟨rfl, (Gr.refl wr).drewN 1, fun _ h => by cases h⟩)) 17 (Mine.Is.stays (.int .i64 (j : Int))) (by rfl)) 10 (Mine.Wi.stays (Mine.far_pay wr) (.int .i64 (pn : Int))) (by exact ⟨rfl, (Gr.refl wr).drewN 1, fun _ h => by cases h⟩))
        134 (C0 := fun _ _ o => o = none) (fun _ _ _ _ h _ => h) (fun k hk => by cases hk) rfl ?_
      refine Mine.load_box rfl rfl (by decide) rfl Try.underlying26 rfl (by kernel_rfl) ?_
      refine Mine.move (.tmp 13) (.inl rfl) rfl (by decide) rfl (Mine.Wi.stays (Mine.far_pay wr) _) ?_
      refine Mine.move (.tmp 17) (.inl rfl) rfl (by decide) rfl (Mine.Is.stays _) ?_
      refine Mine.look2 (x := .tmp 85) (y := .tmp 86) (Ψ := Mine.Wi (Mine.Far wr) (.slice (some ad) nl vc)) (Ψ' := Mine.Is (.int .i64 (j : Int))) (Φ := Mine.Wi (Mine.Far wr) (.pointer (some (ad.add (j * 4))))) rfl (by decide) (by simp [Op.operands]) (by simp [Op.operands]) rfl rfl (Mine.Wi.stays (Mine.far_pay wr) _) (fun a W ob h h' => ⟨_, exec_idxRd rfl h.1 h' hlt W, rfl, h.2⟩) ?_
      refine Mine.look1 (x := .tmp 87) (Ψ := Mine.Wi (Mine.Far wr) (.pointer (some (ad.add (j * 4))))) (Φ := Mine.Wi (Mine.Far wr) (.pointer (some (ad.add (j * 4))))) rfl (by decide) (by simp [Op.operands]) rfl (Mine.Wi.stays (Mine.far_pay wr) _) (fun a W ob h => ⟨_, exec_fldRd rfl h.1 W, rfl, h.2⟩) ?_
      refine Mine.look1 (x := .tmp 88) (Ψ := Mine.Wi (Mine.Far wr) (.pointer (some (ad.add (j * 4))))) (Φ := Mine.Is (.string R.key)) rfl (by decide) (by simp [Op.operands]) rfl (Mine.Is.stays _) (fun a W ob h => ⟨_, exec_loadStr rfl h.1 (HA.out W h.2.1).1, rfl⟩) ?_
      refine Mine.move (.tmp 10) (.inl rfl) rfl (by decide) rfl (Mine.Wi.stays (Mine.far_pay wr) _) ?_
      refine Mine.callF3 (W := wr) (res := .tuple #[rdA R, .int .i64 0]) rfl rfl (by decide) Try.func14 (by kernel_rfl) (by kernel_rfl) rfl rfl rfl (fun W hg => HGX.out W (HR7.out.trans hg)) ?_
      refine Mine.move (.tmp 91) (.inl rfl) rfl (by decide) rfl (Mine.Is.stays _) ?_
      refine Mine.part rfl rfl (by decide) rfl rfl ?_
      refine Mine.part rfl rfl (by decide) rfl rfl ?_
      refine Mine.alloc (e := 40) (cs := #[.string ⟨#[]⟩, .int .i64 0, .string ⟨#[]⟩, .bool false]) rfl (by decide) (fun a W => by kernel_rfl) ?_
      intro a1 w5 ob hr hwf hs5 hd5 hu5 hk5 hat
      have hob : ob = none := hat
      subst hob
      have h18 : Mine.Nw wr.drew.heap.size 40 #[.string ⟨#[]⟩, .int .i64 0, .string ⟨#[]⟩, .bool false] (a1.tmps.getD 18 undef) w5 none := hk5 18
      have h92 : a1.tmps.getD 92 undef = rdA R := hk5 92
      have h93 : a1.tmps.getD 93 undef = .int .i64 0 := hk5 93
      obtain ⟨Z, hZ, hlay⟩ := Grow.lay_kept_by _ a1 134 _ hs5 hd5 hu5
      rw [hZ] at h18 h92 h93
      clear hZ hu5 hd5 hs5 hk5 hwf hat
      obtain ⟨gR, h18, hgR, hbR, _⟩ := h18
      subst hlay
      simp only [List.range, List.range.loop, List.map_cons, List.map_nil, List.contains_cons, List.contains_nil, Nat.reduceBEq, Bool.or_false, Bool.or_true, cond_false, cond_true, Array.getD_eq_getD_getElem?, List.getElem?_toArray, List.getElem?_cons_zero, List.getElem?_cons_succ, Option.getD_some, h18, h92, h93, Edge.laid, List.modify_succ_cons, List.modify_zero_cons, List.drop_succ_cons, List.drop_zero]
      have hgr : Gr wr.drew w5 := Mine.RS.none hr
      refine wpList_store_agg rfl 40 (.tmp 18) (.tmp 92) rfl rfl hie [.string R.key, .int .i64 R.ver, .string R.val, .bool R.there] (by rw [hi2]; rfl) (fun v hv => by
        simp only [List.mem_cons, List.not_mem_nil, or_false] at hv
        rcases hv with rfl | rfl | rfl | rfl <;> simp [Value.oneCell']) rfl rfl hbR rfl ?_
      have hbut : But w5 (w5.setCells gR 0 [.string R.key, .int .i64 R.ver, .string R.val, .bool R.there]) gR := but_setCells _ _ (But.refl _ _)
      have hbR' : Bl (w5.setCells gR 0 [.string R.key, .int .i64 R.ver, .string R.val, .bool R.there]) gR 40 #[.string R.key, .int .i64 R.ver, .string R.val, .bool R.there] := (((hbR.put 0 _).put 1 _).put 2 _).put 3 _
      have hg6 : Gr wr (w5.setCells gR 0 [.string R.key, .int .i64 R.ver, .string R.val, .bool R.there]) := Gr.fresh_ (((Gr.refl wr).drewN 1).trans hgr) hbut hgR
      generalize w5.setCells gR 0 [.string R.key, .int .i64 R.ver, .string R.val, .bool R.there] = V at hbR' hg6
      have HRW := hide (hg6.trans ((Gr.refl V).drewN 1))
      have HRV := hide (HR7.out.trans HRW.out)
      have HBR := hide hbR'
      have HB7V := hide (HB7.out.gr HRV.out)
      have HB5V := hide (HB57.out.gr HRV.out)
      have HR6 := hide (HR.out.trans HRW.out)
      clear hbut hbR hg6 hgr hr h18 h92 h93 hgR hbR' HGX
      go_wp2_with fail
      refine Grow.wp_region_kept 134 [94, 95, 96, 97, 98, 99, 100, 101, 102, 103, 104, 105, 106, 107, 108, 109, 110, 111, 112, 113, 114, 115, 116, 117, 118, 119, 120, 121, 122, 123, 124, 125, 126, 127, 128, 129, 130, 131] rfl (by kernel_rfl) (by kernel_rfl) (by kernel_rfl) (Grow.Ahead.more (Grow.Ahead.more (Grow.Ahead.more (Grow.Ahead.more (Grow.Ahead.more (Grow.Ahead.more (Grow.Ahead.more (Grow.Ahead.none_ _ _) 12 (Grow.Bx.stays g7 26 #[.slice eA y ec, .int .i64 mu]) ⟨rfl, HB7V.out⟩) 11 (Grow.Bx.stays g5 26 #[.slice tA z tc, .int .i64 mk]) ⟨rfl, HB5V.out⟩) 18 (Grow.Bx.stays gR 40 #[.string R.key, .int .i64 R.ver, .string R.val, .bool R.there]) ⟨rfl, HBR.out.drewN 1⟩) 13 (Grow.Is.stays (.slice (some ad) nl vc)) rfl) 15 (Grow.Is.stays (.slice (some bd) nl sc)) rfl) 17 (Grow.Is.stays (.int .i64 (j : Int))) rfl) 19 (Grow.Is.stays (.int .i64 0)) rfl) ?_
      refine Grow.grow_mv (.inl rfl) (.inl ⟨rfl, rfl⟩) rfl ?_
      refine Grow.grow_mv (.inl rfl) (.inl ⟨rfl, rfl⟩) rfl ?_
      refine Grow.grow_see2 (x := .tmp 94) (y := .tmp 95) (z := .pointer (some (ad.add (j * 4)))) (.inl ⟨rfl, rfl⟩) (by simp [Op.operands]) (by simp [Op.operands]) rfl rfl (fun a W hg h1 h2 => exec_idxRd rfl h1 h2 hlt W) ?_
      refine Grow.grow_see1 (x := .tmp 96) (z := rdA R) (.inl ⟨rfl, rfl⟩) (by simp [Op.operands]) rfl (fun a W hg h1 => by
        obtain ⟨f0, f1, f2, f3⟩ := HA.out W (HRW.out.trans hg)
        exact exec_loadRd rfl h1 f0 f1 f2 f3) ?_
      refine Grow.grow_mv (.inl rfl) (.inl ⟨rfl, rfl⟩) rfl ?_
      refine Grow.grow_mv (.inl rfl) (.inl ⟨rfl, rfl⟩) rfl ?_
      refine Grow.grow_see2 (x := .tmp 98) (y := .tmp 99) (z := .pointer (some (bd.add (j * 4)))) (.inl ⟨rfl, rfl⟩) (by simp [Op.operands]) (by simp [Op.operands]) rfl rfl (fun a W hg h1 h2 => exec_idxRd rfl h1 h2 hlt W) ?_
      refine Grow.grow_see1 (x := .tmp 100) (z := rdA R) (.inl ⟨rfl, rfl⟩) (by simp [Op.operands]) rfl (fun a W hg h1 => by
        obtain ⟨f0, f1, f2, f3⟩ := HB.out W (HRW.out.trans hg)
        exact exec_loadRd rfl h1 f0 f1 f2 f3) ?_
      refine Grow.grow_see2 (x := .tmp 97) (y := .tmp 101) (u := rdA R) (v := rdA R) (z := .bool false) (.inl ⟨rfl, rfl⟩) (by simp [Op.operands]) (by simp [Op.operands]) rfl rfl (fun a W hg h1 h2 => exec_neqRd rfl h1 h2 W) ?_
      refine Grow.grow_mv (.inl rfl) (.inl ⟨rfl, rfl⟩) rfl ?_
      refine Grow.grow_mv (.inl rfl) (.inr ⟨9, false, 103, rfl, rfl, rfl, by decide⟩) rfl ?_
      refine Grow.grow_int_alike (n := 0) rfl rfl (.inr ⟨9, false, 103, rfl, rfl, rfl, by decide⟩) rfl (fun _ => rfl) ?_
      refine Grow.grow_pick_no (Φ := Grow.Is (.bool false)) rfl (.inl ⟨rfl, rfl⟩) rfl rfl (Grow.Is.stays _) ?_
      refine Grow.grow_mv (.inl rfl) (.inl ⟨rfl, rfl⟩) rfl ?_
      refine Grow.grow_row rfl (.inr ⟨13, false, 107, rfl, rfl, rfl, by decide⟩) rfl Try.underlying40 rfl (by kernel_rfl) ?_
      refine Grow.grow_mv (.inl rfl) (.inr ⟨13, false, 107, rfl, rfl, rfl, by decide⟩) rfl ?_
      refine Grow.grow_mv (.inl rfl) (.inr ⟨13, false, 107, rfl, rfl, rfl, by decide⟩) rfl ?_
      refine Grow.grow_see2 (x := .tmp 109) (y := .tmp 110) (z := .pointer (some (ad.add (j * 4)))) (.inr ⟨13, false, 107, rfl, rfl, rfl, by decide⟩) (by simp [Op.operands]) (by simp [Op.operands]) rfl rfl (fun a W hg h1 h2 => exec_idxRd rfl h1 h2 hlt W) ?_
      refine Grow.grow_see1 (x := .tmp 111) (z := rdA R) (.inr ⟨13, false, 107, rfl, rfl, rfl, by decide⟩) (by simp [Op.operands]) rfl (fun a W hg h1 => by
        obtain ⟨f0, f1, f2, f3⟩ := HA.out W (HRW.out.trans hg)
        exact exec_loadRd rfl h1 f0 f1 f2 f3) ?_
      refine Grow.grow_see2 (x := .tmp 108) (y := .tmp 112) (u := rdA R) (v := rdA R) (z := .bool false) (.inr ⟨13, false, 107, rfl, rfl, rfl, by decide⟩) (by simp [Op.operands]) (by simp [Op.operands]) rfl rfl (fun a W hg h1 h2 => exec_neqRd rfl h1 h2 W) ?_
      refine Grow.grow_pick_no (Φ := Grow.Is (.bool false)) rfl (.inl ⟨rfl, rfl⟩) rfl rfl (Grow.Is.stays _) ?_
      refine Grow.grow_mv (.inl rfl) (.inl ⟨rfl, rfl⟩) rfl ?_
      refine Grow.grow_row rfl (.inr ⟨21, false, 115, rfl, rfl, rfl, by decide⟩) rfl Try.underlying26 rfl (by kernel_rfl) ?_
      refine Grow.grow_mv (.inl rfl) (.inr ⟨21, false, 115, rfl, rfl, rfl, by decide⟩) rfl ?_
      refine Grow.grow_mv (.inl rfl) (.inr ⟨21, false, 115, rfl, rfl, rfl, by decide⟩) rfl ?_
      refine Grow.grow_see2 (x := .tmp 117) (y := .tmp 118) (z := .pointer (some (ad.add (j * 4)))) (.inr ⟨21, false, 115, rfl, rfl, rfl, by decide⟩) (by simp [Op.operands]) (by simp [Op.operands]) rfl rfl (fun a W hg h1 h2 => exec_idxRd rfl h1 h2 hlt W) ?_
      refine Grow.grow_see1 (x := .tmp 119) (z := .pointer (some (ad.add (j * 4)))) (.inr ⟨21, false, 115, rfl, rfl, rfl, by decide⟩) (by simp [Op.operands]) rfl (fun a W hg h1 => exec_fldRd rfl h1 W) ?_
      refine Grow.grow_see1 (x := .tmp 120) (z := .string R.key) (.inr ⟨21, false, 115, rfl, rfl, rfl, by decide⟩) (by simp [Op.operands]) rfl (fun a W hg h1 => exec_loadStr rfl h1 (HA.out W (HRW.out.trans hg)).1) ?_
      refine Grow.grow_call2 (Φ := Grow.Is (.int .i64 lp)) rfl (.inr ⟨21, false, 115, rfl, rfl, rfl, by decide⟩) Try.func16 (by kernel_rfl) (by kernel_rfl) rfl rfl (Grow.Is.stays _) (fun v u W hg hv hu => by
        subst hv hu
        exact (HLX.out W (HRV.out.trans hg)).mono fun e w' ⟨he, hgx⟩ => ⟨_, he, hgx, rfl⟩) ?_
      refine Grow.grow_row rfl (.inr ⟨21, false, 115, rfl, rfl, rfl, by decide⟩) rfl Try.underlying26 rfl (by kernel_rfl) ?_
      refine Grow.grow_mv (.inl rfl) (.inr ⟨21, false, 115, rfl, rfl, rfl, by decide⟩) rfl ?_
      refine Grow.grow_mv (.inl rfl) (.inr ⟨21, false, 115, rfl, rfl, rfl, by decide⟩) rfl ?_
      refine Grow.grow_see2 (x := .tmp 124) (y := .tmp 125) (z := .pointer (some (ad.add (j * 4)))) (.inr ⟨21, false, 115, rfl, rfl, rfl, by decide⟩) (by simp [Op.operands]) (by simp [Op.operands]) rfl rfl (fun a W hg h1 h2 => exec_idxRd rfl h1 h2 hlt W) ?_
      refine Grow.grow_see1 (x := .tmp 126) (z := .pointer (some (ad.add (j * 4)))) (.inr ⟨21, false, 115, rfl, rfl, rfl, by decide⟩) (by simp [Op.operands]) rfl (fun a W hg h1 => exec_fldRd rfl h1 W) ?_
      refine Grow.grow_see1 (x := .tmp 127) (z := .string R.key) (.inr ⟨21, false, 115, rfl, rfl, rfl, by decide⟩) (by simp [Op.operands]) rfl (fun a W hg h1 => exec_loadStr rfl h1 (HA.out W (HRW.out.trans hg)).1) ?_
      refine Grow.grow_call2 (Φ := Grow.Is (.int .i64 lp)) rfl (.inr ⟨21, false, 115, rfl, rfl, rfl, by decide⟩) Try.func16 (by kernel_rfl) (by kernel_rfl) rfl rfl (Grow.Is.stays _) (fun v u W hg hv hu => by
        subst hv hu
        exact (HLY.out W (HRV.out.trans hg)).mono fun e w' ⟨he, hgx⟩ => ⟨_, he, hgx, rfl⟩) ?_
      refine Grow.grow_int_alike rfl rfl (.inr ⟨21, false, 115, rfl, rfl, rfl, by decide⟩) rfl rfl ?_
      refine Grow.grow_pick_no (Φ := Grow.Is (.bool false)) rfl (.inl ⟨rfl, rfl⟩) rfl rfl (Grow.Is.stays _) ?_
      intro a2 w6 hg6 hs6 hd6 hu6 hk6
      have h131 : a2.tmps.getD 131 undef = .bool false := hk6 131
      obtain ⟨Z2, hZ, hlay⟩ := Grow.lay_kept_by _ a2 134 _ hs6 hd6 hu6
      rw [hZ] at h131
      clear hZ hu6 hd6 hs6 hk6
      subst hlay
      simp only [List.range, List.range.loop, List.map_cons, List.map_nil, List.contains_cons, List.contains_nil, Nat.reduceBEq, Bool.or_false, Bool.or_true, cond_false, cond_true, Array.getD_eq_getD_getElem?, List.getElem?_toArray, List.getElem?_cons_zero, List.getElem?_cons_succ, Option.getD_some, h131]
      clear h131
      have HR8 := hide (HR6.out.trans hg6)
      clear hg6
      go_wp2_with fail
      go_roundw
      case rel => exact ⟨j + 1, by go_num, by omega, HR8⟩
      case measure => simp [intOf]; omega
    · obtain rfl : j = nl := by omega
      have k0 : wr.cell? ⟨g7, 0, none⟩ = some (.slice eA y ec) := (HB7.out.gr (HG9.out.trans HR.out)).cell 0
      have k1 : wr.cell? ⟨g7, 1, none⟩ = some (.int .i64 mu) := (HB7.out.gr (HG9.out.trans HR.out)).cell 1
      go_wp2_with fail
      refine (HMAY.out _ (HG9.out.trans HR.out)).mono ?_
      rintro e w10 ⟨rfl, hg10⟩
      go_wp2_with fail
      go_ret
      exact ⟨rfl, HG7.out.trans ((HG9.out.trans HR.out).trans hg10)⟩
end Go.Proofs.Ytbfbghfaeejicaa
