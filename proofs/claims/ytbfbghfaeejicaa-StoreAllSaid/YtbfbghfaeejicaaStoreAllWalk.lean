/-
  The walk of 'StoreAll'. Written by wip/tools/genStoreAll.py out of storeall.head.txt and storeall.tail.txt.
-/
import Derived.Test.YtbfbghfaeejicaaStBegun
import Derived.Test.YtbfbghfaeejicaaStMade
import Derived.Test.YtbfbghfaeejicaaStLate
import Derived.Test.YtbfbghfaeejicaaStSpanMath
namespace Go.Proofs.Ytbfbghfaeejicaa
open Go Go.RowKit ChMath KeyMath StMath TxnMath
set_option maxRecDepth 100000

set_option maxHeartbeats 16000000 in
theorem walk_StoreAll (w : World) (A : Option Addr) (n c : Nat) (l : List UInt8) (hn : n = l.length) (hby : By w A c l) (B : Option Addr) (m d : Nat) (r : List UInt8) (hm : m = r.length) (hbr : By w B d r) (ps : Int) (_hps : (Lit.int .i64 ps).wf = true) (mq : Int) (_hmq : (Lit.int .i64 mq).wf = true) (key : ByteArray) (_hkey : key.size ≤ maxLen) (from_ : ByteArray) (_hfrom : from_.size ≤ maxLen) (to_ : ByteArray) (_hto : to_.size ≤ maxLen) :
    Calls Try.prog 3 #[.slice A n c, .slice B m d, .int .i64 ps, .int .i64 mq, .string key, .string from_, .string to_] w fun e w' => e = .returned (.bool true) ∧ Gr w w' := by
  subst hn hm
  have HBY := hide hby
  have HBR := hide hbr
  clear hby hbr
  by_cases h1 : (150 : Int) < (l.length : Int)
  · go_enter Try.func3, Try.ntmps3
    go_wp2_with fail
    refine (stBegun_ok _).mono ?_
    rintro e w1 ⟨rfl, hg1⟩
    go_wp2_with fail
    go_ret
    exact ⟨rfl, hg1⟩
  by_cases h2 : (20 : Int) < (r.length : Int)
  · go_enter Try.func3, Try.ntmps3
    go_wp2_with fail
    refine (stBegun_ok _).mono ?_
    rintro e w1 ⟨rfl, hg1⟩
    go_wp2_with fail
    go_ret
    exact ⟨rfl, hg1⟩
  go_enter Try.func3, Try.ntmps3
  go_wp2_with fail
  refine (stBegun_ok _).mono ?_
  rintro e w1 ⟨rfl, hg1⟩
  have HG1 := hide hg1
  clear hg1
  go_wp2_with fail
  · go_ret
    exact ⟨rfl, HG1.out⟩
  refine (stMade_ok A c l w1 (HBY.out.gr HG1.out) (by omega)).mono ?_
  rintro e w2 ⟨u, ⟨cs, mk⟩, rfl, hu, hgood, hg2⟩
  simp only at hu
  obtain ⟨uA, uc, rfl⟩ := hu.is
  have HGOOD := hide hgood
  obtain ⟨q, hq⟩ : ∃ q, cs.length = q := ⟨_, rfl⟩
  rw [hq] at hu ⊢
  clear hgood hq
  go_upto_region 6 with (fail)
  obtain ⟨W2, hW2⟩ : ∃ W2, w2.alloc (.cells #[.slice uA q uc, .int .i64 mk] 26) = W2 := ⟨_, rfl⟩
  have hgx : Gr w2 W2 := by rw [← hW2]; exact (Gr.refl _).alloc _
  have hb2 : Bl W2 w2.heap.size 26 #[.slice uA q uc, .int .i64 mk] := by rw [← hW2]; exact Bl.new _ _ _
  rw [hW2]
  obtain ⟨g2, hg2e⟩ : ∃ g2, w2.heap.size = g2 := ⟨_, rfl⟩
  rw [hg2e] at hb2 ⊢
  have HB2 := hide hb2
  have HU := hide (hu.gr hgx)
  have HG2 := hide (HG1.out.trans (hg2.trans hgx))
  clear hW2 hgx hb2 hg2e hu hg2 HG1
  go_wp2_with fail
  refine (Made_ok B d r W2 (HBR.out.gr HG2.out)).mono ?_
  rintro e w3 ⟨rfl, hg3, hp3⟩
  go_wp2_with fail
  refine (Txn_ok W2.heap.size B d r 0 3 (by decide) (by omega) w3 hp3).mono ?_
  rintro e w4 ⟨tv, rfl, htx, hb4, _⟩
  obtain ⟨ta, tb, rA, rn, rc, wv, rfl, hw4⟩ := htx.txw
  have hws := tx_writes r 0 3
  generalize (txP r 0 3).1.writes = ws at hw4 hws
  have hg4 : Gr W2 w4 := hg3.fresh_ hb4 (Nat.le_refl _)
  obtain ⟨wA, wc, rfl, -⟩ := hw4.is
  obtain ⟨n4, hn4⟩ : ∃ n4, ws.length = n4 := ⟨_, rfl⟩
  rw [hn4] at hw4 ⊢
  have HWS := hide hws
  clear htx hb4 hp3 hg3 hws hn4
  go_upto_region 7 with (fail)
  obtain ⟨W4, hW4⟩ : ∃ W4, w4.alloc (.cells #[.int .i64 ta, .int .i64 tb, .slice rA rn rc, .slice wA n4 wc] 31) = W4 := ⟨_, rfl⟩
  have hgx : Gr w4 W4 := by rw [← hW4]; exact (Gr.refl _).alloc _
  have hb3 : Bl W4 w4.heap.size 31 #[.int .i64 ta, .int .i64 tb, .slice rA rn rc, .slice wA n4 wc] := by rw [← hW4]; exact Bl.new _ _ _
  rw [hW4]
  obtain ⟨g3, hg3e⟩ : ∃ g3, w4.heap.size = g3 := ⟨_, rfl⟩
  rw [hg3e] at hb3 ⊢
  have hgy := hg4.trans hgx
  have HB3 := hide hb3
  have HW := hide (hw4.gr hgx)
  replace HB2 := hide (HB2.out.gr hgy)
  replace HU := hide (HU.out.gr hgy)
  replace HG2 := hide (HG2.out.trans hgy)
  clear hW4 hgx hb3 hg3e hw4 hg4 hgy
  have k0 : W4.cell? ⟨g2, 0, none⟩ = some (.slice uA q uc) := HB2.out.cell 0
  have k1 : W4.cell? ⟨g2, 1, none⟩ = some (.int .i64 mk) := HB2.out.cell 1
  have HMAY := hide (StMay_ok ⟨cs, mk⟩ (.slice uA q uc) W4 HU.out (HGOOD.out.bnd.len (by omega)) HGOOD.out.big)
  rw [HGOOD.out.may] at HMAY
  have HSAME := hide (fun W (h : ChnsX W (.slice uA q uc) cs) => StSame_ok ⟨cs, mk⟩ ⟨cs, mk⟩ (.slice uA q uc) (.slice uA q uc) W h h (HGOOD.out.bnd.len (by omega)))
  rw [decide_eq_true rfl] at HSAME
  go_wp2_with fail
  refine HMAY.out.mono ?_
  rintro e w5 ⟨rfl, hg5⟩
  have k0 : w5.cell? ⟨g2, 0, none⟩ = some (.slice uA q uc) := (HB2.out.gr hg5).cell 0
  have k1 : w5.cell? ⟨g2, 1, none⟩ = some (.int .i64 mk) := (HB2.out.gr hg5).cell 1
  have HG5 := hide hg5
  clear hg5
  go_wp2_with fail
  refine (HSAME.out _ (HU.out.gr HG5.out)).mono ?_
  rintro e w6 ⟨rfl, hg6⟩
  have hgy := HG5.out.trans hg6
  clear k0 k1 HMAY HSAME HG5 hg6
  go_upto_region 10 with (fail)
  obtain ⟨W6, hW6⟩ : ∃ W6, w6.alloc (.cells #[.int .i64 ps, .int .i64 0, .int .i64 3, .int .i64 9, .int .i64 20] 3) = W6 := ⟨_, rfl⟩
  have hgx : Gr w6 W6 := by rw [← hW6]; exact (Gr.refl _).alloc _
  obtain ⟨placesA, hpl⟩ : ∃ pl : List Int, [ps, 0, 3, 9, 20] = pl := ⟨_, rfl⟩
  have hb4 : Bl W6 w6.heap.size 3 (placesA.map (Value.int .i64)).toArray := by rw [← hW6, ← hpl]; exact Bl.new _ _ _
  have hpl5 : placesA.length = 5 := by rw [← hpl]; rfl
  rw [hW6]
  obtain ⟨g4, hg4e⟩ : ∃ g4, w6.heap.size = g4 := ⟨_, rfl⟩
  rw [hg4e] at hb4 ⊢
  have hgz := hgy.trans hgx
  clear hW6 hgx hg4e hgy hpl
  go_upto_region 11 with (fail)
  obtain ⟨V, hV⟩ : ∃ V, W6.alloc (.cells #[.string key, .string ⟨#[97]⟩, .string ⟨#[98]⟩, .string ⟨#[101, 101]⟩] 9) = V := ⟨_, rfl⟩
  have hgx : Gr W6 V := by rw [← hV]; exact (Gr.refl _).alloc _
  obtain ⟨keysA, hkl⟩ : ∃ kl : List ByteArray, [key, ⟨#[97]⟩, ⟨#[98]⟩, ⟨#[101, 101]⟩] = kl := ⟨_, rfl⟩
  have hb5 : Bl V W6.heap.size 9 (keysA.map Value.string).toArray := by rw [← hV, ← hkl]; exact Bl.new _ _ _
  have hkl4 : keysA.length = 4 := by rw [← hkl]; rfl
  rw [hV]
  obtain ⟨g5, hg5e⟩ : ∃ g5, W6.heap.size = g5 := ⟨_, rfl⟩
  rw [hg5e] at hb5 ⊢
  have hgv := hgz.trans hgx
  have HB4 := hide (hb4.gr hgx)
  have HB5 := hide hb5
  have HPL := hide hpl5
  have HKL := hide hkl4
  replace HB2 := hide (HB2.out.gr hgv)
  replace HB3 := hide (HB3.out.gr hgv)
  replace HW := hide (HW.out.gr hgv)
  replace HU := hide (HU.out.gr hgv)
  have HG := hide (HG2.out.trans hgv)
  clear hV hgx hg5e hgz hgv hkl hb4 hb5 hpl5 hkl4 HG2
  have HPC := hide (show ∀ W, Gr V W → ∀ k u, (placesA.map (Value.int .i64))[k]? = some u → W.cell? ((⟨g4, 0, none⟩ : Addr).add k) = some u from fun W hg k u hk => by
    have h := (HB4.out.gr hg).cell k
    rw [List.getElem?_toArray, hk] at h
    rw [Addr.add_lit, Nat.zero_add]
    exact h)
  have HKC := hide (show ∀ W, Gr V W → ∀ k u, (keysA.map Value.string)[k]? = some u → W.cell? ((⟨g5, 0, none⟩ : Addr).add k) = some u from fun W hg k u hk => by
    have h := (HB5.out.gr hg).cell k
    rw [List.getElem?_toArray, hk] at h
    rw [Addr.add_lit, Nat.zero_add]
    exact h)
  have hp1 : Try.prog.follows .mixedOrders = true := by kernel_rfl
  obtain ⟨ie, hie, _, hi2, _⟩ := info_parts info_rd
  have HGT := hide (fun W (x : ByteArray) (p : Int) (h : Gr V W) => Get_ok ⟨cs, mk⟩ x p (.slice uA q uc) W (HU.out.gr h) (HGOOD.out.bnd.len (by omega)))
  have HGU := hide (fun W (x : ByteArray) (p : Int) (h : Gr V W) => RefGet_ok ⟨cs, mk⟩ x p (.slice uA q uc) W (HU.out.gr h) (HGOOD.out.bnd.len (by omega)))
  unfold GetPost at HGT HGU
  have HLS := hide (fun W (x : ByteArray) (h : Gr V W) => StLast_ok x (.slice uA q uc) mk cs W (HU.out.gr h) (HGOOD.out.bnd.len (by omega)))
  have HLR := hide (fun W (x : ByteArray) (h : Gr V W) => refLastS_ok x (.slice uA q uc) mk cs W (HU.out.gr h) (HGOOD.out.bnd.len (by omega)))
  have HSP := hide (fun W (p : Int) (h : Gr V W) => Span_ok ⟨cs, mk⟩ from_ to_ p (.slice uA q uc) W (HU.out.gr h) (HGOOD.out.bnd.len (by omega)))
  have HSQ := hide (fun W (p : Int) (h : Gr V W) => RefSpan_ok ⟨cs, mk⟩ from_ to_ p (.slice uA q uc) W (HU.out.gr h) (HGOOD.out.bnd.len (by omega)))
  simp only [spanRS_eq HGOOD.out.ok] at HSQ
  have HTR := hide (fun W (p : Int) (h : Gr V W) => StTrim_ok ⟨cs, mk⟩ (.slice uA q uc) p W (HU.out.gr h) (HGOOD.out.bnd.len (by omega)))
  have HTQ := hide (fun W (p : Int) (h : Gr V W) => RefStTrim_ok ⟨cs, mk⟩ (.slice uA q uc) p W (HU.out.gr h) (HGOOD.out.bnd.len (by omega)))
  simp only [trimRS_eq HGOOD.out.ok] at HTQ
  unfold StPost at HTR HTQ
  have HSL := hide (fun p => spanS_len HGOOD.out from_ to_ p)
  have HTS := hide (show ∀ p, CsLen (trimS ⟨cs, mk⟩ p).chains from fun p => by
    unfold trimS
    split
    · exact HGOOD.out.bnd.len (by omega)
    · exact (HGOOD.out.bnd.trim p).len (by omega))
  go_wp2_with fail
  go_loopw [19] (fun t wr => ∃ i : Nat, t = .int .i64 (i : Int) ∧ i ≤ 5 ∧ Hid (Gr V wr)) (fun t _ => 5 - (intOf t).toNat)
  case atStart => exact ⟨0, rfl, by omega, hide (Gr.refl _)⟩
  case round =>
    obtain ⟨i, rfl, hi, HO⟩ := hrel
    by_cases hi5 : i < 5
    · have hi5' : (i : Int) < 5 := by omega
      obtain ⟨p, hpe⟩ : ∃ p, placesA[i]? = some p := ⟨_, List.getElem?_eq_getElem (by rw [HPL.out]; exact hi5)⟩
      have HPE := hide (show (placesA.map (Value.int .i64))[i]? = some (.int .i64 p) by rw [List.getElem?_map, hpe]; rfl)
      have HPX := hide (show ∀ W, Gr V W → W.cell? ((⟨g4, 0, none⟩ : Addr).add i) = some (.int .i64 p) from fun W hg => HPC.out W hg i _ HPE.out)
      clear hpe
      go_wp2_with fail
      go_loopw [20] (fun t wr => ∃ j : Nat, t = .int .i64 (j : Int) ∧ j ≤ 4 ∧ Hid (Gr V wr)) (fun t _ => 4 - (intOf t).toNat)
      case atStart => exact ⟨0, rfl, by omega, HO⟩
      case round =>
        obtain ⟨j, rfl, hj, HRA⟩ := hrel
        by_cases hj4 : j < 4
        · have hj4' : (j : Int) < 4 := by omega
          obtain ⟨x, hxe⟩ : ∃ x, keysA[j]? = some x := ⟨_, List.getElem?_eq_getElem (by rw [HKL.out]; exact hj4)⟩
          have HKE := hide (show (keysA.map Value.string)[j]? = some (.string x) by rw [List.getElem?_map, hxe]; rfl)
          have HKX := hide (show ∀ W, Gr V W → W.cell? ((⟨g5, 0, none⟩ : Addr).add j) = some (.string x) from fun W hg => HKC.out W hg j _ HKE.out)
          have HGT1 := hide (fun W (h : Gr V W) => HGT.out W x p h)
          have HGU1 := hide (fun W (h : Gr V W) => HGU.out W x p h)
          obtain ⟨R, hR⟩ : ∃ R, (getS ⟨cs, mk⟩ x p).1 = R := ⟨_, rfl⟩
          obtain ⟨e, he⟩ : ∃ e, (getS ⟨cs, mk⟩ x p).2 = e := ⟨_, rfl⟩
          rw [hR, he] at HGT1 HGU1
          have HLS1 := hide (fun W (h : Gr V W) => HLS.out W x h)
          have HLR1 := hide (fun W (h : Gr V W) => HLR.out W x h)
          generalize lastP (findC x cs) = lp at HLS1 HLR1
          clear hxe hR he
          go_wp2_with fail
          refine Edge.wp_region_laid 12 14 93 rfl hp1 (by kernel_rfl) (fun _ _ _ _ h => h) ?_
          refine Mine.any_mine_tail 14 220 [82, 83, 84, 85, 86, 87, 88, 89, 90, 91, 81, 92, 93, 21, 22] rfl (by kernel_rfl) (by kernel_rfl) (by kernel_rfl) (ob0 := none)
            (Mine.Ahead.more (Mine.Ahead.more (Mine.Ahead.more (Mine.Ahead.more (Mine.Ahead.more (Mine.Ahead.none_ _ _ _) 15 (Mine.Bx.stays g2 26 #[.slice uA q uc, .int .i64 mk]) (by exact ⟨rfl, (HB2.out.gr HRA.out).drewN 1, by simp⟩)) 18 (Mine.Wi.stays (Mine.far_pay V) (.slice (some ⟨g5, 0, none⟩) 4 4)) (by exact ⟨rfl, HRA.out.trans ((Gr.refl _).drewN 1), fun _ h => by cases h⟩)) 20 (Mine.Is.stays (.int .i64 (j : Int))) (by rfl)) 17 (Mine.Wi.stays (Mine.far_pay V) (.slice (some ⟨g4, 0, none⟩) 5 5)) (by exact ⟨rfl, HRA.out.trans ((Gr.refl _).drewN 1), fun _ h => by cases h⟩)) 19 (Mine.Is.stays (.int .i64 (i : Int))) (by rfl))
            220 (C0 := fun _ _ o => o = none) (fun _ _ _ _ h _ => h) (fun k hk => by cases hk) rfl ?_
          refine Mine.load_box rfl rfl (by decide) rfl Try.underlying26 rfl (by kernel_rfl) ?_
          refine Mine.move (.tmp 18) (.inl rfl) rfl (by decide) rfl (Mine.Wi.stays (Mine.far_pay V) _) ?_
          refine Mine.move (.tmp 20) (.inl rfl) rfl (by decide) rfl (Mine.Is.stays _) ?_
          refine Mine.look2 (x := .tmp 83) (y := .tmp 84) (Ψ := Mine.Wi (Mine.Far V) (.slice (some ⟨g5, 0, none⟩) 4 4)) (Ψ' := Mine.Is (.int .i64 (j : Int))) (Φ := Mine.Wi (Mine.Far V) (.pointer (some ((⟨g5, 0, none⟩ : Addr).add j)))) rfl (by decide) (by simp [Op.operands]) (by simp [Op.operands]) rfl rfl (Mine.Wi.stays (Mine.far_pay V) _) (fun a W ob h h' => ⟨_, exec_idx1 rfl rfl (fun w => by kernel_rfl) h.1 h' hj4 W, rfl, h.2⟩) ?_
          refine Mine.look1 (x := .tmp 85) (Ψ := Mine.Wi (Mine.Far V) (.pointer (some ((⟨g5, 0, none⟩ : Addr).add j)))) (Φ := Mine.Is (.string x)) rfl (by decide) (by simp [Op.operands]) rfl (Mine.Is.stays _) (fun a W ob h => ⟨_, exec_loadStr rfl h.1 (HKX.out W h.2.1), rfl⟩) ?_
          refine Mine.move (.tmp 17) (.inl rfl) rfl (by decide) rfl (Mine.Wi.stays (Mine.far_pay V) _) ?_
          refine Mine.move (.tmp 19) (.inl rfl) rfl (by decide) rfl (Mine.Is.stays _) ?_
          refine Mine.look2 (x := .tmp 87) (y := .tmp 88) (Ψ := Mine.Wi (Mine.Far V) (.slice (some ⟨g4, 0, none⟩) 5 5)) (Ψ' := Mine.Is (.int .i64 (i : Int))) (Φ := Mine.Wi (Mine.Far V) (.pointer (some ((⟨g4, 0, none⟩ : Addr).add i)))) rfl (by decide) (by simp [Op.operands]) (by simp [Op.operands]) rfl rfl (Mine.Wi.stays (Mine.far_pay V) _) (fun a W ob h h' => ⟨_, exec_idx1 rfl rfl (fun w => by kernel_rfl) h.1 h' hi5 W, rfl, h.2⟩) ?_
          refine Mine.look1 (x := .tmp 89) (Ψ := Mine.Wi (Mine.Far V) (.pointer (some ((⟨g4, 0, none⟩ : Addr).add i)))) (Φ := Mine.Wi (Mine.Far V) (.int .i64 p)) rfl (by decide) (by simp [Op.operands]) rfl (Mine.Wi.stays (Mine.far_pay V) _) (fun a W ob h => ⟨_, exec_load rfl h.1 W (by kernel_rfl) (HPX.out W h.2.1), rfl, h.2⟩) ?_
          refine Mine.callF3 (W := V) (res := .tuple #[rdA R, .int .i64 e]) rfl rfl (by decide) Try.func14 (by kernel_rfl) (by kernel_rfl) rfl rfl rfl (fun W hg => HGT1.out W hg) ?_
          refine Mine.move (.tmp 91) (.inl rfl) rfl (by decide) rfl (Mine.Is.stays _) ?_
          refine Mine.part rfl rfl (by decide) rfl rfl ?_
          refine Mine.part rfl rfl (by decide) rfl rfl ?_
          refine Mine.alloc (e := 40) (cs := #[.string ⟨#[]⟩, .int .i64 0, .string ⟨#[]⟩, .bool false]) rfl (by decide) (fun a W => by kernel_rfl) ?_
          intro a1 w5 ob hr hwf hs5 hd5 hu5 hk5 hat
          have hob : ob = none := hat
          subst hob
          have hbx : Mine.Nw wr.drew.heap.size 40 #[.string ⟨#[]⟩, .int .i64 0, .string ⟨#[]⟩, .bool false] (a1.tmps.getD 21 undef) w5 none := hk5 21
          have hp0 : a1.tmps.getD 92 undef = rdA R := hk5 92
          have hp1' : a1.tmps.getD 93 undef = .int .i64 e := hk5 93
          obtain ⟨ZA, hZ, hlay⟩ := Grow.lay_kept_by _ a1 220 _ hs5 hd5 hu5
          rw [hZ] at hbx hp0 hp1'
          clear hZ hu5 hd5 hs5 hk5 hwf hat
          obtain ⟨gA, hbx, hgR, hbR, _⟩ := hbx
          subst hlay
          simp only [List.range, List.range.loop, List.map_cons, List.map_nil, List.contains_cons, List.contains_nil, Nat.reduceBEq, Bool.or_false, Bool.or_true, cond_false, cond_true, Array.getD_eq_getD_getElem?, List.getElem?_toArray, List.getElem?_cons_zero, List.getElem?_cons_succ, Option.getD_some, hbx, hp0, hp1', Edge.laid, List.modify_succ_cons, List.modify_zero_cons, List.drop_succ_cons, List.drop_zero]
          have hgr : Gr wr.drew w5 := Mine.RS.none hr
          refine wpList_store_agg rfl 40 (.tmp 21) (.tmp 92) rfl rfl hie [.string R.key, .int .i64 R.ver, .string R.val, .bool R.there] (by rw [hi2]; rfl) (fun v hv => by
            simp only [List.mem_cons, List.not_mem_nil, or_false] at hv
            rcases hv with rfl | rfl | rfl | rfl <;> simp [Value.oneCell']) rfl rfl hbR rfl ?_
          have hbut : But w5 (w5.setCells gA 0 [.string R.key, .int .i64 R.ver, .string R.val, .bool R.there]) gA := but_setCells _ _ (But.refl _ _)
          have hbR' : Bl (w5.setCells gA 0 [.string R.key, .int .i64 R.ver, .string R.val, .bool R.there]) gA 40 #[.string R.key, .int .i64 R.ver, .string R.val, .bool R.there] := (((hbR.put 0 _).put 1 _).put 2 _).put 3 _
          have hg6 : Gr wr (w5.setCells gA 0 [.string R.key, .int .i64 R.ver, .string R.val, .bool R.there]) := Gr.fresh_ (((Gr.refl wr).drewN 1).trans hgr) hbut hgR
          generalize w5.setCells gA 0 [.string R.key, .int .i64 R.ver, .string R.val, .bool R.there] = VA at hbR' hg6
          have HBA := hide hbR'
          have HSA := hide hg6
          clear hbut hbR hg6 hgr hr hbx hp0 hp1' hgR hbR'
          
          go_wp2_with fail
          have HRB0 := hide (HRA.out.trans HSA.out)
          refine Edge.wp_region_laid 12 14 106 rfl hp1 (by kernel_rfl) (fun _ _ _ _ h => h) ?_
          refine Mine.any_mine_tail 14 220 [95, 96, 97, 98, 99, 100, 101, 102, 103, 104, 94, 105, 106, 23, 24] rfl (by kernel_rfl) (by kernel_rfl) (by kernel_rfl) (ob0 := none)
            (Mine.Ahead.more (Mine.Ahead.more (Mine.Ahead.more (Mine.Ahead.more (Mine.Ahead.more (Mine.Ahead.none_ _ _ _) 15 (Mine.Bx.stays g2 26 #[.slice uA q uc, .int .i64 mk]) (by exact ⟨rfl, (HB2.out.gr HRB0.out).drewN 1, by simp⟩)) 18 (Mine.Wi.stays (Mine.far_pay V) (.slice (some ⟨g5, 0, none⟩) 4 4)) (by exact ⟨rfl, HRB0.out.trans ((Gr.refl _).drewN 1), fun _ h => by cases h⟩)) 20 (Mine.Is.stays (.int .i64 (j : Int))) (by rfl)) 17 (Mine.Wi.stays (Mine.far_pay V) (.slice (some ⟨g4, 0, none⟩) 5 5)) (by exact ⟨rfl, HRB0.out.trans ((Gr.refl _).drewN 1), fun _ h => by cases h⟩)) 19 (Mine.Is.stays (.int .i64 (i : Int))) (by rfl))
            220 (C0 := fun _ _ o => o = none) (fun _ _ _ _ h _ => h) (fun k hk => by cases hk) rfl ?_
          refine Mine.load_box rfl rfl (by decide) rfl Try.underlying26 rfl (by kernel_rfl) ?_
          refine Mine.move (.tmp 18) (.inl rfl) rfl (by decide) rfl (Mine.Wi.stays (Mine.far_pay V) _) ?_
          refine Mine.move (.tmp 20) (.inl rfl) rfl (by decide) rfl (Mine.Is.stays _) ?_
          refine Mine.look2 (x := .tmp 96) (y := .tmp 97) (Ψ := Mine.Wi (Mine.Far V) (.slice (some ⟨g5, 0, none⟩) 4 4)) (Ψ' := Mine.Is (.int .i64 (j : Int))) (Φ := Mine.Wi (Mine.Far V) (.pointer (some ((⟨g5, 0, none⟩ : Addr).add j)))) rfl (by decide) (by simp [Op.operands]) (by simp [Op.operands]) rfl rfl (Mine.Wi.stays (Mine.far_pay V) _) (fun a W ob h h' => ⟨_, exec_idx1 rfl rfl (fun w => by kernel_rfl) h.1 h' hj4 W, rfl, h.2⟩) ?_
          refine Mine.look1 (x := .tmp 98) (Ψ := Mine.Wi (Mine.Far V) (.pointer (some ((⟨g5, 0, none⟩ : Addr).add j)))) (Φ := Mine.Is (.string x)) rfl (by decide) (by simp [Op.operands]) rfl (Mine.Is.stays _) (fun a W ob h => ⟨_, exec_loadStr rfl h.1 (HKX.out W h.2.1), rfl⟩) ?_
          refine Mine.move (.tmp 17) (.inl rfl) rfl (by decide) rfl (Mine.Wi.stays (Mine.far_pay V) _) ?_
          refine Mine.move (.tmp 19) (.inl rfl) rfl (by decide) rfl (Mine.Is.stays _) ?_
          refine Mine.look2 (x := .tmp 100) (y := .tmp 101) (Ψ := Mine.Wi (Mine.Far V) (.slice (some ⟨g4, 0, none⟩) 5 5)) (Ψ' := Mine.Is (.int .i64 (i : Int))) (Φ := Mine.Wi (Mine.Far V) (.pointer (some ((⟨g4, 0, none⟩ : Addr).add i)))) rfl (by decide) (by simp [Op.operands]) (by simp [Op.operands]) rfl rfl (Mine.Wi.stays (Mine.far_pay V) _) (fun a W ob h h' => ⟨_, exec_idx1 rfl rfl (fun w => by kernel_rfl) h.1 h' hi5 W, rfl, h.2⟩) ?_
          refine Mine.look1 (x := .tmp 102) (Ψ := Mine.Wi (Mine.Far V) (.pointer (some ((⟨g4, 0, none⟩ : Addr).add i)))) (Φ := Mine.Wi (Mine.Far V) (.int .i64 p)) rfl (by decide) (by simp [Op.operands]) rfl (Mine.Wi.stays (Mine.far_pay V) _) (fun a W ob h => ⟨_, exec_load rfl h.1 W (by kernel_rfl) (HPX.out W h.2.1), rfl, h.2⟩) ?_
          refine Mine.callF3 (W := V) (res := .tuple #[rdA R, .int .i64 e]) rfl rfl (by decide) Try.func15 (by kernel_rfl) (by kernel_rfl) rfl rfl rfl (fun W hg => HGU1.out W hg) ?_
          refine Mine.move (.tmp 104) (.inl rfl) rfl (by decide) rfl (Mine.Is.stays _) ?_
          refine Mine.part rfl rfl (by decide) rfl rfl ?_
          refine Mine.part rfl rfl (by decide) rfl rfl ?_
          refine Mine.alloc (e := 40) (cs := #[.string ⟨#[]⟩, .int .i64 0, .string ⟨#[]⟩, .bool false]) rfl (by decide) (fun a W => by kernel_rfl) ?_
          intro a1 w5 ob hr hwf hs5 hd5 hu5 hk5 hat
          have hob : ob = none := hat
          subst hob
          have hbx : Mine.Nw VA.drew.heap.size 40 #[.string ⟨#[]⟩, .int .i64 0, .string ⟨#[]⟩, .bool false] (a1.tmps.getD 23 undef) w5 none := hk5 23
          have hp0 : a1.tmps.getD 105 undef = rdA R := hk5 105
          have hp1' : a1.tmps.getD 106 undef = .int .i64 e := hk5 106
          obtain ⟨ZB, hZ, hlay⟩ := Grow.lay_kept_by _ a1 220 _ hs5 hd5 hu5
          rw [hZ] at hbx hp0 hp1'
          clear hZ hu5 hd5 hs5 hk5 hwf hat
          obtain ⟨gB, hbx, hgR, hbR, _⟩ := hbx
          subst hlay
          simp only [List.range, List.range.loop, List.map_cons, List.map_nil, List.contains_cons, List.contains_nil, Nat.reduceBEq, Bool.or_false, Bool.or_true, cond_false, cond_true, Array.getD_eq_getD_getElem?, List.getElem?_toArray, List.getElem?_cons_zero, List.getElem?_cons_succ, Option.getD_some, hbx, hp0, hp1', Edge.laid, List.modify_succ_cons, List.modify_zero_cons, List.drop_succ_cons, List.drop_zero]
          have hgr : Gr VA.drew w5 := Mine.RS.none hr
          refine wpList_store_agg rfl 40 (.tmp 23) (.tmp 105) rfl rfl hie [.string R.key, .int .i64 R.ver, .string R.val, .bool R.there] (by rw [hi2]; rfl) (fun v hv => by
            simp only [List.mem_cons, List.not_mem_nil, or_false] at hv
            rcases hv with rfl | rfl | rfl | rfl <;> simp [Value.oneCell']) rfl rfl hbR rfl ?_
          have hbut : But w5 (w5.setCells gB 0 [.string R.key, .int .i64 R.ver, .string R.val, .bool R.there]) gB := but_setCells _ _ (But.refl _ _)
          have hbR' : Bl (w5.setCells gB 0 [.string R.key, .int .i64 R.ver, .string R.val, .bool R.there]) gB 40 #[.string R.key, .int .i64 R.ver, .string R.val, .bool R.there] := (((hbR.put 0 _).put 1 _).put 2 _).put 3 _
          have hg6 : Gr VA (w5.setCells gB 0 [.string R.key, .int .i64 R.ver, .string R.val, .bool R.there]) := Gr.fresh_ (((Gr.refl VA).drewN 1).trans hgr) hbut hgR
          generalize w5.setCells gB 0 [.string R.key, .int .i64 R.ver, .string R.val, .bool R.there] = VB at hbR' hg6
          have HBB := hide hbR'
          have HSB := hide hg6
          clear hbut hbR hg6 hgr hr hbx hp0 hp1' hgR hbR'
          
          go_wp2_with fail
          have HRW := hide (HRB0.out.trans (HSB.out.trans ((Gr.refl VB).drewN 1)))
          refine Grow.wp_region_kept 220 [107, 108, 109, 110, 111, 112, 113, 114, 115, 116, 117, 118, 119, 120, 121, 122, 123, 124, 125, 126, 127, 128, 129] rfl (by kernel_rfl) (by kernel_rfl) (by kernel_rfl) (Grow.Ahead.more (Grow.Ahead.more (Grow.Ahead.more (Grow.Ahead.more (Grow.Ahead.more (Grow.Ahead.more (Grow.Ahead.more (Grow.Ahead.none_ _ _) 15 (Grow.Bx.stays g2 26 #[.slice uA q uc, .int .i64 mk]) ⟨rfl, HB2.out.gr HRW.out⟩) 21 (Grow.Bx.stays gA 40 #[.string R.key, .int .i64 R.ver, .string R.val, .bool R.there]) ⟨rfl, (HBA.out.gr HSB.out).drewN 1⟩) 23 (Grow.Bx.stays gB 40 #[.string R.key, .int .i64 R.ver, .string R.val, .bool R.there]) ⟨rfl, HBB.out.drewN 1⟩) 22 (Grow.Is.stays (.int .i64 e)) rfl) 24 (Grow.Is.stays (.int .i64 e)) rfl) 18 (Grow.Cl.stays ⟨g5, 0, none⟩ 4 4 (keysA.map Value.string)) ⟨rfl, (by rw [List.length_map, HKL.out]), fun k u hk => HKC.out _ HRW.out k u hk⟩) 20 (Grow.Is.stays (.int .i64 (j : Int))) rfl) ?_
          refine Grow.grow_row rfl (.inl ⟨rfl, rfl⟩) rfl Try.underlying40 rfl (by kernel_rfl) ?_
          refine Grow.grow_row rfl (.inl ⟨rfl, rfl⟩) rfl Try.underlying40 rfl (by kernel_rfl) ?_
          refine Grow.grow_see2 (x := .tmp 107) (y := .tmp 108) (u := rdA R) (v := rdA R) (z := .bool false) (.inl ⟨rfl, rfl⟩) (by simp [Op.operands]) (by simp [Op.operands]) rfl rfl (fun a W hg h1 h2 => exec_neqRd rfl h1 h2 W) ?_
          refine Grow.grow_mv (.inl rfl) (.inl ⟨rfl, rfl⟩) rfl ?_
          refine Grow.grow_mv (.inl rfl) (.inr ⟨3, false, 110, rfl, rfl, rfl, by decide⟩) rfl ?_
          refine Grow.grow_mv (.inl rfl) (.inr ⟨3, false, 110, rfl, rfl, rfl, by decide⟩) rfl ?_
          refine Grow.grow_int_alike rfl rfl (.inr ⟨3, false, 110, rfl, rfl, rfl, by decide⟩) rfl rfl ?_
          refine Grow.grow_pick_no (Φ := Grow.Is (.bool false)) rfl (.inl ⟨rfl, rfl⟩) rfl rfl (Grow.Is.stays _) ?_
          refine Grow.grow_mv (.inl rfl) (.inl ⟨rfl, rfl⟩) rfl ?_
          refine Grow.grow_row rfl (.inr ⟨8, false, 115, rfl, rfl, rfl, by decide⟩) rfl Try.underlying26 rfl (by kernel_rfl) ?_
          refine Grow.grow_mvc (.inl rfl) (.inr ⟨8, false, 115, rfl, rfl, rfl, by decide⟩) rfl ?_
          refine Grow.grow_mv (.inl rfl) (.inr ⟨8, false, 115, rfl, rfl, rfl, by decide⟩) rfl ?_
          refine Grow.grow_index j rfl rfl (fun w => by kernel_rfl) (.inr ⟨8, false, 115, rfl, rfl, rfl, by decide⟩) rfl rfl rfl HKE.out ?_
          refine Grow.grow_load rfl (fun w => by kernel_rfl) (.inr ⟨8, false, 115, rfl, rfl, rfl, by decide⟩) rfl ?_
          refine Grow.grow_call2 (Φ := Grow.Is (.int .i64 lp)) rfl (.inr ⟨8, false, 115, rfl, rfl, rfl, by decide⟩) Try.func16 (by kernel_rfl) (by kernel_rfl) rfl rfl (Grow.Is.stays _) (fun v u W hg hv hu => by
            subst hv hu
            exact (HLS1.out W (HRW.out.trans hg)).mono fun e w' ⟨he, hgx⟩ => ⟨_, he, hgx, rfl⟩) ?_
          refine Grow.grow_row rfl (.inr ⟨8, false, 115, rfl, rfl, rfl, by decide⟩) rfl Try.underlying26 rfl (by kernel_rfl) ?_
          refine Grow.grow_mvc (.inl rfl) (.inr ⟨8, false, 115, rfl, rfl, rfl, by decide⟩) rfl ?_
          refine Grow.grow_mv (.inl rfl) (.inr ⟨8, false, 115, rfl, rfl, rfl, by decide⟩) rfl ?_
          refine Grow.grow_index j rfl rfl (fun w => by kernel_rfl) (.inr ⟨8, false, 115, rfl, rfl, rfl, by decide⟩) rfl rfl rfl HKE.out ?_
          refine Grow.grow_load rfl (fun w => by kernel_rfl) (.inr ⟨8, false, 115, rfl, rfl, rfl, by decide⟩) rfl ?_
          refine Grow.grow_call2 (Φ := Grow.Is (.int .i64 lp)) rfl (.inr ⟨8, false, 115, rfl, rfl, rfl, by decide⟩) Try.func17 (by kernel_rfl) (by kernel_rfl) rfl rfl (Grow.Is.stays _) (fun v u W hg hv hu => by
            subst hv hu
            exact (HLR1.out W (HRW.out.trans hg)).mono fun e w' ⟨he, hgx⟩ => ⟨_, he, hgx, rfl⟩) ?_
          refine Grow.grow_int_alike rfl rfl (.inr ⟨8, false, 115, rfl, rfl, rfl, by decide⟩) rfl rfl ?_
          refine Grow.grow_pick_no (Φ := Grow.Is (.bool false)) rfl (.inl ⟨rfl, rfl⟩) rfl rfl (Grow.Is.stays _) ?_
          intro a2 w6 hg6 hs6 hd6 hu6 hk6
          have h129 : a2.tmps.getD 129 undef = .bool false := hk6 129
          obtain ⟨Z3, hZ, hlay⟩ := Grow.lay_kept_by _ a2 220 _ hs6 hd6 hu6
          rw [hZ] at h129
          clear hZ hu6 hd6 hs6 hk6
          subst hlay
          simp only [List.range, List.range.loop, List.map_cons, List.map_nil, List.contains_cons, List.contains_nil, Nat.reduceBEq, Bool.or_false, Bool.or_true, cond_false, cond_true, Array.getD_eq_getD_getElem?, List.getElem?_toArray, List.getElem?_cons_zero, List.getElem?_cons_succ, Option.getD_some, h129]
          clear h129
          have HR8 := hide (HRW.out.trans hg6)
          clear hg6
          go_wp2_with fail
          go_roundw
          case rel => exact ⟨j + 1, by go_num, by omega, HR8⟩
          case measure => simp [intOf]; omega
        · obtain rfl : j = 4 := by omega
          have HR := HRA
          have HSP1 := hide (fun W (h : Gr V W) => HSP.out W p h)
          have HSQ1 := hide (fun W (h : Gr V W) => HSQ.out W p h)
          have HSL1 := HSL.out p
          obtain ⟨L, hL⟩ : ∃ L, (spanS ⟨cs, mk⟩ from_ to_ p).1 = L := ⟨_, rfl⟩
          obtain ⟨se, hse⟩ : ∃ e, (spanS ⟨cs, mk⟩ from_ to_ p).2 = e := ⟨_, rfl⟩
          unfold SpanPost at HSP1 HSQ1
          rw [hL, hse] at HSP1 HSQ1
          rw [hL] at HSL1
          obtain ⟨nl, hnl⟩ : ∃ nl, L.length = nl := ⟨_, rfl⟩
          have HNL := hide hnl
          rw [hnl] at HSL1
          have HSP2 := hide (show ∀ W, Gr V W → Calls Try.prog 18 #[.agg #[.slice uA q uc, .int .i64 mk], .string from_, .string to_, .int .i64 p] W fun e w' => ∃ A c, e = .returned (.tuple #[.slice A nl c, .int .i64 se]) ∧ RowAt 4 w' (.slice A nl c) (L.map rdC) ∧ Gr W w' from fun W h => (HSP1.out W h).mono fun e w' ⟨u, he, hr, hg⟩ => by
            obtain ⟨A, c, rfl⟩ := hr.is
            rw [hnl] at he hr
            exact ⟨A, c, he, hr.rowAt, hg⟩)
          have HSQ2 := hide (show ∀ W, Gr V W → Calls Try.prog 19 #[.agg #[.slice uA q uc, .int .i64 mk], .string from_, .string to_, .int .i64 p] W fun e w' => ∃ A c, e = .returned (.tuple #[.slice A nl c, .int .i64 se]) ∧ RowAt 4 w' (.slice A nl c) (L.map rdC) ∧ Gr W w' from fun W h => (HSQ1.out W h).mono fun e w' ⟨u, he, hr, hg⟩ => by
            obtain ⟨A, c, rfl⟩ := hr.is
            rw [hnl] at he hr
            exact ⟨A, c, he, hr.rowAt, hg⟩)
          have HTR1 := hide (fun W (h : Gr V W) => HTR.out W p h)
          have HTQ1 := hide (fun W (h : Gr V W) => HTQ.out W p h)
          obtain ⟨ts, hts⟩ : ∃ ts, trimS ⟨cs, mk⟩ p = ts := ⟨_, rfl⟩
          have HTS1 := HTS.out p
          rw [hts] at HTR1 HTQ1 HTS1
          have HST := hide (fun W x y (h : ChnsX W x ts.chains) (h2 : ChnsX W y ts.chains) => RefSame_ok ts ts x y W h h2 HTS1)
          rw [decide_eq_true rfl] at HST
          clear hL hse hnl hts HSP1 HSQ1
          go_wp2_with fail
          refine Grow.wp_region_kept 220 [131, 132, 133, 134, 135, 136, 137, 138, 130, 139, 140, 25, 26] rfl (by kernel_rfl) (by kernel_rfl) (by kernel_rfl) (Grow.Ahead.more (Grow.Ahead.more (Grow.Ahead.more (Grow.Ahead.more (Grow.Ahead.more (Grow.Ahead.none_ _ _) 15 (Grow.Bx.stays g2 26 #[.slice uA q uc, .int .i64 mk]) ⟨rfl, (HB2.out.gr HR.out).drewN 1⟩) 5 (Grow.Is.stays (.string from_)) rfl) 6 (Grow.Is.stays (.string to_)) rfl) 17 (Grow.Cl.stays ⟨g4, 0, none⟩ 5 5 (placesA.map (Value.int .i64))) ⟨rfl, (by rw [List.length_map, HPL.out]), fun k u hk => HPC.out _ (HR.out.trans ((Gr.refl _).drewN 1)) k u hk⟩) 19 (Grow.Is.stays (.int .i64 (i : Int))) rfl) ?_
          refine Grow.grow_row rfl (.inl ⟨rfl, rfl⟩) rfl Try.underlying26 rfl (by kernel_rfl) ?_
          refine Grow.grow_mv (.inl rfl) (.inl ⟨rfl, rfl⟩) rfl ?_
          refine Grow.grow_mv (.inl rfl) (.inl ⟨rfl, rfl⟩) rfl ?_
          refine Grow.grow_mvc (.inl rfl) (.inl ⟨rfl, rfl⟩) rfl ?_
          refine Grow.grow_mv (.inl rfl) (.inl ⟨rfl, rfl⟩) rfl ?_
          refine Grow.grow_index i rfl rfl (fun w => by kernel_rfl) (.inl ⟨rfl, rfl⟩) rfl rfl rfl HPE.out ?_
          refine Grow.grow_load rfl (fun w => by kernel_rfl) (.inl ⟨rfl, rfl⟩) rfl ?_
          refine Grow.grow_call4 (Φ := Grow.TwK 4 nl (L.map rdC) se) rfl (.inl ⟨rfl, rfl⟩) Try.func18 (by kernel_rfl) (by kernel_rfl) rfl rfl rfl rfl (Grow.TwK.stays _ _ _ _) (fun v u t s W hg hv hu ht hs => by
            subst hv hu ht hs
            exact (HSP2.out W (HR.out.trans (((Gr.refl _).drewN 1).trans hg))).mono fun e w' ⟨A, c, he, hr, hgx⟩ => ⟨_, he, hgx, A, c, rfl, hr⟩) ?_
          refine Grow.grow_move (.tmp 138) (Φ := Grow.TwK 4 nl (L.map rdC) se) (.inl rfl) (.inl ⟨rfl, rfl⟩) rfl (Grow.TwK.stays _ _ _ _) ?_
          refine Grow.grow_partK (Ψ := Grow.TwK 4 nl (L.map rdC) se) (Φ := Grow.RwK 4 nl (L.map rdC)) rfl (.inl ⟨rfl, rfl⟩) rfl (Grow.RwK.stays _ _ _) (fun v w ⟨A, c, h1, h2⟩ => ⟨_, by subst h1; rfl, A, c, rfl, h2⟩) ?_
          refine Grow.grow_partK (Ψ := Grow.TwK 4 nl (L.map rdC) se) (Φ := Grow.Is (.int .i64 se)) rfl (.inl ⟨rfl, rfl⟩) rfl (Grow.Is.stays _) (fun v w ⟨A, c, h1, h2⟩ => ⟨_, by subst h1; rfl, rfl⟩) ?_
          refine Grow.grow_move (.tmp 139) (Φ := Grow.RwK 4 nl (L.map rdC)) (.inr rfl) (.inl ⟨rfl, rfl⟩) rfl (Grow.RwK.stays _ _ _) ?_
          refine Grow.grow_mv (.inr rfl) (.inl ⟨rfl, rfl⟩) rfl ?_
          intro a2 w6 hg6 hs6 hd6 hu6 hk6
          have h25 : Grow.RwK 4 nl (L.map rdC) (a2.tmps.getD 25 undef) w6 := hk6 25
          have h26 : a2.tmps.getD 26 undef = .int .i64 se := hk6 26
          obtain ⟨Z4, hZ, hlay⟩ := Grow.lay_kept_by _ a2 220 _ hs6 hd6 hu6
          rw [hZ] at h25 h26
          clear hZ hu6 hd6 hs6 hk6
          obtain ⟨aA, ac, h25, hra⟩ := h25
          subst hlay
          simp only [List.range, List.range.loop, List.map_cons, List.map_nil, List.contains_cons, List.contains_nil, Nat.reduceBEq, Bool.or_false, Bool.or_true, cond_false, cond_true, Array.getD_eq_getD_getElem?, List.getElem?_toArray, List.getElem?_cons_zero, List.getElem?_cons_succ, Option.getD_some, h25, h26]
          clear h25 h26
          have HRA := hide hra
          have HR9 := hide (HR.out.trans (((Gr.refl wr).drewN 1).trans hg6))
          clear hra hg6
          go_wp2_with fail
          refine Grow.wp_region_kept 220 [142, 143, 144, 145, 146, 147, 148, 149, 141, 150, 151, 27, 28] rfl (by kernel_rfl) (by kernel_rfl) (by kernel_rfl) (Grow.Ahead.more (Grow.Ahead.more (Grow.Ahead.more (Grow.Ahead.more (Grow.Ahead.more (Grow.Ahead.none_ _ _) 15 (Grow.Bx.stays g2 26 #[.slice uA q uc, .int .i64 mk]) ⟨rfl, (HB2.out.gr HR9.out).drewN 1⟩) 5 (Grow.Is.stays (.string from_)) rfl) 6 (Grow.Is.stays (.string to_)) rfl) 17 (Grow.Cl.stays ⟨g4, 0, none⟩ 5 5 (placesA.map (Value.int .i64))) ⟨rfl, (by rw [List.length_map, HPL.out]), fun k u hk => HPC.out _ (HR9.out.trans ((Gr.refl _).drewN 1)) k u hk⟩) 19 (Grow.Is.stays (.int .i64 (i : Int))) rfl) ?_
          refine Grow.grow_row rfl (.inl ⟨rfl, rfl⟩) rfl Try.underlying26 rfl (by kernel_rfl) ?_
          refine Grow.grow_mv (.inl rfl) (.inl ⟨rfl, rfl⟩) rfl ?_
          refine Grow.grow_mv (.inl rfl) (.inl ⟨rfl, rfl⟩) rfl ?_
          refine Grow.grow_mvc (.inl rfl) (.inl ⟨rfl, rfl⟩) rfl ?_
          refine Grow.grow_mv (.inl rfl) (.inl ⟨rfl, rfl⟩) rfl ?_
          refine Grow.grow_index i rfl rfl (fun w => by kernel_rfl) (.inl ⟨rfl, rfl⟩) rfl rfl rfl HPE.out ?_
          refine Grow.grow_load rfl (fun w => by kernel_rfl) (.inl ⟨rfl, rfl⟩) rfl ?_
          refine Grow.grow_call4 (Φ := Grow.TwK 4 nl (L.map rdC) se) rfl (.inl ⟨rfl, rfl⟩) Try.func19 (by kernel_rfl) (by kernel_rfl) rfl rfl rfl rfl (Grow.TwK.stays _ _ _ _) (fun v u t s W hg hv hu ht hs => by
            subst hv hu ht hs
            exact (HSQ2.out W (HR9.out.trans (((Gr.refl _).drewN 1).trans hg))).mono fun e w' ⟨A, c, he, hr, hgx⟩ => ⟨_, he, hgx, A, c, rfl, hr⟩) ?_
          refine Grow.grow_move (.tmp 149) (Φ := Grow.TwK 4 nl (L.map rdC) se) (.inl rfl) (.inl ⟨rfl, rfl⟩) rfl (Grow.TwK.stays _ _ _ _) ?_
          refine Grow.grow_partK (Ψ := Grow.TwK 4 nl (L.map rdC) se) (Φ := Grow.RwK 4 nl (L.map rdC)) rfl (.inl ⟨rfl, rfl⟩) rfl (Grow.RwK.stays _ _ _) (fun v w ⟨A, c, h1, h2⟩ => ⟨_, by subst h1; rfl, A, c, rfl, h2⟩) ?_
          refine Grow.grow_partK (Ψ := Grow.TwK 4 nl (L.map rdC) se) (Φ := Grow.Is (.int .i64 se)) rfl (.inl ⟨rfl, rfl⟩) rfl (Grow.Is.stays _) (fun v w ⟨A, c, h1, h2⟩ => ⟨_, by subst h1; rfl, rfl⟩) ?_
          refine Grow.grow_move (.tmp 150) (Φ := Grow.RwK 4 nl (L.map rdC)) (.inr rfl) (.inl ⟨rfl, rfl⟩) rfl (Grow.RwK.stays _ _ _) ?_
          refine Grow.grow_mv (.inr rfl) (.inl ⟨rfl, rfl⟩) rfl ?_
          intro a2 w7 hg7 hs6 hd6 hu6 hk6
          have h27 : Grow.RwK 4 nl (L.map rdC) (a2.tmps.getD 27 undef) w7 := hk6 27
          have h28 : a2.tmps.getD 28 undef = .int .i64 se := hk6 28
          obtain ⟨Z5, hZ, hlay⟩ := Grow.lay_kept_by _ a2 220 _ hs6 hd6 hu6
          rw [hZ] at h27 h28
          clear hZ hu6 hd6 hs6 hk6
          obtain ⟨bA, bc, h27, hrb⟩ := h27
          subst hlay
          simp only [List.range, List.range.loop, List.map_cons, List.map_nil, List.contains_cons, List.contains_nil, Nat.reduceBEq, Bool.or_false, Bool.or_true, cond_false, cond_true, Array.getD_eq_getD_getElem?, List.getElem?_toArray, List.getElem?_cons_zero, List.getElem?_cons_succ, Option.getD_some, h27, h28]
          clear h27 h28
          have HRA2 := hide (HRA.out.gr (((Gr.refl w6).drewN 1).trans hg7))
          have HRB := hide hrb
          have HR10 := hide (HR9.out.trans (((Gr.refl w6).drewN 1).trans hg7))
          clear hrb hg7 HRA
          go_wp2_with fail
          have HRC := hide (HR10.out.trans ((Gr.refl w7).drewN 1))
          by_cases hp1p : 1 ≤ p
          · have hde := HGOOD.out.wr hp1p HWS.out.1
            have HWR := hide (fun W (h : Gr V W) => Write_ok (.slice uA q uc) mk p cs (.slice wA n4 wc) ws W (HU.out.gr h) 48 HGOOD.out.bnd (by have := HWS.out.2; omega) (HW.out.gr h))
            have HWQ := hide (fun W (h : Gr V W) => RefWrite_ok (.slice uA q uc) mk p cs (.slice wA n4 wc) ws W (HU.out.gr h) 48 HGOOD.out.bnd (by have := HWS.out.2; omega) (HW.out.gr h))
            rw [show writeR p ws cs = writeC p ws cs from hde] at HWQ
            have HDB := hide (CsBnd.write p ws HGOOD.out.bnd)
            obtain ⟨ds, hds⟩ : ∃ ds, writeC p ws cs = ds := ⟨_, rfl⟩
            have HDB2 := hide (show CsLen ds from by rw [← hds]; exact HDB.out.len (by have := HWS.out.2; omega))
            rw [hds] at HWR HWQ
            have HSD := hide (fun W x y (h : ChnsX W x ds) (h2 : ChnsX W y ds) => RefSame_ok ⟨ds, mk⟩ ⟨ds, mk⟩ x y W h h2 HDB2.out)
            rw [decide_eq_true rfl] at HSD
            unfold StPost at HWR HWQ
            clear hde hds HDB HDB2
            refine Grow.wp_region_kept 220 [152, 153, 154, 155, 156, 157, 158, 159, 160, 161, 162, 163, 164, 165, 166, 167, 168, 169, 170, 171, 172, 173, 174, 175, 176, 177, 178, 179, 180, 181, 182, 183, 184, 185, 186, 187, 188, 189, 190, 191, 192, 193, 194, 195, 196, 197, 198, 199, 200, 201, 202, 203, 204] rfl (by kernel_rfl) (by kernel_rfl) (by kernel_rfl) (Grow.Ahead.more (Grow.Ahead.more (Grow.Ahead.more (Grow.Ahead.more (Grow.Ahead.more (Grow.Ahead.more (Grow.Ahead.more (Grow.Ahead.more (Grow.Ahead.none_ _ _) 15 (Grow.Bx.stays g2 26 #[.slice uA q uc, .int .i64 mk]) ⟨rfl, HB2.out.gr HRC.out⟩) 16 (Grow.Bx.stays g3 31 #[.int .i64 ta, .int .i64 tb, .slice rA rn rc, .slice wA n4 wc]) ⟨rfl, HB3.out.gr HRC.out⟩) 17 (Grow.Cl.stays ⟨g4, 0, none⟩ 5 5 (placesA.map (Value.int .i64))) ⟨rfl, (by rw [List.length_map, HPL.out]), fun k u hk => HPC.out _ HRC.out k u hk⟩) 19 (Grow.Is.stays (.int .i64 (i : Int))) rfl) 25 (Grow.Is.stays (.slice aA nl ac)) rfl) 27 (Grow.Is.stays (.slice bA nl bc)) rfl) 26 (Grow.Is.stays (.int .i64 se)) rfl) 28 (Grow.Is.stays (.int .i64 se)) rfl) ?_
            refine Grow.grow_mv (.inl rfl) (.inl ⟨rfl, rfl⟩) rfl ?_
            refine Grow.grow_mv (.inl rfl) (.inl ⟨rfl, rfl⟩) rfl ?_
            refine Grow.grow_int_alike rfl rfl (.inl ⟨rfl, rfl⟩) rfl rfl ?_
            refine Grow.grow_mv (.inl rfl) (.inl ⟨rfl, rfl⟩) rfl ?_
            refine Grow.grow_mv (.inl rfl) (.inr ⟨3, false, 155, rfl, rfl, rfl, by decide⟩) rfl ?_
            refine Grow.grow_len_k (Ψ := Grow.Is (.slice aA nl ac)) (n := nl) rfl (by kernel_rfl) (.inr ⟨3, false, 155, rfl, rfl, rfl, by decide⟩) rfl (fun v w h => ⟨aA, ac, h⟩) ?_
            refine Grow.grow_mv (.inl rfl) (.inr ⟨3, false, 155, rfl, rfl, rfl, by decide⟩) rfl ?_
            refine Grow.grow_len_k (Ψ := Grow.Is (.slice bA nl bc)) (n := nl) rfl (by kernel_rfl) (.inr ⟨3, false, 155, rfl, rfl, rfl, by decide⟩) rfl (fun v w h => ⟨bA, bc, h⟩) ?_
            refine Grow.grow_int_alike rfl rfl (.inr ⟨3, false, 155, rfl, rfl, rfl, by decide⟩) rfl rfl ?_
            refine Grow.grow_pick_no (Φ := Grow.Is (.bool false)) rfl (.inl ⟨rfl, rfl⟩) rfl rfl (Grow.Is.stays _) ?_
            refine Grow.grow_mv (.inl rfl) (.inl ⟨rfl, rfl⟩) rfl ?_
            refine Grow.grow_row rfl (.inr ⟨10, false, 162, rfl, rfl, rfl, by decide⟩) rfl Try.underlying26 rfl (by kernel_rfl) ?_
            refine Grow.grow_mvc (.inl rfl) (.inr ⟨10, false, 162, rfl, rfl, rfl, by decide⟩) rfl ?_
            refine Grow.grow_mv (.inl rfl) (.inr ⟨10, false, 162, rfl, rfl, rfl, by decide⟩) rfl ?_
            refine Grow.grow_index i rfl rfl (fun w => by kernel_rfl) (.inr ⟨10, false, 162, rfl, rfl, rfl, by decide⟩) rfl rfl rfl HPE.out ?_
            refine Grow.grow_load rfl (fun w => by kernel_rfl) (.inr ⟨10, false, 162, rfl, rfl, rfl, by decide⟩) rfl ?_
            refine Grow.grow_call2 (Φ := Grow.SvK ts.chains ts.mark) rfl (.inr ⟨10, false, 162, rfl, rfl, rfl, by decide⟩) Try.func21 (by kernel_rfl) (by kernel_rfl) rfl rfl (Grow.SvK.stays _ _) (fun v u W hg hv hu => by
              subst hv hu
              exact (HTR1.out W (HRC.out.trans hg)).mono fun e w' ⟨x, he, hx, hgx⟩ => ⟨_, he, hgx, x, rfl, hx⟩) ?_
            refine Grow.grow_row rfl (.inr ⟨10, false, 162, rfl, rfl, rfl, by decide⟩) rfl Try.underlying26 rfl (by kernel_rfl) ?_
            refine Grow.grow_mvc (.inl rfl) (.inr ⟨10, false, 162, rfl, rfl, rfl, by decide⟩) rfl ?_
            refine Grow.grow_mv (.inl rfl) (.inr ⟨10, false, 162, rfl, rfl, rfl, by decide⟩) rfl ?_
            refine Grow.grow_index i rfl rfl (fun w => by kernel_rfl) (.inr ⟨10, false, 162, rfl, rfl, rfl, by decide⟩) rfl rfl rfl HPE.out ?_
            refine Grow.grow_load rfl (fun w => by kernel_rfl) (.inr ⟨10, false, 162, rfl, rfl, rfl, by decide⟩) rfl ?_
            refine Grow.grow_call2 (Φ := Grow.SvK ts.chains ts.mark) rfl (.inr ⟨10, false, 162, rfl, rfl, rfl, by decide⟩) Try.func22 (by kernel_rfl) (by kernel_rfl) rfl rfl (Grow.SvK.stays _ _) (fun v u W hg hv hu => by
              subst hv hu
              exact (HTQ1.out W (HRC.out.trans hg)).mono fun e w' ⟨x, he, hx, hgx⟩ => ⟨_, he, hgx, x, rfl, hx⟩) ?_
            refine Grow.grow_call2 (Φ := Grow.Is (.bool true)) rfl (.inr ⟨10, false, 162, rfl, rfl, rfl, by decide⟩) Try.func20 (by kernel_rfl) (by kernel_rfl) rfl rfl (Grow.Is.stays _) (fun v u W hg hv hu => by
              obtain ⟨x, rfl, hx⟩ := hv
              obtain ⟨y, rfl, hy⟩ := hu
              exact (HST.out W x y hx hy).mono fun e w' ⟨he, hgx⟩ => ⟨_, he, hgx, rfl⟩) ?_
            refine Grow.grow_not rfl (.inr ⟨10, false, 162, rfl, rfl, rfl, by decide⟩) rfl ?_
            refine Grow.grow_pick_no (Φ := Grow.Is (.bool false)) rfl (.inl ⟨rfl, rfl⟩) rfl rfl (Grow.Is.stays _) ?_
            refine Grow.grow_mv (.inl rfl) (.inl ⟨rfl, rfl⟩) rfl ?_
            refine Grow.grow_mvc (.inl rfl) (.inr ⟨26, false, 178, rfl, rfl, rfl, by decide⟩) rfl ?_
            refine Grow.grow_mv (.inl rfl) (.inr ⟨26, false, 178, rfl, rfl, rfl, by decide⟩) rfl ?_
            refine Grow.grow_index i rfl rfl (fun w => by kernel_rfl) (.inr ⟨26, false, 178, rfl, rfl, rfl, by decide⟩) rfl rfl rfl HPE.out ?_
            refine Grow.grow_load rfl (fun w => by kernel_rfl) (.inr ⟨26, false, 178, rfl, rfl, rfl, by decide⟩) rfl ?_
            refine Grow.grow_int (c := .bool true) rfl (.inr ⟨26, false, 178, rfl, rfl, rfl, by decide⟩) rfl (fun _ => rfl) (by rw [show binOp .geq _ (.int .i64 p) (.int .i64 1) = pure (.bool (decide (p ≥ 1))) from rfl, decide_eq_true (show p ≥ 1 from hp1p)]) ?_
            refine Grow.grow_mv (.inl rfl) (.inr ⟨26, false, 178, rfl, rfl, rfl, by decide⟩) rfl ?_
            refine Grow.grow_row rfl (.inr ⟨32, true, 184, rfl, rfl, rfl, by decide⟩) rfl Try.underlying26 rfl (by kernel_rfl) ?_
            refine Grow.grow_mvc (.inl rfl) (.inr ⟨32, true, 184, rfl, rfl, rfl, by decide⟩) rfl ?_
            refine Grow.grow_mv (.inl rfl) (.inr ⟨32, true, 184, rfl, rfl, rfl, by decide⟩) rfl ?_
            refine Grow.grow_index i rfl rfl (fun w => by kernel_rfl) (.inr ⟨32, true, 184, rfl, rfl, rfl, by decide⟩) rfl rfl rfl HPE.out ?_
            refine Grow.grow_load rfl (fun w => by kernel_rfl) (.inr ⟨32, true, 184, rfl, rfl, rfl, by decide⟩) rfl ?_
            refine Grow.grow_field (j := 3) (u := .slice wA n4 wc) (Ψ := Grow.Is (.slice wA n4 wc)) rfl (.inr ⟨32, true, 184, rfl, rfl, rfl, by decide⟩) rfl (fun w => by kernel_rfl) rfl (Grow.Is.stays _) (fun _ _ => rfl) ?_
            refine Grow.grow_load_k (Ψ := Grow.Is (.slice wA n4 wc)) rfl (fun _ => by kernel_rfl) (.inr ⟨32, true, 184, rfl, rfl, rfl, by decide⟩) rfl (Grow.Is.stays _) ?_
            refine Grow.grow_call3 (Φ := Grow.SvK ds mk) rfl (.inr ⟨32, true, 184, rfl, rfl, rfl, by decide⟩) Try.func23 (by kernel_rfl) (by kernel_rfl) rfl rfl rfl (Grow.SvK.stays _ _) (fun v u t W hg hv hu ht => by
              subst hv hu ht
              exact (HWR.out W (HRC.out.trans hg)).mono fun e w' ⟨x, he, hx, hgx⟩ => ⟨_, he, hgx, x, rfl, hx⟩) ?_
            refine Grow.grow_row rfl (.inr ⟨32, true, 184, rfl, rfl, rfl, by decide⟩) rfl Try.underlying26 rfl (by kernel_rfl) ?_
            refine Grow.grow_mvc (.inl rfl) (.inr ⟨32, true, 184, rfl, rfl, rfl, by decide⟩) rfl ?_
            refine Grow.grow_mv (.inl rfl) (.inr ⟨32, true, 184, rfl, rfl, rfl, by decide⟩) rfl ?_
            refine Grow.grow_index i rfl rfl (fun w => by kernel_rfl) (.inr ⟨32, true, 184, rfl, rfl, rfl, by decide⟩) rfl rfl rfl HPE.out ?_
            refine Grow.grow_load rfl (fun w => by kernel_rfl) (.inr ⟨32, true, 184, rfl, rfl, rfl, by decide⟩) rfl ?_
            refine Grow.grow_field (j := 3) (u := .slice wA n4 wc) (Ψ := Grow.Is (.slice wA n4 wc)) rfl (.inr ⟨32, true, 184, rfl, rfl, rfl, by decide⟩) rfl (fun w => by kernel_rfl) rfl (Grow.Is.stays _) (fun _ _ => rfl) ?_
            refine Grow.grow_load_k (Ψ := Grow.Is (.slice wA n4 wc)) rfl (fun _ => by kernel_rfl) (.inr ⟨32, true, 184, rfl, rfl, rfl, by decide⟩) rfl (Grow.Is.stays _) ?_
            refine Grow.grow_call3 (Φ := Grow.SvK ds mk) rfl (.inr ⟨32, true, 184, rfl, rfl, rfl, by decide⟩) Try.func24 (by kernel_rfl) (by kernel_rfl) rfl rfl rfl (Grow.SvK.stays _ _) (fun v u t W hg hv hu ht => by
              subst hv hu ht
              exact (HWQ.out W (HRC.out.trans hg)).mono fun e w' ⟨x, he, hx, hgx⟩ => ⟨_, he, hgx, x, rfl, hx⟩) ?_
            refine Grow.grow_call2 (Φ := Grow.Is (.bool true)) rfl (.inr ⟨32, true, 184, rfl, rfl, rfl, by decide⟩) Try.func20 (by kernel_rfl) (by kernel_rfl) rfl rfl (Grow.Is.stays _) (fun v u W hg hv hu => by
              obtain ⟨x, rfl, hx⟩ := hv
              obtain ⟨y, rfl, hy⟩ := hu
              exact (HSD.out W x y hx hy).mono fun e w' ⟨he, hgx⟩ => ⟨_, he, hgx, rfl⟩) ?_
            refine Grow.grow_not rfl (.inr ⟨32, true, 184, rfl, rfl, rfl, by decide⟩) rfl ?_
            refine Grow.grow_pick_yes (Φ := Grow.Is (.bool false)) rfl (.inr ⟨26, false, 178, rfl, rfl, rfl, by decide⟩) rfl rfl (Grow.Is.stays _) ?_
            refine Grow.grow_pick_no (Φ := Grow.Is (.bool false)) rfl (.inl ⟨rfl, rfl⟩) rfl rfl (Grow.Is.stays _) ?_
            intro a2 w8 hg8 hs6 hd6 hu6 hk6
            have h204 : a2.tmps.getD 204 undef = .bool false := hk6 204
            obtain ⟨Z6, hZ, hlay⟩ := Grow.lay_kept_by _ a2 220 _ hs6 hd6 hu6
            rw [hZ] at h204
            clear hZ hu6 hd6 hs6 hk6
            subst hlay
            simp only [List.range, List.range.loop, List.map_cons, List.map_nil, List.contains_cons, List.contains_nil, Nat.reduceBEq, Bool.or_false, Bool.or_true, cond_false, cond_true, Array.getD_eq_getD_getElem?, List.getElem?_toArray, List.getElem?_cons_zero, List.getElem?_cons_succ, Option.getD_some, h204]
            clear h204
            have HR11 := hide (HRC.out.trans hg8)
            have HRA3 := hide (HRA2.out.gr (((Gr.refl w7).drewN 1).trans hg8))
            have HRB3 := hide (HRB.out.gr (((Gr.refl w7).drewN 1).trans hg8))
            clear hg8
            go_wp2_with fail
            go_loopw [29] (fun t wr => ∃ k : Nat, t = .int .i64 (k : Int) ∧ k ≤ nl ∧ Hid (Gr w8 wr)) (fun t _ => nl - (intOf t).toNat)
            case atStart => exact ⟨0, rfl, by omega, hide (Gr.refl _)⟩
            case round =>
              obtain ⟨k, rfl, hk, HQ⟩ := hrel
              by_cases hkn : k < nl
              · have hkn' : (k : Int) < (nl : Int) := by omega
                have hkl : k < L.length := by have := HNL.out; omega
                have hLk : L[k]? = some L[k] := List.getElem?_eq_getElem hkl
                obtain ⟨ad, c1, e1, -, a0, a1⟩ := (HRA3.out.gr HQ.out).cell (j := k) (r := rdC L[k]) (by rw [List.getElem?_map, hLk]; rfl) (by simp [rdC])
                obtain ⟨bd, c2, e2, -, b0, b1⟩ := (HRB3.out.gr HQ.out).cell (j := k) (r := rdC L[k]) (by rw [List.getElem?_map, hLk]; rfl) (by simp [rdC])
                generalize L[k] = R at a0 a1 b0 b1 hLk
                clear hLk hkl
                obtain ⟨Rk, Rv, Rt, Rh⟩ := R
                replace a0 := a0 (.string Rk) rfl
                have a2 := a1 1 (.int .i64 Rv) (by decide) rfl
                have a3 := a1 2 (.string Rt) (by decide) rfl
                have a4 := a1 3 (.bool Rh) (by decide) rfl
                replace b0 := b0 (.string Rk) rfl
                have b2 := b1 1 (.int .i64 Rv) (by decide) rfl
                have b3 := b1 2 (.string Rt) (by decide) rfl
                have b4 := b1 3 (.bool Rh) (by decide) rfl
                simp only [Value.slice.injEq] at e1 e2
                obtain ⟨rfl, -, -⟩ := e1
                obtain ⟨rfl, -, -⟩ := e2
                clear a1 b1
                go_wp2_with fail
                go_quiet (fail)
                go_wp2_with fail
                go_roundw
                case rel => exact ⟨k + 1, by go_num, by omega, hide (HQ.out.drewN _)⟩
                case measure => simp [intOf]; omega
              · obtain rfl : k = nl := by omega
                go_wp2_with fail
                go_roundw
                case rel => exact ⟨i + 1, by go_num, by omega, hide (HR11.out.trans HQ.out)⟩
                case measure => simp [intOf]; omega
          · skip
            refine Grow.wp_region_kept 220 [152, 153, 154, 155, 156, 157, 158, 159, 160, 161, 162, 163, 164, 165, 166, 167, 168, 169, 170, 171, 172, 173, 174, 175, 176, 177, 178, 179, 180, 181, 182, 183, 184, 185, 186, 187, 188, 189, 190, 191, 192, 193, 194, 195, 196, 197, 198, 199, 200, 201, 202, 203, 204] rfl (by kernel_rfl) (by kernel_rfl) (by kernel_rfl) (Grow.Ahead.more (Grow.Ahead.more (Grow.Ahead.more (Grow.Ahead.more (Grow.Ahead.more (Grow.Ahead.more (Grow.Ahead.more (Grow.Ahead.more (Grow.Ahead.none_ _ _) 15 (Grow.Bx.stays g2 26 #[.slice uA q uc, .int .i64 mk]) ⟨rfl, HB2.out.gr HRC.out⟩) 16 (Grow.Bx.stays g3 31 #[.int .i64 ta, .int .i64 tb, .slice rA rn rc, .slice wA n4 wc]) ⟨rfl, HB3.out.gr HRC.out⟩) 17 (Grow.Cl.stays ⟨g4, 0, none⟩ 5 5 (placesA.map (Value.int .i64))) ⟨rfl, (by rw [List.length_map, HPL.out]), fun k u hk => HPC.out _ HRC.out k u hk⟩) 19 (Grow.Is.stays (.int .i64 (i : Int))) rfl) 25 (Grow.Is.stays (.slice aA nl ac)) rfl) 27 (Grow.Is.stays (.slice bA nl bc)) rfl) 26 (Grow.Is.stays (.int .i64 se)) rfl) 28 (Grow.Is.stays (.int .i64 se)) rfl) ?_
            refine Grow.grow_mv (.inl rfl) (.inl ⟨rfl, rfl⟩) rfl ?_
            refine Grow.grow_mv (.inl rfl) (.inl ⟨rfl, rfl⟩) rfl ?_
            refine Grow.grow_int_alike rfl rfl (.inl ⟨rfl, rfl⟩) rfl rfl ?_
            refine Grow.grow_mv (.inl rfl) (.inl ⟨rfl, rfl⟩) rfl ?_
            refine Grow.grow_mv (.inl rfl) (.inr ⟨3, false, 155, rfl, rfl, rfl, by decide⟩) rfl ?_
            refine Grow.grow_len_k (Ψ := Grow.Is (.slice aA nl ac)) (n := nl) rfl (by kernel_rfl) (.inr ⟨3, false, 155, rfl, rfl, rfl, by decide⟩) rfl (fun v w h => ⟨aA, ac, h⟩) ?_
            refine Grow.grow_mv (.inl rfl) (.inr ⟨3, false, 155, rfl, rfl, rfl, by decide⟩) rfl ?_
            refine Grow.grow_len_k (Ψ := Grow.Is (.slice bA nl bc)) (n := nl) rfl (by kernel_rfl) (.inr ⟨3, false, 155, rfl, rfl, rfl, by decide⟩) rfl (fun v w h => ⟨bA, bc, h⟩) ?_
            refine Grow.grow_int_alike rfl rfl (.inr ⟨3, false, 155, rfl, rfl, rfl, by decide⟩) rfl rfl ?_
            refine Grow.grow_pick_no (Φ := Grow.Is (.bool false)) rfl (.inl ⟨rfl, rfl⟩) rfl rfl (Grow.Is.stays _) ?_
            refine Grow.grow_mv (.inl rfl) (.inl ⟨rfl, rfl⟩) rfl ?_
            refine Grow.grow_row rfl (.inr ⟨10, false, 162, rfl, rfl, rfl, by decide⟩) rfl Try.underlying26 rfl (by kernel_rfl) ?_
            refine Grow.grow_mvc (.inl rfl) (.inr ⟨10, false, 162, rfl, rfl, rfl, by decide⟩) rfl ?_
            refine Grow.grow_mv (.inl rfl) (.inr ⟨10, false, 162, rfl, rfl, rfl, by decide⟩) rfl ?_
            refine Grow.grow_index i rfl rfl (fun w => by kernel_rfl) (.inr ⟨10, false, 162, rfl, rfl, rfl, by decide⟩) rfl rfl rfl HPE.out ?_
            refine Grow.grow_load rfl (fun w => by kernel_rfl) (.inr ⟨10, false, 162, rfl, rfl, rfl, by decide⟩) rfl ?_
            refine Grow.grow_call2 (Φ := Grow.SvK ts.chains ts.mark) rfl (.inr ⟨10, false, 162, rfl, rfl, rfl, by decide⟩) Try.func21 (by kernel_rfl) (by kernel_rfl) rfl rfl (Grow.SvK.stays _ _) (fun v u W hg hv hu => by
              subst hv hu
              exact (HTR1.out W (HRC.out.trans hg)).mono fun e w' ⟨x, he, hx, hgx⟩ => ⟨_, he, hgx, x, rfl, hx⟩) ?_
            refine Grow.grow_row rfl (.inr ⟨10, false, 162, rfl, rfl, rfl, by decide⟩) rfl Try.underlying26 rfl (by kernel_rfl) ?_
            refine Grow.grow_mvc (.inl rfl) (.inr ⟨10, false, 162, rfl, rfl, rfl, by decide⟩) rfl ?_
            refine Grow.grow_mv (.inl rfl) (.inr ⟨10, false, 162, rfl, rfl, rfl, by decide⟩) rfl ?_
            refine Grow.grow_index i rfl rfl (fun w => by kernel_rfl) (.inr ⟨10, false, 162, rfl, rfl, rfl, by decide⟩) rfl rfl rfl HPE.out ?_
            refine Grow.grow_load rfl (fun w => by kernel_rfl) (.inr ⟨10, false, 162, rfl, rfl, rfl, by decide⟩) rfl ?_
            refine Grow.grow_call2 (Φ := Grow.SvK ts.chains ts.mark) rfl (.inr ⟨10, false, 162, rfl, rfl, rfl, by decide⟩) Try.func22 (by kernel_rfl) (by kernel_rfl) rfl rfl (Grow.SvK.stays _ _) (fun v u W hg hv hu => by
              subst hv hu
              exact (HTQ1.out W (HRC.out.trans hg)).mono fun e w' ⟨x, he, hx, hgx⟩ => ⟨_, he, hgx, x, rfl, hx⟩) ?_
            refine Grow.grow_call2 (Φ := Grow.Is (.bool true)) rfl (.inr ⟨10, false, 162, rfl, rfl, rfl, by decide⟩) Try.func20 (by kernel_rfl) (by kernel_rfl) rfl rfl (Grow.Is.stays _) (fun v u W hg hv hu => by
              obtain ⟨x, rfl, hx⟩ := hv
              obtain ⟨y, rfl, hy⟩ := hu
              exact (HST.out W x y hx hy).mono fun e w' ⟨he, hgx⟩ => ⟨_, he, hgx, rfl⟩) ?_
            refine Grow.grow_not rfl (.inr ⟨10, false, 162, rfl, rfl, rfl, by decide⟩) rfl ?_
            refine Grow.grow_pick_no (Φ := Grow.Is (.bool false)) rfl (.inl ⟨rfl, rfl⟩) rfl rfl (Grow.Is.stays _) ?_
            refine Grow.grow_mv (.inl rfl) (.inl ⟨rfl, rfl⟩) rfl ?_
            refine Grow.grow_mvc (.inl rfl) (.inr ⟨26, false, 178, rfl, rfl, rfl, by decide⟩) rfl ?_
            refine Grow.grow_mv (.inl rfl) (.inr ⟨26, false, 178, rfl, rfl, rfl, by decide⟩) rfl ?_
            refine Grow.grow_index i rfl rfl (fun w => by kernel_rfl) (.inr ⟨26, false, 178, rfl, rfl, rfl, by decide⟩) rfl rfl rfl HPE.out ?_
            refine Grow.grow_load rfl (fun w => by kernel_rfl) (.inr ⟨26, false, 178, rfl, rfl, rfl, by decide⟩) rfl ?_
            refine Grow.grow_int (c := .bool false) rfl (.inr ⟨26, false, 178, rfl, rfl, rfl, by decide⟩) rfl (fun _ => rfl) (by rw [show binOp .geq _ (.int .i64 p) (.int .i64 1) = pure (.bool (decide (p ≥ 1))) from rfl, decide_eq_false (show ¬ p ≥ 1 from hp1p)]) ?_
            refine Grow.grow_mv (.inl rfl) (.inr ⟨26, false, 178, rfl, rfl, rfl, by decide⟩) rfl ?_
            refine Grow.grow_skip (.inr ⟨32, true, 184, rfl, rfl, rfl, by decide⟩) ?_
            refine Grow.grow_skip (.inr ⟨32, true, 184, rfl, rfl, rfl, by decide⟩) ?_
            refine Grow.grow_skip (.inr ⟨32, true, 184, rfl, rfl, rfl, by decide⟩) ?_
            refine Grow.grow_skip (.inr ⟨32, true, 184, rfl, rfl, rfl, by decide⟩) ?_
            refine Grow.grow_skip (.inr ⟨32, true, 184, rfl, rfl, rfl, by decide⟩) ?_
            refine Grow.grow_skip (.inr ⟨32, true, 184, rfl, rfl, rfl, by decide⟩) ?_
            refine Grow.grow_skip (.inr ⟨32, true, 184, rfl, rfl, rfl, by decide⟩) ?_
            refine Grow.grow_skip (.inr ⟨32, true, 184, rfl, rfl, rfl, by decide⟩) ?_
            refine Grow.grow_skip (.inr ⟨32, true, 184, rfl, rfl, rfl, by decide⟩) ?_
            refine Grow.grow_skip (.inr ⟨32, true, 184, rfl, rfl, rfl, by decide⟩) ?_
            refine Grow.grow_skip (.inr ⟨32, true, 184, rfl, rfl, rfl, by decide⟩) ?_
            refine Grow.grow_skip (.inr ⟨32, true, 184, rfl, rfl, rfl, by decide⟩) ?_
            refine Grow.grow_skip (.inr ⟨32, true, 184, rfl, rfl, rfl, by decide⟩) ?_
            refine Grow.grow_skip (.inr ⟨32, true, 184, rfl, rfl, rfl, by decide⟩) ?_
            refine Grow.grow_skip (.inr ⟨32, true, 184, rfl, rfl, rfl, by decide⟩) ?_
            refine Grow.grow_skip (.inr ⟨32, true, 184, rfl, rfl, rfl, by decide⟩) ?_
            refine Grow.grow_skip (.inr ⟨32, true, 184, rfl, rfl, rfl, by decide⟩) ?_
            refine Grow.grow_skip (.inr ⟨32, true, 184, rfl, rfl, rfl, by decide⟩) ?_
            refine Grow.grow_pick_no (Φ := Grow.Is (.bool false)) rfl (.inr ⟨26, false, 178, rfl, rfl, rfl, by decide⟩) rfl (fun _ => rfl) (Grow.Is.stays _) ?_
            refine Grow.grow_pick_no (Φ := Grow.Is (.bool false)) rfl (.inl ⟨rfl, rfl⟩) rfl rfl (Grow.Is.stays _) ?_
            intro a2 w8 hg8 hs6 hd6 hu6 hk6
            have h204 : a2.tmps.getD 204 undef = .bool false := hk6 204
            obtain ⟨Z6, hZ, hlay⟩ := Grow.lay_kept_by _ a2 220 _ hs6 hd6 hu6
            rw [hZ] at h204
            clear hZ hu6 hd6 hs6 hk6
            subst hlay
            simp only [List.range, List.range.loop, List.map_cons, List.map_nil, List.contains_cons, List.contains_nil, Nat.reduceBEq, Bool.or_false, Bool.or_true, cond_false, cond_true, Array.getD_eq_getD_getElem?, List.getElem?_toArray, List.getElem?_cons_zero, List.getElem?_cons_succ, Option.getD_some, h204]
            clear h204
            have HR11 := hide (HRC.out.trans hg8)
            have HRA3 := hide (HRA2.out.gr (((Gr.refl w7).drewN 1).trans hg8))
            have HRB3 := hide (HRB.out.gr (((Gr.refl w7).drewN 1).trans hg8))
            clear hg8
            go_wp2_with fail
            go_loopw [29] (fun t wr => ∃ k : Nat, t = .int .i64 (k : Int) ∧ k ≤ nl ∧ Hid (Gr w8 wr)) (fun t _ => nl - (intOf t).toNat)
            case atStart => exact ⟨0, rfl, by omega, hide (Gr.refl _)⟩
            case round =>
              obtain ⟨k, rfl, hk, HQ⟩ := hrel
              by_cases hkn : k < nl
              · have hkn' : (k : Int) < (nl : Int) := by omega
                have hkl : k < L.length := by have := HNL.out; omega
                have hLk : L[k]? = some L[k] := List.getElem?_eq_getElem hkl
                obtain ⟨ad, c1, e1, -, a0, a1⟩ := (HRA3.out.gr HQ.out).cell (j := k) (r := rdC L[k]) (by rw [List.getElem?_map, hLk]; rfl) (by simp [rdC])
                obtain ⟨bd, c2, e2, -, b0, b1⟩ := (HRB3.out.gr HQ.out).cell (j := k) (r := rdC L[k]) (by rw [List.getElem?_map, hLk]; rfl) (by simp [rdC])
                generalize L[k] = R at a0 a1 b0 b1 hLk
                clear hLk hkl
                obtain ⟨Rk, Rv, Rt, Rh⟩ := R
                replace a0 := a0 (.string Rk) rfl
                have a2 := a1 1 (.int .i64 Rv) (by decide) rfl
                have a3 := a1 2 (.string Rt) (by decide) rfl
                have a4 := a1 3 (.bool Rh) (by decide) rfl
                replace b0 := b0 (.string Rk) rfl
                have b2 := b1 1 (.int .i64 Rv) (by decide) rfl
                have b3 := b1 2 (.string Rt) (by decide) rfl
                have b4 := b1 3 (.bool Rh) (by decide) rfl
                simp only [Value.slice.injEq] at e1 e2
                obtain ⟨rfl, -, -⟩ := e1
                obtain ⟨rfl, -, -⟩ := e2
                clear a1 b1
                go_wp2_with fail
                go_quiet (fail)
                go_wp2_with fail
                go_roundw
                case rel => exact ⟨k + 1, by go_num, by omega, hide (HQ.out.drewN _)⟩
                case measure => simp [intOf]; omega
              · obtain rfl : k = nl := by omega
                go_wp2_with fail
                go_roundw
                case rel => exact ⟨i + 1, by go_num, by omega, hide (HR11.out.trans HQ.out)⟩
                case measure => simp [intOf]; omega
    · obtain rfl : i = 5 := by omega
      go_wp2_with fail
      go_ret
      exact ⟨rfl, HG.out.trans HO.out⟩
end Go.Proofs.Ytbfbghfaeejicaa
