/-
  The walk of 'StoreSpan'.
-/
import Derived.Test.YtbfbghfaeejicaaStBegun
import Derived.Test.YtbfbghfaeejicaaStMade
import Derived.Test.YtbfbghfaeejicaaStSpanMath
import Derived.Test.YtbfbghfaeejicaaStLate
namespace Go.Proofs.Ytbfbghfaeejicaa
open Go Go.RowKit ChMath KeyMath StMath TxnMath
set_option maxRecDepth 100000

def tZ : ByteArray := ⟨#[122]⟩
def endsL : List ByteArray := nothing :: (keysL ++ [tZ])
theorem ends_at {i : Nat} (h : i < 6) : endsL[i + 1]? = some (keysL[i]'h) := by
  unfold endsL
  rw [List.getElem?_cons_succ, List.getElem?_append_left h, List.getElem?_eq_getElem h]

set_option maxHeartbeats 8000000 in
theorem walk_StoreSpan (w : World) (A : Option Addr) (n c : Nat) (l : List UInt8) (hn : n = l.length) (hby : By w A c l) (a : Int) (ha : (Lit.int .u8 a).wf = true) (b : Int) (hb : (Lit.int .u8 b).wf = true) (p : Int) (hp : (Lit.int .u8 p).wf = true) :
    Calls Try.prog 6 #[.slice A n c, .int .u8 a, .int .u8 b, .int .u8 p] w fun e w' => e = .returned (.bool true) ∧ Gr w w' := by
  subst hn
  have HBY := hide hby
  clear hby
  obtain ⟨na, rfl, hna⟩ := u8_nat ha
  obtain ⟨nb, rfl, hnb⟩ := u8_nat hb
  obtain ⟨np, rfl, hnp⟩ := u8_nat hp
  clear ha hb hp
  by_cases h1 : (150 : Int) < (l.length : Int)
  · go_enter Try.func6, Try.ntmps6
    go_wp2_with fail
    refine (stBegun_ok _).mono ?_
    rintro e w1 ⟨rfl, hg1⟩
    go_wp2_with fail
    go_ret
    exact ⟨rfl, hg1⟩
  obtain ⟨ka, hka⟩ : ∃ k, na % 8 = k := ⟨_, rfl⟩
  obtain ⟨kb, hkb⟩ : ∃ k, nb % 8 = k := ⟨_, rfl⟩
  obtain ⟨kp, hkp⟩ : ∃ k, np % 30 = k := ⟨_, rfl⟩
  have ea : (na : Int) % 8 = (ka : Int) := by omega
  have eb : (nb : Int) % 8 = (kb : Int) := by omega
  have ep : (np : Int) % 30 = (kp : Int) := by omega
  have hka8 : ka < 8 := by omega
  have hkb8 : kb < 8 := by omega
  have hkp30 : kp < 30 := by omega
  clear hka hkb hkp
  go_enter Try.func6, Try.ntmps6
  go_wp2_with fail
  refine (stBegun_ok _).mono ?_
  rintro e w1 ⟨rfl, hg1⟩
  have HG1 := hide hg1
  clear hg1
  go_wp2_with fail
  refine (stMade_ok A c l w1 (HBY.out.gr HG1.out) (by omega)).mono ?_
  rintro e w2 ⟨u, ⟨cs, mk⟩, rfl, hu, hgood, hg2⟩
  simp only at hu
  obtain ⟨uA, uc, rfl⟩ := hu.is
  have HGOOD := hide hgood
  have hmk : 0 ≤ mk := hgood.low
  have hmk2 : mk ≤ 36 := hgood.high
  obtain ⟨q, hq⟩ : ∃ q, cs.length = q := ⟨_, rfl⟩
  rw [hq] at hu ⊢
  clear hgood hq
  go_upto_region 6 with (fail)
  obtain ⟨W2, hW2⟩ : ∃ W2, w2.alloc (.cells #[.slice uA q uc, .int .i64 mk] 26) = W2 := ⟨_, rfl⟩
  have hgx : Gr w2 W2 := by rw [← hW2]; exact (Gr.refl _).alloc _
  have hb2 : Bl W2 w2.heap.size 26 #[.slice uA q uc, .int .i64 mk] := by rw [← hW2]; exact Bl.new _ _ _
  rw [hW2]
  obtain ⟨g2, hg2e⟩ : ∃ g2, w2.heap.size = g2 := ⟨_, rfl⟩
  rw [hg2e] at hb2 ⊢
  have HB2 := hide hb2
  have HU2 := hide (hu.gr hgx)
  have HG2 := hide (HG1.out.trans (hg2.trans hgx))
  clear hW2 hgx hb2 hg2e hu hg2 HG1
  go_upto_region 7 with (fail)
  obtain ⟨W3, hW3⟩ : ∃ W3, W2.alloc (.cells #[.string ⟨#[]⟩, .string ⟨#[97]⟩, .string ⟨#[98]⟩, .string ⟨#[99]⟩, .string ⟨#[100]⟩, .string ⟨#[101, 101]⟩, .string ⟨#[102, 102]⟩, .string ⟨#[122]⟩] 9) = W3 := ⟨_, rfl⟩
  have hgx : Gr W2 W3 := by rw [← hW3]; exact (Gr.refl _).alloc _
  have hb3 : Bl W3 W2.heap.size 9 (endsL.map Value.string).toArray := by rw [← hW3]; exact Bl.new _ _ _
  rw [hW3]
  obtain ⟨g3, hg3e⟩ : ∃ g3, W2.heap.size = g3 := ⟨_, rfl⟩
  rw [hg3e] at hb3 ⊢
  have HB3 := hide hb3
  have HB23 := hide (HB2.out.gr hgx)
  have HU3 := hide (HU2.out.gr hgx)
  have HG3 := hide (HG2.out.trans hgx)
  obtain ⟨from_, hfrom⟩ : ∃ f, endsL[ka]? = some f := ⟨_, List.getElem?_eq_getElem (show ka < endsL.length from hka8)⟩
  obtain ⟨to_, hto⟩ : ∃ f, endsL[kb]? = some f := ⟨_, List.getElem?_eq_getElem (show kb < endsL.length from hkb8)⟩
  have ka0 : W3.cell? ⟨g3, ka, none⟩ = some (.string from_) := by rw [hb3.cell, List.getElem?_toArray, List.getElem?_map, hfrom]; rfl
  have kb0 : W3.cell? ⟨g3, kb, none⟩ = some (.string to_) := by rw [hb3.cell, List.getElem?_toArray, List.getElem?_map, hto]; rfl
  have wa : IntKind.u8.wrap (ka : Int) = (ka : Int) := by unfold IntKind.wrap; simp [IntKind.signed, IntKind.bits]; omega
  clear hW3 hgx hb3 hg3e HB2 HU2 HG2 hfrom hto
  go_wp2_with fail
  go_quiet (fail)
  obtain ⟨pos, hpos⟩ : ∃ pos, mk + (kp : Int) = pos := ⟨_, rfl⟩
  have hpw : IntKind.i64.wrap pos = pos := IntWalk.i64_in _ (by omega)
  have hold : ¬ pos < mk := by omega
  have hb23 := HB23.out.drewN nq
  have k0 : (W3.drewN nq).cell? ⟨g2, 0, none⟩ = some (.slice uA q uc) := hb23.cell 0
  have k1 : (W3.drewN nq).cell? ⟨g2, 1, none⟩ = some (.int .i64 mk) := hb23.cell 1
  have HSP := hide (fun W (h : Gr W3 W) => Span_ok ⟨cs, mk⟩ from_ to_ pos (.slice uA q uc) W (HU3.out.gr h) (HGOOD.out.bnd.len (by omega)))
  rw [spanS_ok hold, HGOOD.out.span] at HSP
  have HGET := hide (fun W (x : ByteArray) (h : Gr W3 W) => Get_ok ⟨cs, mk⟩ x pos (.slice uA q uc) W (HU3.out.gr h) (HGOOD.out.bnd.len (by omega)))
  have hgs : ∀ x, getS ⟨cs, mk⟩ x pos = (seenC x (findC x cs) pos, 0) := fun x => if_neg hold
  simp only [hgs] at HGET
  unfold GetPost at HGET
  simp only [rdA] at HGET
  unfold SpanPost at HSP
  simp only at HSP
  clear hb23 hgs hold ka0 kb0 wa
  go_wp2_with fail
  refine (HSP.out _ ((Gr.refl W3).drewN nq)).mono ?_
  rintro e w4 ⟨v, rfl, hv, hg4⟩
  obtain ⟨vA, vc, rfl⟩ := hv.is
  have HV := hide hv.rowAt
  have HG4 := hide (((Gr.refl W3).drewN nq).trans hg4)
  have hL6 : (spanK from_ to_ pos cs keysL).length ≤ 6 := spanK_le keysL
  obtain ⟨L, hL⟩ : ∃ L, spanK from_ to_ pos cs keysL = L := ⟨_, rfl⟩
  rw [hL] at HV hL6 ⊢
  have HL := hide hL
  obtain ⟨z, hz⟩ : ∃ z, L.length = z := ⟨_, rfl⟩
  rw [hz] at hL6 ⊢
  have HZ := hide hz
  clear hv hg4 hL hz HSP k0 k1 hpw
  go_wp2_with fail
  go_loopw [16, 17] (fun k i wr => ∃ j1 : Nat, i = .int .i64 (j1 : Int) ∧ 1 ≤ j1 ∧ j1 ≤ 7 ∧ k = .int .i64 ((spanK from_ to_ pos cs (keysL.take (j1 - 1))).length : Int) ∧ Hid (Gr w4 wr)) (fun _ i _ => 7 - (intOf i).toNat)
  case atStart => exact ⟨1, rfl, by omega, by omega, rfl, hide (Gr.refl _)⟩
  case round =>
    obtain ⟨j1, rfl, hj0, hj, rfl, HR⟩ := hrel
    by_cases hlt : j1 < 7
    · have hlt' : (j1 : Int) < 7 := by omega
      obtain ⟨j, hjj⟩ : ∃ j, j1 - 1 = j := ⟨_, rfl⟩
      have hlt6 : j < 6 := by omega
      have HJ := hide (show j + 1 = j1 by omega)
      rw [hjj]
      clear hjj
      have HX := hide (ends_at hlt6)
      rw [HJ.out] at HX
      have HNX := hide (spanK_next (f := from_) (t := to_) (p := pos) (cs := cs) (ks := keysL) (i := j) hlt6)
      have HSK := hide (spanK_skip (f := from_) (t := to_) (p := pos) (cs := cs) (ks := keysL) (i := j) hlt6)
      rw [HL.out] at HNX
      have hkl : (spanK from_ to_ pos cs (keysL.take j)).length ≤ 6 := Nat.le_trans (spanK_le _) (by rw [List.length_take]; omega)
      have HG5 := hide (HG4.out.trans HR.out)
      generalize (spanK from_ to_ pos cs (keysL.take j)).length = k at HNX HSK hkl ⊢
      obtain ⟨k2, hk2⟩ : ∃ k2, (spanK from_ to_ pos cs (keysL.take (j + 1))).length = k2 := ⟨_, rfl⟩
      rw [hk2] at HNX HSK
      have HK2 := hide hk2
      clear hk2
      generalize (keysL[j]'hlt6) = x at HX HNX HSK
      obtain ⟨r, hr⟩ : ∃ r, seenC x (findC x cs) pos = r := ⟨_, rfl⟩
      have hrx : r.key = x := by rw [← hr]; rfl
      have HGX := hide (fun W (h : Gr W3 W) => HGET.out W x h)
      rw [hr] at HNX HSK HGX
      clear hr
      obtain ⟨rk, rv, rt, rh⟩ := r
      simp only at hrx HNX HSK HGX
      subst hrx
      have HKC := hide (show ∀ i u, (endsL.map Value.string)[i]? = some u → (wr.drewN 1).cell? ((⟨g3, 0, none⟩ : Addr).add i) = some u from fun i u hu => by
        have h := ((HB3.out.gr HG5.out).drewN 1).cell i
        rw [List.getElem?_toArray, hu] at h
        rw [Addr.add_lit, Nat.zero_add]
        exact h)
      have hp1 : Try.prog.follows .mixedOrders = true := by kernel_rfl
      obtain ⟨ie, hie, _, hi2, _⟩ := info_parts info_rd
      go_wp2_with fail
      refine Edge.wp_region_laid 9 11 65 rfl hp1 (by kernel_rfl) (fun _ _ _ _ h => h) ?_
      refine Mine.any_mine_tail 11 122 [57, 58, 59, 60, 61, 62, 63, 56, 64, 65, 18, 19] rfl (by kernel_rfl) (by kernel_rfl) (by kernel_rfl) (ob0 := none)
        (Mine.Ahead.more (Mine.Ahead.more (Mine.Ahead.more (Mine.Ahead.more (Mine.Ahead.none_ _ _ _) 9 (Mine.Bx.stays g2 26 #[.slice uA q uc, .int .i64 mk]) (by exact ⟨rfl, (HB23.out.gr HG5.out).drewN 1, by simp⟩)) 10 (Mine.Cl.stays ⟨g3, 0, none⟩ 8 8 (endsL.map Value.string)) (by exact ⟨rfl, rfl, HKC.out, ((HB3.out.gr HG5.out).drewN 1).lt, by simp⟩)) 17 (Mine.Is.stays (.int .i64 (j1 : Int))) (by rfl)) 13 (Mine.Wi.stays (Mine.far_pay W3) (.int .i64 pos)) (by exact ⟨rfl, HG5.out.trans ((Gr.refl wr).drewN 1), fun _ h => by cases h⟩))
        122 (C0 := fun _ _ o => o = none) (fun _ _ _ _ h _ => h) (fun k hk => by cases hk) rfl ?_
      refine Mine.load_box rfl rfl (by decide) rfl Try.underlying26 rfl (by kernel_rfl) ?_
      refine Mine.move (.tmp 10) (.inl rfl) rfl (by decide) rfl (Mine.Cl.stays _ _ _ _) ?_
      refine Mine.move (.tmp 17) (.inl rfl) rfl (by decide) rfl (Mine.Is.stays _) ?_
      refine Mine.index j1 rfl rfl (by decide) rfl (fun w => by kernel_rfl) rfl rfl rfl (u := .string rk) (by rw [List.getElem?_map, HX.out]; rfl) ?_
      refine Mine.load rfl rfl (by decide) (fun w => by kernel_rfl) rfl ?_
      refine Mine.move (.tmp 13) (.inl rfl) rfl (by decide) rfl (Mine.Wi.stays (Mine.far_pay W3) _) ?_
      refine Mine.callF3 (res := .tuple #[.agg #[.string rk, .int .i64 rv, .string rt, .bool rh], .int .i64 0]) rfl rfl (by decide) Try.func14 (by kernel_rfl) (by kernel_rfl) rfl rfl rfl (fun W hg => HGX.out W hg) ?_
      refine Mine.move (.tmp 63) (.inl rfl) rfl (by decide) rfl (Mine.Is.stays _) ?_
      refine Mine.part rfl rfl (by decide) rfl rfl ?_
      refine Mine.part rfl rfl (by decide) rfl rfl ?_
      refine Mine.alloc (e := 40) (cs := #[.string ⟨#[]⟩, .int .i64 0, .string ⟨#[]⟩, .bool false]) rfl (by decide) (fun a W => by kernel_rfl) ?_
      intro a1 w5 ob hr hwf hs5 hd5 hu5 hk5 hat
      have hob : ob = none := hat
      subst hob
      have h18 : Mine.Nw wr.drew.heap.size 40 #[.string ⟨#[]⟩, .int .i64 0, .string ⟨#[]⟩, .bool false] (a1.tmps.getD 18 undef) w5 none := hk5 18
      have h64 : a1.tmps.getD 64 undef = .agg #[.string rk, .int .i64 rv, .string rt, .bool rh] := hk5 64
      have h65 : a1.tmps.getD 65 undef = .int .i64 0 := hk5 65
      obtain ⟨Y, hY, hlay⟩ := Grow.lay_kept_by _ a1 122 _ hs5 hd5 hu5
      rw [hY] at h18 h64 h65
      clear hY hu5 hd5 hs5 hk5 hwf hat
      obtain ⟨gR, h18, hgR, hbR, _⟩ := h18
      subst hlay
      simp only [List.range, List.range.loop, List.map_cons, List.map_nil, List.contains_cons, List.contains_nil, Nat.reduceBEq, Bool.or_false, Bool.or_true, cond_false, cond_true, Array.getD_eq_getD_getElem?, List.getElem?_toArray, List.getElem?_cons_zero, List.getElem?_cons_succ, Option.getD_some, h18, h64, h65, Edge.laid, List.modify_succ_cons, List.modify_zero_cons, List.drop_succ_cons, List.drop_zero]
      have hgr : Gr wr.drew w5 := Mine.RS.none hr
      refine wpList_store_agg rfl 40 (.tmp 18) (.tmp 64) rfl rfl hie [.string rk, .int .i64 rv, .string rt, .bool rh] (by rw [hi2]; rfl) (fun v hv => by
        simp only [List.mem_cons, List.not_mem_nil, or_false] at hv
        rcases hv with rfl | rfl | rfl | rfl <;> simp [Value.oneCell']) rfl rfl hbR rfl ?_
      have hbut : But w5 (w5.setCells gR 0 [.string rk, .int .i64 rv, .string rt, .bool rh]) gR := but_setCells _ _ (But.refl _ _)
      have hbR' : Bl (w5.setCells gR 0 [.string rk, .int .i64 rv, .string rt, .bool rh]) gR 40 #[.string rk, .int .i64 rv, .string rt, .bool rh] := (((hbR.put 0 _).put 1 _).put 2 _).put 3 _
      have hg6 : Gr wr (w5.setCells gR 0 [.string rk, .int .i64 rv, .string rt, .bool rh]) := Gr.fresh_ (((Gr.refl wr).drewN 1).trans hgr) hbut hgR
      generalize w5.setCells gR 0 [.string rk, .int .i64 rv, .string rt, .bool rh] = W6 at hbR' hg6
      have HR6 := hide (HR.out.trans hg6)
      have HBR := hide hbR'
      clear hbut hbR hg6 hgr hr h18 h64 h65 hgR hbR'
      have hkey : W6.cell? ⟨g3, j1, none⟩ = some (.string rk) := by
        rw [(HB3.out.gr (HG4.out.trans HR6.out)).cell, List.getElem?_toArray, List.getElem?_map, HX.out]
        rfl
      have c0 : W6.cell? ⟨gR, 0, none⟩ = some (.string rk) := HBR.out.cell 0
      have c1 : W6.cell? ⟨gR, 1, none⟩ = some (.int .i64 rv) := HBR.out.cell 1
      have c2 : W6.cell? ⟨gR, 2, none⟩ = some (.string rt) := HBR.out.cell 2
      have c3 : W6.cell? ⟨gR, 3, none⟩ = some (.bool rh) := HBR.out.cell 3
      go_wp2_with fail
      go_quiet (fail)
      have d0 := gr_cell ((Gr.refl W6).drewN nq) _ _ c0
      have d1 := gr_cell ((Gr.refl W6).drewN nq) _ _ c1
      have d2 := gr_cell ((Gr.refl W6).drewN nq) _ _ c2
      have d3 := gr_cell ((Gr.refl W6).drewN nq) _ _ c3
      have dk := gr_cell ((Gr.refl W6).drewN nq) _ _ hkey
      have HR7 := hide (HR6.out.trans ((Gr.refl W6).drewN nq))
      generalize W6.drewN nq = W7 at d0 d1 d2 d3 dk HR7 ⊢
      clear c0 c1 c2 c3 hkey HR6 HBR
      go_upto_region 17 with (fail)
      have HW := hide (show withinK rk from_ to_ = (!ltK rk from_ && (to_.toList.isEmpty || ltK rk to_)) by unfold withinK; rw [← not_le rk from_, Bool.not_not])
      cases rh
      · have HS := hide (HSK.out (by rfl))
        go_wp2_with fail
        go_roundw
        case rel => exact ⟨j1 + 1, by go_num, by omega, by omega, by rw [show j1 + 1 - 1 = j + 1 by have := HJ.out; omega, HK2.out, HS.out], HR7⟩
        case measure => simp [intOf]; omega
      cases hF : Op.bytesLess rk.toList from_.toList
      · by_cases hto : to_ = nothing
        · have hE : to_.toList = [] := by rw [hto, ByteArray.toList_eq]; rfl
          have hE2 : to_.toList.isEmpty = true := by rw [hE]; rfl
          have hwi : (!ltK rk from_ && (to_.toList.isEmpty || ltK rk to_)) = true := by rw [show ltK rk from_ = false from hF, hE2]; rfl
          clear hto
          obtain ⟨hLk, hk2⟩ := HNX.out (by rw [Bool.true_and, HW.out]; exact hwi)
          have HS := hide hk2
          obtain ⟨hkz, -⟩ := List.getElem?_eq_some_iff.1 hLk
          have hkz' : k < z := by have := HZ.out; omega
          have hkz2 : (k : Int) < (z : Int) := by omega
          obtain ⟨ad, c', e1, -, r0, r1⟩ := (HV.out.gr HR7.out).cell (j := k) (r := rdC ⟨rk, rv, rt, true⟩) (by rw [List.getElem?_map, hLk]; rfl) (by simp [rdC])
          replace r0 := r0 (.string rk) rfl
          have r2 := r1 1 (.int .i64 rv) (by decide) rfl
          have r3 := r1 2 (.string rt) (by decide) rfl
          have r4 := r1 3 (.bool true) (by decide) rfl
          simp only [Value.slice.injEq] at e1
          obtain ⟨rfl, -, -⟩ := e1
          clear r1 hkz hLk hk2
          go_wp2_with fail
          go_quiet (fail)
          go_wp2_with fail
          go_roundw
          case rel => exact ⟨j1 + 1, by go_num, by omega, by omega, by rw [show j1 + 1 - 1 = j + 1 by have := HJ.out; omega, HK2.out, HS.out]; go_num, hide (HR7.out.trans ((Gr.refl W7).drewN _))⟩
          case measure => simp [intOf]; omega
        · have hE : ¬ to_.toList = [] := fun e => hto (list_inj (by rw [e]; unfold nothing; rw [ByteArray.toList_eq]))
          have hE2 : to_.toList.isEmpty = false := by
            cases hq : to_.toList.isEmpty
            · rfl
            · exact absurd (List.isEmpty_iff.1 hq) hE
          cases hT : Op.bytesLess rk.toList to_.toList
          · have HS := hide (HSK.out (by
              rw [Bool.true_and, HW.out, show ltK rk to_ = false from hT, Bool.or_false]
              rw [hE2, Bool.and_false]))
            go_wp2_with fail
            go_roundw
            case rel => exact ⟨j1 + 1, by go_num, by omega, by omega, by rw [show j1 + 1 - 1 = j + 1 by have := HJ.out; omega, HK2.out, HS.out], HR7⟩
            case measure => simp [intOf]; omega
          · have hwi : (!ltK rk from_ && (to_.toList.isEmpty || ltK rk to_)) = true := by rw [show ltK rk from_ = false from hF, show ltK rk to_ = true from hT, Bool.or_true]; rfl
            obtain ⟨hLk, hk2⟩ := HNX.out (by rw [Bool.true_and, HW.out]; exact hwi)
            have HS := hide hk2
            obtain ⟨hkz, -⟩ := List.getElem?_eq_some_iff.1 hLk
            have hkz' : k < z := by have := HZ.out; omega
            have hkz2 : (k : Int) < (z : Int) := by omega
            obtain ⟨ad, c', e1, -, r0, r1⟩ := (HV.out.gr HR7.out).cell (j := k) (r := rdC ⟨rk, rv, rt, true⟩) (by rw [List.getElem?_map, hLk]; rfl) (by simp [rdC])
            replace r0 := r0 (.string rk) rfl
            have r2 := r1 1 (.int .i64 rv) (by decide) rfl
            have r3 := r1 2 (.string rt) (by decide) rfl
            have r4 := r1 3 (.bool true) (by decide) rfl
            simp only [Value.slice.injEq] at e1
            obtain ⟨rfl, -, -⟩ := e1
            clear r1 hkz hLk hk2
            go_wp2_with fail
            go_quiet (fail)
            go_wp2_with fail
            go_roundw
            case rel => exact ⟨j1 + 1, by go_num, by omega, by omega, by rw [show j1 + 1 - 1 = j + 1 by have := HJ.out; omega, HK2.out, HS.out]; go_num, hide (HR7.out.trans ((Gr.refl W7).drewN _))⟩
            case measure => simp [intOf]; omega
      · have HS := hide (HSK.out (by rw [Bool.true_and, HW.out, show ltK rk from_ = true from hF]; rfl))
        go_wp2_with fail
        go_roundw
        case rel => exact ⟨j1 + 1, by go_num, by omega, by omega, by rw [show j1 + 1 - 1 = j + 1 by have := HJ.out; omega, HK2.out, HS.out], HR7⟩
        case measure => simp [intOf]; omega
    · obtain rfl : j1 = 7 := by omega
      rw [show keysL.take (7 - 1) = keysL from rfl, HL.out, HZ.out]
      go_wp2_with fail
      go_ret
      exact ⟨rfl, HG3.out.trans (HG4.out.trans HR.out)⟩
end Go.Proofs.Ytbfbghfaeejicaa
