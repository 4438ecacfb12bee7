/-
  The walk of 'StoreMay'.
-/
import Derived.Test.YtbfbghfaeejicaaStBegun
import Derived.Test.YtbfbghfaeejicaaStMade
import Derived.Test.YtbfbghfaeejicaaStLate
import Derived.Test.YtbfbghfaeejicaaChArgs
namespace Go.Proofs.Ytbfbghfaeejicaa
open Go Go.RowKit ChMath KeyMath StMath TxnMath
set_option maxRecDepth 100000

set_option maxHeartbeats 16000000 in
theorem walk_StoreMay (w : World) (A : Option Addr) (n c : Nat) (l : List UInt8) (hn : n = l.length) (hby : By w A c l) (b : Int) (hb : (Lit.int .u8 b).wf = true) (a : Int) (ha : (Lit.int .u8 a).wf = true) (key : ByteArray) (_hkey : key.size ≤ maxLen) (x : VerT) (_hx : VerBnd [x]) :
    Calls Try.prog 4 #[.slice A n c, .int .u8 b, .int .u8 a, .string key, verA x] w fun e w' => e = .returned (.bool true) ∧ Gr w w' := by
  subst hn
  have HBY := hide hby
  clear hby _hx
  obtain ⟨nb, rfl, hnb⟩ := u8_nat hb
  obtain ⟨na, rfl, hna⟩ := u8_nat ha
  clear ha hb
  obtain ⟨xp, xt, xb⟩ := x
  simp only [verA]
  obtain ⟨W0, hW0⟩ : ∃ W0, w.alloc (.cells #[.int .i64 xp, .string xt, .bool xb] 51) = W0 := ⟨_, rfl⟩
  have hg0 : Gr w W0 := by rw [← hW0]; exact (Gr.refl _).alloc _
  have hb0 : Bl W0 w.heap.size 51 #[.int .i64 xp, .string xt, .bool xb] := by rw [← hW0]; exact Bl.new _ _ _
  obtain ⟨g9, hg9⟩ : ∃ g9, w.heap.size = g9 := ⟨_, rfl⟩
  rw [hg9] at hb0
  have HG0 := hide hg0
  have HB0 := hide hb0
  clear hg0 hb0
  by_cases h1 : (150 : Int) < (l.length : Int)
  · go_enter Try.func4, Try.ntmps4
    go_upto_region 1 with (fail)
    clear hW0 hg9
    go_wp2_with fail
    refine (stBegun_ok _).mono ?_
    rintro e w1 ⟨rfl, hg1⟩
    have k1 : w1.cell? ⟨g9, 1, none⟩ = some (.string xt) := (HB0.out.gr hg1).cell 1
    go_wp2_with fail
    go_ret
    exact ⟨rfl, HG0.out.trans hg1⟩
  by_cases h2 : (20 : Int) < (key.size : Int)
  · go_enter Try.func4, Try.ntmps4
    go_upto_region 1 with (fail)
    clear hW0 hg9
    go_wp2_with fail
    refine (stBegun_ok _).mono ?_
    rintro e w1 ⟨rfl, hg1⟩
    have k1 : w1.cell? ⟨g9, 1, none⟩ = some (.string xt) := (HB0.out.gr hg1).cell 1
    go_wp2_with fail
    go_ret
    exact ⟨rfl, HG0.out.trans hg1⟩
  by_cases h3 : (40 : Int) < (xt.size : Int)
  · go_enter Try.func4, Try.ntmps4
    go_upto_region 1 with (fail)
    clear hW0 hg9
    go_wp2_with fail
    refine (stBegun_ok _).mono ?_
    rintro e w1 ⟨rfl, hg1⟩
    have k1 : w1.cell? ⟨g9, 1, none⟩ = some (.string xt) := (HB0.out.gr hg1).cell 1
    go_wp2_with fail
    go_ret
    exact ⟨rfl, HG0.out.trans hg1⟩
  go_enter Try.func4, Try.ntmps4
  go_upto_region 1 with (fail)
  clear hW0 hg9
  go_wp2_with fail
  refine (stBegun_ok _).mono ?_
  rintro e w1 ⟨rfl, hg1⟩
  have k1 : w1.cell? ⟨g9, 1, none⟩ = some (.string xt) := (HB0.out.gr hg1).cell 1
  have HB1 := hide (HB0.out.gr hg1)
  have HG1 := hide (HG0.out.trans hg1)
  clear hg1 HG0 HB0
  go_wp2_with fail
  clear k1
  refine (stMade_ok A c l w1 (HBY.out.gr HG1.out) (by omega)).mono ?_
  rintro e w2 ⟨u, ⟨cs, mk⟩, rfl, hu, hgood, hg2⟩
  simp only at hu
  have HGOOD := hide hgood
  obtain ⟨is, his, hix⟩ := hu
  have hli : is.length = cs.length := by rw [← his, List.length_map]
  obtain ⟨uA, uc, hue, _⟩ := hix.1
  rw [List.length_map, hli] at hue
  subst hue
  obtain ⟨q, hq⟩ : ∃ q, cs.length = q := ⟨_, rfl⟩
  rw [hq] at hix hli ⊢
  clear hgood
  go_upto_region 6 with (fail)
  obtain ⟨W1, hW1⟩ : ∃ W1, w2.alloc (.cells #[.slice uA q uc, .int .i64 mk] 26) = W1 := ⟨_, rfl⟩
  have hgx : Gr w2 W1 := by rw [← hW1]; exact (Gr.refl _).alloc _
  have hb1 : Bl W1 w2.heap.size 26 #[.slice uA q uc, .int .i64 mk] := by rw [← hW1]; exact Bl.new _ _ _
  rw [hW1]
  obtain ⟨g2, hg2e⟩ : ∃ g2, w2.heap.size = g2 := ⟨_, rfl⟩
  rw [hg2e] at hb1 ⊢
  have HB2 := hide hb1
  have HX := hide (hix.gr hgx)
  replace HB1 := hide (HB1.out.gr (hg2.trans hgx))
  replace HG1 := hide (HG1.out.trans (hg2.trans hgx))
  clear hW1 hgx hg2e hix hg2
  obtain ⟨i0, hi0, hz0, hz1, hz2⟩ := info_chn
  obtain ⟨ist, hist, _, his2, _⟩ : ∃ i, Try.prog.info? 26 = some i ∧ i.zero = some (.agg #[.slice none 0 0, .int .i64 0]) ∧ i.size = 2 ∧ i.bytes = 32 := info_parts (by kernel_rfl)
  have hI1 : (W1.drew.cell? ⟨g2, 1, none⟩ = some (.int .i64 mk) ∧ some g2 ≠ none) ∧ (W1.drew.cell? ⟨g2, 0, none⟩ = some (.slice uA q uc) ∧ some g2 ≠ none) ∧ Mine.SlR 2 (is.map itC) (.slice uA q uc) W1.drew none :=
    ⟨⟨hb1.cell 1, by simp⟩, ⟨hb1.cell 0, by simp⟩, HX.out.1.gr ((Gr.refl W1).drewN 1), fun q hq => by rw [itC_two is q hq]; decide, fun ad n c _ _ => by simp⟩
  obtain ⟨I, hI⟩ : ∃ I : World → Option Nat → Prop, I = fun w' ob => (w'.cell? ⟨g2, 1, none⟩ = some (.int .i64 mk) ∧ some g2 ≠ ob) ∧ (w'.cell? ⟨g2, 0, none⟩ = some (.slice uA q uc) ∧ some g2 ≠ ob) ∧ Mine.SlR 2 (is.map itC) (.slice uA q uc) w' ob := ⟨_, rfl⟩
  have hIok : Mine.PayOk I := by rw [hI]; exact (Mine.pay_cell ⟨g2, 1, none⟩ _).and ((Mine.pay_cell ⟨g2, 0, none⟩ _).and (Mine.pay_row 2 _ _))
  have hIm : ∀ w' ob, I w' ob → w'.cell? ⟨g2, 1, none⟩ = some (.int .i64 mk) := fun w' ob h => by rw [hI] at h; exact h.1.1
  have hIc : ∀ w' ob, I w' ob → w'.cell? ⟨g2, 0, none⟩ = some (.slice uA q uc) := fun w' ob h => by rw [hI] at h; exact h.2.1.1
  have hIr : ∀ w' ob, I w' ob → Mine.SlR 2 (is.map itC) (.slice uA q uc) w' ob := fun w' ob h => by rw [hI] at h; exact h.2.2
  have hIw : I W1.drew none := by rw [hI]; exact hI1
  have hone := HX.out.one
  have hq6 : q ≤ 48 := by rw [← hq]; exact HGOOD.out.bnd.1
  clear hb1 hI hI1
  refine Mine.wp_region_mine_tail 8 114 [32, 33, 34, 35, 36, 37, 38, 12] rfl (by kernel_rfl) (by kernel_rfl) (by kernel_rfl) (by kernel_rfl) (ob0 := none)
    (Mine.Ahead.more (Mine.Ahead.none_ _ _ _) 11 (Mine.Wi.stays hIok (.pointer (some ⟨g2, 0, none⟩))) (by exact ⟨rfl, hIw⟩))
    114 (C0 := fun _ _ o => o = none) (fun _ _ _ _ h _ => h) (fun k hk => by cases hk) rfl ?_
  refine Mine.look1 (x := .tmp 11) (Ψ := Mine.Wi I (.pointer (some ⟨g2, 0, none⟩))) (Φ := Mine.Wi I (.pointer (some ⟨g2, 1, none⟩))) rfl (by decide) (by simp [Op.operands]) rfl (Mine.Wi.stays hIok _) (fun a W ob h => ⟨_, exec_fldM rfl h.1 W, rfl, h.2⟩) ?_
  refine Mine.look1 (x := .tmp 32) (Ψ := Mine.Wi I (.pointer (some ⟨g2, 1, none⟩))) (Φ := Mine.Is (.int .i64 mk)) rfl (by decide) (by simp [Op.operands]) rfl (Mine.Is.stays _) (fun a W ob h => ⟨_, exec_load rfl h.1 W (by kernel_rfl) (hIm _ _ h.2), rfl⟩) ?_
  refine Mine.chain_lit0R (e := 54) 2 rfl rfl rfl (Nat.le_refl _) (fun W => by kernel_rfl) ?_
  refine Mine.look1 (x := .tmp 11) (Ψ := Mine.Wi I (.pointer (some ⟨g2, 0, none⟩))) (Φ := Mine.Wi I (.pointer (some ⟨g2, 0, none⟩))) rfl (by decide) (by simp [Op.operands]) rfl (Mine.Wi.stays hIok _) (fun a W ob h => ⟨_, exec_fldS rfl h.1 W, rfl, h.2⟩) ?_
  refine Mine.look1 (x := .tmp 35) (Ψ := Mine.Wi I (.pointer (some ⟨g2, 0, none⟩))) (Φ := Mine.SlR 2 (is.map itC)) rfl (by decide) (by simp [Op.operands]) rfl (Mine.SlR.stays _ _) (fun a W ob h => ⟨_, exec_load rfl h.1 W (by kernel_rfl) (hIc _ _ h.2), hIr _ _ h.2⟩) ?_
  refine Mine.chain_spreadR rfl rfl rfl Try.underlying24 hi0 hz0 hz1 hz2 rfl (by decide) rfl (itC_two is) hone (by rw [List.length_map]; simp; unfold maxLen; omega) (by rw [List.length_map]; simp; omega) (Nat.le_refl _) ?_
  refine Mine.chain_build rfl rfl rfl rfl ?_
  refine Mine.alloc (e := 26) (cs := #[.slice none 0 0, .int .i64 0]) rfl (by decide) (fun a W => by kernel_rfl) ?_
  intro a1 w3 ob hr hwf hs3 hd3 hu3 hk3 hat
  have h12 : Mine.Nw W1.drew.heap.size 26 #[.slice none 0 0, .int .i64 0] (a1.tmps.getD 12 undef) w3 ob := hk3 12
  have h38 : Mine.RowB W1.drew.heap.size mk ([] ++ is.map itC) (a1.tmps.getD 38 undef) w3 ob := hat
  obtain ⟨X, hX, hlay⟩ := Grow.lay_kept_by _ a1 114 _ hs3 hd3 hu3
  rw [hX] at h12 h38
  clear hX hu3 hd3 hs3 hk3 hwf hat
  obtain ⟨gT, h12, hgT, hbT, hneT⟩ := h12
  obtain ⟨u', h38, hro, hob⟩ := h38
  rw [List.nil_append] at hro
  obtain ⟨tA, tc, hte, _⟩ := hro.rowAt
  rw [List.length_map, hli] at hte
  subst hte
  subst hlay
  simp only [List.range, List.range.loop, List.map_cons, List.map_nil, List.contains_cons, List.contains_nil, Nat.reduceBEq, Bool.or_false, Bool.or_true, cond_false, cond_true, Array.getD_eq_getD_getElem?, List.getElem?_toArray, List.getElem?_cons_zero, List.getElem?_cons_succ, Option.getD_some, h12, h38, List.drop_succ_cons, List.drop_zero]
  have hsz : W1.drew.heap.size = W1.heap.size := rfl
  have hg3 : Gr W1 w3 := ((Gr.refl W1).drewN 1).trans (rs_grew hr)
  have hown : ∀ k, (Value.slice tA q tc).ownBlock = some k → W1.heap.size ≤ k := fun k hk => by have := (hro.lt k hk).1; omega
  have hio3 : ItsO w3 W1.heap.size (.slice tA q tc) is := ⟨hro, fun i hi => ⟨(HX.out.2 i hi).gr hg3, NotIn.of_old (HX.out.2 i hi) (fun k hk => hown k hk)⟩⟩
  have hneo' : (Value.slice tA q tc).ownBlock ≠ some gT := fun e => hneT (by rw [← hob, e])
  refine wpList_store_agg rfl 26 (.tmp 12) (.tmp 38) rfl rfl hist [.slice tA q tc, .int .i64 mk] (by rw [his2]; rfl) (fun v hv => by
    simp only [List.mem_cons, List.not_mem_nil, or_false] at hv
    rcases hv with rfl | rfl <;> simp [Value.oneCell']) rfl rfl hbT rfl ?_
  have hbut : But w3 (w3.setCells gT 0 [.slice tA q tc, .int .i64 mk]) gT := but_setCells _ _ (But.refl _ _)
  have hbT' : Bl (w3.setCells gT 0 [.slice tA q tc, .int .i64 mk]) gT 26 #[.slice tA q tc, .int .i64 mk] := (hbT.put 0 _).put 1 _
  have hio4 : ItsO (w3.setCells gT 0 [.slice tA q tc, .int .i64 mk]) W1.heap.size (.slice tA q tc) is := ⟨⟨hio3.1.1, World.ownsRow.kept hio3.1.2 hbut (.inr hneo')⟩, fun i hi => ⟨(hio3.2 i hi).1.kept ((hio3.2 i hi).1.notBox hbT (by simp)) hbut, (hio3.2 i hi).2⟩⟩
  have hg4 : Gr W1 (w3.setCells gT 0 [.slice tA q tc, .int .i64 mk]) := hg3.fresh_ hbut (by omega)
  generalize w3.setCells gT 0 [.slice tA q tc, .int .i64 mk] = w4 at hbT' hio4 hg4
  have hgT' : W1.heap.size ≤ gT := by omega
  have HBT := hide hbT'
  have HIO := hide hio4
  have HG4 := hide hg4
  have HNT := hide hneo'
  clear hbut hbT' hio4 hg4 hneo' hio3 hown hg3 hsz hro hob hbT hneT hgT hr h12 h38 hIw hIr hIc hIm hIok I hone
  have HSX := hide (fun W (h : Gr W1 W) => show ChnsX W (.slice uA q uc) cs from ⟨is, his, HX.out.gr h⟩)
  have k0 : w4.cell? ⟨gT, 0, none⟩ = some (.slice tA q tc) := HBT.out.cell 0
  have k1 : w4.cell? ⟨gT, 1, none⟩ = some (.int .i64 mk) := HBT.out.cell 1
  -- CASES
  by_cases hq0 : q = 0
  · subst hq0
    have HM := hide (fun W (h : Gr W1 W) => StMay_ok ⟨cs, mk⟩ (.slice uA 0 uc) W (HSX.out W h) (HGOOD.out.bnd.len (by omega)) HGOOD.out.big)
    rw [HGOOD.out.may] at HM
    have m0 : w4.cell? ⟨g2, 0, none⟩ = some (.slice uA 0 uc) := (HB2.out.gr HG4.out).cell 0
    have m1 : w4.cell? ⟨g2, 1, none⟩ = some (.int .i64 mk) := (HB2.out.gr HG4.out).cell 1
    go_wp2_with fail
    refine (HM.out _ HG4.out).mono ?_
    rintro e w5 ⟨rfl, hg5⟩
    go_wp2_with fail
    go_ret
    exact ⟨rfl, HG1.out.trans (HG4.out.trans hg5)⟩
  have hq0' : ¬ (q : Int) = 0 := by omega
  obtain ⟨k, hk⟩ : ∃ k, na % q = k := ⟨_, rfl⟩
  have hkq : k < q := by rw [← hk]; exact Nat.mod_lt _ (by omega)
  have hke : (na : Int) % (q : Int) = (k : Int) := by rw [← hk]; simp
  obtain ⟨k5, hk5⟩ : ∃ k, nb % 5 = k := ⟨_, rfl⟩
  have hk5e : (nb : Int) % 5 = (k5 : Int) := by omega
  have hk55 : k5 = 0 ∨ k5 = 1 ∨ k5 = 2 ∨ k5 = 3 ∨ k5 = 4 := by omega
  have f0 : w4.frozen? ⟨gT, 0, none⟩ = false := HBT.out.frozen 0
  have f1 : w4.frozen? ⟨gT, 1, none⟩ = false := HBT.out.frozen 1
  have v0 : w4.cell? ⟨g9, 0, none⟩ = some (.int .i64 xp) := (HB1.out.gr HG4.out).cell 0
  have v1 : w4.cell? ⟨g9, 1, none⟩ = some (.string xt) := (HB1.out.gr HG4.out).cell 1
  have v2 : w4.cell? ⟨g9, 2, none⟩ = some (.bool xb) := (HB1.out.gr HG4.out).cell 2
  have hki : k < is.length := by omega
  obtain ⟨gU, tc', htt, hgU, hgU2, hqc, r0, r1, fr0⟩ := HIO.out.cells hki
  rw [hli] at htt
  simp only [Value.slice.injEq] at htt
  obtain ⟨rfl, -, rfl⟩ := htt
  have fr : ∀ j, w4.frozen? ⟨gU, j, none⟩ = false := fr0
  have hgUT : gT ≠ gU := fun e => HNT.out (by rw [e]; rfl)
  have hkqi : (k : Int) < (q : Int) := by omega
  clear hk hk5 fr0 hgU2
  rcases hk55 with rfl | rfl | rfl | rfl | rfl
  · go_wp2_with fail
    obtain ⟨V, hV⟩ : ∃ V, w4.setCell ⟨gT, 1, none⟩ (.int .i64 xp) = V := ⟨_, rfl⟩
    have hbut : But w4 V gT := by rw [← hV]; exact (But.refl w4 gT).set 1 _
    have hbV : Bl V gT 26 #[.slice (some ⟨gU, 0, none⟩) q tc, .int .i64 xp] := by rw [← hV]; exact HBT.out.put 1 _
    rw [hV]
    obtain ⟨ds, hds⟩ : ∃ ds, cs = ds := ⟨_, rfl⟩
    obtain ⟨md, hmd⟩ : ∃ md, xp = md := ⟨_, rfl⟩
    obtain ⟨tv, htv⟩ : ∃ tv, Value.slice (some ⟨gU, 0, none⟩) q tc = tv := ⟨_, rfl⟩
    have HDV := hide (show ChnsX V tv ds from by rw [← htv, ← hds]; exact ⟨is, his, (itsBox HIO.out HBT.out (by simp) hbut HNT.out).x⟩)
    have HLV := hide (show CsLen ds from by rw [← hds]; exact HGOOD.out.bnd.len (by omega))
    have HGB := hide (show CsBig ds from by rw [← hds]; exact HGOOD.out.big)
    have HBV := hide (show Bl V gT 26 #[tv, .int .i64 md] from by rw [← htv, ← hmd]; exact hbV)
    have HGV := hide (HG4.out.fresh_ hbut hgT')
    subst htv
    clear hV hbut hbV k0 k1 f0 f1 v0 v1 hds hmd
    go_wp2_with fail
    have HM1 := hide (fun W (h : Gr V W) => StMay_ok ⟨ds, md⟩ (.slice (some ⟨gU, 0, none⟩) q tc) W (HDV.out.gr h) HLV.out HGB.out)
    have HM2 := hide (fun W (h : Gr V W) => RefStMay_ok ⟨ds, md⟩ (.slice (some ⟨gU, 0, none⟩) q tc) W (HDV.out.gr h) HLV.out HGB.out)
    generalize mayS ⟨ds, md⟩ = bm at HM1 HM2
    have HE1 := hide (fun W (h : Gr V W) => StSame_ok ⟨cs, mk⟩ ⟨ds, md⟩ (.slice uA q uc) (.slice (some ⟨gU, 0, none⟩) q tc) W (HSX.out W (HGV.out.trans h)) (HDV.out.gr h) (HGOOD.out.bnd.len (by omega)))
    have HE2 := hide (fun W (h : Gr V W) => RefSame_ok ⟨cs, mk⟩ ⟨ds, md⟩ (.slice uA q uc) (.slice (some ⟨gU, 0, none⟩) q tc) W (HSX.out W (HGV.out.trans h)) (HDV.out.gr h) (HGOOD.out.bnd.len (by omega)))
    generalize decide ((⟨cs, mk⟩ : StT) = ⟨ds, md⟩) = bs at HE1 HE2
    refine Grow.wp_region_kept 114 [100, 101, 102, 103, 104, 105, 106, 107, 108, 109, 110, 111, 112, 113, 10] rfl (by kernel_rfl) (by kernel_rfl) (by kernel_rfl) (Grow.Ahead.more (Grow.Ahead.more (Grow.Ahead.none_ _ _) 11 (Grow.Bx.stays g2 26 #[.slice uA q uc, .int .i64 mk]) ⟨rfl, (HB2.out.gr HGV.out).drewN 1⟩) 12 (Grow.Bx.stays gT 26 #[.slice (some ⟨gU, 0, none⟩) q tc, .int .i64 md]) ⟨rfl, HBV.out.drewN 1⟩) ?_
    refine Grow.grow_row rfl (.inl ⟨rfl, rfl⟩) rfl Try.underlying26 rfl (by kernel_rfl) ?_
    refine Grow.grow_call1 (Φ := Grow.Is (.bool bm)) rfl (.inl ⟨rfl, rfl⟩) Try.func12 (by kernel_rfl) (by kernel_rfl) rfl (Grow.Is.stays _) (fun v W hg hv => by
      subst hv
      exact (HM1.out W (((Gr.refl V).drewN 1).trans hg)).mono fun e w' ⟨he, hgx⟩ => ⟨_, he, hgx, rfl⟩) ?_
    refine Grow.grow_row rfl (.inl ⟨rfl, rfl⟩) rfl Try.underlying26 rfl (by kernel_rfl) ?_
    refine Grow.grow_call1 (Φ := Grow.Is (.bool bm)) rfl (.inl ⟨rfl, rfl⟩) Try.func25 (by kernel_rfl) (by kernel_rfl) rfl (Grow.Is.stays _) (fun v W hg hv => by
      subst hv
      exact (HM2.out W (((Gr.refl V).drewN 1).trans hg)).mono fun e w' ⟨he, hgx⟩ => ⟨_, he, hgx, rfl⟩) ?_
    refine Grow.grow_bool_same rfl Try.underlying4 rfl (.inl ⟨rfl, rfl⟩) rfl rfl ?_
    refine Grow.grow_mv (.inl rfl) (.inl ⟨rfl, rfl⟩) rfl ?_
    refine Grow.grow_row rfl (.inr ⟨5, true, 105, rfl, rfl, rfl, by decide⟩) rfl Try.underlying26 rfl (by kernel_rfl) ?_
    refine Grow.grow_row rfl (.inr ⟨5, true, 105, rfl, rfl, rfl, by decide⟩) rfl Try.underlying26 rfl (by kernel_rfl) ?_
    refine Grow.grow_call2 (Φ := Grow.Is (.bool bs)) rfl (.inr ⟨5, true, 105, rfl, rfl, rfl, by decide⟩) Try.func13 (by kernel_rfl) (by kernel_rfl) rfl rfl (Grow.Is.stays _) (fun v u W hg hv hu => by
      subst hv hu
      exact (HE1.out W (((Gr.refl V).drewN 1).trans hg)).mono fun e w' ⟨he, hgx⟩ => ⟨_, he, hgx, rfl⟩) ?_
    refine Grow.grow_row rfl (.inr ⟨5, true, 105, rfl, rfl, rfl, by decide⟩) rfl Try.underlying26 rfl (by kernel_rfl) ?_
    refine Grow.grow_row rfl (.inr ⟨5, true, 105, rfl, rfl, rfl, by decide⟩) rfl Try.underlying26 rfl (by kernel_rfl) ?_
    refine Grow.grow_call2 (Φ := Grow.Is (.bool bs)) rfl (.inr ⟨5, true, 105, rfl, rfl, rfl, by decide⟩) Try.func20 (by kernel_rfl) (by kernel_rfl) rfl rfl (Grow.Is.stays _) (fun v u W hg hv hu => by
      subst hv hu
      exact (HE2.out W (((Gr.refl V).drewN 1).trans hg)).mono fun e w' ⟨he, hgx⟩ => ⟨_, he, hgx, rfl⟩) ?_
    refine Grow.grow_bool_same rfl Try.underlying4 rfl (.inr ⟨5, true, 105, rfl, rfl, rfl, by decide⟩) rfl rfl ?_
    refine Grow.grow_pick_yes (Φ := Grow.Is (.bool true)) rfl (.inl ⟨rfl, rfl⟩) rfl rfl (Grow.Is.stays _) ?_
    refine Grow.grow_mv (.inr rfl) (.inl ⟨rfl, rfl⟩) rfl ?_
    intro a2 w6 hg6 hs6 hd6 hu6 hk6
    have h10 : a2.tmps.getD 10 undef = .bool true := hk6 10
    obtain ⟨Z2, hZ, hlay⟩ := Grow.lay_kept_by _ a2 114 _ hs6 hd6 hu6
    rw [hZ] at h10
    clear hZ hu6 hd6 hs6 hk6
    subst hlay
    simp only [List.range, List.range.loop, List.map_cons, List.map_nil, List.contains_cons, List.contains_nil, Nat.reduceBEq, Bool.or_false, Bool.or_true, cond_false, cond_true, Array.getD_eq_getD_getElem?, List.getElem?_toArray, List.getElem?_cons_zero, List.getElem?_cons_succ, Option.getD_some, h10]
    go_wp2_with fail
    go_ret
    exact ⟨rfl, HG1.out.trans (HGV.out.trans (((Gr.refl V).drewN 1).trans hg6))⟩
  · go_wp2_with fail
    obtain ⟨V, hV⟩ : ∃ V, w4.setCell ⟨gU, k * 2, none⟩ (.string key) = V := ⟨_, rfl⟩
    obtain ⟨hoV, hbut⟩ := itsKeyed HIO.out hli.symm hki key
    rw [hV] at hoV hbut
    rw [hV]
    obtain ⟨md, hmd⟩ : ∃ md, mk = md := ⟨_, rfl⟩
    obtain ⟨tv, htv⟩ : ∃ tv, Value.slice (some ⟨gU, 0, none⟩) q tc = tv := ⟨_, rfl⟩
    obtain ⟨ds, hds⟩ : ∃ ds, (is.set k (⟨key, is[k].1.l⟩, is[k].2)).map Prod.fst = ds := ⟨_, rfl⟩
    have HDV := hide (show ChnsX V tv ds from by rw [← htv]; exact ⟨_, hds, hoV.x⟩)
    have hall : ∀ d ∈ ds, d.l.length ≤ 1000000 ∧ ((d.key.size : Int) ≤ 281474976710656 ∧ VerBnd d.l) := fun d hd => by
      rw [← hds] at hd
      obtain ⟨i, hi, rfl⟩ := List.mem_map.1 hd
      rcases List.mem_or_eq_of_mem_set hi with hi | hi
      · have hm : i.1 ∈ cs := by rw [← his]; exact List.mem_map_of_mem hi
        exact ⟨(HGOOD.out.bnd.len (by omega)).2 _ hm, HGOOD.out.big _ hm⟩
      · rw [hi]
        have hm : is[k].1 ∈ cs := by rw [← his]; exact List.mem_map_of_mem (List.getElem_mem hki)
        have h5 := (HGOOD.out.bnd.len (by omega)).2 _ hm
        have h6 := HGOOD.out.big _ hm
        exact ⟨h5, by show (key.size : Int) ≤ _; omega, h6.2⟩
    have hdl : ds.length ≤ 1000000 := by rw [← hds, List.length_map, List.length_set, hli]; omega
    have HLV := hide (show CsLen ds from ⟨hdl, fun d hd => (hall d hd).1⟩)
    have HGB := hide (show CsBig ds from fun d hd => (hall d hd).2)
    have HBV := hide (show Bl V gT 26 #[tv, .int .i64 md] from by rw [← htv, ← hmd]; exact HBT.out.but_ hbut hgUT)
    have HGV := hide (HG4.out.fresh_ hbut hgU)
    subst htv
    clear hV hbut hoV k0 k1 f0 f1 hds hmd hall hdl v0 v1 r0 r1 fr
    go_wp2_with fail
    have HM1 := hide (fun W (h : Gr V W) => StMay_ok ⟨ds, md⟩ (.slice (some ⟨gU, 0, none⟩) q tc) W (HDV.out.gr h) HLV.out HGB.out)
    have HM2 := hide (fun W (h : Gr V W) => RefStMay_ok ⟨ds, md⟩ (.slice (some ⟨gU, 0, none⟩) q tc) W (HDV.out.gr h) HLV.out HGB.out)
    generalize mayS ⟨ds, md⟩ = bm at HM1 HM2
    have HE1 := hide (fun W (h : Gr V W) => StSame_ok ⟨cs, mk⟩ ⟨ds, md⟩ (.slice uA q uc) (.slice (some ⟨gU, 0, none⟩) q tc) W (HSX.out W (HGV.out.trans h)) (HDV.out.gr h) (HGOOD.out.bnd.len (by omega)))
    have HE2 := hide (fun W (h : Gr V W) => RefSame_ok ⟨cs, mk⟩ ⟨ds, md⟩ (.slice uA q uc) (.slice (some ⟨gU, 0, none⟩) q tc) W (HSX.out W (HGV.out.trans h)) (HDV.out.gr h) (HGOOD.out.bnd.len (by omega)))
    generalize decide ((⟨cs, mk⟩ : StT) = ⟨ds, md⟩) = bs at HE1 HE2
    refine Grow.wp_region_kept 114 [100, 101, 102, 103, 104, 105, 106, 107, 108, 109, 110, 111, 112, 113, 10] rfl (by kernel_rfl) (by kernel_rfl) (by kernel_rfl) (Grow.Ahead.more (Grow.Ahead.more (Grow.Ahead.none_ _ _) 11 (Grow.Bx.stays g2 26 #[.slice uA q uc, .int .i64 mk]) ⟨rfl, (HB2.out.gr HGV.out).drewN 1⟩) 12 (Grow.Bx.stays gT 26 #[.slice (some ⟨gU, 0, none⟩) q tc, .int .i64 md]) ⟨rfl, HBV.out.drewN 1⟩) ?_
    refine Grow.grow_row rfl (.inl ⟨rfl, rfl⟩) rfl Try.underlying26 rfl (by kernel_rfl) ?_
    refine Grow.grow_call1 (Φ := Grow.Is (.bool bm)) rfl (.inl ⟨rfl, rfl⟩) Try.func12 (by kernel_rfl) (by kernel_rfl) rfl (Grow.Is.stays _) (fun v W hg hv => by
      subst hv
      exact (HM1.out W (((Gr.refl V).drewN 1).trans hg)).mono fun e w' ⟨he, hgx⟩ => ⟨_, he, hgx, rfl⟩) ?_
    refine Grow.grow_row rfl (.inl ⟨rfl, rfl⟩) rfl Try.underlying26 rfl (by kernel_rfl) ?_
    refine Grow.grow_call1 (Φ := Grow.Is (.bool bm)) rfl (.inl ⟨rfl, rfl⟩) Try.func25 (by kernel_rfl) (by kernel_rfl) rfl (Grow.Is.stays _) (fun v W hg hv => by
      subst hv
      exact (HM2.out W (((Gr.refl V).drewN 1).trans hg)).mono fun e w' ⟨he, hgx⟩ => ⟨_, he, hgx, rfl⟩) ?_
    refine Grow.grow_bool_same rfl Try.underlying4 rfl (.inl ⟨rfl, rfl⟩) rfl rfl ?_
    refine Grow.grow_mv (.inl rfl) (.inl ⟨rfl, rfl⟩) rfl ?_
    refine Grow.grow_row rfl (.inr ⟨5, true, 105, rfl, rfl, rfl, by decide⟩) rfl Try.underlying26 rfl (by kernel_rfl) ?_
    refine Grow.grow_row rfl (.inr ⟨5, true, 105, rfl, rfl, rfl, by decide⟩) rfl Try.underlying26 rfl (by kernel_rfl) ?_
    refine Grow.grow_call2 (Φ := Grow.Is (.bool bs)) rfl (.inr ⟨5, true, 105, rfl, rfl, rfl, by decide⟩) Try.func13 (by kernel_rfl) (by kernel_rfl) rfl rfl (Grow.Is.stays _) (fun v u W hg hv hu => by
      subst hv hu
      exact (HE1.out W (((Gr.refl V).drewN 1).trans hg)).mono fun e w' ⟨he, hgx⟩ => ⟨_, he, hgx, rfl⟩) ?_
    refine Grow.grow_row rfl (.inr ⟨5, true, 105, rfl, rfl, rfl, by decide⟩) rfl Try.underlying26 rfl (by kernel_rfl) ?_
    refine Grow.grow_row rfl (.inr ⟨5, true, 105, rfl, rfl, rfl, by decide⟩) rfl Try.underlying26 rfl (by kernel_rfl) ?_
    refine Grow.grow_call2 (Φ := Grow.Is (.bool bs)) rfl (.inr ⟨5, true, 105, rfl, rfl, rfl, by decide⟩) Try.func20 (by kernel_rfl) (by kernel_rfl) rfl rfl (Grow.Is.stays _) (fun v u W hg hv hu => by
      subst hv hu
      exact (HE2.out W (((Gr.refl V).drewN 1).trans hg)).mono fun e w' ⟨he, hgx⟩ => ⟨_, he, hgx, rfl⟩) ?_
    refine Grow.grow_bool_same rfl Try.underlying4 rfl (.inr ⟨5, true, 105, rfl, rfl, rfl, by decide⟩) rfl rfl ?_
    refine Grow.grow_pick_yes (Φ := Grow.Is (.bool true)) rfl (.inl ⟨rfl, rfl⟩) rfl rfl (Grow.Is.stays _) ?_
    refine Grow.grow_mv (.inr rfl) (.inl ⟨rfl, rfl⟩) rfl ?_
    intro a2 w6 hg6 hs6 hd6 hu6 hk6
    have h10 : a2.tmps.getD 10 undef = .bool true := hk6 10
    obtain ⟨Z2, hZ, hlay⟩ := Grow.lay_kept_by _ a2 114 _ hs6 hd6 hu6
    rw [hZ] at h10
    clear hZ hu6 hd6 hs6 hk6
    subst hlay
    simp only [List.range, List.range.loop, List.map_cons, List.map_nil, List.contains_cons, List.contains_nil, Nat.reduceBEq, Bool.or_false, Bool.or_true, cond_false, cond_true, Array.getD_eq_getD_getElem?, List.getElem?_toArray, List.getElem?_cons_zero, List.getElem?_cons_succ, Option.getD_some, h10]
    go_wp2_with fail
    go_ret
    exact ⟨rfl, HG1.out.trans (HGV.out.trans (((Gr.refl V).drewN 1).trans hg6))⟩
  · go_upto_region 17 with (fail)
    rw [hke]
    obtain ⟨ie, hie, hz, hsz, hby⟩ := info_ver
    obtain ⟨pv, hpv⟩ : ∃ pv, is[k].2 = pv := ⟨_, rfl⟩
    obtain ⟨ll, hll⟩ : ∃ ll, is[k].1.l = ll := ⟨_, rfl⟩
    have hvx : VersX w4 pv ll := by rw [← hpv, ← hll]; exact (HIO.out.2 _ (List.getElem_mem hki)).1
    have hl48 : ll.length ≤ 48 := by
      rw [← hll]
      exact HGOOD.out.bnd.2 _ (by rw [← his]; exact List.mem_map_of_mem (List.getElem_mem hki))
    rw [hpv] at r1
    have hd1 : (w4.drewN 1).heap.size = w4.heap.size := rfl
    obtain ⟨I, hI⟩ : ∃ I : World → Option Nat → Prop, I = fun w' ob => (w'.cell? ⟨gT, 0, none⟩ = some (.slice (some ⟨gU, 0, none⟩) q tc) ∧ some gT ≠ ob) ∧ (w'.cell? ⟨gU, k * 2 + 1, none⟩ = some pv ∧ some gU ≠ ob) ∧ Mine.SlR 3 (ll.map verC) pv w' ob := ⟨_, rfl⟩
    have hIok : Mine.PayOk I := by rw [hI]; exact (Mine.pay_cell ⟨gT, 0, none⟩ _).and ((Mine.pay_cell ⟨gU, k * 2 + 1, none⟩ _).and (Mine.pay_row 3 _ _))
    have hIm : ∀ w' ob, I w' ob → w'.cell? ⟨gT, 0, none⟩ = some (.slice (some ⟨gU, 0, none⟩) q tc) := fun w' ob h => by rw [hI] at h; exact h.1.1
    have hIc : ∀ w' ob, I w' ob → w'.cell? ⟨gU, k * 2 + 1, none⟩ = some pv := fun w' ob h => by rw [hI] at h; exact h.2.1.1
    have hIr : ∀ w' ob, I w' ob → Mine.SlR 3 (ll.map verC) pv w' ob := fun w' ob h => by rw [hI] at h; exact h.2.2
    have hIw : I w4.drew none := by rw [hI]; exact ⟨⟨k0, by simp⟩, ⟨r1, by simp⟩, RowAt.gr hvx ((Gr.refl w4).drewN 1), fun q hq => by obtain ⟨y, _, rfl⟩ := List.mem_map.1 hq; simp [verC], fun ad n c _ _ => by simp⟩
    have hone : ∀ q ∈ ll.map verC, ∀ y ∈ q, y.oneCell' = true := fun q hq y hy => by
      obtain ⟨u, _, rfl⟩ := List.mem_map.1 hq
      simp only [verC, List.mem_cons, List.not_mem_nil, or_false] at hy
      rcases hy with rfl | rfl | rfl <;> simp [Value.oneCell']
    clear hI
    refine Mine.wp_region_mine_tail 14 114 [77, 78, 79, 80, 81, 82, 83, 84, 85, 86, 87, 88, 89, 90, 91, 92] rfl (by kernel_rfl) (by kernel_rfl) (by kernel_rfl) (by kernel_rfl) (ob0 := none)
      (Mine.Ahead.more (Mine.Ahead.more (Mine.Ahead.more (Mine.Ahead.none_ _ _ _) 12 (Mine.Wi.stays hIok (.pointer (some ⟨gT, 0, none⟩))) (by exact ⟨rfl, hIw⟩)) 13 (Mine.Is.stays (.int .i64 (k : Int))) (by rfl)) 9 (Mine.Bx.stays g9 51 #[.int .i64 xp, .string xt, .bool xb]) (by exact ⟨rfl, (HB1.out.gr HG4.out).drewN 1, by simp⟩))
      114 (C0 := fun _ _ o => o = none) (fun _ _ _ _ h _ => h) (fun k hk => by cases hk) rfl ?_
    refine Mine.look1 (x := .tmp 12) (Ψ := Mine.Wi I (.pointer (some ⟨gT, 0, none⟩))) (Φ := Mine.Wi I (.pointer (some ⟨gT, 0, none⟩))) rfl (by decide) (by simp [Op.operands]) rfl (Mine.Wi.stays hIok _) (fun a W ob h => ⟨_, exec_fldS rfl h.1 W, rfl, h.2⟩) ?_
    refine Mine.look1 (x := .tmp 77) (Ψ := Mine.Wi I (.pointer (some ⟨gT, 0, none⟩))) (Φ := Mine.Is (.slice (some ⟨gU, 0, none⟩) q tc)) rfl (by decide) (by simp [Op.operands]) rfl (Mine.Is.stays _) (fun a W ob h => ⟨_, exec_load rfl h.1 W (by kernel_rfl) (hIm _ _ h.2), rfl⟩) ?_
    refine Mine.move (.tmp 13) (.inl rfl) rfl (by decide) rfl (Mine.Is.stays _) ?_
    refine Mine.chain_lit0R (e := 51) 3 rfl rfl rfl (Nat.le_refl _) (fun W => by kernel_rfl) ?_
    refine Mine.look1 (x := .tmp 12) (Ψ := Mine.Wi I (.pointer (some ⟨gT, 0, none⟩))) (Φ := Mine.Wi I (.pointer (some ⟨gT, 0, none⟩))) rfl (by decide) (by simp [Op.operands]) rfl (Mine.Wi.stays hIok _) (fun a W ob h => ⟨_, exec_fldS rfl h.1 W, rfl, h.2⟩) ?_
    refine Mine.look1 (x := .tmp 81) (Ψ := Mine.Wi I (.pointer (some ⟨gT, 0, none⟩))) (Φ := Mine.Wi I (.slice (some ⟨gU, 0, none⟩) q tc)) rfl (by decide) (by simp [Op.operands]) rfl (Mine.Wi.stays hIok _) (fun a W ob h => ⟨_, exec_load rfl h.1 W (by kernel_rfl) (hIm _ _ h.2), rfl, h.2⟩) ?_
    refine Mine.move (.tmp 13) (.inl rfl) rfl (by decide) rfl (Mine.Is.stays _) ?_
    refine Mine.look2 (x := .tmp 82) (y := .tmp 83) (Ψ := Mine.Wi I (.slice (some ⟨gU, 0, none⟩) q tc)) (Ψ' := Mine.Is (.int .i64 (k : Int))) (Φ := Mine.Wi I (.pointer (some ⟨gU, k * 2, none⟩))) rfl (by decide) (by simp [Op.operands]) (by simp [Op.operands]) rfl rfl (Mine.Wi.stays hIok _) (fun a W ob h h' => ⟨_, exec_idx rfl h.1 h' hkq W, rfl, h.2⟩) ?_
    refine Mine.look1 (x := .tmp 84) (Ψ := Mine.Wi I (.pointer (some ⟨gU, k * 2, none⟩))) (Φ := Mine.Wi I (.pointer (some ⟨gU, k * 2 + 1, none⟩))) rfl (by decide) (by simp [Op.operands]) rfl (Mine.Wi.stays hIok _) (fun a W ob h => ⟨_, exec_fld rfl h.1 W, rfl, h.2⟩) ?_
    refine Mine.look1 (x := .tmp 85) (Ψ := Mine.Wi I (.pointer (some ⟨gU, k * 2 + 1, none⟩))) (Φ := Mine.SlR 3 (ll.map verC)) rfl (by decide) (by simp [Op.operands]) rfl (Mine.SlR.stays _ _) (fun a W ob h => ⟨_, exec_load rfl h.1 W (by kernel_rfl) (hIc _ _ h.2), hIr _ _ h.2⟩) ?_
    refine Mine.chain_spreadR rfl rfl rfl Try.underlying52 hie hz hsz hby rfl (by decide) rfl (fun q hq => by obtain ⟨y, _, rfl⟩ := List.mem_map.1 hq; rfl) hone (by rw [List.length_map]; simp; unfold maxLen; omega) (by rw [List.length_map]; simp; omega) (Nat.le_refl _) ?_
    refine Mine.load_box rfl rfl (by decide) rfl Try.underlying51 rfl (by kernel_rfl) ?_
    refine Mine.lit1R (e := 51) (cs := [.int .i64 xp, .string xt, .bool xb]) rfl rfl (by decide) rfl (fun W => by kernel_rfl) ?_
    refine Mine.chain_appR rfl rfl rfl Try.underlying52 hie hz hsz hby rfl (by decide) rfl rfl (fun u hu => by
      simp only [List.mem_cons, List.not_mem_nil, or_false] at hu
      rcases hu with rfl | rfl | rfl <;> simp [Value.oneCell']) (by rw [List.nil_append, List.length_map]; omega) (by rw [List.nil_append, List.length_map]; omega) (Nat.le_refl _) ?_
    intro a1 w5 ob hr hwf hs5 hd5 hu5 hk5 hat
    have h78 : a1.tmps.getD 78 undef = .slice (some ⟨gU, 0, none⟩) q tc := hk5 78
    have h79 : a1.tmps.getD 79 undef = .int .i64 (k : Int) := hk5 79
    have h90 : Mine.RowR 51 3 w4.drew.heap.size ([] ++ ll.map verC ++ [[.int .i64 xp, .string xt, .bool xb]]) (a1.tmps.getD 90 undef) w5 ob := hat
    obtain ⟨Z, hZ, hlay⟩ := Grow.lay_kept_by _ a1 114 _ hs5 hd5 hu5
    rw [hZ] at h78 h79 h90
    clear hZ hu5 hd5 hs5 hk5 hwf hat
    obtain ⟨hro5, _⟩ := h90
    rw [List.nil_append] at hro5
    have hx5 : VersX w5 (Z 90) (ll ++ [⟨xp, xt, xb⟩]) := by
      show RowAt 3 w5 (Z 90) ((ll ++ [(⟨xp, xt, xb⟩ : VerT)]).map verC)
      rw [List.map_append]
      exact hro5.rowAt
    have hgUlt := (HIO.out.1.lt gU rfl).2
    have hdr : w4.drew.heap.size = w4.heap.size := rfl
    have hn5 : NotIn (some gU) (Z 90) := fun ad n c e _ e2 => by
      have := (hro5.lt ad.block (by rw [e]; rfl)).1
      injection e2 with e2
      omega
    have hg5 : Gr w4 w5 := ((Gr.refl w4).drewN 1).trans (rs_grew hr)
    obtain ⟨A9, c9, h90, _⟩ := hx5.is
    obtain ⟨n9, hn9⟩ : ∃ n9, (ll ++ [(⟨xp, xt, xb⟩ : VerT)]).length = n9 := ⟨_, rfl⟩
    rw [hn9] at h90
    rw [h90] at hx5 hn5
    have HIO5 := HIO.out.gr hg5
    obtain ⟨gV, tc'', htt, _, _, _, q0, q1, fq⟩ := HIO5.cells hki
    rw [hli] at htt
    have hgVU : gU = gV := by injection htt with e1; injection e1 with e1; injection e1
    subst hgVU
    have k0 : w5.cell? ⟨gT, 0, none⟩ = some (.slice (some ⟨gU, 0, none⟩) q tc) := (HBT.out.gr hg5).cell 0
    subst hlay
    simp only [List.range, List.range.loop, List.map_cons, List.map_nil, List.contains_cons, List.contains_nil, Nat.reduceBEq, Bool.or_false, Bool.or_true, cond_false, cond_true, Array.getD_eq_getD_getElem?, List.getElem?_toArray, List.getElem?_cons_zero, List.getElem?_cons_succ, Option.getD_some, h78, h79, h90, List.drop_succ_cons, List.drop_zero]
    clear hro5 hr h78 h79 h90 hIw hIr hIc hIm hIok I hone htt hn9 r0 r1 fr
    have r0 := q0
    have r1 := q1
    have fr := fq
    clear q0 q1 fq
    go_wp2_with fail
    obtain ⟨V, hV⟩ : ∃ V, w5.setCell ⟨gU, k * 2 + 1, none⟩ (.slice A9 n9 c9) = V := ⟨_, rfl⟩
    obtain ⟨hoV, hbut⟩ := HIO5.stored hli.symm hki (l := ll ++ [⟨xp, xt, xb⟩]) (u := .slice A9 n9 c9) hx5 hn5
    rw [hV] at hoV hbut
    rw [hV]
    obtain ⟨md, hmd⟩ : ∃ md, mk = md := ⟨_, rfl⟩
    obtain ⟨tv, htv⟩ : ∃ tv, Value.slice (some ⟨gU, 0, none⟩) q tc = tv := ⟨_, rfl⟩
    obtain ⟨ds, hds⟩ : ∃ ds, (is.set k (⟨is[k].1.key, ll ++ [⟨xp, xt, xb⟩]⟩, .slice A9 n9 c9)).map Prod.fst = ds := ⟨_, rfl⟩
    have HDV := hide (show ChnsX V tv ds from by rw [← htv]; exact ⟨_, hds, hoV.x⟩)
    have hall : ∀ d ∈ ds, d.l.length ≤ 1000000 ∧ ((d.key.size : Int) ≤ 281474976710656 ∧ VerBnd d.l) := fun d hd => by
      rw [← hds] at hd
      obtain ⟨i, hi, rfl⟩ := List.mem_map.1 hd
      rcases List.mem_or_eq_of_mem_set hi with hi | hi
      · have hm : i.1 ∈ cs := by rw [← his]; exact List.mem_map_of_mem hi
        exact ⟨(HGOOD.out.bnd.len (by omega)).2 _ hm, HGOOD.out.big _ hm⟩
      · rw [hi]
        have hm : is[k].1 ∈ cs := by rw [← his]; exact List.mem_map_of_mem (List.getElem_mem hki)
        have h5 := (HGOOD.out.bnd.len (by omega)).2 _ hm
        have h6 := HGOOD.out.big _ hm
        exact ⟨by show (ll ++ [(⟨xp, xt, xb⟩ : VerT)]).length ≤ _; rw [List.length_append]; simp; omega, h6.1, fun v hv => by
          rcases List.mem_append.1 hv with hv | hv
          · exact h6.2 v (by rw [hll]; exact hv)
          · rw [List.mem_singleton.1 hv]; show (xt.size : Int) ≤ _; omega⟩
    have hdl : ds.length ≤ 1000000 := by rw [← hds, List.length_map, List.length_set, hli]; omega
    have HLV := hide (show CsLen ds from ⟨hdl, fun d hd => (hall d hd).1⟩)
    have HGB := hide (show CsBig ds from fun d hd => (hall d hd).2)
    have HBV := hide (show Bl V gT 26 #[tv, .int .i64 md] from by rw [← htv, ← hmd]; exact (HBT.out.gr hg5).but_ hbut hgUT)
    have HGV := hide ((HG4.out.trans hg5).fresh_ hbut hgU)
    subst htv
    clear hV hbut hoV k0 k1 f0 f1 hds hmd hall hdl v0 v1 r0 r1 fr
    go_wp2_with fail
    have HM1 := hide (fun W (h : Gr V W) => StMay_ok ⟨ds, md⟩ (.slice (some ⟨gU, 0, none⟩) q tc) W (HDV.out.gr h) HLV.out HGB.out)
    have HM2 := hide (fun W (h : Gr V W) => RefStMay_ok ⟨ds, md⟩ (.slice (some ⟨gU, 0, none⟩) q tc) W (HDV.out.gr h) HLV.out HGB.out)
    generalize mayS ⟨ds, md⟩ = bm at HM1 HM2
    have HE1 := hide (fun W (h : Gr V W) => StSame_ok ⟨cs, mk⟩ ⟨ds, md⟩ (.slice uA q uc) (.slice (some ⟨gU, 0, none⟩) q tc) W (HSX.out W (HGV.out.trans h)) (HDV.out.gr h) (HGOOD.out.bnd.len (by omega)))
    have HE2 := hide (fun W (h : Gr V W) => RefSame_ok ⟨cs, mk⟩ ⟨ds, md⟩ (.slice uA q uc) (.slice (some ⟨gU, 0, none⟩) q tc) W (HSX.out W (HGV.out.trans h)) (HDV.out.gr h) (HGOOD.out.bnd.len (by omega)))
    generalize decide ((⟨cs, mk⟩ : StT) = ⟨ds, md⟩) = bs at HE1 HE2
    refine Grow.wp_region_kept 114 [100, 101, 102, 103, 104, 105, 106, 107, 108, 109, 110, 111, 112, 113, 10] rfl (by kernel_rfl) (by kernel_rfl) (by kernel_rfl) (Grow.Ahead.more (Grow.Ahead.more (Grow.Ahead.none_ _ _) 11 (Grow.Bx.stays g2 26 #[.slice uA q uc, .int .i64 mk]) ⟨rfl, (HB2.out.gr HGV.out).drewN 1⟩) 12 (Grow.Bx.stays gT 26 #[.slice (some ⟨gU, 0, none⟩) q tc, .int .i64 md]) ⟨rfl, HBV.out.drewN 1⟩) ?_
    refine Grow.grow_row rfl (.inl ⟨rfl, rfl⟩) rfl Try.underlying26 rfl (by kernel_rfl) ?_
    refine Grow.grow_call1 (Φ := Grow.Is (.bool bm)) rfl (.inl ⟨rfl, rfl⟩) Try.func12 (by kernel_rfl) (by kernel_rfl) rfl (Grow.Is.stays _) (fun v W hg hv => by
      subst hv
      exact (HM1.out W (((Gr.refl V).drewN 1).trans hg)).mono fun e w' ⟨he, hgx⟩ => ⟨_, he, hgx, rfl⟩) ?_
    refine Grow.grow_row rfl (.inl ⟨rfl, rfl⟩) rfl Try.underlying26 rfl (by kernel_rfl) ?_
    refine Grow.grow_call1 (Φ := Grow.Is (.bool bm)) rfl (.inl ⟨rfl, rfl⟩) Try.func25 (by kernel_rfl) (by kernel_rfl) rfl (Grow.Is.stays _) (fun v W hg hv => by
      subst hv
      exact (HM2.out W (((Gr.refl V).drewN 1).trans hg)).mono fun e w' ⟨he, hgx⟩ => ⟨_, he, hgx, rfl⟩) ?_
    refine Grow.grow_bool_same rfl Try.underlying4 rfl (.inl ⟨rfl, rfl⟩) rfl rfl ?_
    refine Grow.grow_mv (.inl rfl) (.inl ⟨rfl, rfl⟩) rfl ?_
    refine Grow.grow_row rfl (.inr ⟨5, true, 105, rfl, rfl, rfl, by decide⟩) rfl Try.underlying26 rfl (by kernel_rfl) ?_
    refine Grow.grow_row rfl (.inr ⟨5, true, 105, rfl, rfl, rfl, by decide⟩) rfl Try.underlying26 rfl (by kernel_rfl) ?_
    refine Grow.grow_call2 (Φ := Grow.Is (.bool bs)) rfl (.inr ⟨5, true, 105, rfl, rfl, rfl, by decide⟩) Try.func13 (by kernel_rfl) (by kernel_rfl) rfl rfl (Grow.Is.stays _) (fun v u W hg hv hu => by
      subst hv hu
      exact (HE1.out W (((Gr.refl V).drewN 1).trans hg)).mono fun e w' ⟨he, hgx⟩ => ⟨_, he, hgx, rfl⟩) ?_
    refine Grow.grow_row rfl (.inr ⟨5, true, 105, rfl, rfl, rfl, by decide⟩) rfl Try.underlying26 rfl (by kernel_rfl) ?_
    refine Grow.grow_row rfl (.inr ⟨5, true, 105, rfl, rfl, rfl, by decide⟩) rfl Try.underlying26 rfl (by kernel_rfl) ?_
    refine Grow.grow_call2 (Φ := Grow.Is (.bool bs)) rfl (.inr ⟨5, true, 105, rfl, rfl, rfl, by decide⟩) Try.func20 (by kernel_rfl) (by kernel_rfl) rfl rfl (Grow.Is.stays _) (fun v u W hg hv hu => by
      subst hv hu
      exact (HE2.out W (((Gr.refl V).drewN 1).trans hg)).mono fun e w' ⟨he, hgx⟩ => ⟨_, he, hgx, rfl⟩) ?_
    refine Grow.grow_bool_same rfl Try.underlying4 rfl (.inr ⟨5, true, 105, rfl, rfl, rfl, by decide⟩) rfl rfl ?_
    refine Grow.grow_pick_yes (Φ := Grow.Is (.bool true)) rfl (.inl ⟨rfl, rfl⟩) rfl rfl (Grow.Is.stays _) ?_
    refine Grow.grow_mv (.inr rfl) (.inl ⟨rfl, rfl⟩) rfl ?_
    intro a2 w6 hg6 hs6 hd6 hu6 hk6
    have h10 : a2.tmps.getD 10 undef = .bool true := hk6 10
    obtain ⟨Z2, hZ, hlay⟩ := Grow.lay_kept_by _ a2 114 _ hs6 hd6 hu6
    rw [hZ] at h10
    clear hZ hu6 hd6 hs6 hk6
    subst hlay
    simp only [List.range, List.range.loop, List.map_cons, List.map_nil, List.contains_cons, List.contains_nil, Nat.reduceBEq, Bool.or_false, Bool.or_true, cond_false, cond_true, Array.getD_eq_getD_getElem?, List.getElem?_toArray, List.getElem?_cons_zero, List.getElem?_cons_succ, Option.getD_some, h10]
    go_wp2_with fail
    go_ret
    exact ⟨rfl, HG1.out.trans (HGV.out.trans (((Gr.refl V).drewN 1).trans hg6))⟩
  · go_wp2_with fail
    obtain ⟨V, hV⟩ : ∃ V, w4.setCell ⟨gU, k * 2 + 1, none⟩ (.slice none 0 0) = V := ⟨_, rfl⟩
    obtain ⟨hoV, hbut⟩ := HIO.out.stored hli.symm hki (l := []) (u := .slice none 0 0) (VersX.nil _ _ _) (NotIn.empty _ _ _)
    rw [hV] at hoV hbut
    rw [hV]
    obtain ⟨md, hmd⟩ : ∃ md, mk = md := ⟨_, rfl⟩
    obtain ⟨tv, htv⟩ : ∃ tv, Value.slice (some ⟨gU, 0, none⟩) q tc = tv := ⟨_, rfl⟩
    obtain ⟨ds, hds⟩ : ∃ ds, (is.set k (⟨is[k].1.key, []⟩, .slice none 0 0)).map Prod.fst = ds := ⟨_, rfl⟩
    have HDV := hide (show ChnsX V tv ds from by rw [← htv]; exact ⟨_, hds, hoV.x⟩)
    have hall : ∀ d ∈ ds, d.l.length ≤ 1000000 ∧ ((d.key.size : Int) ≤ 281474976710656 ∧ VerBnd d.l) := fun d hd => by
      rw [← hds] at hd
      obtain ⟨i, hi, rfl⟩ := List.mem_map.1 hd
      rcases List.mem_or_eq_of_mem_set hi with hi | hi
      · have hm : i.1 ∈ cs := by rw [← his]; exact List.mem_map_of_mem hi
        exact ⟨(HGOOD.out.bnd.len (by omega)).2 _ hm, HGOOD.out.big _ hm⟩
      · rw [hi]
        have hm : is[k].1 ∈ cs := by rw [← his]; exact List.mem_map_of_mem (List.getElem_mem hki)
        have h5 := (HGOOD.out.bnd.len (by omega)).2 _ hm
        have h6 := HGOOD.out.big _ hm
        exact ⟨Nat.zero_le _, h6.1, fun v hv => by simp at hv⟩
    have hdl : ds.length ≤ 1000000 := by rw [← hds, List.length_map, List.length_set, hli]; omega
    have HLV := hide (show CsLen ds from ⟨hdl, fun d hd => (hall d hd).1⟩)
    have HGB := hide (show CsBig ds from fun d hd => (hall d hd).2)
    have HBV := hide (show Bl V gT 26 #[tv, .int .i64 md] from by rw [← htv, ← hmd]; exact HBT.out.but_ hbut hgUT)
    have HGV := hide (HG4.out.fresh_ hbut hgU)
    subst htv
    clear hV hbut hoV k0 k1 f0 f1 hds hmd hall hdl v0 v1 r0 r1 fr
    go_wp2_with fail
    have HM1 := hide (fun W (h : Gr V W) => StMay_ok ⟨ds, md⟩ (.slice (some ⟨gU, 0, none⟩) q tc) W (HDV.out.gr h) HLV.out HGB.out)
    have HM2 := hide (fun W (h : Gr V W) => RefStMay_ok ⟨ds, md⟩ (.slice (some ⟨gU, 0, none⟩) q tc) W (HDV.out.gr h) HLV.out HGB.out)
    generalize mayS ⟨ds, md⟩ = bm at HM1 HM2
    have HE1 := hide (fun W (h : Gr V W) => StSame_ok ⟨cs, mk⟩ ⟨ds, md⟩ (.slice uA q uc) (.slice (some ⟨gU, 0, none⟩) q tc) W (HSX.out W (HGV.out.trans h)) (HDV.out.gr h) (HGOOD.out.bnd.len (by omega)))
    have HE2 := hide (fun W (h : Gr V W) => RefSame_ok ⟨cs, mk⟩ ⟨ds, md⟩ (.slice uA q uc) (.slice (some ⟨gU, 0, none⟩) q tc) W (HSX.out W (HGV.out.trans h)) (HDV.out.gr h) (HGOOD.out.bnd.len (by omega)))
    generalize decide ((⟨cs, mk⟩ : StT) = ⟨ds, md⟩) = bs at HE1 HE2
    refine Grow.wp_region_kept 114 [100, 101, 102, 103, 104, 105, 106, 107, 108, 109, 110, 111, 112, 113, 10] rfl (by kernel_rfl) (by kernel_rfl) (by kernel_rfl) (Grow.Ahead.more (Grow.Ahead.more (Grow.Ahead.none_ _ _) 11 (Grow.Bx.stays g2 26 #[.slice uA q uc, .int .i64 mk]) ⟨rfl, (HB2.out.gr HGV.out).drewN 1⟩) 12 (Grow.Bx.stays gT 26 #[.slice (some ⟨gU, 0, none⟩) q tc, .int .i64 md]) ⟨rfl, HBV.out.drewN 1⟩) ?_
    refine Grow.grow_row rfl (.inl ⟨rfl, rfl⟩) rfl Try.underlying26 rfl (by kernel_rfl) ?_
    refine Grow.grow_call1 (Φ := Grow.Is (.bool bm)) rfl (.inl ⟨rfl, rfl⟩) Try.func12 (by kernel_rfl) (by kernel_rfl) rfl (Grow.Is.stays _) (fun v W hg hv => by
      subst hv
      exact (HM1.out W (((Gr.refl V).drewN 1).trans hg)).mono fun e w' ⟨he, hgx⟩ => ⟨_, he, hgx, rfl⟩) ?_
    refine Grow.grow_row rfl (.inl ⟨rfl, rfl⟩) rfl Try.underlying26 rfl (by kernel_rfl) ?_
    refine Grow.grow_call1 (Φ := Grow.Is (.bool bm)) rfl (.inl ⟨rfl, rfl⟩) Try.func25 (by kernel_rfl) (by kernel_rfl) rfl (Grow.Is.stays _) (fun v W hg hv => by
      subst hv
      exact (HM2.out W (((Gr.refl V).drewN 1).trans hg)).mono fun e w' ⟨he, hgx⟩ => ⟨_, he, hgx, rfl⟩) ?_
    refine Grow.grow_bool_same rfl Try.underlying4 rfl (.inl ⟨rfl, rfl⟩) rfl rfl ?_
    refine Grow.grow_mv (.inl rfl) (.inl ⟨rfl, rfl⟩) rfl ?_
    refine Grow.grow_row rfl (.inr ⟨5, true, 105, rfl, rfl, rfl, by decide⟩) rfl Try.underlying26 rfl (by kernel_rfl) ?_
    refine Grow.grow_row rfl (.inr ⟨5, true, 105, rfl, rfl, rfl, by decide⟩) rfl Try.underlying26 rfl (by kernel_rfl) ?_
    refine Grow.grow_call2 (Φ := Grow.Is (.bool bs)) rfl (.inr ⟨5, true, 105, rfl, rfl, rfl, by decide⟩) Try.func13 (by kernel_rfl) (by kernel_rfl) rfl rfl (Grow.Is.stays _) (fun v u W hg hv hu => by
      subst hv hu
      exact (HE1.out W (((Gr.refl V).drewN 1).trans hg)).mono fun e w' ⟨he, hgx⟩ => ⟨_, he, hgx, rfl⟩) ?_
    refine Grow.grow_row rfl (.inr ⟨5, true, 105, rfl, rfl, rfl, by decide⟩) rfl Try.underlying26 rfl (by kernel_rfl) ?_
    refine Grow.grow_row rfl (.inr ⟨5, true, 105, rfl, rfl, rfl, by decide⟩) rfl Try.underlying26 rfl (by kernel_rfl) ?_
    refine Grow.grow_call2 (Φ := Grow.Is (.bool bs)) rfl (.inr ⟨5, true, 105, rfl, rfl, rfl, by decide⟩) Try.func20 (by kernel_rfl) (by kernel_rfl) rfl rfl (Grow.Is.stays _) (fun v u W hg hv hu => by
      subst hv hu
      exact (HE2.out W (((Gr.refl V).drewN 1).trans hg)).mono fun e w' ⟨he, hgx⟩ => ⟨_, he, hgx, rfl⟩) ?_
    refine Grow.grow_bool_same rfl Try.underlying4 rfl (.inr ⟨5, true, 105, rfl, rfl, rfl, by decide⟩) rfl rfl ?_
    refine Grow.grow_pick_yes (Φ := Grow.Is (.bool true)) rfl (.inl ⟨rfl, rfl⟩) rfl rfl (Grow.Is.stays _) ?_
    refine Grow.grow_mv (.inr rfl) (.inl ⟨rfl, rfl⟩) rfl ?_
    intro a2 w6 hg6 hs6 hd6 hu6 hk6
    have h10 : a2.tmps.getD 10 undef = .bool true := hk6 10
    obtain ⟨Z2, hZ, hlay⟩ := Grow.lay_kept_by _ a2 114 _ hs6 hd6 hu6
    rw [hZ] at h10
    clear hZ hu6 hd6 hs6 hk6
    subst hlay
    simp only [List.range, List.range.loop, List.map_cons, List.map_nil, List.contains_cons, List.contains_nil, Nat.reduceBEq, Bool.or_false, Bool.or_true, cond_false, cond_true, Array.getD_eq_getD_getElem?, List.getElem?_toArray, List.getElem?_cons_zero, List.getElem?_cons_succ, Option.getD_some, h10]
    go_wp2_with fail
    go_ret
    exact ⟨rfl, HG1.out.trans (HGV.out.trans (((Gr.refl V).drewN 1).trans hg6))⟩
  · go_wp2_with (at_builtin; refine pause ?_)
    refine hide ?_
    obtain ⟨w5, hw5⟩ : ∃ w5, w4.alloc (.cells #[.int .i64 xp, .string xt, .bool xb] 51) = w5 := ⟨_, rfl⟩
    have hg5 : Gr w4 w5 := by rw [← hw5]; exact (Gr.refl _).alloc _
    have hs5 : w5.heap.size = w4.heap.size + 1 := by rw [← hw5]; simp
    have hb5 : Bl w5 w4.heap.size 51 #[.int .i64 xp, .string xt, .bool xb] := by rw [← hw5]; exact Bl.new _ _ _
    have hv5 : VersX w5 (.slice (some ⟨w4.heap.size, 0, none⟩) 1 1) [⟨xp, xt, xb⟩] := row_lit hb5 (fun r hr => by rw [List.mem_singleton.1 hr]; rfl) rfl rfl
    have hn5 : NotIn (Value.slice (some ⟨gU, 0, none⟩) q tc).ownBlock (.slice (some ⟨w4.heap.size, 0, none⟩) 1 1) := fun ad n c e _ e2 => by
      injection e with e
      injection e with e
      have e3 : ad.block = gU := by injection e2
      rw [← e] at e3
      have := HIO.out.1.lt gU rfl
      simp only at e3
      omega
    rw [hw5]
    refine wpList_pushChn rfl (.tmp 54) (.tmp 59) rfl (B := W1.heap.size) ⟨key, [⟨xp, xt, xb⟩]⟩ (.slice (some ⟨w4.heap.size, 0, none⟩) 1 1) rfl ⟨is, his, HIO.out.gr hg5⟩ hv5 hn5 (Nat.le_trans HG4.out.size hg5.size) (by rw [hs5]; rfl) (by omega) ?_
    intro v6 w6 ho6 hp6 _
    have hg6 : Gr W1 w6 := hp6.gr (w0 := W1) ⟨is, his, HIO.out.gr hg5⟩ (Nat.le_refl _) (HG4.out.trans hg5)
    have hbT6 : Bl w6 gT 26 #[.slice (some ⟨gU, 0, none⟩) q tc, .int .i64 mk] := (HBT.out.gr hg5).grown hp6.1 (fun e => hgUT (by injection e))
    have hne6 : v6.ownBlock ≠ some gT := fun e => by
      rcases hp6.2 with h7 | ⟨k7, h7, h8⟩
      · rw [h7] at e
        exact hgUT (by injection e with e; exact e.symm)
      · rw [h7] at e
        injection e with e
        have := HBT.out.lt
        omega
    obtain ⟨is6, his6, hio6⟩ := ho6
    obtain ⟨A6, c6, hv6, _⟩ := hio6.x.1
    obtain ⟨q6, hq6⟩ : ∃ q6, (is6.map itC).length = q6 := ⟨_, rfl⟩
    rw [hq6] at hv6
    subst hv6
    have k0 : w6.cell? ⟨gT, 0, none⟩ = some (.slice (some ⟨gU, 0, none⟩) q tc) := hbT6.cell 0
    have f0 : w6.frozen? ⟨gT, 0, none⟩ = false := hbT6.frozen 0
    clear hw5 hs5 hb5 hv5 hn5 hp6 k1 f1 v0 v1 v2 r0 r1 fr
    go_wp2_with fail
    obtain ⟨V, hV⟩ : ∃ V, w6.setCell ⟨gT, 0, none⟩ (.slice A6 q6 c6) = V := ⟨_, rfl⟩
    have hbut : But w6 V gT := by rw [← hV]; exact (But.refl w6 gT).set 0 _
    have hbV : Bl V gT 26 #[.slice A6 q6 c6, .int .i64 mk] := by rw [← hV]; exact hbT6.put 0 _
    rw [hV]
    obtain ⟨ds, hds⟩ : ∃ ds, cs ++ [⟨key, [⟨xp, xt, xb⟩]⟩] = ds := ⟨_, rfl⟩
    obtain ⟨md, hmd⟩ : ∃ md, mk = md := ⟨_, rfl⟩
    rw [hds] at his6
    rw [hmd] at hbV
    have HDV := hide (show ChnsX V (.slice A6 q6 c6) ds from ⟨is6, his6, (itsBox hio6 hbT6 (by simp) hbut hne6).x⟩)
    have hall : ∀ d ∈ ds, d.l.length ≤ 1000000 ∧ ((d.key.size : Int) ≤ 281474976710656 ∧ VerBnd d.l) := fun d hd => by
      rw [← hds] at hd
      rcases List.mem_append.1 hd with hd | hd
      · exact ⟨(HGOOD.out.bnd.len (by omega)).2 _ hd, HGOOD.out.big _ hd⟩
      · rw [List.mem_singleton.1 hd]
        exact ⟨by simp, by show (key.size : Int) ≤ _; omega, fun v hv => by rw [List.mem_singleton.1 hv]; show (xt.size : Int) ≤ _; omega⟩
    have hdl : ds.length ≤ 1000000 := by rw [← hds, List.length_append, hq]; simp; omega
    have HLV := hide (show CsLen ds from ⟨hdl, fun d hd => (hall d hd).1⟩)
    have HGB := hide (show CsBig ds from fun d hd => (hall d hd).2)
    have HBV := hide hbV
    have HGV := hide (hg6.fresh_ hbut hgT')
    clear hV hbut hbV k0 f0 hds hall hbT6 hne6 hio6 his6 hg6 hg5
    go_wp2_with fail
    have HM1 := hide (fun W (h : Gr V W) => StMay_ok ⟨ds, md⟩ (.slice A6 q6 c6) W (HDV.out.gr h) HLV.out HGB.out)
    have HM2 := hide (fun W (h : Gr V W) => RefStMay_ok ⟨ds, md⟩ (.slice A6 q6 c6) W (HDV.out.gr h) HLV.out HGB.out)
    generalize mayS ⟨ds, md⟩ = bm at HM1 HM2
    have HE1 := hide (fun W (h : Gr V W) => StSame_ok ⟨cs, mk⟩ ⟨ds, md⟩ (.slice uA q uc) (.slice A6 q6 c6) W (HSX.out W (HGV.out.trans h)) (HDV.out.gr h) (HGOOD.out.bnd.len (by omega)))
    have HE2 := hide (fun W (h : Gr V W) => RefSame_ok ⟨cs, mk⟩ ⟨ds, md⟩ (.slice uA q uc) (.slice A6 q6 c6) W (HSX.out W (HGV.out.trans h)) (HDV.out.gr h) (HGOOD.out.bnd.len (by omega)))
    generalize decide ((⟨cs, mk⟩ : StT) = ⟨ds, md⟩) = bs at HE1 HE2
    refine Grow.wp_region_kept 114 [100, 101, 102, 103, 104, 105, 106, 107, 108, 109, 110, 111, 112, 113, 10] rfl (by kernel_rfl) (by kernel_rfl) (by kernel_rfl) (Grow.Ahead.more (Grow.Ahead.more (Grow.Ahead.none_ _ _) 11 (Grow.Bx.stays g2 26 #[.slice uA q uc, .int .i64 mk]) ⟨rfl, (HB2.out.gr HGV.out).drewN 1⟩) 12 (Grow.Bx.stays gT 26 #[.slice A6 q6 c6, .int .i64 md]) ⟨rfl, HBV.out.drewN 1⟩) ?_
    refine Grow.grow_row rfl (.inl ⟨rfl, rfl⟩) rfl Try.underlying26 rfl (by kernel_rfl) ?_
    refine Grow.grow_call1 (Φ := Grow.Is (.bool bm)) rfl (.inl ⟨rfl, rfl⟩) Try.func12 (by kernel_rfl) (by kernel_rfl) rfl (Grow.Is.stays _) (fun v W hg hv => by
      subst hv
      exact (HM1.out W (((Gr.refl V).drewN 1).trans hg)).mono fun e w' ⟨he, hgx⟩ => ⟨_, he, hgx, rfl⟩) ?_
    refine Grow.grow_row rfl (.inl ⟨rfl, rfl⟩) rfl Try.underlying26 rfl (by kernel_rfl) ?_
    refine Grow.grow_call1 (Φ := Grow.Is (.bool bm)) rfl (.inl ⟨rfl, rfl⟩) Try.func25 (by kernel_rfl) (by kernel_rfl) rfl (Grow.Is.stays _) (fun v W hg hv => by
      subst hv
      exact (HM2.out W (((Gr.refl V).drewN 1).trans hg)).mono fun e w' ⟨he, hgx⟩ => ⟨_, he, hgx, rfl⟩) ?_
    refine Grow.grow_bool_same rfl Try.underlying4 rfl (.inl ⟨rfl, rfl⟩) rfl rfl ?_
    refine Grow.grow_mv (.inl rfl) (.inl ⟨rfl, rfl⟩) rfl ?_
    refine Grow.grow_row rfl (.inr ⟨5, true, 105, rfl, rfl, rfl, by decide⟩) rfl Try.underlying26 rfl (by kernel_rfl) ?_
    refine Grow.grow_row rfl (.inr ⟨5, true, 105, rfl, rfl, rfl, by decide⟩) rfl Try.underlying26 rfl (by kernel_rfl) ?_
    refine Grow.grow_call2 (Φ := Grow.Is (.bool bs)) rfl (.inr ⟨5, true, 105, rfl, rfl, rfl, by decide⟩) Try.func13 (by kernel_rfl) (by kernel_rfl) rfl rfl (Grow.Is.stays _) (fun v u W hg hv hu => by
      subst hv hu
      exact (HE1.out W (((Gr.refl V).drewN 1).trans hg)).mono fun e w' ⟨he, hgx⟩ => ⟨_, he, hgx, rfl⟩) ?_
    refine Grow.grow_row rfl (.inr ⟨5, true, 105, rfl, rfl, rfl, by decide⟩) rfl Try.underlying26 rfl (by kernel_rfl) ?_
    refine Grow.grow_row rfl (.inr ⟨5, true, 105, rfl, rfl, rfl, by decide⟩) rfl Try.underlying26 rfl (by kernel_rfl) ?_
    refine Grow.grow_call2 (Φ := Grow.Is (.bool bs)) rfl (.inr ⟨5, true, 105, rfl, rfl, rfl, by decide⟩) Try.func20 (by kernel_rfl) (by kernel_rfl) rfl rfl (Grow.Is.stays _) (fun v u W hg hv hu => by
      subst hv hu
      exact (HE2.out W (((Gr.refl V).drewN 1).trans hg)).mono fun e w' ⟨he, hgx⟩ => ⟨_, he, hgx, rfl⟩) ?_
    refine Grow.grow_bool_same rfl Try.underlying4 rfl (.inr ⟨5, true, 105, rfl, rfl, rfl, by decide⟩) rfl rfl ?_
    refine Grow.grow_pick_yes (Φ := Grow.Is (.bool true)) rfl (.inl ⟨rfl, rfl⟩) rfl rfl (Grow.Is.stays _) ?_
    refine Grow.grow_mv (.inr rfl) (.inl ⟨rfl, rfl⟩) rfl ?_
    intro a2 w6 hg6 hs6 hd6 hu6 hk6
    have h10 : a2.tmps.getD 10 undef = .bool true := hk6 10
    obtain ⟨Z2, hZ, hlay⟩ := Grow.lay_kept_by _ a2 114 _ hs6 hd6 hu6
    rw [hZ] at h10
    clear hZ hu6 hd6 hs6 hk6
    subst hlay
    simp only [List.range, List.range.loop, List.map_cons, List.map_nil, List.contains_cons, List.contains_nil, Nat.reduceBEq, Bool.or_false, Bool.or_true, cond_false, cond_true, Array.getD_eq_getD_getElem?, List.getElem?_toArray, List.getElem?_cons_zero, List.getElem?_cons_succ, Option.getD_some, h10]
    go_wp2_with fail
    go_ret
    exact ⟨rfl, HG1.out.trans (HGV.out.trans (((Gr.refl V).drewN 1).trans hg6))⟩
end Go.Proofs.Ytbfbghfaeejicaa
