/-
  The document's Write of a store, by its contract.
-/
import Derived.Test.YtbfbghfaeejicaaStRefTrim
import Derived.Test.YtbfbghfaeejicaaStRef
import Derived.Test.YtbfbghfaeejicaaTxnRows
namespace Go.Proofs.Ytbfbghfaeejicaa
open Go Go.RowKit ChMath KeyMath StMath TxnMath
set_option maxRecDepth 100000

theorem CsBnd.addR {n : Nat} {cs : List ChT} (h : CsBnd n cs) (k : ByteArray) (v : VerT) : CsBnd (n + 1) (addR cs k v) := by
  have h1 := h.1
  unfold StMath.addR
  split
  · rename_i hk
    have hi : firstI (belowK k) cs < cs.length := by
      have := firstI_le (belowK k) cs
      by_cases e : firstI (belowK k) cs = cs.length
      · rw [e, List.getElem?_eq_none (Nat.le_refl _)] at hk; cases hk
      · omega
    rw [modify_set hi]
    refine ⟨by rw [List.length_set]; omega, fun c hc => ?_⟩
    rcases List.mem_or_eq_of_mem_set hc with hc | hc
    · have := h.2 c hc; omega
    · rw [hc]
      have := h.2 _ (List.getElem_mem hi)
      have h2 := addL_len (cs[firstI (belowK k) cs]).l v
      show (addL _ v).length ≤ n + 1
      omega
  · split
    · exact ⟨by omega, fun c hc => by have := h.2 c hc; omega⟩
    · refine ⟨by rw [List.length_append, List.length_cons, List.length_take, List.length_drop]; omega, fun c hc => ?_⟩
      rcases List.mem_append.1 hc with hc | hc
      · have := h.2 c (List.mem_of_mem_take hc); omega
      · rcases List.mem_cons.1 hc with hc | hc
        · rw [hc]; show 1 ≤ n + 1; omega
        · have := h.2 c (List.mem_of_mem_drop hc); omega
theorem writeR_snoc (p : Int) (x : WrT) : ∀ (l : List WrT) (cs : List ChT), writeR p (l ++ [x]) cs = addR (writeR p l cs) x.key ⟨p, x.val, x.gone⟩
  | [], _ => rfl
  | y :: r, cs => by rw [List.cons_append, writeR, writeR, writeR_snoc p x r]
theorem CsBnd.writeR {n : Nat} (p : Int) : ∀ (l : List WrT) {cs : List ChT}, CsBnd n cs → CsBnd (n + l.length) (StMath.writeR p l cs)
  | [], _, h => h
  | x :: r, cs, h => by
    have := CsBnd.writeR p r (h.addR x.key ⟨p, x.val, x.gone⟩)
    rw [StMath.writeR, List.length_cons, show n + (r.length + 1) = n + 1 + r.length by omega]
    exact this
theorem addR_at {cs : List ChT} {k : ByteArray} {v : VerT} {i : Nat} (hi : firstI (belowK k) cs = i) (h : i < cs.length) (hk : cs[i].key = k) : addR cs k v = cs.modify i fun c => ⟨c.key, addL c.l v⟩ := by
  unfold addR
  rw [hi, if_pos (by rw [List.getElem?_eq_getElem h]; simp [hk])]
theorem addR_not {cs : List ChT} {k : ByteArray} {v : VerT} {i : Nat} (hi : firstI (belowK k) cs = i) (h : ∀ h : i < cs.length, cs[i].key ≠ k) : addR cs k v = if v.pos < 1 then cs else cs.take i ++ ⟨k, [v]⟩ :: cs.drop i := by
  unfold addR
  rw [hi, if_neg (fun e => by
    by_cases h2 : i < cs.length
    · rw [List.getElem?_eq_getElem h2] at e
      simp at e
      exact h h2 e
    · rw [List.getElem?_eq_none (by omega)] at e
      cases e)]
theorem ins_modify {cs : List ChT} {k : ByteArray} {v : VerT} {i : Nat} (hi : i ≤ cs.length) (hv : ¬ v.pos < 1) : (cs.take i ++ ⟨k, []⟩ :: cs.drop i).modify i (fun c => ⟨c.key, addL c.l v⟩) = cs.take i ++ ⟨k, [v]⟩ :: cs.drop i := by
  have hl : (cs.take i).length = i := by rw [List.length_take]; omega
  have h1 : i < (cs.take i ++ (⟨k, []⟩ : ChT) :: cs.drop i).length := by rw [List.length_append, List.length_cons, hl]; omega
  rw [modify_set h1, List.set_append_right _ _ (by omega), hl, Nat.sub_self, List.set_cons_zero]
  congr 2
  have e : (cs.take i ++ (⟨k, []⟩ : ChT) :: cs.drop i)[i]'h1 = ⟨k, []⟩ := by
    rw [List.getElem_append_right (by omega)]
    simp [hl]
  rw [e]
  show (⟨k, addL [] v⟩ : ChT) = _
  rw [add_nil, if_neg (by omega)]

/-- the row as it stands in the store's cell -/
structure WrI (w0 wr : World) (gO : Nat) (m : Int) (row : Value) (cs : List ChT) : Prop where
  box : Bl wr gO 26 #[row, .int .i64 m]
  res : Bl wr (w0.heap.size + 1) 26 #[.slice none 0 0, .int .i64 0]
  own : ChnsO wr (w0.heap.size + 2) row cs
  ne : row.ownBlock ≠ some gO
  gr : Gr w0 wr
  at_ : w0.heap.size + 2 ≤ gO

theorem WrI.grow {w0 w w' : World} {gO : Nat} {m : Int} {row : Value} {cs : List ChT} (h : WrI w0 w gO m row cs) (hg : Gr w w') : WrI w0 w' gO m row cs :=
  ⟨h.box.gr hg, h.res.gr hg, h.own.gr hg, h.ne, h.gr.trans hg, h.at_⟩

set_option maxHeartbeats 8000000 in
theorem RefWrite_ok (u : Value) (m p : Int) (cs : List ChT) (lv : Value) (ws : List WrT) (w : World) (hv : ChnsX w u cs) (n : Nat) (hn : CsBnd n cs) (hnw : n + ws.length ≤ 1000000) (hw : RowAt 3 w lv (ws.map wrC)) :
    Calls Try.prog 24 #[.agg #[u, .int .i64 m], .int .i64 p, lv] w (StPost (writeR p ws cs) m w) := by
  obtain ⟨i0, hi0, hz0, hz1, hz2⟩ := info_chn
  obtain ⟨ist, hist, hiz, his2⟩ : ∃ i, Try.prog.info? 26 = some i ∧ i.zero = some (.agg #[.slice none 0 0, .int .i64 0]) ∧ i.size = 2 := by
    obtain ⟨i, h1, h2, h3, _⟩ : ∃ i, Try.prog.info? 26 = some i ∧ i.zero = some (.agg #[.slice none 0 0, .int .i64 0]) ∧ i.size = 2 ∧ i.bytes = 32 := info_parts (by kernel_rfl)
    exact ⟨i, h1, h2, h3⟩
  have HW := hide hw
  have HN := hide hn
  have hnl := hn.1
  obtain ⟨is, his, hix⟩ := hv
  have hli : is.length = cs.length := by rw [← his, List.length_map]
  obtain ⟨A, c, hu, _⟩ := hix.1
  rw [List.length_map, hli] at hu
  subst hu
  obtain ⟨lA, lc, rfl, _⟩ := RowAt.is hw
  have HX := hide hix
  clear hw hn hix
  go_enter Try.func24, Try.ntmps24
  go_upto_region 1 with (fail)
  obtain ⟨W1, hW1⟩ : ∃ W1, (w.alloc (.cells #[.slice A cs.length c, .int .i64 m] 26)).alloc (.cells #[.slice none 0 0, .int .i64 0] 26) = W1 := ⟨_, rfl⟩
  have hg1 : Gr w W1 := by rw [← hW1]; exact ((Gr.refl _).alloc _).alloc _
  have hb1 : Bl W1 w.heap.size 26 #[.slice A cs.length c, .int .i64 m] := by rw [← hW1]; exact (Bl.new _ _ _).gr ((Gr.refl _).alloc _)
  have hb2 : Bl W1 (w.heap.size + 1) 26 #[.slice none 0 0, .int .i64 0] := by rw [← hW1]; have := Bl.new (w.alloc (.cells #[.slice A cs.length c, .int .i64 m] 26)) 26 #[.slice none 0 0, .int .i64 0]; simpa using this
  have hsz1 : W1.heap.size = w.heap.size + 2 := by rw [← hW1]; simp
  rw [hW1]
  have HG1 := hide hg1
  have HB2 := hide hb2
  have hI1 : (W1.drew.cell? ⟨w.heap.size, 1, none⟩ = some (.int .i64 m) ∧ some w.heap.size ≠ none) ∧ (W1.drew.cell? ⟨w.heap.size, 0, none⟩ = some (.slice A cs.length c) ∧ some w.heap.size ≠ none) ∧ Mine.SlR 2 (is.map itC) (.slice A cs.length c) W1.drew none :=
    ⟨⟨hb1.cell 1, by simp⟩, ⟨hb1.cell 0, by simp⟩, HX.out.1.gr (hg1.drewN 1), fun q hq => by rw [itC_two is q hq]; decide, fun ad n c _ _ => by simp⟩
  obtain ⟨I, hI⟩ : ∃ I : World → Option Nat → Prop, I = fun w' ob => (w'.cell? ⟨w.heap.size, 1, none⟩ = some (.int .i64 m) ∧ some w.heap.size ≠ ob) ∧ (w'.cell? ⟨w.heap.size, 0, none⟩ = some (.slice A cs.length c) ∧ some w.heap.size ≠ ob) ∧ Mine.SlR 2 (is.map itC) (.slice A cs.length c) w' ob := ⟨_, rfl⟩
  have hIok : Mine.PayOk I := by rw [hI]; exact (Mine.pay_cell ⟨w.heap.size, 1, none⟩ _).and ((Mine.pay_cell ⟨w.heap.size, 0, none⟩ _).and (Mine.pay_row 2 _ _))
  have hIm : ∀ w' ob, I w' ob → w'.cell? ⟨w.heap.size, 1, none⟩ = some (.int .i64 m) := fun w' ob h => by rw [hI] at h; exact h.1.1
  have hIc : ∀ w' ob, I w' ob → w'.cell? ⟨w.heap.size, 0, none⟩ = some (.slice A cs.length c) := fun w' ob h => by rw [hI] at h; exact h.2.1.1
  have hIr : ∀ w' ob, I w' ob → Mine.SlR 2 (is.map itC) (.slice A cs.length c) w' ob := fun w' ob h => by rw [hI] at h; exact h.2.2
  have hIw : I W1.drew none := by rw [hI]; exact hI1
  have hone := HX.out.one
  clear hW1 hb1 hb2 hI hI1
  refine Mine.wp_region_mine_tail 8 100 [11, 12, 13, 14, 15, 16, 17, 7] rfl (by kernel_rfl) (by kernel_rfl) (by kernel_rfl) (by kernel_rfl) (ob0 := none)
    (Mine.Ahead.more (Mine.Ahead.none_ _ _ _) 3 (Mine.Wi.stays hIok (.pointer (some ⟨w.heap.size, 0, none⟩))) (by exact ⟨rfl, hIw⟩))
    100 (C0 := fun _ _ o => o = none) (fun _ _ _ _ h _ => h) (fun k hk => by cases hk) rfl ?_
  refine Mine.look1 (x := .tmp 3) (Ψ := Mine.Wi I (.pointer (some ⟨w.heap.size, 0, none⟩))) (Φ := Mine.Wi I (.pointer (some ⟨w.heap.size, 1, none⟩))) rfl (by decide) (by simp [Op.operands]) rfl (Mine.Wi.stays hIok _) (fun a W ob h => ⟨_, exec_fldM rfl h.1 W, rfl, h.2⟩) ?_
  refine Mine.look1 (x := .tmp 11) (Ψ := Mine.Wi I (.pointer (some ⟨w.heap.size, 1, none⟩))) (Φ := Mine.Is (.int .i64 m)) rfl (by decide) (by simp [Op.operands]) rfl (Mine.Is.stays _) (fun a W ob h => ⟨_, exec_load rfl h.1 W (by kernel_rfl) (hIm _ _ h.2), rfl⟩) ?_
  refine Mine.chain_lit0R (e := 54) 2 rfl rfl rfl (Nat.le_refl _) (fun W => by kernel_rfl) ?_
  refine Mine.look1 (x := .tmp 3) (Ψ := Mine.Wi I (.pointer (some ⟨w.heap.size, 0, none⟩))) (Φ := Mine.Wi I (.pointer (some ⟨w.heap.size, 0, none⟩))) rfl (by decide) (by simp [Op.operands]) rfl (Mine.Wi.stays hIok _) (fun a W ob h => ⟨_, exec_fldS rfl h.1 W, rfl, h.2⟩) ?_
  refine Mine.look1 (x := .tmp 14) (Ψ := Mine.Wi I (.pointer (some ⟨w.heap.size, 0, none⟩))) (Φ := Mine.SlR 2 (is.map itC)) rfl (by decide) (by simp [Op.operands]) rfl (Mine.SlR.stays _ _) (fun a W ob h => ⟨_, exec_load rfl h.1 W (by kernel_rfl) (hIc _ _ h.2), hIr _ _ h.2⟩) ?_
  refine Mine.chain_spreadR rfl rfl rfl Try.underlying24 hi0 hz0 hz1 hz2 rfl (by decide) rfl (itC_two is) hone (by rw [List.length_map]; simp; unfold maxLen; omega) (by rw [List.length_map]; simp; omega) (Nat.le_refl _) ?_
  refine Mine.chain_build rfl rfl rfl rfl ?_
  refine Mine.alloc (e := 26) (cs := #[.slice none 0 0, .int .i64 0]) rfl (by decide) (fun a W => by kernel_rfl) ?_
  intro a1 w3 ob hr hwf hsz' hdf hun hk2 hat
  have h7 : Mine.Nw W1.heap.size 26 #[.slice none 0 0, .int .i64 0] (a1.tmps.getD 7 undef) w3 ob := hk2 7
  have h17 : Mine.RowB W1.heap.size m ([] ++ is.map itC) (a1.tmps.getD 17 undef) w3 ob := hat
  obtain ⟨X, hX, hlay⟩ := Grow.lay_kept_by _ a1 100 _ hsz' hdf hun
  rw [hX] at h7 h17
  clear hX hun hdf hsz' hk2 hwf hat
  obtain ⟨gO, h7, hgO, hbO, hneO⟩ := h7
  obtain ⟨u', h17, hro, hob⟩ := h17
  rw [List.nil_append] at hro
  obtain ⟨uA, uc, hue, _⟩ := hro.rowAt
  rw [List.length_map, hli] at hue
  subst hue
  subst hlay
  simp only [List.range, List.range.loop, List.map_cons, List.map_nil, List.contains_cons, List.contains_nil, Nat.reduceBEq, Bool.or_false, Bool.or_true, cond_false, cond_true, Array.getD_eq_getD_getElem?, List.getElem?_toArray, List.getElem?_cons_zero, List.getElem?_cons_succ, Option.getD_some, h7, h17, List.drop_succ_cons, List.drop_zero]
  have hg3 : Gr W1 w3 := (Gr.drew (Gr.refl W1)).trans (rs_grew hr)
  have hown : ∀ k, (Value.slice uA cs.length uc).ownBlock = some k → w.heap.size + 2 ≤ k := fun k hk => by have := (hro.lt k hk).1; omega
  have hro3 : ChnsO w3 (w.heap.size + 2) (.slice uA cs.length uc) cs := ⟨is, his, by rw [← hsz1]; exact hro, fun i hi => ⟨(HX.out.2 i hi).gr (HG1.out.trans hg3), NotIn.of_old (HX.out.2 i hi) (fun k hk => by have := hown k hk; omega)⟩⟩
  have hneo' : (Value.slice uA cs.length uc).ownBlock ≠ some gO := fun e => hneO (by rw [← hob, e])
  refine wpList_store_agg rfl 26 (.tmp 7) (.tmp 17) rfl rfl hist [.slice uA cs.length uc, .int .i64 m] (by rw [his2]; rfl) (fun v hv => by
    simp only [List.mem_cons, List.not_mem_nil, or_false] at hv
    rcases hv with rfl | rfl <;> simp [Value.oneCell']) rfl rfl hbO rfl ?_
  have hbut : But w3 (w3.setCells gO 0 [.slice uA cs.length uc, .int .i64 m]) gO := but_setCells _ _ (But.refl _ _)
  have hbO' : Bl (w3.setCells gO 0 [.slice uA cs.length uc, .int .i64 m]) gO 26 #[.slice uA cs.length uc, .int .i64 m] := (hbO.put 0 _).put 1 _
  have hgOs : w.heap.size + 2 ≤ gO := by omega
  have HI := hide (show WrI w (w3.setCells gO 0 [.slice uA cs.length uc, .int .i64 m]) gO m (.slice uA cs.length uc) cs from
    ⟨hbO', (HB2.out.gr hg3).but_ hbut (by omega), hro3.apart hbut hneo' hbO (by simp), hneo', (HG1.out.trans hg3).fresh_ hbut (by omega), hgOs⟩)
  generalize w3.setCells gO 0 [.slice uA cs.length uc, .int .i64 m] = w4 at HI ⊢
  clear hbut hbO' hro3 hneo' hown hg3 hro hob hbO hneO hgO hr h7 h17 hIw hIr hIc hIm hIok I HB2 HG1 hsz1
  go_wp2_with fail
  go_loopw [8] (fun i wr => ∃ (j : Nat) (row : Value), i = .int .i64 j ∧ j ≤ ws.length ∧ Hid (WrI w wr gO m row (writeR p (ws.take j) cs))) (fun i _ => ws.length - (intOf i).toNat)
  case atStart => exact ⟨0, _, rfl, by omega, HI⟩
  case round =>
    clear HI
    obtain ⟨j, row, rfl, hj, HI⟩ := hrel
    obtain ⟨ds, hds⟩ : ∃ ds, writeR p (ws.take j) cs = ds := ⟨_, rfl⟩
    have hbn := (CsBnd.writeR p (ws.take j) HN.out).len (by rw [List.length_take]; omega)
    rw [hds] at HI hbn
    have HDS := hide hbn.2
    have hdl1 := hbn.1
    clear hbn
    obtain ⟨B, d, hrow⟩ := HI.out.own.is
    obtain ⟨q, hdl⟩ : ∃ q, ds.length = q := ⟨_, rfl⟩
    rw [hdl] at hrow hdl1
    subst hrow
    by_cases hlt : j < ws.length
    · have hlt' : (j : Int) < (ws.length : Int) := by omega
      obtain ⟨wad, wc', e1, a0, a1, a2⟩ := (HW.out.gr HI.out.gr).wr hlt
      simp only [Value.slice.injEq, true_and] at e1
      obtain ⟨rfl, rfl⟩ := e1
      have HTN := hide (show writeR p (ws.take (j + 1)) cs = addR ds ws[j].key ⟨p, ws[j].val, ws[j].gone⟩ by rw [List.take_succ_eq_append_getElem hlt, writeR_snoc, hds])
      generalize ws[j] = x at a0 a1 a2 HTN
      obtain ⟨xk, xt, xb⟩ := x
      simp only at a0 a1 a2 HTN
      clear hds
      go_upto_region 6 with (fail)
      obtain ⟨W4, hW4⟩ : ∃ W4, wr.alloc (.cells #[.string xk, .string xt, .bool xb] 59) = W4 := ⟨_, rfl⟩
      have hg4 : Gr wr W4 := by rw [← hW4]; exact (Gr.refl _).alloc _
      have hb4 : Bl W4 wr.heap.size 59 #[.string xk, .string xt, .bool xb] := by rw [← hW4]; exact Bl.new _ _ _
      rw [hW4]
      obtain ⟨gw, hgw⟩ : ∃ gw, wr.heap.size = gw := ⟨_, rfl⟩
      have HGW := hide (show gw ≠ gO by have := HI.out.box.lt; omega)
      have HI4 := hide (HI.out.grow hg4)
      rw [hgw] at hb4 ⊢
      have HB4 := hide hb4
      clear hW4 hg4 hb4 hgw HI a0 a1 a2
      go_wp2_with fail
      go_loopw [10] (fun i wr2 => ∃ k : Nat, i = .int .i64 k ∧ k ≤ q ∧ Hid (∀ i (hi : i < ds.length), i < k → belowK xk ds[i] = false) ∧ Hid (Gr W4 wr2)) (fun i _ => q - (intOf i).toNat)
      case atStart => exact ⟨0, rfl, by omega, fun i _ h => absurd h (by omega), Gr.refl _⟩
      case round =>
        obtain ⟨k, rfl, hk, HJ, HG2⟩ := hrel
        have HR2 := hide (HI4.out.grow HG2.out)
        have HB2 := hide (HB4.out.gr HG2.out)
        have k0 : wr.cell? ⟨gO, 0, none⟩ = some (.slice B q d) := HR2.out.box.cell 0
        have m0 : wr.cell? ⟨gw, 0, none⟩ = some (.string xk) := HB2.out.cell 0
        by_cases hkq : k < q
        · have hkq' : (k : Int) < (q : Int) := by omega
          have hkd : k < ds.length := by omega
          have hkne : ¬ (k : Int) = (q : Int) := by omega
          obtain ⟨ad, dc, pp, e2, _, b0, _⟩ := HR2.out.own.x.at_ hkd
          rw [hdl] at e2
          simp only [Value.slice.injEq, true_and] at e2
          obtain ⟨rfl, rfl⟩ := e2
          have HJ1 : Hid (belowK xk ds[k] = false → ∀ i (hi : i < ds.length), i < k + 1 → belowK xk ds[i] = false) := hide (fun h i hi hij => by
            by_cases hx : i < k
            · exact HJ.out i hi hx
            · obtain rfl : i = k := by omega
              exact h)
          have HF : Hid (belowK xk ds[k] = true → firstI (belowK xk) ds = k) := hide (fun h => firstI_at hkd h HJ.out)
          have HKY := hide (fun e => addR_at (v := ⟨p, xt, xb⟩) (HF.out e) hkd)
          have HKN := hide (fun e => addR_not (k := xk) (v := ⟨p, xt, xb⟩) (HF.out e))
          obtain ⟨dk, hdk⟩ : ∃ dk, ds[k].key = dk := ⟨_, rfl⟩
          have hbk : belowK xk ds[k] = !ltK dk xk := by unfold belowK; rw [hdk]
          rw [hdk] at b0
          cases hbl : Op.bytesLess dk.toList xk.toList
          · have HT0 := hide (show belowK xk ds[k] = true by rw [hbk]; unfold ltK; rw [hbl]; rfl)
            rcases key_cases dk xk with rfl | ⟨hne, hnl⟩
            · have HT := hide (show ds.modify k (fun c => ⟨c.key, addL c.l ⟨p, xt, xb⟩⟩) = writeR p (ws.take (j + 1)) cs by rw [HTN.out, HKY.out HT0.out hdk])
              have hbe : (dk.toList == dk.toList) = true := beq_self_eq_true _
              clear HJ1 HF HKY HKN HT0 hdk hbk HJ HTN
              go_wp2_with fail
              go_quiet (fail)
              have HR9 := hide (HR2.out.grow ((Gr.refl _).drewN nq))
              have HB9 := hide (HB2.out.gr ((Gr.refl _).drewN nq))
              have c0 := gr_cell ((Gr.refl wr).drewN nq) _ _ b0
              clear k0 m0 b0 HR2 HB2
              generalize wr.drewN nq = wr3 at HR9 HB9 c0 ⊢
              clear nq
              have k0 : wr3.cell? ⟨gO, 0, none⟩ = some (.slice (some ad) q d) := HR9.out.box.cell 0
              have m0 : wr3.cell? ⟨gw, 0, none⟩ = some (.string dk) := HB9.out.cell 0
              go_wp2_with fail
              go_quiet (fail)
              have HRR := hide (HR9.out.grow ((Gr.refl _).drewN nq))
              have HBW := hide (HB9.out.gr ((Gr.refl _).drewN nq))
              clear k0 m0 c0 HR9 HB9
              generalize wr3.drewN nq = WQ at HRR HBW ⊢
              go_wp2_with fail
              obtain ⟨js, hjs, hio⟩ := HRR.out.own
              have hlj : js.length = ds.length := by rw [← hjs, List.length_map]
              have hil : k < js.length := by omega
              obtain ⟨g, c3, e3, hgB, hgl, hnc, q0, q1, qf⟩ := hio.cells (k := k) hil
              have hx1 := (hio.2 js[k] (List.getElem_mem hil)).1
              have hkl : js[k].1.l.length ≤ 1000000 := HDS.out _ (by have := List.mem_map_of_mem (f := Prod.fst) (List.getElem_mem hil); rw [hjs] at this; exact this)
              simp only [Value.slice.injEq, Option.some.injEq] at e3
              obtain ⟨rfl, hqe, rfl⟩ := e3
              have hkq2 : k < q := by omega
              have HIO := hide hio
              have HADD := hide (fun W (h : VersX W js[k].2 js[k].1.l) => RefAdd_ok js[k].2 js[k].1.l ⟨p, xt, xb⟩ W h (by omega))
              unfold verA at HADD
              simp only at HADD
              have HRES := hide (fun (w5 : World) (u : Value) (h : ChnsO w5 (w.heap.size + 2) (.slice (some ⟨g, 0, none⟩) q d) ((js.set k (⟨js[k].1.key, addL js[k].1.l ⟨p, xt, xb⟩⟩, u)).map Prod.fst)) => show ChnsO w5 (w.heap.size + 2) (.slice (some ⟨g, 0, none⟩) q d) (writeR p (ws.take (j + 1)) cs) by
                have e := its_modify (f := fun c => ⟨c.key, addL c.l ⟨p, xt, xb⟩⟩) (u := u) hil
                rw [hjs, HT.out] at e
                rw [← e]
                exact h)
              obtain ⟨it, hit⟩ : ∃ it, js[k] = it := ⟨_, rfl⟩
              rw [hit] at HADD q1 hx1
              obtain ⟨ic, ip⟩ := it
              simp only at HADD q1 hx1
              obtain ⟨I, hI⟩ : ∃ I : World → Option Nat → Prop, I = fun w' ob => ((w'.cell? ⟨gO, 0, none⟩ = some (.slice (some ⟨g, 0, none⟩) q d) ∧ some gO ≠ ob) ∧ (w'.cell? ⟨g, k * 2 + 1, none⟩ = some ip ∧ some g ≠ ob)) ∧ ((w'.cell? ⟨gw, 1, none⟩ = some (.string xt) ∧ some gw ≠ ob) ∧ (w'.cell? ⟨gw, 2, none⟩ = some (.bool xb) ∧ some gw ≠ ob)) ∧ (VersX w' ip ic.l ∧ NotIn ob ip) := ⟨_, rfl⟩
              have hIok : Mine.PayOk I := by rw [hI]; exact ((Mine.pay_cell ⟨gO, 0, none⟩ _).and (Mine.pay_cell ⟨g, k * 2 + 1, none⟩ _)).and (((Mine.pay_cell ⟨gw, 1, none⟩ _).and (Mine.pay_cell ⟨gw, 2, none⟩ _)).and (Mine.pay_ver ip ic.l))
              have hI0 : ∀ w' ob, I w' ob → w'.cell? ⟨gO, 0, none⟩ = some (.slice (some ⟨g, 0, none⟩) q d) := fun w' ob h => by rw [hI] at h; exact h.1.1.1
              have hI1 : ∀ w' ob, I w' ob → w'.cell? ⟨g, k * 2 + 1, none⟩ = some ip := fun w' ob h => by rw [hI] at h; exact h.1.2.1
              have hI2 : ∀ w' ob, I w' ob → w'.cell? ⟨gw, 1, none⟩ = some (.string xt) := fun w' ob h => by rw [hI] at h; exact h.2.1.1.1
              have hI3 : ∀ w' ob, I w' ob → w'.cell? ⟨gw, 2, none⟩ = some (.bool xb) := fun w' ob h => by rw [hI] at h; exact h.2.1.2.1
              have hI4 : ∀ w' ob, I w' ob → VersX w' ip ic.l := fun w' ob h => by rw [hI] at h; exact h.2.2.1
              have HIW : Hid (I WQ.drew none) := hide (by rw [hI]; exact ⟨⟨⟨HRR.out.box.cell 0, by simp⟩, q1, by simp⟩, ⟨⟨HBW.out.cell 1, by simp⟩, HBW.out.cell 2, by simp⟩, hx1.gr ((Gr.refl _).drewN 1), NotIn.none_ _⟩)
              clear hI hx1 q0 q1 qf hio
              refine Mine.wp_region_mine_tail 18 100 [81, 82, 83, 84, 85, 86, 87, 88, 89, 90, 91, 92, 93, 94, 95, 96, 97, 98] rfl (by kernel_rfl) (by kernel_rfl) (by kernel_rfl) (by kernel_rfl) (ob0 := none)
                (Mine.Ahead.more (Mine.Ahead.more (Mine.Ahead.more (Mine.Ahead.more (Mine.Ahead.none_ _ _ _) 7 (Mine.Wi.stays hIok (.pointer (some ⟨gO, 0, none⟩))) (by exact ⟨rfl, HIW.out⟩)) 9 (Mine.Wi.stays hIok (.pointer (some ⟨gw, 0, none⟩))) (by exact ⟨rfl, HIW.out⟩)) 10 (Mine.Is.stays (.int .i64 (k : Int))) (by rfl)) 1 (Mine.Is.stays (.int .i64 p)) (by rfl))
                100 (C0 := Mine.top) Mine.top_keeps (fun k hk => nomatch hk) trivial ?_
              refine Mine.look1 (x := .tmp 7) (Ψ := Mine.Wi I (.pointer (some ⟨gO, 0, none⟩))) (Φ := Mine.Wi I (.pointer (some ⟨gO, 0, none⟩))) rfl (by decide) (by simp [Op.operands]) rfl (Mine.Wi.stays hIok _) (fun a W ob h => ⟨_, exec_fldS rfl h.1 W, rfl, h.2⟩) ?_
              refine Mine.look1 (x := .tmp 81) (Ψ := Mine.Wi I (.pointer (some ⟨gO, 0, none⟩))) (Φ := Mine.Wi I (.slice (some ⟨g, 0, none⟩) q d)) rfl (by decide) (by simp [Op.operands]) rfl (Mine.Wi.stays hIok _) (fun a W ob h => ⟨_, exec_load rfl h.1 W (by kernel_rfl) (hI0 _ _ h.2), rfl, h.2⟩) ?_
              refine Mine.move (.tmp 10) (.inl rfl) rfl (by decide) rfl (Mine.Is.stays _) ?_
              refine Mine.look1 (x := .tmp 7) (Ψ := Mine.Wi I (.pointer (some ⟨gO, 0, none⟩))) (Φ := Mine.Wi I (.pointer (some ⟨gO, 0, none⟩))) rfl (by decide) (by simp [Op.operands]) rfl (Mine.Wi.stays hIok _) (fun a W ob h => ⟨_, exec_fldS rfl h.1 W, rfl, h.2⟩) ?_
              refine Mine.look1 (x := .tmp 84) (Ψ := Mine.Wi I (.pointer (some ⟨gO, 0, none⟩))) (Φ := Mine.Wi I (.slice (some ⟨g, 0, none⟩) q d)) rfl (by decide) (by simp [Op.operands]) rfl (Mine.Wi.stays hIok _) (fun a W ob h => ⟨_, exec_load rfl h.1 W (by kernel_rfl) (hI0 _ _ h.2), rfl, h.2⟩) ?_
              refine Mine.move (.tmp 10) (.inl rfl) rfl (by decide) rfl (Mine.Is.stays _) ?_
              refine Mine.look2 (x := .tmp 85) (y := .tmp 86) (Ψ := Mine.Wi I (.slice (some ⟨g, 0, none⟩) q d)) (Ψ' := Mine.Is (.int .i64 (k : Int))) (Φ := Mine.Wi I (.pointer (some ⟨g, k * 2, none⟩))) rfl (by decide) (by simp [Op.operands]) (by simp [Op.operands]) rfl rfl (Mine.Wi.stays hIok _) (fun a W ob h h' => ⟨_, exec_idx rfl h.1 h' hkq2 W, rfl, h.2⟩) ?_
              refine Mine.look1 (x := .tmp 87) (Ψ := Mine.Wi I (.pointer (some ⟨g, k * 2, none⟩))) (Φ := Mine.Wi I (.pointer (some ⟨g, k * 2 + 1, none⟩))) rfl (by decide) (by simp [Op.operands]) rfl (Mine.Wi.stays hIok _) (fun a W ob h => ⟨_, exec_fld rfl h.1 W, rfl, h.2⟩) ?_
              refine Mine.look1 (x := .tmp 88) (Ψ := Mine.Wi I (.pointer (some ⟨g, k * 2 + 1, none⟩))) (Φ := Mine.Wi I ip) rfl (by decide) (by simp [Op.operands]) rfl (Mine.Wi.stays hIok _) (fun a W ob h => ⟨_, exec_load rfl h.1 W (by kernel_rfl) (hI1 _ _ h.2), rfl, h.2⟩) ?_
              refine Mine.move (.tmp 1) (.inl rfl) rfl (by decide) rfl (Mine.Is.stays _) ?_
              refine Mine.look1 (x := .tmp 9) (Ψ := Mine.Wi I (.pointer (some ⟨gw, 0, none⟩))) (Φ := Mine.Wi I (.pointer (some ⟨gw, 1, none⟩))) rfl (by decide) (by simp [Op.operands]) rfl (Mine.Wi.stays hIok _) (fun a W ob h => ⟨_, exec_fldW1 rfl h.1 W, rfl, h.2⟩) ?_
              refine Mine.look1 (x := .tmp 91) (Ψ := Mine.Wi I (.pointer (some ⟨gw, 1, none⟩))) (Φ := Mine.Is (.string xt)) rfl (by decide) (by simp [Op.operands]) rfl (Mine.Is.stays _) (fun a W ob h => ⟨_, exec_load rfl h.1 W (by kernel_rfl) (hI2 _ _ h.2), rfl⟩) ?_
              refine Mine.look1 (x := .tmp 9) (Ψ := Mine.Wi I (.pointer (some ⟨gw, 0, none⟩))) (Φ := Mine.Wi I (.pointer (some ⟨gw, 2, none⟩))) rfl (by decide) (by simp [Op.operands]) rfl (Mine.Wi.stays hIok _) (fun a W ob h => ⟨_, exec_fldW2 rfl h.1 W, rfl, h.2⟩) ?_
              refine Mine.look1 (x := .tmp 93) (Ψ := Mine.Wi I (.pointer (some ⟨gw, 2, none⟩))) (Φ := Mine.Is (.bool xb)) rfl (by decide) (by simp [Op.operands]) rfl (Mine.Is.stays _) (fun a W ob h => ⟨_, exec_load rfl h.1 W (by kernel_rfl) (hI3 _ _ h.2), rfl⟩) ?_
              refine Mine.look3 (x := .tmp 90) (y := .tmp 92) (z := .tmp 94) rfl (by decide) (by simp [Op.operands]) (by simp [Op.operands]) (by simp [Op.operands]) rfl rfl rfl (fun a W h1 h2 h3 => exec_ver rfl h1 h2 h3 W) ?_
              refine Mine.callWg (g := g) (by exact hgl) rfl rfl (by decide) Try.func51 (by kernel_rfl) (by kernel_rfl) (I := I) (p := ip) (l := ic.l) rfl hI4 rfl (fun W h => HADD.out W h) ?_
              refine Mine.look2 (x := .tmp 82) (y := .tmp 83) (Ψ := Mine.Wi I (.slice (some ⟨g, 0, none⟩) q d)) (Ψ' := Mine.Is (.int .i64 (k : Int))) (Φ := Mine.Is (.pointer (some ⟨g, k * 2, none⟩))) rfl (by decide) (by simp [Op.operands]) (by simp [Op.operands]) rfl rfl (Mine.Is.stays _) (fun a W ob h h' => ⟨_, exec_idx rfl h.1 h' hkq2 W, rfl⟩) ?_
              refine Mine.run1 (x := .tmp 97) (v := .pointer (some ⟨g, k * 2 + 1, none⟩)) rfl (by decide) (by simp [Op.operands]) rfl (fun a W hx => exec_fld rfl hx W) ?_
              intro a1 w5 ob hr hwf hsz' hdf hun hk2 hat
              have h96 : Mine.Vn g (addL ic.l ⟨p, xt, xb⟩) (a1.tmps.getD 96 undef) w5 ob := hk2 96
              have h98 : a1.tmps.getD 98 undef = .pointer (some ⟨g, k * 2 + 1, none⟩) := hk2 98
              obtain ⟨X, hX, hlay⟩ := Grow.lay_kept_by _ a1 100 _ hsz' hdf hun
              rw [hX] at h96 h98
              clear hX hun hdf hsz' hk2 hwf hat
              obtain ⟨hu1, _, hu3⟩ := h96
              obtain ⟨vA, vc, h96, _⟩ := hu1.is
              obtain ⟨vn, hun⟩ : ∃ vn, (addL ic.l ⟨p, xt, xb⟩).length = vn := ⟨_, rfl⟩
              rw [hun] at h96
              rw [h96] at hu1 hu3
              subst hlay
              simp only [List.range, List.range.loop, List.map_cons, List.map_nil, List.contains_cons, List.contains_nil, Nat.reduceBEq, Bool.or_false, Bool.or_true, cond_false, cond_true, Array.getD_eq_getD_getElem?, List.getElem?_toArray, List.getElem?_cons_zero, List.getElem?_cons_succ, Option.getD_some, h96, h98, List.drop_succ_cons, List.drop_zero]
              have hg5 : Gr WQ w5 := (Gr.drew (Gr.refl WQ)).trans (rs_grew hr)
              have hio5 := HIO.out.gr hg5
              obtain ⟨hcell, hfr⟩ : w5.cell? ⟨g, k * 2 + 1, none⟩ = some js[k].2 ∧ w5.frozen? ⟨g, k * 2 + 1, none⟩ = false := by
                obtain ⟨g', c', e1, _, _, _, _, q1', qf'⟩ := hio5.cells (k := k) hil
                simp only [Value.slice.injEq, Option.some.injEq, Addr.mk.injEq, and_true] at e1
                rw [e1.1]
                exact ⟨q1', qf' _⟩
              refine wpList_store_at (g := g) (i := k * 2 + 1) (u := .slice vA vn vc) rfl 52 (.tmp 98) (.tmp 96) rfl rfl (fun W => by kernel_rfl) rfl rfl ⟨_, _, _, rfl⟩ hcell hfr ?_
              obtain ⟨hs1', hs2⟩ := hio5.stored (by omega) (k := k) hil (l := addL ic.l ⟨p, xt, xb⟩) hu1 hu3
              have hgne : gO ≠ g := fun e => HRR.out.ne (by rw [e]; rfl)
              have hi6 : WrI w (w5.setCell ⟨g, k * 2 + 1, none⟩ (.slice vA vn vc)) gO m (.slice (some ⟨g, 0, none⟩) q d) (writeR p (ws.take (j + 1)) cs) :=
                ⟨(HRR.out.box.gr hg5).but_ hs2 hgne, (HRR.out.res.gr hg5).but_ hs2 (by omega), HRES.out _ (.slice vA vn vc) ⟨_, rfl, by rw [hit] at hs1' ⊢; exact hs1'⟩, HRR.out.ne, (HRR.out.gr.trans hg5).fresh_ hs2 (by omega), HRR.out.at_⟩
              have HI6 := hide hi6
              generalize w5.setCell ⟨g, k * 2 + 1, none⟩ (.slice vA vn vc) = w6 at HI6 ⊢
              clear hi6 hs1' hs2 hio5 hfr hcell hu1 hu3 hr hg5 h96 h98 HRES HIO HADD HIW HRR HBW HDS hI0 hI1 hI2 hI3 hI4 hIok I HT
              go_wp2_with fail
              go_roundw
              case rel => exact ⟨j + 1, _, by go_num, by omega, HI6⟩
              case measure => simp [intOf]; omega
            · have HTK := hide (addR_not (k := xk) (v := ⟨p, xt, xb⟩) (HF.out HT0.out) (fun _ e => hne (hdk.symm.trans e)))
              clear HJ1 HF HKY HKN HT0 hdk hbk HJ hne
              go_wp2_with fail
              go_quiet (fail)
              have HR8 := hide (HR2.out.grow ((Gr.refl _).drewN nq))
              have HB8 := hide (HB2.out.gr ((Gr.refl _).drewN nq))
              have c0 := gr_cell ((Gr.refl wr).drewN nq) _ _ b0
              clear k0 m0 b0 HR2 HB2
              generalize wr.drewN nq = wr3 at HR8 HB8 c0 ⊢
              clear nq
              have k0 : wr3.cell? ⟨gO, 0, none⟩ = some (.slice (some ad) q d) := HR8.out.box.cell 0
              have m0 : wr3.cell? ⟨gw, 0, none⟩ = some (.string xk) := HB8.out.cell 0
              go_wp2_with fail
              go_quiet (fail)
              have HR9 := hide (HR8.out.grow ((Gr.refl _).drewN nq))
              have HB9 := hide (HB8.out.gr ((Gr.refl _).drewN nq))
              clear k0 m0 c0 HR8 HB8
              generalize wr3.drewN nq = WP at HR9 HB9 ⊢
              by_cases hp1 : p < 1
              · have HI9 := hide (show WrI w WP gO m (.slice (some ad) q d) (writeR p (ws.take (j + 1)) cs) by rw [HTN.out, HTK.out, if_pos (by exact hp1)]; exact HR9.out)
                go_wp2_with fail
                go_roundw
                case rel => exact ⟨j + 1, _, by go_num, by omega, HI9⟩
                case measure => simp [intOf]; omega
              · have HTM := hide (HTN.out.trans (HTK.out.trans (if_neg (by exact hp1))))
                clear HTN HTK
                go_wp2_with fail
                obtain ⟨js0, hjs0, hio0⟩ := HR9.out.own
                have hlj0 : js0.length = q := by rw [← hdl, ← hjs0, List.length_map]
                have hsl0 : Mine.SlR 2 (js0.map itC) (.slice (some ad) q d) WP.drew none := ⟨(hio0.1.rowAt).gr ((Gr.refl _).drewN 1), fun r hr => by rw [itC_two js0 r hr]; decide, fun ad n c _ _ => by simp⟩
                have hone0 := hio0.x.one
                obtain ⟨I, hI⟩ : ∃ I : World → Option Nat → Prop, I = fun w' ob => (w'.cell? ⟨gO, 0, none⟩ = some (.slice (some ad) q d) ∧ some gO ≠ ob) ∧ (w'.cell? ⟨gw, 0, none⟩ = some (.string xk) ∧ some gw ≠ ob) ∧ Mine.SlR 2 (js0.map itC) (.slice (some ad) q d) w' ob := ⟨_, rfl⟩
                have hIok : Mine.PayOk I := by rw [hI]; exact (Mine.pay_cell ⟨gO, 0, none⟩ _).and ((Mine.pay_cell ⟨gw, 0, none⟩ _).and (Mine.pay_row 2 _ _))
                have hI0 : ∀ w' ob, I w' ob → w'.cell? ⟨gO, 0, none⟩ = some (.slice (some ad) q d) := fun w' ob h => by rw [hI] at h; exact h.1.1
                have hI1 : ∀ w' ob, I w' ob → w'.cell? ⟨gw, 0, none⟩ = some (.string xk) := fun w' ob h => by rw [hI] at h; exact h.2.1.1
                have hI2 : ∀ w' ob, I w' ob → Mine.SlR 2 (js0.map itC) (.slice (some ad) q d) w' ob := fun w' ob h => by rw [hI] at h; exact h.2.2
                have HIW : Hid (I WP.drew none) := hide (by rw [hI]; exact ⟨⟨HR9.out.box.cell 0, by simp⟩, ⟨HB9.out.cell 0, by simp⟩, hsl0⟩)
                clear hI hsl0
                refine Mine.wp_region_mine_tail 17 100 [64, 65, 66, 67, 68, 69, 70, 71, 72, 73, 74, 75, 76, 77, 78, 79, 80] rfl (by kernel_rfl) (by kernel_rfl) (by kernel_rfl) (by kernel_rfl) (ob0 := none)
                  (Mine.Ahead.more (Mine.Ahead.more (Mine.Ahead.more (Mine.Ahead.none_ _ _ _) 7 (Mine.Wi.stays hIok (.pointer (some ⟨gO, 0, none⟩))) (by exact ⟨rfl, HIW.out⟩)) 9 (Mine.Wi.stays hIok (.pointer (some ⟨gw, 0, none⟩))) (by exact ⟨rfl, HIW.out⟩)) 10 (Mine.Is.stays (.int .i64 (k : Int))) (by rfl))
                  100 (C0 := fun _ _ o => o = none) (fun _ _ _ _ h _ => h) (fun k hk => by cases hk) rfl ?_
                refine Mine.chain_lit0R (e := 54) 2 rfl rfl rfl (Nat.le_refl _) (fun W => by kernel_rfl) ?_
                refine Mine.look1 (x := .tmp 7) (Ψ := Mine.Wi I (.pointer (some ⟨gO, 0, none⟩))) (Φ := Mine.Wi I (.pointer (some ⟨gO, 0, none⟩))) rfl (by decide) (by simp [Op.operands]) rfl (Mine.Wi.stays hIok _) (fun a W ob h => ⟨_, exec_fldS rfl h.1 W, rfl, h.2⟩) ?_
                refine Mine.look1 (x := .tmp 65) (Ψ := Mine.Wi I (.pointer (some ⟨gO, 0, none⟩))) (Φ := Mine.SlR 2 (js0.map itC)) rfl (by decide) (by simp [Op.operands]) rfl (Mine.SlR.stays _ _) (fun a W ob h => ⟨_, exec_load rfl h.1 W (by kernel_rfl) (hI0 _ _ h.2), hI2 _ _ h.2⟩) ?_
                refine Mine.move (.tmp 10) (.inl rfl) rfl (by decide) rfl (Mine.Is.stays _) ?_
                refine Mine.cutR (k := 2) (j := k) rfl rfl (by decide) rfl rfl (by rw [List.length_map]; omega) (by kernel_rfl) size_chn ?_
                refine Mine.chain_spreadR rfl rfl rfl Try.underlying24 hi0 hz0 hz1 hz2 rfl (by decide) rfl (fun r hr => itC_two js0 r (List.mem_of_mem_take hr)) (fun r hr => hone0 r (List.mem_of_mem_take hr)) (by rw [List.length_take, List.length_map]; simp; unfold maxLen; omega) (by rw [List.length_take, List.length_map]; simp; omega) (Nat.le_refl _) ?_
                refine Mine.look1 (x := .tmp 9) (Ψ := Mine.Wi I (.pointer (some ⟨gw, 0, none⟩))) (Φ := Mine.Wi I (.pointer (some ⟨gw, 0, none⟩))) rfl (by decide) (by simp [Op.operands]) rfl (Mine.Wi.stays hIok _) (fun a W ob h => ⟨_, exec_fldW rfl h.1 W, rfl, h.2⟩) ?_
                refine Mine.look1 (x := .tmp 70) (Ψ := Mine.Wi I (.pointer (some ⟨gw, 0, none⟩))) (Φ := Mine.Is (.string xk)) rfl (by decide) (by simp [Op.operands]) rfl (Mine.Is.stays _) (fun a W ob h => ⟨_, exec_load rfl h.1 W (by kernel_rfl) (hI1 _ _ h.2), rfl⟩) ?_
                refine Mine.run1 (x := .tmp 71) (v := .agg #[.string xk, .slice none 0 0]) rfl (by decide) (by simp [Op.operands]) rfl (fun a W hx => exec_new rfl hx W) ?_
                refine Mine.lit1R (e := 54) (cs := [.string xk, .slice none 0 0]) rfl rfl (by decide) rfl (fun W => by kernel_rfl) ?_
                refine Mine.chain_appR rfl rfl rfl Try.underlying24 hi0 hz0 hz1 hz2 rfl (by decide) rfl rfl (fun u hu => by
                  simp only [List.mem_cons, List.not_mem_nil, or_false] at hu
                  rcases hu with rfl | rfl <;> simp [Value.oneCell']) (by rw [List.nil_append, List.length_take, List.length_map]; omega) (by rw [List.nil_append, List.length_take, List.length_map]; omega) (Nat.le_refl _) ?_
                refine Mine.look1 (x := .tmp 7) (Ψ := Mine.Wi I (.pointer (some ⟨gO, 0, none⟩))) (Φ := Mine.Wi I (.pointer (some ⟨gO, 0, none⟩))) rfl (by decide) (by simp [Op.operands]) rfl (Mine.Wi.stays hIok _) (fun a W ob h => ⟨_, exec_fldS rfl h.1 W, rfl, h.2⟩) ?_
                refine Mine.look1 (x := .tmp 75) (Ψ := Mine.Wi I (.pointer (some ⟨gO, 0, none⟩))) (Φ := Mine.SlR 2 (js0.map itC)) rfl (by decide) (by simp [Op.operands]) rfl (Mine.SlR.stays _ _) (fun a W ob h => ⟨_, exec_load rfl h.1 W (by kernel_rfl) (hI0 _ _ h.2), hI2 _ _ h.2⟩) ?_
                refine Mine.move (.tmp 10) (.inl rfl) rfl (by decide) rfl (Mine.Is.stays _) ?_
                refine Mine.dropR (k := 2) (j := k) rfl rfl (by decide) rfl rfl (by rw [List.length_map]; omega) (by kernel_rfl) size_chn ?_
                refine Mine.chain_spreadR rfl rfl rfl Try.underlying24 hi0 hz0 hz1 hz2 rfl (by decide) rfl (fun r hr => itC_two js0 r (List.mem_of_mem_drop hr)) (fun r hr => hone0 r (List.mem_of_mem_drop hr)) (by rw [List.nil_append, List.length_append, List.length_take, List.length_drop, List.length_map]; simp; unfold maxLen; omega) (by rw [List.nil_append, List.length_append, List.length_take, List.length_drop, List.length_map]; simp; omega) (Nat.le_refl _) ?_
                refine Mine.look1 (x := .tmp 7) (Ψ := Mine.Wi I (.pointer (some ⟨gO, 0, none⟩))) (Φ := Mine.Is (.pointer (some ⟨gO, 0, none⟩))) rfl (by decide) (by simp [Op.operands]) rfl (Mine.Is.stays _) (fun a W ob h => ⟨_, exec_fldS rfl h.1 W, rfl⟩) ?_
                intro a1 w5 ob hr hwf hsz' hdf hun hk2 hat
                have h80 : a1.tmps.getD 80 undef = .pointer (some ⟨gO, 0, none⟩) := hk2 80
                have h79 : OwnR 54 2 w5 WP.heap.size (a1.tmps.getD 79 undef) ([] ++ (js0.map itC).take k ++ [[.string xk, .slice none 0 0]] ++ (js0.map itC).drop k) := hat.1
                obtain ⟨X, hX, hlay⟩ := Grow.lay_kept_by _ a1 100 _ hsz' hdf hun
                rw [hX] at h79 h80
                clear hX hun hdf hsz' hk2 hwf hat
                have hrows : [] ++ (js0.map itC).take k ++ [[.string xk, .slice none 0 0]] ++ (js0.map itC).drop k = (js0.take k ++ (ChT.mk xk [], Value.slice none 0 0) :: js0.drop k).map itC := by
                  rw [List.nil_append, List.map_append, List.map_cons, List.map_take, List.map_drop, List.append_assoc]
                  rfl
                rw [hrows] at h79
                obtain ⟨uA, uc, hue, _⟩ := h79.rowAt
                have hlen5 : ((js0.take k ++ (ChT.mk xk [], Value.slice none 0 0) :: js0.drop k).map itC).length = q + 1 := by
                  rw [List.length_map, List.length_append, List.length_cons, List.length_take, List.length_drop]; omega
                rw [hlen5] at hue
                rw [hue] at h79
                subst hlay
                simp only [List.range, List.range.loop, List.map_cons, List.map_nil, List.contains_cons, List.contains_nil, Nat.reduceBEq, Bool.or_false, Bool.or_true, cond_false, cond_true, Array.getD_eq_getD_getElem?, List.getElem?_toArray, List.getElem?_cons_zero, List.getElem?_cons_succ, Option.getD_some, hue, h80, List.drop_succ_cons, List.drop_zero]
                have hg5 : Gr WP w5 := (Gr.drew (Gr.refl WP)).trans (rs_grew hr)
                have hwp := HR9.out.gr.size
                have hgOl := HR9.out.box.lt
                have hlow5 : ∀ b, (Value.slice uA (q + 1) uc).ownBlock = some b → WP.heap.size ≤ b := fun b hb => (h79.lt b hb).1
                have hes5 : ChnsO w5 (w.heap.size + 2) (.slice uA (q + 1) uc) (ds.take k ++ ⟨xk, []⟩ :: ds.drop k) :=
                  ⟨js0.take k ++ (ChT.mk xk [], Value.slice none 0 0) :: js0.drop k, by rw [List.map_append, List.map_cons, List.map_take, List.map_drop, hjs0], h79.base (by omega), fun i hi => by
                    have hold : ∀ i ∈ js0, VersX w5 i.2 i.1.l ∧ NotIn (Value.slice uA (q + 1) uc).ownBlock i.2 := fun i hi => ⟨(hio0.2 i hi).1.gr hg5, NotIn.of_old (hio0.2 i hi).1 hlow5⟩
                    rcases List.mem_append.1 hi with hi | hi
                    · exact hold i (List.mem_of_mem_take hi)
                    · rcases List.mem_cons.1 hi with hi | hi
                      · rw [hi]; exact ⟨VersX.nil _ _ _, NotIn.empty _ _ _⟩
                      · exact hold i (List.mem_of_mem_drop hi)⟩
                have hne5 : (Value.slice uA (q + 1) uc).ownBlock ≠ some gO := fun e => by have := hlow5 _ e; omega
                have hbox5 := HR9.out.box.gr hg5
                refine wpList_store_at (g := gO) (i := 0) (u := .slice uA (q + 1) uc) rfl 24 (.tmp 80) (.tmp 79) rfl rfl (fun W => by kernel_rfl) rfl rfl ⟨_, _, _, rfl⟩ (hbox5.cell 0) (hbox5.frozen 0) ?_
                have hu6 : But w5 (w5.setCell ⟨gO, 0, none⟩ (.slice uA (q + 1) uc)) gO := (But.refl _ _).set 0 _
                have hgw9 : gw ≠ gO := HGW.out
                have HBW : Hid (Bl (w5.setCell ⟨gO, 0, none⟩ (.slice uA (q + 1) uc)) gw 59 #[.string xk, .string xt, .bool xb]) := hide ((HB9.out.gr hg5).but_ hu6 hgw9)
                have HRR : Hid (WrI w (w5.setCell ⟨gO, 0, none⟩ (.slice uA (q + 1) uc)) gO m (.slice uA (q + 1) uc) (ds.take k ++ ⟨xk, []⟩ :: ds.drop k)) := hide
                  ⟨hbox5.put 0 _, (HR9.out.res.gr hg5).but_ hu6 (by have := HR9.out.at_; omega), hes5.apart hu6 hne5 hbox5 (by simp), hne5, (HR9.out.gr.trans hg5).fresh_ hu6 (by have := HR9.out.at_; omega), HR9.out.at_⟩
                generalize w5.setCell ⟨gO, 0, none⟩ (.slice uA (q + 1) uc) = WQ at HBW HRR ⊢
                obtain ⟨es, hes⟩ : ∃ es, ds.take k ++ (⟨xk, []⟩ : ChT) :: ds.drop k = es := ⟨_, rfl⟩
                have HT := hide (show es.modify k (fun c => ⟨c.key, addL c.l ⟨p, xt, xb⟩⟩) = writeR p (ws.take (j + 1)) cs by
                  rw [HTM.out, ← hes]
                  exact ins_modify (by omega) (by show ¬ p < 1; omega))
                have HES := hide (show ∀ c ∈ es, c.l.length ≤ 1000000 from fun c hc => by
                  rw [← hes] at hc
                  rcases List.mem_append.1 hc with hc | hc
                  · exact HDS.out c (List.mem_of_mem_take hc)
                  · rcases List.mem_cons.1 hc with hc | hc
                    · rw [hc]; simp
                    · exact HDS.out c (List.mem_of_mem_drop hc))
                have hel : es.length = q + 1 := by rw [← hes, List.length_append, List.length_cons, List.length_take, List.length_drop]; omega
                have hke : k < es.length := by omega
                rw [hes] at HRR
                clear hes hu6 hbox5 hes5 hlow5 hg5 hrows h79 h80 hue hlen5 hr hone0 hio0 hIok hI0 hI1 hI2 HIW I HR9 HB9 hwp hne5
                go_wp2_with fail
                obtain ⟨js, hjs, hio⟩ := HRR.out.own
                have hlj : js.length = es.length := by rw [← hjs, List.length_map]
                have hil : k < js.length := by omega
                obtain ⟨g, c3, e3, hgB, hgl, hnc, q0, q1, qf⟩ := hio.cells (k := k) hil
                have hx1 := (hio.2 js[k] (List.getElem_mem hil)).1
                have hkl : js[k].1.l.length ≤ 1000000 := HES.out _ (by have := List.mem_map_of_mem (f := Prod.fst) (List.getElem_mem hil); rw [hjs] at this; exact this)
                simp only [Value.slice.injEq] at e3
                obtain ⟨rfl, hqe, rfl⟩ := e3
                have hkq2 : k < (q + 1) := by omega
                have HIO := hide hio
                have HADD := hide (fun W (h : VersX W js[k].2 js[k].1.l) => RefAdd_ok js[k].2 js[k].1.l ⟨p, xt, xb⟩ W h (by omega))
                unfold verA at HADD
                simp only at HADD
                have HRES := hide (fun (w5 : World) (u : Value) (h : ChnsO w5 (w.heap.size + 2) (.slice (some ⟨g, 0, none⟩) (q + 1) uc) ((js.set k (⟨js[k].1.key, addL js[k].1.l ⟨p, xt, xb⟩⟩, u)).map Prod.fst)) => show ChnsO w5 (w.heap.size + 2) (.slice (some ⟨g, 0, none⟩) (q + 1) uc) (writeR p (ws.take (j + 1)) cs) by
                  have e := its_modify (f := fun c => ⟨c.key, addL c.l ⟨p, xt, xb⟩⟩) (u := u) hil
                  rw [hjs, HT.out] at e
                  rw [← e]
                  exact h)
                obtain ⟨it, hit⟩ : ∃ it, js[k] = it := ⟨_, rfl⟩
                rw [hit] at HADD q1 hx1
                obtain ⟨ic, ip⟩ := it
                simp only at HADD q1 hx1
                obtain ⟨I, hI⟩ : ∃ I : World → Option Nat → Prop, I = fun w' ob => ((w'.cell? ⟨gO, 0, none⟩ = some (.slice (some ⟨g, 0, none⟩) (q + 1) uc) ∧ some gO ≠ ob) ∧ (w'.cell? ⟨g, k * 2 + 1, none⟩ = some ip ∧ some g ≠ ob)) ∧ ((w'.cell? ⟨gw, 1, none⟩ = some (.string xt) ∧ some gw ≠ ob) ∧ (w'.cell? ⟨gw, 2, none⟩ = some (.bool xb) ∧ some gw ≠ ob)) ∧ (VersX w' ip ic.l ∧ NotIn ob ip) := ⟨_, rfl⟩
                have hIok : Mine.PayOk I := by rw [hI]; exact ((Mine.pay_cell ⟨gO, 0, none⟩ _).and (Mine.pay_cell ⟨g, k * 2 + 1, none⟩ _)).and (((Mine.pay_cell ⟨gw, 1, none⟩ _).and (Mine.pay_cell ⟨gw, 2, none⟩ _)).and (Mine.pay_ver ip ic.l))
                have hI0 : ∀ w' ob, I w' ob → w'.cell? ⟨gO, 0, none⟩ = some (.slice (some ⟨g, 0, none⟩) (q + 1) uc) := fun w' ob h => by rw [hI] at h; exact h.1.1.1
                have hI1 : ∀ w' ob, I w' ob → w'.cell? ⟨g, k * 2 + 1, none⟩ = some ip := fun w' ob h => by rw [hI] at h; exact h.1.2.1
                have hI2 : ∀ w' ob, I w' ob → w'.cell? ⟨gw, 1, none⟩ = some (.string xt) := fun w' ob h => by rw [hI] at h; exact h.2.1.1.1
                have hI3 : ∀ w' ob, I w' ob → w'.cell? ⟨gw, 2, none⟩ = some (.bool xb) := fun w' ob h => by rw [hI] at h; exact h.2.1.2.1
                have hI4 : ∀ w' ob, I w' ob → VersX w' ip ic.l := fun w' ob h => by rw [hI] at h; exact h.2.2.1
                have HIW : Hid (I WQ.drew none) := hide (by rw [hI]; exact ⟨⟨⟨HRR.out.box.cell 0, by simp⟩, q1, by simp⟩, ⟨⟨HBW.out.cell 1, by simp⟩, HBW.out.cell 2, by simp⟩, hx1.gr ((Gr.refl _).drewN 1), NotIn.none_ _⟩)
                clear hI hx1 q0 q1 qf hio
                refine Mine.wp_region_mine_tail 18 100 [81, 82, 83, 84, 85, 86, 87, 88, 89, 90, 91, 92, 93, 94, 95, 96, 97, 98] rfl (by kernel_rfl) (by kernel_rfl) (by kernel_rfl) (by kernel_rfl) (ob0 := none)
                  (Mine.Ahead.more (Mine.Ahead.more (Mine.Ahead.more (Mine.Ahead.more (Mine.Ahead.none_ _ _ _) 7 (Mine.Wi.stays hIok (.pointer (some ⟨gO, 0, none⟩))) (by exact ⟨rfl, HIW.out⟩)) 9 (Mine.Wi.stays hIok (.pointer (some ⟨gw, 0, none⟩))) (by exact ⟨rfl, HIW.out⟩)) 10 (Mine.Is.stays (.int .i64 (k : Int))) (by rfl)) 1 (Mine.Is.stays (.int .i64 p)) (by rfl))
                  100 (C0 := Mine.top) Mine.top_keeps (fun k hk => nomatch hk) trivial ?_
                refine Mine.look1 (x := .tmp 7) (Ψ := Mine.Wi I (.pointer (some ⟨gO, 0, none⟩))) (Φ := Mine.Wi I (.pointer (some ⟨gO, 0, none⟩))) rfl (by decide) (by simp [Op.operands]) rfl (Mine.Wi.stays hIok _) (fun a W ob h => ⟨_, exec_fldS rfl h.1 W, rfl, h.2⟩) ?_
                refine Mine.look1 (x := .tmp 81) (Ψ := Mine.Wi I (.pointer (some ⟨gO, 0, none⟩))) (Φ := Mine.Wi I (.slice (some ⟨g, 0, none⟩) (q + 1) uc)) rfl (by decide) (by simp [Op.operands]) rfl (Mine.Wi.stays hIok _) (fun a W ob h => ⟨_, exec_load rfl h.1 W (by kernel_rfl) (hI0 _ _ h.2), rfl, h.2⟩) ?_
                refine Mine.move (.tmp 10) (.inl rfl) rfl (by decide) rfl (Mine.Is.stays _) ?_
                refine Mine.look1 (x := .tmp 7) (Ψ := Mine.Wi I (.pointer (some ⟨gO, 0, none⟩))) (Φ := Mine.Wi I (.pointer (some ⟨gO, 0, none⟩))) rfl (by decide) (by simp [Op.operands]) rfl (Mine.Wi.stays hIok _) (fun a W ob h => ⟨_, exec_fldS rfl h.1 W, rfl, h.2⟩) ?_
                refine Mine.look1 (x := .tmp 84) (Ψ := Mine.Wi I (.pointer (some ⟨gO, 0, none⟩))) (Φ := Mine.Wi I (.slice (some ⟨g, 0, none⟩) (q + 1) uc)) rfl (by decide) (by simp [Op.operands]) rfl (Mine.Wi.stays hIok _) (fun a W ob h => ⟨_, exec_load rfl h.1 W (by kernel_rfl) (hI0 _ _ h.2), rfl, h.2⟩) ?_
                refine Mine.move (.tmp 10) (.inl rfl) rfl (by decide) rfl (Mine.Is.stays _) ?_
                refine Mine.look2 (x := .tmp 85) (y := .tmp 86) (Ψ := Mine.Wi I (.slice (some ⟨g, 0, none⟩) (q + 1) uc)) (Ψ' := Mine.Is (.int .i64 (k : Int))) (Φ := Mine.Wi I (.pointer (some ⟨g, k * 2, none⟩))) rfl (by decide) (by simp [Op.operands]) (by simp [Op.operands]) rfl rfl (Mine.Wi.stays hIok _) (fun a W ob h h' => ⟨_, exec_idx rfl h.1 h' hkq2 W, rfl, h.2⟩) ?_
                refine Mine.look1 (x := .tmp 87) (Ψ := Mine.Wi I (.pointer (some ⟨g, k * 2, none⟩))) (Φ := Mine.Wi I (.pointer (some ⟨g, k * 2 + 1, none⟩))) rfl (by decide) (by simp [Op.operands]) rfl (Mine.Wi.stays hIok _) (fun a W ob h => ⟨_, exec_fld rfl h.1 W, rfl, h.2⟩) ?_
                refine Mine.look1 (x := .tmp 88) (Ψ := Mine.Wi I (.pointer (some ⟨g, k * 2 + 1, none⟩))) (Φ := Mine.Wi I ip) rfl (by decide) (by simp [Op.operands]) rfl (Mine.Wi.stays hIok _) (fun a W ob h => ⟨_, exec_load rfl h.1 W (by kernel_rfl) (hI1 _ _ h.2), rfl, h.2⟩) ?_
                refine Mine.move (.tmp 1) (.inl rfl) rfl (by decide) rfl (Mine.Is.stays _) ?_
                refine Mine.look1 (x := .tmp 9) (Ψ := Mine.Wi I (.pointer (some ⟨gw, 0, none⟩))) (Φ := Mine.Wi I (.pointer (some ⟨gw, 1, none⟩))) rfl (by decide) (by simp [Op.operands]) rfl (Mine.Wi.stays hIok _) (fun a W ob h => ⟨_, exec_fldW1 rfl h.1 W, rfl, h.2⟩) ?_
                refine Mine.look1 (x := .tmp 91) (Ψ := Mine.Wi I (.pointer (some ⟨gw, 1, none⟩))) (Φ := Mine.Is (.string xt)) rfl (by decide) (by simp [Op.operands]) rfl (Mine.Is.stays _) (fun a W ob h => ⟨_, exec_load rfl h.1 W (by kernel_rfl) (hI2 _ _ h.2), rfl⟩) ?_
                refine Mine.look1 (x := .tmp 9) (Ψ := Mine.Wi I (.pointer (some ⟨gw, 0, none⟩))) (Φ := Mine.Wi I (.pointer (some ⟨gw, 2, none⟩))) rfl (by decide) (by simp [Op.operands]) rfl (Mine.Wi.stays hIok _) (fun a W ob h => ⟨_, exec_fldW2 rfl h.1 W, rfl, h.2⟩) ?_
                refine Mine.look1 (x := .tmp 93) (Ψ := Mine.Wi I (.pointer (some ⟨gw, 2, none⟩))) (Φ := Mine.Is (.bool xb)) rfl (by decide) (by simp [Op.operands]) rfl (Mine.Is.stays _) (fun a W ob h => ⟨_, exec_load rfl h.1 W (by kernel_rfl) (hI3 _ _ h.2), rfl⟩) ?_
                refine Mine.look3 (x := .tmp 90) (y := .tmp 92) (z := .tmp 94) rfl (by decide) (by simp [Op.operands]) (by simp [Op.operands]) (by simp [Op.operands]) rfl rfl rfl (fun a W h1 h2 h3 => exec_ver rfl h1 h2 h3 W) ?_
                refine Mine.callWg (g := g) (by exact hgl) rfl rfl (by decide) Try.func51 (by kernel_rfl) (by kernel_rfl) (I := I) (p := ip) (l := ic.l) rfl hI4 rfl (fun W h => HADD.out W h) ?_
                refine Mine.look2 (x := .tmp 82) (y := .tmp 83) (Ψ := Mine.Wi I (.slice (some ⟨g, 0, none⟩) (q + 1) uc)) (Ψ' := Mine.Is (.int .i64 (k : Int))) (Φ := Mine.Is (.pointer (some ⟨g, k * 2, none⟩))) rfl (by decide) (by simp [Op.operands]) (by simp [Op.operands]) rfl rfl (Mine.Is.stays _) (fun a W ob h h' => ⟨_, exec_idx rfl h.1 h' hkq2 W, rfl⟩) ?_
                refine Mine.run1 (x := .tmp 97) (v := .pointer (some ⟨g, k * 2 + 1, none⟩)) rfl (by decide) (by simp [Op.operands]) rfl (fun a W hx => exec_fld rfl hx W) ?_
                intro a1 w5 ob hr hwf hsz' hdf hun hk2 hat
                have h96 : Mine.Vn g (addL ic.l ⟨p, xt, xb⟩) (a1.tmps.getD 96 undef) w5 ob := hk2 96
                have h98 : a1.tmps.getD 98 undef = .pointer (some ⟨g, k * 2 + 1, none⟩) := hk2 98
                obtain ⟨X, hX, hlay⟩ := Grow.lay_kept_by _ a1 100 _ hsz' hdf hun
                rw [hX] at h96 h98
                clear hX hun hdf hsz' hk2 hwf hat
                obtain ⟨hu1, _, hu3⟩ := h96
                obtain ⟨vA, vc, h96, _⟩ := hu1.is
                obtain ⟨vn, hun⟩ : ∃ vn, (addL ic.l ⟨p, xt, xb⟩).length = vn := ⟨_, rfl⟩
                rw [hun] at h96
                rw [h96] at hu1 hu3
                subst hlay
                simp only [List.range, List.range.loop, List.map_cons, List.map_nil, List.contains_cons, List.contains_nil, Nat.reduceBEq, Bool.or_false, Bool.or_true, cond_false, cond_true, Array.getD_eq_getD_getElem?, List.getElem?_toArray, List.getElem?_cons_zero, List.getElem?_cons_succ, Option.getD_some, h96, h98, List.drop_succ_cons, List.drop_zero]
                have hg5 : Gr WQ w5 := (Gr.drew (Gr.refl WQ)).trans (rs_grew hr)
                have hio5 := HIO.out.gr hg5
                obtain ⟨hcell, hfr⟩ : w5.cell? ⟨g, k * 2 + 1, none⟩ = some js[k].2 ∧ w5.frozen? ⟨g, k * 2 + 1, none⟩ = false := by
                  obtain ⟨g', c', e1, _, _, _, _, q1', qf'⟩ := hio5.cells (k := k) hil
                  simp only [Value.slice.injEq, Option.some.injEq, Addr.mk.injEq, and_true] at e1
                  rw [e1.1]
                  exact ⟨q1', qf' _⟩
                refine wpList_store_at (g := g) (i := k * 2 + 1) (u := .slice vA vn vc) rfl 52 (.tmp 98) (.tmp 96) rfl rfl (fun W => by kernel_rfl) rfl rfl ⟨_, _, _, rfl⟩ hcell hfr ?_
                obtain ⟨hs1', hs2⟩ := hio5.stored (by omega) (k := k) hil (l := addL ic.l ⟨p, xt, xb⟩) hu1 hu3
                have hgne : gO ≠ g := fun e => HRR.out.ne (by rw [e]; rfl)
                have hi6 : WrI w (w5.setCell ⟨g, k * 2 + 1, none⟩ (.slice vA vn vc)) gO m (.slice (some ⟨g, 0, none⟩) (q + 1) uc) (writeR p (ws.take (j + 1)) cs) :=
                  ⟨(HRR.out.box.gr hg5).but_ hs2 hgne, (HRR.out.res.gr hg5).but_ hs2 (by omega), HRES.out _ (.slice vA vn vc) ⟨_, rfl, by rw [hit] at hs1' ⊢; exact hs1'⟩, HRR.out.ne, (HRR.out.gr.trans hg5).fresh_ hs2 (by omega), HRR.out.at_⟩
                have HI6 := hide hi6
                generalize w5.setCell ⟨g, k * 2 + 1, none⟩ (.slice vA vn vc) = w6 at HI6 ⊢
                clear hi6 hs1' hs2 hio5 hfr hcell hu1 hu3 hr hg5 h96 h98 HRES HIO HADD HIW HRR HBW HES hI0 hI1 hI2 hI3 hI4 hIok I HT
                go_wp2_with fail
                go_roundw
                case rel => exact ⟨j + 1, _, by go_num, by omega, HI6⟩
                case measure => simp [intOf]; omega
          · have HJ3 := hide (HJ1.out (by rw [hbk]; unfold ltK; rw [hbl]; rfl))
            clear HJ1 HF HKY HKN hdk hbk HJ
            go_wp2_with fail
            go_quiet (fail)
            go_wp2_with fail
            go_roundw
            case rel => exact ⟨k + 1, by go_num, by omega, HJ3, HG2.out.drewN _⟩
            case measure => simp [intOf]; omega
        · have hkq2 : k = q := by omega
          subst hkq2
          have HF : Hid (firstI (belowK xk) ds = k) := hide (by rw [firstI_none (fun i hi => HJ.out i hi (by omega)), hdl])
          have HTK := hide (addR_not (k := xk) (v := ⟨p, xt, xb⟩) HF.out (fun h _ => by omega))
          clear HJ HF
          go_wp2_with fail
          go_quiet (fail)
          have HR8 := hide (HR2.out.grow ((Gr.refl _).drewN nq))
          have HB8 := hide (HB2.out.gr ((Gr.refl _).drewN nq))
          clear k0 m0 HR2 HB2
          generalize wr.drewN nq = wr3 at HR8 HB8 ⊢
          clear nq
          have k0 : wr3.cell? ⟨gO, 0, none⟩ = some (.slice B k d) := HR8.out.box.cell 0
          have m0 : wr3.cell? ⟨gw, 0, none⟩ = some (.string xk) := HB8.out.cell 0
          go_wp2_with fail
          go_quiet (fail)
          have HR9 := hide (HR8.out.grow ((Gr.refl _).drewN nq))
          have HB9 := hide (HB8.out.gr ((Gr.refl _).drewN nq))
          clear k0 m0 HR8 HB8
          generalize wr3.drewN nq = WP at HR9 HB9 ⊢
          by_cases hp1 : p < 1
          · have HI9 := hide (show WrI w WP gO m (.slice B k d) (writeR p (ws.take (j + 1)) cs) by rw [HTN.out, HTK.out, if_pos (by exact hp1)]; exact HR9.out)
            go_wp2_with fail
            go_roundw
            case rel => exact ⟨j + 1, _, by go_num, by omega, HI9⟩
            case measure => simp [intOf]; omega
          · have HTM := hide (HTN.out.trans (HTK.out.trans (if_neg (by exact hp1))))
            clear HTN HTK
            go_wp2_with fail
            obtain ⟨js0, hjs0, hio0⟩ := HR9.out.own
            have hlj0 : js0.length = k := by rw [← hdl, ← hjs0, List.length_map]
            have hsl0 : Mine.SlR 2 (js0.map itC) (.slice B k d) WP.drew none := ⟨(hio0.1.rowAt).gr ((Gr.refl _).drewN 1), fun r hr => by rw [itC_two js0 r hr]; decide, fun ad n c _ _ => by simp⟩
            have hone0 := hio0.x.one
            obtain ⟨I, hI⟩ : ∃ I : World → Option Nat → Prop, I = fun w' ob => (w'.cell? ⟨gO, 0, none⟩ = some (.slice B k d) ∧ some gO ≠ ob) ∧ (w'.cell? ⟨gw, 0, none⟩ = some (.string xk) ∧ some gw ≠ ob) ∧ Mine.SlR 2 (js0.map itC) (.slice B k d) w' ob := ⟨_, rfl⟩
            have hIok : Mine.PayOk I := by rw [hI]; exact (Mine.pay_cell ⟨gO, 0, none⟩ _).and ((Mine.pay_cell ⟨gw, 0, none⟩ _).and (Mine.pay_row 2 _ _))
            have hI0 : ∀ w' ob, I w' ob → w'.cell? ⟨gO, 0, none⟩ = some (.slice B k d) := fun w' ob h => by rw [hI] at h; exact h.1.1
            have hI1 : ∀ w' ob, I w' ob → w'.cell? ⟨gw, 0, none⟩ = some (.string xk) := fun w' ob h => by rw [hI] at h; exact h.2.1.1
            have hI2 : ∀ w' ob, I w' ob → Mine.SlR 2 (js0.map itC) (.slice B k d) w' ob := fun w' ob h => by rw [hI] at h; exact h.2.2
            have HIW : Hid (I WP.drew none) := hide (by rw [hI]; exact ⟨⟨HR9.out.box.cell 0, by simp⟩, ⟨HB9.out.cell 0, by simp⟩, hsl0⟩)
            clear hI hsl0
            refine Mine.wp_region_mine_tail 17 100 [64, 65, 66, 67, 68, 69, 70, 71, 72, 73, 74, 75, 76, 77, 78, 79, 80] rfl (by kernel_rfl) (by kernel_rfl) (by kernel_rfl) (by kernel_rfl) (ob0 := none)
              (Mine.Ahead.more (Mine.Ahead.more (Mine.Ahead.more (Mine.Ahead.none_ _ _ _) 7 (Mine.Wi.stays hIok (.pointer (some ⟨gO, 0, none⟩))) (by exact ⟨rfl, HIW.out⟩)) 9 (Mine.Wi.stays hIok (.pointer (some ⟨gw, 0, none⟩))) (by exact ⟨rfl, HIW.out⟩)) 10 (Mine.Is.stays (.int .i64 (k : Int))) (by rfl))
              100 (C0 := fun _ _ o => o = none) (fun _ _ _ _ h _ => h) (fun k hk => by cases hk) rfl ?_
            refine Mine.chain_lit0R (e := 54) 2 rfl rfl rfl (Nat.le_refl _) (fun W => by kernel_rfl) ?_
            refine Mine.look1 (x := .tmp 7) (Ψ := Mine.Wi I (.pointer (some ⟨gO, 0, none⟩))) (Φ := Mine.Wi I (.pointer (some ⟨gO, 0, none⟩))) rfl (by decide) (by simp [Op.operands]) rfl (Mine.Wi.stays hIok _) (fun a W ob h => ⟨_, exec_fldS rfl h.1 W, rfl, h.2⟩) ?_
            refine Mine.look1 (x := .tmp 65) (Ψ := Mine.Wi I (.pointer (some ⟨gO, 0, none⟩))) (Φ := Mine.SlR 2 (js0.map itC)) rfl (by decide) (by simp [Op.operands]) rfl (Mine.SlR.stays _ _) (fun a W ob h => ⟨_, exec_load rfl h.1 W (by kernel_rfl) (hI0 _ _ h.2), hI2 _ _ h.2⟩) ?_
            refine Mine.move (.tmp 10) (.inl rfl) rfl (by decide) rfl (Mine.Is.stays _) ?_
            refine Mine.cutR (k := 2) (j := k) rfl rfl (by decide) rfl rfl (by rw [List.length_map]; omega) (by kernel_rfl) size_chn ?_
            refine Mine.chain_spreadR rfl rfl rfl Try.underlying24 hi0 hz0 hz1 hz2 rfl (by decide) rfl (fun r hr => itC_two js0 r (List.mem_of_mem_take hr)) (fun r hr => hone0 r (List.mem_of_mem_take hr)) (by rw [List.length_take, List.length_map]; simp; unfold maxLen; omega) (by rw [List.length_take, List.length_map]; simp; omega) (Nat.le_refl _) ?_
            refine Mine.look1 (x := .tmp 9) (Ψ := Mine.Wi I (.pointer (some ⟨gw, 0, none⟩))) (Φ := Mine.Wi I (.pointer (some ⟨gw, 0, none⟩))) rfl (by decide) (by simp [Op.operands]) rfl (Mine.Wi.stays hIok _) (fun a W ob h => ⟨_, exec_fldW rfl h.1 W, rfl, h.2⟩) ?_
            refine Mine.look1 (x := .tmp 70) (Ψ := Mine.Wi I (.pointer (some ⟨gw, 0, none⟩))) (Φ := Mine.Is (.string xk)) rfl (by decide) (by simp [Op.operands]) rfl (Mine.Is.stays _) (fun a W ob h => ⟨_, exec_load rfl h.1 W (by kernel_rfl) (hI1 _ _ h.2), rfl⟩) ?_
            refine Mine.run1 (x := .tmp 71) (v := .agg #[.string xk, .slice none 0 0]) rfl (by decide) (by simp [Op.operands]) rfl (fun a W hx => exec_new rfl hx W) ?_
            refine Mine.lit1R (e := 54) (cs := [.string xk, .slice none 0 0]) rfl rfl (by decide) rfl (fun W => by kernel_rfl) ?_
            refine Mine.chain_appR rfl rfl rfl Try.underlying24 hi0 hz0 hz1 hz2 rfl (by decide) rfl rfl (fun u hu => by
              simp only [List.mem_cons, List.not_mem_nil, or_false] at hu
              rcases hu with rfl | rfl <;> simp [Value.oneCell']) (by rw [List.nil_append, List.length_take, List.length_map]; omega) (by rw [List.nil_append, List.length_take, List.length_map]; omega) (Nat.le_refl _) ?_
            refine Mine.look1 (x := .tmp 7) (Ψ := Mine.Wi I (.pointer (some ⟨gO, 0, none⟩))) (Φ := Mine.Wi I (.pointer (some ⟨gO, 0, none⟩))) rfl (by decide) (by simp [Op.operands]) rfl (Mine.Wi.stays hIok _) (fun a W ob h => ⟨_, exec_fldS rfl h.1 W, rfl, h.2⟩) ?_
            refine Mine.look1 (x := .tmp 75) (Ψ := Mine.Wi I (.pointer (some ⟨gO, 0, none⟩))) (Φ := Mine.SlR 2 (js0.map itC)) rfl (by decide) (by simp [Op.operands]) rfl (Mine.SlR.stays _ _) (fun a W ob h => ⟨_, exec_load rfl h.1 W (by kernel_rfl) (hI0 _ _ h.2), hI2 _ _ h.2⟩) ?_
            refine Mine.move (.tmp 10) (.inl rfl) rfl (by decide) rfl (Mine.Is.stays _) ?_
            refine Mine.dropR (k := 2) (j := k) rfl rfl (by decide) rfl rfl (by rw [List.length_map]; omega) (by kernel_rfl) size_chn ?_
            refine Mine.chain_spreadR rfl rfl rfl Try.underlying24 hi0 hz0 hz1 hz2 rfl (by decide) rfl (fun r hr => itC_two js0 r (List.mem_of_mem_drop hr)) (fun r hr => hone0 r (List.mem_of_mem_drop hr)) (by rw [List.nil_append, List.length_append, List.length_take, List.length_drop, List.length_map]; simp; unfold maxLen; omega) (by rw [List.nil_append, List.length_append, List.length_take, List.length_drop, List.length_map]; simp; omega) (Nat.le_refl _) ?_
            refine Mine.look1 (x := .tmp 7) (Ψ := Mine.Wi I (.pointer (some ⟨gO, 0, none⟩))) (Φ := Mine.Is (.pointer (some ⟨gO, 0, none⟩))) rfl (by decide) (by simp [Op.operands]) rfl (Mine.Is.stays _) (fun a W ob h => ⟨_, exec_fldS rfl h.1 W, rfl⟩) ?_
            intro a1 w5 ob hr hwf hsz' hdf hun hk2 hat
            have h80 : a1.tmps.getD 80 undef = .pointer (some ⟨gO, 0, none⟩) := hk2 80
            have h79 : OwnR 54 2 w5 WP.heap.size (a1.tmps.getD 79 undef) ([] ++ (js0.map itC).take k ++ [[.string xk, .slice none 0 0]] ++ (js0.map itC).drop k) := hat.1
            obtain ⟨X, hX, hlay⟩ := Grow.lay_kept_by _ a1 100 _ hsz' hdf hun
            rw [hX] at h79 h80
            clear hX hun hdf hsz' hk2 hwf hat
            have hrows : [] ++ (js0.map itC).take k ++ [[.string xk, .slice none 0 0]] ++ (js0.map itC).drop k = (js0.take k ++ (ChT.mk xk [], Value.slice none 0 0) :: js0.drop k).map itC := by
              rw [List.nil_append, List.map_append, List.map_cons, List.map_take, List.map_drop, List.append_assoc]
              rfl
            rw [hrows] at h79
            obtain ⟨uA, uc, hue, _⟩ := h79.rowAt
            have hlen5 : ((js0.take k ++ (ChT.mk xk [], Value.slice none 0 0) :: js0.drop k).map itC).length = k + 1 := by
              rw [List.length_map, List.length_append, List.length_cons, List.length_take, List.length_drop]; omega
            rw [hlen5] at hue
            rw [hue] at h79
            subst hlay
            simp only [List.range, List.range.loop, List.map_cons, List.map_nil, List.contains_cons, List.contains_nil, Nat.reduceBEq, Bool.or_false, Bool.or_true, cond_false, cond_true, Array.getD_eq_getD_getElem?, List.getElem?_toArray, List.getElem?_cons_zero, List.getElem?_cons_succ, Option.getD_some, hue, h80, List.drop_succ_cons, List.drop_zero]
            have hg5 : Gr WP w5 := (Gr.drew (Gr.refl WP)).trans (rs_grew hr)
            have hwp := HR9.out.gr.size
            have hgOl := HR9.out.box.lt
            have hlow5 : ∀ b, (Value.slice uA (k + 1) uc).ownBlock = some b → WP.heap.size ≤ b := fun b hb => (h79.lt b hb).1
            have hes5 : ChnsO w5 (w.heap.size + 2) (.slice uA (k + 1) uc) (ds.take k ++ ⟨xk, []⟩ :: ds.drop k) :=
              ⟨js0.take k ++ (ChT.mk xk [], Value.slice none 0 0) :: js0.drop k, by rw [List.map_append, List.map_cons, List.map_take, List.map_drop, hjs0], h79.base (by omega), fun i hi => by
                have hold : ∀ i ∈ js0, VersX w5 i.2 i.1.l ∧ NotIn (Value.slice uA (k + 1) uc).ownBlock i.2 := fun i hi => ⟨(hio0.2 i hi).1.gr hg5, NotIn.of_old (hio0.2 i hi).1 hlow5⟩
                rcases List.mem_append.1 hi with hi | hi
                · exact hold i (List.mem_of_mem_take hi)
                · rcases List.mem_cons.1 hi with hi | hi
                  · rw [hi]; exact ⟨VersX.nil _ _ _, NotIn.empty _ _ _⟩
                  · exact hold i (List.mem_of_mem_drop hi)⟩
            have hne5 : (Value.slice uA (k + 1) uc).ownBlock ≠ some gO := fun e => by have := hlow5 _ e; omega
            have hbox5 := HR9.out.box.gr hg5
            refine wpList_store_at (g := gO) (i := 0) (u := .slice uA (k + 1) uc) rfl 24 (.tmp 80) (.tmp 79) rfl rfl (fun W => by kernel_rfl) rfl rfl ⟨_, _, _, rfl⟩ (hbox5.cell 0) (hbox5.frozen 0) ?_
            have hu6 : But w5 (w5.setCell ⟨gO, 0, none⟩ (.slice uA (k + 1) uc)) gO := (But.refl _ _).set 0 _
            have hgw9 : gw ≠ gO := HGW.out
            have HBW : Hid (Bl (w5.setCell ⟨gO, 0, none⟩ (.slice uA (k + 1) uc)) gw 59 #[.string xk, .string xt, .bool xb]) := hide ((HB9.out.gr hg5).but_ hu6 hgw9)
            have HRR : Hid (WrI w (w5.setCell ⟨gO, 0, none⟩ (.slice uA (k + 1) uc)) gO m (.slice uA (k + 1) uc) (ds.take k ++ ⟨xk, []⟩ :: ds.drop k)) := hide
              ⟨hbox5.put 0 _, (HR9.out.res.gr hg5).but_ hu6 (by have := HR9.out.at_; omega), hes5.apart hu6 hne5 hbox5 (by simp), hne5, (HR9.out.gr.trans hg5).fresh_ hu6 (by have := HR9.out.at_; omega), HR9.out.at_⟩
            generalize w5.setCell ⟨gO, 0, none⟩ (.slice uA (k + 1) uc) = WQ at HBW HRR ⊢
            obtain ⟨es, hes⟩ : ∃ es, ds.take k ++ (⟨xk, []⟩ : ChT) :: ds.drop k = es := ⟨_, rfl⟩
            have HT := hide (show es.modify k (fun c => ⟨c.key, addL c.l ⟨p, xt, xb⟩⟩) = writeR p (ws.take (j + 1)) cs by
              rw [HTM.out, ← hes]
              exact ins_modify (by omega) (by show ¬ p < 1; omega))
            have HES := hide (show ∀ c ∈ es, c.l.length ≤ 1000000 from fun c hc => by
              rw [← hes] at hc
              rcases List.mem_append.1 hc with hc | hc
              · exact HDS.out c (List.mem_of_mem_take hc)
              · rcases List.mem_cons.1 hc with hc | hc
                · rw [hc]; simp
                · exact HDS.out c (List.mem_of_mem_drop hc))
            have hel : es.length = k + 1 := by rw [← hes, List.length_append, List.length_cons, List.length_take, List.length_drop]; omega
            have hke : k < es.length := by omega
            rw [hes] at HRR
            clear hes hu6 hbox5 hes5 hlow5 hg5 hrows h79 h80 hue hlen5 hr hone0 hio0 hIok hI0 hI1 hI2 HIW I HR9 HB9 hwp hne5
            go_wp2_with fail
            obtain ⟨js, hjs, hio⟩ := HRR.out.own
            have hlj : js.length = es.length := by rw [← hjs, List.length_map]
            have hil : k < js.length := by omega
            obtain ⟨g, c3, e3, hgB, hgl, hnc, q0, q1, qf⟩ := hio.cells (k := k) hil
            have hx1 := (hio.2 js[k] (List.getElem_mem hil)).1
            have hkl : js[k].1.l.length ≤ 1000000 := HES.out _ (by have := List.mem_map_of_mem (f := Prod.fst) (List.getElem_mem hil); rw [hjs] at this; exact this)
            simp only [Value.slice.injEq] at e3
            obtain ⟨rfl, hqe, rfl⟩ := e3
            have hkq2 : k < (k + 1) := by omega
            have HIO := hide hio
            have HADD := hide (fun W (h : VersX W js[k].2 js[k].1.l) => RefAdd_ok js[k].2 js[k].1.l ⟨p, xt, xb⟩ W h (by omega))
            unfold verA at HADD
            simp only at HADD
            have HRES := hide (fun (w5 : World) (u : Value) (h : ChnsO w5 (w.heap.size + 2) (.slice (some ⟨g, 0, none⟩) (k + 1) uc) ((js.set k (⟨js[k].1.key, addL js[k].1.l ⟨p, xt, xb⟩⟩, u)).map Prod.fst)) => show ChnsO w5 (w.heap.size + 2) (.slice (some ⟨g, 0, none⟩) (k + 1) uc) (writeR p (ws.take (j + 1)) cs) by
              have e := its_modify (f := fun c => ⟨c.key, addL c.l ⟨p, xt, xb⟩⟩) (u := u) hil
              rw [hjs, HT.out] at e
              rw [← e]
              exact h)
            obtain ⟨it, hit⟩ : ∃ it, js[k] = it := ⟨_, rfl⟩
            rw [hit] at HADD q1 hx1
            obtain ⟨ic, ip⟩ := it
            simp only at HADD q1 hx1
            obtain ⟨I, hI⟩ : ∃ I : World → Option Nat → Prop, I = fun w' ob => ((w'.cell? ⟨gO, 0, none⟩ = some (.slice (some ⟨g, 0, none⟩) (k + 1) uc) ∧ some gO ≠ ob) ∧ (w'.cell? ⟨g, k * 2 + 1, none⟩ = some ip ∧ some g ≠ ob)) ∧ ((w'.cell? ⟨gw, 1, none⟩ = some (.string xt) ∧ some gw ≠ ob) ∧ (w'.cell? ⟨gw, 2, none⟩ = some (.bool xb) ∧ some gw ≠ ob)) ∧ (VersX w' ip ic.l ∧ NotIn ob ip) := ⟨_, rfl⟩
            have hIok : Mine.PayOk I := by rw [hI]; exact ((Mine.pay_cell ⟨gO, 0, none⟩ _).and (Mine.pay_cell ⟨g, k * 2 + 1, none⟩ _)).and (((Mine.pay_cell ⟨gw, 1, none⟩ _).and (Mine.pay_cell ⟨gw, 2, none⟩ _)).and (Mine.pay_ver ip ic.l))
            have hI0 : ∀ w' ob, I w' ob → w'.cell? ⟨gO, 0, none⟩ = some (.slice (some ⟨g, 0, none⟩) (k + 1) uc) := fun w' ob h => by rw [hI] at h; exact h.1.1.1
            have hI1 : ∀ w' ob, I w' ob → w'.cell? ⟨g, k * 2 + 1, none⟩ = some ip := fun w' ob h => by rw [hI] at h; exact h.1.2.1
            have hI2 : ∀ w' ob, I w' ob → w'.cell? ⟨gw, 1, none⟩ = some (.string xt) := fun w' ob h => by rw [hI] at h; exact h.2.1.1.1
            have hI3 : ∀ w' ob, I w' ob → w'.cell? ⟨gw, 2, none⟩ = some (.bool xb) := fun w' ob h => by rw [hI] at h; exact h.2.1.2.1
            have hI4 : ∀ w' ob, I w' ob → VersX w' ip ic.l := fun w' ob h => by rw [hI] at h; exact h.2.2.1
            have HIW : Hid (I WQ.drew none) := hide (by rw [hI]; exact ⟨⟨⟨HRR.out.box.cell 0, by simp⟩, q1, by simp⟩, ⟨⟨HBW.out.cell 1, by simp⟩, HBW.out.cell 2, by simp⟩, hx1.gr ((Gr.refl _).drewN 1), NotIn.none_ _⟩)
            clear hI hx1 q0 q1 qf hio
            refine Mine.wp_region_mine_tail 18 100 [81, 82, 83, 84, 85, 86, 87, 88, 89, 90, 91, 92, 93, 94, 95, 96, 97, 98] rfl (by kernel_rfl) (by kernel_rfl) (by kernel_rfl) (by kernel_rfl) (ob0 := none)
              (Mine.Ahead.more (Mine.Ahead.more (Mine.Ahead.more (Mine.Ahead.more (Mine.Ahead.none_ _ _ _) 7 (Mine.Wi.stays hIok (.pointer (some ⟨gO, 0, none⟩))) (by exact ⟨rfl, HIW.out⟩)) 9 (Mine.Wi.stays hIok (.pointer (some ⟨gw, 0, none⟩))) (by exact ⟨rfl, HIW.out⟩)) 10 (Mine.Is.stays (.int .i64 (k : Int))) (by rfl)) 1 (Mine.Is.stays (.int .i64 p)) (by rfl))
              100 (C0 := Mine.top) Mine.top_keeps (fun k hk => nomatch hk) trivial ?_
            refine Mine.look1 (x := .tmp 7) (Ψ := Mine.Wi I (.pointer (some ⟨gO, 0, none⟩))) (Φ := Mine.Wi I (.pointer (some ⟨gO, 0, none⟩))) rfl (by decide) (by simp [Op.operands]) rfl (Mine.Wi.stays hIok _) (fun a W ob h => ⟨_, exec_fldS rfl h.1 W, rfl, h.2⟩) ?_
            refine Mine.look1 (x := .tmp 81) (Ψ := Mine.Wi I (.pointer (some ⟨gO, 0, none⟩))) (Φ := Mine.Wi I (.slice (some ⟨g, 0, none⟩) (k + 1) uc)) rfl (by decide) (by simp [Op.operands]) rfl (Mine.Wi.stays hIok _) (fun a W ob h => ⟨_, exec_load rfl h.1 W (by kernel_rfl) (hI0 _ _ h.2), rfl, h.2⟩) ?_
            refine Mine.move (.tmp 10) (.inl rfl) rfl (by decide) rfl (Mine.Is.stays _) ?_
            refine Mine.look1 (x := .tmp 7) (Ψ := Mine.Wi I (.pointer (some ⟨gO, 0, none⟩))) (Φ := Mine.Wi I (.pointer (some ⟨gO, 0, none⟩))) rfl (by decide) (by simp [Op.operands]) rfl (Mine.Wi.stays hIok _) (fun a W ob h => ⟨_, exec_fldS rfl h.1 W, rfl, h.2⟩) ?_
            refine Mine.look1 (x := .tmp 84) (Ψ := Mine.Wi I (.pointer (some ⟨gO, 0, none⟩))) (Φ := Mine.Wi I (.slice (some ⟨g, 0, none⟩) (k + 1) uc)) rfl (by decide) (by simp [Op.operands]) rfl (Mine.Wi.stays hIok _) (fun a W ob h => ⟨_, exec_load rfl h.1 W (by kernel_rfl) (hI0 _ _ h.2), rfl, h.2⟩) ?_
            refine Mine.move (.tmp 10) (.inl rfl) rfl (by decide) rfl (Mine.Is.stays _) ?_
            refine Mine.look2 (x := .tmp 85) (y := .tmp 86) (Ψ := Mine.Wi I (.slice (some ⟨g, 0, none⟩) (k + 1) uc)) (Ψ' := Mine.Is (.int .i64 (k : Int))) (Φ := Mine.Wi I (.pointer (some ⟨g, k * 2, none⟩))) rfl (by decide) (by simp [Op.operands]) (by simp [Op.operands]) rfl rfl (Mine.Wi.stays hIok _) (fun a W ob h h' => ⟨_, exec_idx rfl h.1 h' hkq2 W, rfl, h.2⟩) ?_
            refine Mine.look1 (x := .tmp 87) (Ψ := Mine.Wi I (.pointer (some ⟨g, k * 2, none⟩))) (Φ := Mine.Wi I (.pointer (some ⟨g, k * 2 + 1, none⟩))) rfl (by decide) (by simp [Op.operands]) rfl (Mine.Wi.stays hIok _) (fun a W ob h => ⟨_, exec_fld rfl h.1 W, rfl, h.2⟩) ?_
            refine Mine.look1 (x := .tmp 88) (Ψ := Mine.Wi I (.pointer (some ⟨g, k * 2 + 1, none⟩))) (Φ := Mine.Wi I ip) rfl (by decide) (by simp [Op.operands]) rfl (Mine.Wi.stays hIok _) (fun a W ob h => ⟨_, exec_load rfl h.1 W (by kernel_rfl) (hI1 _ _ h.2), rfl, h.2⟩) ?_
            refine Mine.move (.tmp 1) (.inl rfl) rfl (by decide) rfl (Mine.Is.stays _) ?_
            refine Mine.look1 (x := .tmp 9) (Ψ := Mine.Wi I (.pointer (some ⟨gw, 0, none⟩))) (Φ := Mine.Wi I (.pointer (some ⟨gw, 1, none⟩))) rfl (by decide) (by simp [Op.operands]) rfl (Mine.Wi.stays hIok _) (fun a W ob h => ⟨_, exec_fldW1 rfl h.1 W, rfl, h.2⟩) ?_
            refine Mine.look1 (x := .tmp 91) (Ψ := Mine.Wi I (.pointer (some ⟨gw, 1, none⟩))) (Φ := Mine.Is (.string xt)) rfl (by decide) (by simp [Op.operands]) rfl (Mine.Is.stays _) (fun a W ob h => ⟨_, exec_load rfl h.1 W (by kernel_rfl) (hI2 _ _ h.2), rfl⟩) ?_
            refine Mine.look1 (x := .tmp 9) (Ψ := Mine.Wi I (.pointer (some ⟨gw, 0, none⟩))) (Φ := Mine.Wi I (.pointer (some ⟨gw, 2, none⟩))) rfl (by decide) (by simp [Op.operands]) rfl (Mine.Wi.stays hIok _) (fun a W ob h => ⟨_, exec_fldW2 rfl h.1 W, rfl, h.2⟩) ?_
            refine Mine.look1 (x := .tmp 93) (Ψ := Mine.Wi I (.pointer (some ⟨gw, 2, none⟩))) (Φ := Mine.Is (.bool xb)) rfl (by decide) (by simp [Op.operands]) rfl (Mine.Is.stays _) (fun a W ob h => ⟨_, exec_load rfl h.1 W (by kernel_rfl) (hI3 _ _ h.2), rfl⟩) ?_
            refine Mine.look3 (x := .tmp 90) (y := .tmp 92) (z := .tmp 94) rfl (by decide) (by simp [Op.operands]) (by simp [Op.operands]) (by simp [Op.operands]) rfl rfl rfl (fun a W h1 h2 h3 => exec_ver rfl h1 h2 h3 W) ?_
            refine Mine.callWg (g := g) (by exact hgl) rfl rfl (by decide) Try.func51 (by kernel_rfl) (by kernel_rfl) (I := I) (p := ip) (l := ic.l) rfl hI4 rfl (fun W h => HADD.out W h) ?_
            refine Mine.look2 (x := .tmp 82) (y := .tmp 83) (Ψ := Mine.Wi I (.slice (some ⟨g, 0, none⟩) (k + 1) uc)) (Ψ' := Mine.Is (.int .i64 (k : Int))) (Φ := Mine.Is (.pointer (some ⟨g, k * 2, none⟩))) rfl (by decide) (by simp [Op.operands]) (by simp [Op.operands]) rfl rfl (Mine.Is.stays _) (fun a W ob h h' => ⟨_, exec_idx rfl h.1 h' hkq2 W, rfl⟩) ?_
            refine Mine.run1 (x := .tmp 97) (v := .pointer (some ⟨g, k * 2 + 1, none⟩)) rfl (by decide) (by simp [Op.operands]) rfl (fun a W hx => exec_fld rfl hx W) ?_
            intro a1 w5 ob hr hwf hsz' hdf hun hk2 hat
            have h96 : Mine.Vn g (addL ic.l ⟨p, xt, xb⟩) (a1.tmps.getD 96 undef) w5 ob := hk2 96
            have h98 : a1.tmps.getD 98 undef = .pointer (some ⟨g, k * 2 + 1, none⟩) := hk2 98
            obtain ⟨X, hX, hlay⟩ := Grow.lay_kept_by _ a1 100 _ hsz' hdf hun
            rw [hX] at h96 h98
            clear hX hun hdf hsz' hk2 hwf hat
            obtain ⟨hu1, _, hu3⟩ := h96
            obtain ⟨vA, vc, h96, _⟩ := hu1.is
            obtain ⟨vn, hun⟩ : ∃ vn, (addL ic.l ⟨p, xt, xb⟩).length = vn := ⟨_, rfl⟩
            rw [hun] at h96
            rw [h96] at hu1 hu3
            subst hlay
            simp only [List.range, List.range.loop, List.map_cons, List.map_nil, List.contains_cons, List.contains_nil, Nat.reduceBEq, Bool.or_false, Bool.or_true, cond_false, cond_true, Array.getD_eq_getD_getElem?, List.getElem?_toArray, List.getElem?_cons_zero, List.getElem?_cons_succ, Option.getD_some, h96, h98, List.drop_succ_cons, List.drop_zero]
            have hg5 : Gr WQ w5 := (Gr.drew (Gr.refl WQ)).trans (rs_grew hr)
            have hio5 := HIO.out.gr hg5
            obtain ⟨hcell, hfr⟩ : w5.cell? ⟨g, k * 2 + 1, none⟩ = some js[k].2 ∧ w5.frozen? ⟨g, k * 2 + 1, none⟩ = false := by
              obtain ⟨g', c', e1, _, _, _, _, q1', qf'⟩ := hio5.cells (k := k) hil
              simp only [Value.slice.injEq, Option.some.injEq, Addr.mk.injEq, and_true] at e1
              rw [e1.1]
              exact ⟨q1', qf' _⟩
            refine wpList_store_at (g := g) (i := k * 2 + 1) (u := .slice vA vn vc) rfl 52 (.tmp 98) (.tmp 96) rfl rfl (fun W => by kernel_rfl) rfl rfl ⟨_, _, _, rfl⟩ hcell hfr ?_
            obtain ⟨hs1', hs2⟩ := hio5.stored (by omega) (k := k) hil (l := addL ic.l ⟨p, xt, xb⟩) hu1 hu3
            have hgne : gO ≠ g := fun e => HRR.out.ne (by rw [e]; rfl)
            have hi6 : WrI w (w5.setCell ⟨g, k * 2 + 1, none⟩ (.slice vA vn vc)) gO m (.slice (some ⟨g, 0, none⟩) (k + 1) uc) (writeR p (ws.take (j + 1)) cs) :=
              ⟨(HRR.out.box.gr hg5).but_ hs2 hgne, (HRR.out.res.gr hg5).but_ hs2 (by omega), HRES.out _ (.slice vA vn vc) ⟨_, rfl, by rw [hit] at hs1' ⊢; exact hs1'⟩, HRR.out.ne, (HRR.out.gr.trans hg5).fresh_ hs2 (by omega), HRR.out.at_⟩
            have HI6 := hide hi6
            generalize w5.setCell ⟨g, k * 2 + 1, none⟩ (.slice vA vn vc) = w6 at HI6 ⊢
            clear hi6 hs1' hs2 hio5 hfr hcell hu1 hu3 hr hg5 h96 h98 HRES HIO HADD HIW HRR HBW HES hI0 hI1 hI2 hI3 hI4 hIok I HT
            go_wp2_with fail
            go_roundw
            case rel => exact ⟨j + 1, _, by go_num, by omega, HI6⟩
            case measure => simp [intOf]; omega
    · obtain rfl : j = ws.length := by omega
      rw [List.take_length] at hds
      rw [← hds] at HI
      have m0 : wr.cell? ⟨gO, 0, none⟩ = some (.slice B q d) := HI.out.box.cell 0
      have m1 : wr.cell? ⟨gO, 1, none⟩ = some (.int .i64 m) := HI.out.box.cell 1
      have n0 : wr.cell? ⟨w.heap.size + 1, 0, none⟩ = some (.slice none 0 0) := HI.out.res.cell 0
      have n1 : wr.cell? ⟨w.heap.size + 1, 1, none⟩ = some (.int .i64 0) := HI.out.res.cell 1
      have g0 := HI.out.res.frozen 0
      have g1 := HI.out.res.frozen 1
      go_wp2_with fail
      obtain ⟨W4, hW4⟩ : ∃ W4, (wr.setCell ⟨w.heap.size + 1, 0, none⟩ (.slice B q d)).setCell ⟨w.heap.size + 1, 1, none⟩ (.int .i64 m) = W4 := ⟨_, rfl⟩
      have hb6 : Bl W4 (w.heap.size + 1) 26 #[.slice B q d, .int .i64 m] := by rw [← hW4]; exact (HI.out.res.put 0 _).put 1 _
      have hu6 : But wr W4 (w.heap.size + 1) := by rw [← hW4]; exact ((But.refl _ _).set 0 _).set 1 _
      rw [hW4]
      refine bodyPost_ret (results_cell_row rfl _ W4 (w.heap.size + 1) 26 _ (0, 0) _ rfl hb6 Try.underlying26 rfl (by kernel_rfl)) rfl ?_
      exact ⟨_, rfl, (HI.out.own.but hu6 (by omega) HI.out.res (by simp)).x, HI.out.gr.fresh_ hu6 (Nat.le_succ _)⟩
end Go.Proofs.Ytbfbghfaeejicaa
