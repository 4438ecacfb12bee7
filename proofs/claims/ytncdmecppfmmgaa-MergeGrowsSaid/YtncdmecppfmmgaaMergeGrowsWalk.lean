/-
  The walk of 'MergeGrows'.
-/
import Derived.Test.YtncdmecppfmmgaaMergeFacts
import Derived.Test.YtncdmecppfmmgaaMgCopy
import Derived.Test.YtncdmecppfmmgaaMgMine
namespace Go.Proofs.Ytncdmecppfmmgaa
open Go Go.RowKit TxnMath KeyMath MsgMath EpMath MgMath
set_option maxRecDepth 100000

/-- how far a log was -/
def wasN (l8 : List UInt8) (ls : List (List EntT)) (j : Nat) : Nat := (l8.getD (j % 3) 0).toNat % ((lg ls j).length + 1)
def wasL (l8 : List UInt8) (ls : List (List EntT)) (k : Nat) : List (List EntT) := (List.range k).map fun j => (lg ls j).take (wasN l8 ls j)
theorem wasN_le (l8 : List UInt8) (ls : List (List EntT)) (j : Nat) : wasN l8 ls j ≤ (lg ls j).length := by
  have := Nat.mod_lt (l8.getD (j % 3) 0).toNat (show 0 < (lg ls j).length + 1 by omega)
  unfold wasN
  omega
theorem wasL_len (l8 : List UInt8) (ls : List (List EntT)) (k : Nat) : (wasL l8 ls k).length = k := by simp [wasL]
theorem wasL_more (l8 : List UInt8) (ls : List (List EntT)) (k : Nat) : wasL l8 ls (k + 1) = wasL l8 ls k ++ [(lg ls k).take (wasN l8 ls k)] := by unfold wasL; rw [List.range_succ, List.map_append]; rfl
theorem wasL_lg (l8 : List UInt8) (ls : List (List EntT)) (k p : Nat) (h : p < k) : lg (wasL l8 ls k) p = (lg ls p).take (wasN l8 ls p) := by
  show (wasL l8 ls k).getD p [] = _
  unfold wasL
  simp [h]
theorem wasL_out (l8 : List UInt8) (ls : List (List EntT)) (k p : Nat) (h : ¬ p < k) : lg (wasL l8 ls k) p = [] := by
  show (wasL l8 ls k).getD p [] = _
  unfold wasL
  simp [h]
theorem wasL_10 (l8 : List UInt8) {ls : List (List EntT)} (h : Logs10 ls) : Logs10 (wasL l8 ls ls.length) := by
  refine ⟨by rw [wasL_len]; exact h.len, fun p => ?_, fun p e he => ?_⟩
  · by_cases hp : p < ls.length
    · rw [wasL_lg _ _ _ _ hp, List.length_take]; have := h.each p; omega
    · rw [wasL_out _ _ _ _ hp]; simp
  · by_cases hp : p < ls.length
    · rw [wasL_lg _ _ _ _ hp] at he; exact h.bnd p e (List.mem_of_mem_take he)
    · rw [wasL_out _ _ _ _ hp] at he; simp at he
theorem wasL_grows (l8 : List UInt8) (ls : List (List EntT)) : ∃ r, (orderL ls).1 = (orderL (wasL l8 ls ls.length)).1 ++ r :=
  order_grows (wasL_len _ _ _) fun p hp => ⟨wasN l8 ls p, wasN_le _ _ _, wasL_lg _ _ _ _ (by rwa [wasL_len] at hp)⟩

theorem ents_le {X : Nat → Prop} {w : World} {A : Option Addr} {n c : Nat} {es : List EntT} (h : EntsX X w (.slice A n c) es) : n ≤ c := by
  obtain ⟨f, ⟨⟨A', c', e, hc, _⟩, _⟩, _⟩ := h
  injection e with _ e2 e3
  subst e2 e3
  exact hc
/-- the row of shorter logs while it is made -/
structure WasM (w wr : World) (v : Value) (ws : List (List EntT)) (xs : List Value) : Prop where
  gr : Gr w wr
  len : xs.length = ws.length
  own : OwnV 33 wr w.heap.size v xs
  each : ∀ j (h : j < xs.length) (h2 : j < ws.length), EntsX (fun k => k < w.heap.size) wr xs[j] ws[j]
theorem WasM.logs {w wr : World} {v : Value} {ls : List (List EntT)} {xs : List Value} (h : WasM w wr v ls xs) : LogsX wr v ls := by
  have ho := h.own
  obtain ⟨A, c, rfl, _⟩ := OwnV.is ho
  exact ⟨xs, h.len, ⟨A, c, rfl, Mine.vs_own ho⟩, fun j hj hj2 => (h.each j hj hj2).wide fun _ _ => trivial⟩

set_option maxHeartbeats 8000000 in
theorem walk_MergeGrows (w : World) (A : Option Addr) (n c : Nat) (l : List UInt8) (hn : n = l.length) (hby : By w A c l) (l8 : List UInt8) (hl8 : l8.length = 3) :
    Calls Try.prog 4 #[.slice A n c, .agg (bvs l8).toArray] w fun e w' => e = .returned (.bool true) ∧ Gr w w' := by
  subst hn
  have HBY := hide hby
  clear hby
  have b0 := Bl.new w 32 (bvs l8).toArray
  have g0 := (Gr.refl w).alloc (.cells (bvs l8).toArray 32)
  by_cases h1 : (250 : Int) < (l.length : Int)
  · go_enter Try.func4, Try.ntmps4
    go_wp2_with fail
    refine (begun_ok _).mono ?_
    rintro e w1 ⟨rfl, hg1⟩
    go_wp2_with fail
    go_ret
    exact ⟨rfl, g0.trans hg1⟩
  obtain ⟨W, hW⟩ : ∃ W, w.alloc (.cells (bvs l8).toArray 32) = W := ⟨_, rfl⟩
  go_enter Try.func4, Try.ntmps4
  go_wp2_with fail
  rw [hW] at b0 g0
  clear hW
  have hgw : w.heap.size < W.heap.size := b0.lt
  refine (begun_ok _).mono ?_
  rintro e w1 ⟨rfl, hg1⟩
  have HG1 := hide (g0.trans hg1)
  have HB0 := hide (b0.gr hg1)
  have hgw1 := Nat.lt_of_lt_of_le hgw hg1.size
  clear hg1 g0 b0 hgw
  go_wp2_with fail
  refine (logs_ok A c l w1 (HBY.out.gr HG1.out) (by omega)).mono ?_
  rintro e w2 ⟨v, rfl, hlx, hg2⟩
  have HT := hide (logsL_10 l)
  have HE := hide (logsL_each l)
  have HL3 := hide (logsL_len l)
  generalize logsL l = ls at hlx HT HE HL3
  have HLX := hide hlx
  replace HG1 := hide (HG1.out.trans hg2)
  replace HB0 := hide (HB0.out.gr hg2)
  have hgw2 := Nat.lt_of_lt_of_le hgw1 hg2.size
  obtain ⟨vA, vc, rfl, _⟩ := hlx.is
  clear hlx hg2 hgw1
  have hlen3 : ls.length ≤ 3 := HL3.out
  have HM0 := hide (show WasM w2 w2 (.slice none 0 0) (wasL l8 ls 0) [] from ⟨Gr.refl _, rfl, OwnV.none_ _ _, fun j h => absurd h (by simp)⟩)
  go_wp2_with fail
  go_loopw [6, 7] (fun v i wr => ∃ (k : Nat) (xs : List Value), i = .int .i64 (k : Int) ∧ k ≤ ls.length ∧ Hid (WasM w2 wr v (wasL l8 ls k) xs)) (fun _ i _ => ls.length - (intOf i).toNat)
  case atStart => exact ⟨0, [], rfl, by omega, HM0⟩
  case round =>
    obtain ⟨k, xs, rfl, hk, HM⟩ := hrel
    obtain ⟨oA, oc, hv, _⟩ := OwnV.is HM.out.own
    have hxl : xs.length = k := by rw [HM.out.len, wasL_len]
    rw [hxl] at hv
    subst hv
    by_cases hlt : k < ls.length
    · have hlt' : (k : Int) < (ls.length : Int) := by omega
      obtain ⟨xl, hxl1, ⟨vA', vc', e1, hvs⟩, hes⟩ := HLX.out
      injection e1 with e1 e2 e3
      subst e1 e3
      clear e2
      obtain ⟨ad, rfl, hcz⟩ := hvs.rd 0 (by omega)
      clear hcz
      have hadl := hvs.lt (by omega) rfl
      have hcl : Mine.Cl ad ls.length vc xl (.slice (some ad) ls.length vc) wr.drew (Value.slice oA k oc).ownBlock := by
        refine ⟨rfl, hxl1.symm, fun j u hu => ?_, ?_, fun e => ?_⟩
        · obtain ⟨hj, rfl⟩ := List.getElem?_eq_some_iff.1 hu
          obtain ⟨ad', h3, h4⟩ := hvs.rd j hj
          injection h3 with h3
          subst h3
          exact gr_cell HM.out.gr _ _ h4
        · exact Nat.lt_of_lt_of_le hadl HM.out.gr.size
        · have := (World.ownsRow.lt HM.out.own _ e.symm).1; omega
      have HCL := hide hcl
      have HXL := hide hes
      have hxk : xl[k]? = some xl[k] := List.getElem?_eq_getElem (by omega)
      have hek := hes k (by omega) hlt
      obtain ⟨A2, c2, h2⟩ := hek.is
      rw [h2] at hxk
      have hle := hek
      rw [h2] at hle
      have hle2 := ents_le hle
      have HK := hide hxk
      have HEK := hide hle
      clear hcl hes hek h2 hle hxk hvs hxl1
      have hwd := HB0.out.gr HM.out.gr
      have h8k : (bvs l8).toArray[k % 3]? = some (.int .u8 ((l8.getD (k % 3) 0).toNat : Int)) := by
        have : k % 3 < l8.length := by rw [hl8]; exact Nat.mod_lt _ (by omega)
        simp [bvs, bv, this]
      have h8l : (l8.getD (k % 3) 0).toNat < 256 := (l8.getD (k % 3) 0).toNat_lt
      obtain ⟨x8, hx8⟩ : ∃ x, (l8.getD (k % 3) 0).toNat = x := ⟨_, rfl⟩
      obtain ⟨m, hm⟩ : ∃ m, ls[k].length = m := ⟨_, rfl⟩
      obtain ⟨j, hj⟩ : ∃ j, x8 % (m + 1) = j := ⟨_, rfl⟩
      have hjm : j ≤ m := by rw [← hj]; have := Nat.mod_lt x8 (show 0 < m + 1 by omega); omega
      have hwn : wasN l8 ls k = j := by unfold wasN; rw [hx8, lg_at hlt, hm, hj]
      rw [hx8] at h8k h8l
      rw [hm] at HK HEK hle2
      have HNX := hide (wasL_more l8 ls k)
      rw [hwn, lg_at hlt] at HNX
      have HM15 := hide (HE.out k)
      rw [lg_at hlt, hm] at HM15
      have H8 := hide h8k
      have HWD := hide hwd
      clear h8k hwd hx8 hwn hm
      obtain ⟨i0, hi, hz0, hz1, hz2⟩ := info_logs
      go_wp2_with fail
      refine Mine.wp_region_mine 60 [23, 24, 25, 26, 27, 28, 29, 30, 31, 32, 33, 34, 35, 36, 37, 38, 39, 40, 41, 42, 6] rfl (by kernel_rfl) (by kernel_rfl) (by kernel_rfl) (ob0 := (Value.slice oA k oc).ownBlock)
        (Mine.Ahead.more (Mine.Ahead.more (Mine.Ahead.more (Mine.Ahead.none_ _ _ _) 3 (Mine.Bx.stays w.heap.size 32 (bvs l8).toArray) (by exact ⟨rfl, HWD.out, fun e => by have := (World.ownsRow.lt HM.out.own _ e.symm).1; omega⟩)) 5 (Mine.Cl.stays _ _ _ _) HCL.out) 7 (Mine.Is.stays (.int .i64 (k : Int))) rfl)
        6 (C0 := Mine.RowV 33 w2.heap.size xs) (Mine.RowV.keeps _ _ _) (fun j hj => (World.ownsRow.lt HM.out.own j hj).2) (by exact ⟨HM.out.own, rfl⟩) ?_
      refine Mine.chain_moveV (.inl rfl) rfl rfl ?_
      refine Mine.move (.tmp 5) (.inl rfl) rfl (by decide) rfl (Mine.Cl.stays _ _ _ _) ?_
      refine Mine.move (.tmp 7) (.inl rfl) rfl (by decide) rfl (Mine.Is.stays _) ?_
      refine Mine.index k rfl rfl (by decide) Try.underlying24 (fun w => by kernel_rfl) rfl rfl rfl HK.out ?_
      refine Mine.load rfl rfl (by decide) (fun w => by kernel_rfl) rfl ?_
      refine Mine.move (.tmp 7) (.inl rfl) rfl (by decide) rfl (Mine.Is.stays _) ?_
      refine Mine.bin_int rfl rfl (by decide) rfl (fun _ _ => rfl) (rem_i k 3 (by decide)) ?_
      refine Mine.index_arr (k % 3) rfl rfl (by decide) Try.underlying32 (show k % 3 < 3 from Nat.mod_lt _ (by decide)) (fun w => by kernel_rfl) rfl rfl rfl H8.out ?_
      refine Mine.load rfl rfl (by decide) (fun w => by kernel_rfl) rfl ?_
      refine Mine.conv8 rfl rfl (by decide) h8l rfl ?_
      refine Mine.move (.tmp 5) (.inl rfl) rfl (by decide) rfl (Mine.Cl.stays _ _ _ _) ?_
      refine Mine.move (.tmp 7) (.inl rfl) rfl (by decide) rfl (Mine.Is.stays _) ?_
      refine Mine.index k rfl rfl (by decide) Try.underlying24 (fun w => by kernel_rfl) rfl rfl rfl HK.out ?_
      refine Mine.load rfl rfl (by decide) (fun w => by kernel_rfl) rfl ?_
      refine Mine.len rfl rfl (by decide) Try.underlying33 rfl ?_
      refine Mine.bin_int (z := .int .i64 ((m + 1 : Nat) : Int)) rfl rfl (by decide) rfl (fun _ _ => rfl) (by have := HM15.out; rw [Int.natCast_add]; exact add_i _ _ (by omega)) ?_
      refine Mine.bin_int rfl rfl (by decide) rfl rfl (rem_i x8 (m + 1) (by omega)) ?_
      refine Mine.take_is (j := j) rfl rfl (by decide) rfl (by rw [hj]; exact rfl) (by omega) Try.underlying33 size_ents ?_
      refine Mine.lit1V (e := 33) rfl rfl (by decide) rfl (fun w => ?_) ?_
      · kernel_rfl
      refine Mine.chain_appV rfl rfl rfl Try.underlying24 hi hz0 hz1 hz2 rfl rfl (fun u hu => by simp at hu; subst hu; rfl) (by simp [hxl]; omega) (by simp [hxl]; omega) HM.out.gr.size ?_
      refine Mine.chain_moveV (.inr rfl) rfl rfl ?_
      intro a1 w3 ob1 hr1 hsz1 hdf1 hun1 _ hat1
      obtain ⟨hown1, _⟩ := hat1
      obtain ⟨X, hX, hlay⟩ := Grow.lay_kept_by _ a1 60 _ hsz1 hdf1 hun1
      rw [hX] at hown1
      clear hX hun1 hdf1 hsz1
      subst hlay
      simp only [List.range, List.range.loop, List.map_cons, List.map_nil, List.contains_cons, List.contains_nil, Nat.reduceBEq, Bool.or_false, Bool.or_true, cond_false, cond_true, Array.getD_eq_getD_getElem?, List.getElem?_toArray, List.getElem?_cons_zero, List.getElem?_cons_succ, Option.getD_some]
      have hgr3 : Gr w2 w3 := ⟨hr1.gb.os.trans HM.out.gr.os, hr1.gb.tape.trans HM.out.gr.tape, hr1.gb.output.trans HM.out.gr.output, Nat.le_trans HM.out.gr.size hr1.gb.size, fun b hb => by
        rw [hr1.gb.block b (Nat.lt_of_lt_of_le hb HM.out.gr.size) (fun e => by have := (World.ownsRow.lt HM.out.own _ e.symm).1; omega)]
        exact HM.out.gr.block b hb⟩
      have hsz3 := HM.out.gr.size
      have hmid : ∀ b, b < w2.heap.size → w3.heap[b]? = wr.heap[b]? := fun b hb => hr1.gb.block b (by have : wr.drew.heap.size = wr.heap.size := rfl; omega) (fun e => by have := (World.ownsRow.lt HM.out.own _ e.symm).1; omega)
      have hnew : EntsX (fun b => b < w2.heap.size) w3 (.slice A2 j c2) (ls[k].take j) := ((HEK.out.take j hjm).low.wide (fun b hb => hb.2)).gr hgr3
      have hM3 : WasM w2 w3 (X 6) (wasL l8 ls (k + 1)) (xs ++ [.slice A2 j c2]) := by
        rw [HNX.out]
        refine ⟨hgr3, by simp [hxl, wasL_len], hown1, fun b hb hb2 => ?_⟩
        by_cases hbx : b < xs.length
        · rw [List.getElem_append_left hbx, List.getElem_append_left (by rw [wasL_len]; omega)]
          exact (HM.out.each b hbx (by rw [wasL_len]; omega)).move fun i hi hx => ⟨hmid i hx, hx⟩
        · have hbe : b = xs.length := by simp at hb; omega
          subst hbe
          rw [List.getElem_append_right (Nat.le_refl _), List.getElem_append_right (by rw [wasL_len]; omega)]
          simp only [Nat.sub_self, wasL_len, hxl, List.getElem_cons_zero]
          exact hnew
      have HM3 := hide hM3
      clear hM3 hgr3 hmid hnew hown1 hr1
      obtain ⟨A6, c6, hv6, _⟩ := OwnV.is HM3.out.own
      rw [hv6] at HM3 ⊢
      go_wp2_with fail
      go_roundw
      case rel => exact ⟨k + 1, _, by go_num, by omega, HM3⟩
      case measure => simp [intOf]; omega
    · obtain rfl : k = ls.length := by omega
      have HX := hide (WasM.logs HM.out)
      have HGM := hide HM.out.gr
      have HT2 := hide (wasL_10 l8 HT.out)
      have HGO := hide (wasL_grows l8 ls)
      have HWL := hide (wasL_len l8 ls ls.length)
      generalize wasL l8 ls ls.length = ws at *
      have HA := hide (fun W v (h : LogsX W v ws) => All_ok v _ W h HT2.out.len HT2.out.each HT2.out.bnd)
      have HB := hide (fun W v (h : LogsX W v ls) => All_ok v _ W h HT.out.len HT.out.each HT.out.bnd)
      have HOL := hide (order_len HT2.out.len HT2.out.each)
      have HOB := hide (order_bnd HT2.out.bnd)
      clear HM HE HL3
      go_wp2_with fail
      refine (HA.out _ _ HX.out).mono ?_
      rintro e w4 ⟨va, rfl, hpa, hg4, _⟩
      obtain ⟨aA, ac, rfl, _⟩ := hpa.is
      have HPA := hide hpa
      replace HLX := hide (HLX.out.gr (HGM.out.trans hg4))
      replace HG1 := hide (HG1.out.trans (HGM.out.trans hg4))
      clear hpa hg4 HA HX HGM
      go_wp2_with fail
      refine (HB.out _ _ HLX.out).mono ?_
      rintro e w5 ⟨vb, rfl, hpb, hg5, _⟩
      obtain ⟨bA, bc, rfl, hbc⟩ := hpb.is
      have HPB := hide hpb
      replace HPA := hide (HPA.out.gr hg5)
      replace HG1 := hide (HG1.out.trans hg5)
      clear hpb hg5 HB HLX
      obtain ⟨r, hr⟩ := HGO.out
      rw [hr] at HPB hbc ⊢
      clear hr HGO
      generalize (orderL ws).1 = ps at *
      have htk := HPB.out.take ps.length (by simp)
      rw [List.take_left' rfl] at htk
      have HTK := hide htk
      have hmm : ps.length ≤ (ps ++ r).length := by simp
      have hmI : (ps.length : Int) ≤ ((ps ++ r).length : Int) := by omega
      have hbI : (ps.length : Int) ≤ (bc : Int) := by omega
      clear htk HPB
      generalize (ps ++ r).length = m at *
      go_wp2_with fail
      refine (SamePlaces_ok _ _ ps ps w5 HPA.out HTK.out HOL.out HOB.out rfl).mono ?_
      rintro e w6 ⟨rfl, hg6⟩
      replace HG1 := hide (HG1.out.trans hg6)
      clear hg6
      go_wp2_with fail
      go_ret
      exact ⟨rfl, HG1.out⟩

end Go.Proofs.Ytncdmecppfmmgaa
