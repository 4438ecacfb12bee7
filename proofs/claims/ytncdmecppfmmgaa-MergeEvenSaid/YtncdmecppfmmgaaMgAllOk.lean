/-
  merge's All by its contract.
-/
import Derived.Test.YtncdmecppfmmgaaMgPlace
import Derived.Deep.LoopGhost
namespace Go.Proofs.Ytncdmecppfmmgaa.HeadHeap
open Go Go.RowKit Go.Proofs.Ytncdmecppfmmgaa BalMath TxnMath KeyMath MsgMath EpMath MgMath
set_option maxRecDepth 100000

def AllPost (ls : List (List EntT)) (w : World) (e : Ending) (w' : World) : Prop := ∃ u, e = .returned u ∧ PlX w' u (orderL ls).1 ∧ Gr w w' ∧ Fresh w.heap.size u

set_option maxHeartbeats 4000000 in
theorem All_main (v : Value) (ls : List (List EntT)) (w : World) (hv : LogsX w v ls) (hl : ls.length ≤ 10) (hn : ∀ p, (lg ls p).length ≤ 100) (hb : ∀ p, ∀ e ∈ lg ls p, EntBnd e) :
    Calls Try.prog 11 #[v] w (AllPost ls w) := by
  have HV := hide hv
  have HN := hide hn
  have HB_ := hide hb
  obtain ⟨A, c, rfl, hc, _⟩ := hv.is
  clear hv hn hb
  go_enter Try.func11, Try.ntmps11
  go_upto_region 3 with (fail)
  obtain ⟨W, hW⟩ : ∃ W, w.alloc (.cells #[.slice none 0 0] 55) = W := ⟨_, rfl⟩
  have hgW : Gr w W := by rw [← hW]; exact (Gr.refl _).alloc _
  have hbN : Bl W w.heap.size 55 #[.slice none 0 0] := by rw [← hW]; exact Bl.new _ _ _
  have H0 := hide (show L1 ls (fun _ => (0, 0)) w W w.heap.size [] 0 from ⟨⟨_, hbN, OwnR.none_ _ _⟩, fun k h1 h2 => by simp at h2, fun r => rfl, fun q hq => by omega, hgW⟩)
  rw [hW]
  clear hW hbN hgW
  go_wp2_with fail
  go_loopw [12] (fun i wr => ∃ (k : Nat) (F : Nat → Nat × Nat) (l : List Int), i = .int .i64 k ∧ k ≤ ls.length ∧ Hid (L1 ls F w wr w.heap.size l k)) (fun i _ => ls.length - (intOf i).toNat)
  case atStart => exact ⟨0, _, [], rfl, by omega, H0⟩
  case round =>
    obtain ⟨k, F, l, rfl, hk, HL⟩ := hrel
    clear H0
    by_cases hlt : k < ls.length
    · have hlt' : (k : Int) < (ls.length : Int) := by omega
      obtain ⟨_, c', e1, _, hat⟩ := (HV.out.gr HL.out.gr).is
      injection e1 with e1 _ e2
      subst e1 e2
      obtain ⟨ad, A', c', rfl, a0, hx⟩ := hat k hlt
      have e0 : lg ls k = ls[k] := by unfold lg; simp [hlt]
      rw [← e0] at a0 hx
      have HX := hide hx
      have HS := hide (fun W' (h : EntsX Any W' (.slice A' (lg ls k).length c') (lg ls k)) => Cut_ok _ (lg ls k) W' h (by have := HN.out k; omega))
      change Hid (∀ W', EntsX Any W' (.slice A' (lg ls k).length c') (lg ls k) → Calls _ _ _ _ fun e w' => ∃ u, e = .returned u ∧ RowsI w' W'.heap.size u (ct ls k) ∧ Gr W' w') at HS
      clear hx hat e0
      generalize (lg ls k).length = m at a0 HX HS
      go_wp2_with fail
      refine (HS.out _ HX.out).mono ?_
      rintro e w1 ⟨u, rfl, hr1, hg1⟩
      obtain ⟨b, c1, rfl, _⟩ := hr1.at_ (by have := nb_pos ls k; exact this)
      obtain ⟨hb1, hr2⟩ := HL.out.known (by omega) hg1 (RowsI.base_ hr1 (Nat.zero_le _))
      have hhd : (hdC (SF ls (setF F k (b, c1))) (k : Int)).toArray = #[.int .i64 (k : Int), .int .i64 0, .slice (some ⟨b, 0, none⟩) (ct ls k).length c1] := by
        have h := hd_sf ls (setF F k (b, c1)) 0 k (by omega)
        rw [show (((0 : Nat) : Int) * 1000 + (k : Int)) = (k : Int) by omega, show setF F k (b, c1) k = (b, c1) by simp [setF]] at h
        exact h
      have HC := hide (push_ok (k : Int) hb1 HL.out.hp (by have := HL.out.mem.len; omega))
      rw [hhd] at HC
      have HR2 := hide hr2
      have HG1 := hide (HL.out.gr.trans hg1)
      clear hg1 HX HS a0 hb1 hhd hr1 hr2
      generalize hnb : (ct ls k).length = nk at HC ⊢
      go_wp2_with fail
      refine HC.out.mono ?_
      rintro e w2 ⟨rfl, l2, h1, h2, h3, h4⟩
      have H2 := hide (show L1 ls (setF F k (b, c1)) w w2 w.heap.size l2 (k + 1) from ⟨h1, h2, HL.out.mem.push h3, fun q hq => RowsI.tw (HR2.out q hq) h4 (by decide) (by decide), gr_tw HG1.out h4 (Nat.le_refl _)⟩)
      clear h1 h2 h3 h4 HC HL HR2 HG1
      go_wp2_with fail
      go_roundw
      case rel => exact ⟨k + 1, _, l2, by go_num, by omega, H2⟩
      case measure => simp [intOf]; omega
    · obtain rfl : k = ls.length := by omega
      by_cases hz : ls.length = 0
      · have hll : l.length = ls.length := HL.out.mem.len
        obtain ⟨hv, hbl, ho⟩ := HL.out.hb
        obtain ⟨A', c', rfl⟩ := OwnH.is ho
        have c0 : wr.cell? ⟨w.heap.size, 0, none⟩ = some (.slice A' l.length c') := by rw [hbl.cell]; rfl
        have HE := hide (show AllPost ls w (.returned (.slice none 0 0)) wr from ⟨_, rfl, by rw [order_none hz]; exact PlX.nil _, HL.out.gr, fun ad n c e => by cases e⟩)
        rw [hll] at c0
        have hf : ¬ (0 : Int) < (ls.length : Int) := by omega
        clear HL hbl ho hll
        go_wp2_with fail
        go_loopg [3] 0 (fun gk v wr' => v = .slice none 0 0 ∧ wr' = wr)
        case atStart => exact ⟨rfl, rfl⟩
        case round =>
          obtain ⟨rfl, rfl⟩ := hrel
          go_wp2_with fail
          go_ret
          exact HE.out
      · have H2 := hide (HL.out.two (by omega))
        clear HL
        go_wp2_with fail
        go_loopg [3] (101 * ls.length) (fun gk v wr => ∃ F l e p, Hid (L2 ls F w wr w.heap.size l v e p) ∧ Hid (101 * ls.length ≤ gk + (e * ls.length + p)))
        case atStart => exact ⟨F, l, 0, 0, H2, by simp [Hid]⟩
        case round =>
          obtain ⟨F, l, e, p, HL, HGK⟩ := hrel
          clear H2
          have hll : l.length = ls.length := HL.out.mem.len
          have hlt := HL.out.lt
          obtain ⟨he100, hfew, hmeas⟩ := HL.out.few hl HN.out
          obtain ⟨hv, hbl, ho⟩ := HL.out.hb
          obtain ⟨A', c', rfl⟩ := OwnH.is ho
          have c0 : wr.cell? ⟨w.heap.size, 0, none⟩ = some (.slice A' ls.length c') := by rw [hbl.cell, ← hll]; rfl
          have hf : (0 : Int) < (ls.length : Int) := by omega
          obtain ⟨k1, hk1⟩ : ∃ k1, l.length = k1 + 1 := ⟨l.length - 1, by omega⟩
          have hat := HL.out.mem.least HL.out.hp hlt (by omega)
          have HC := hide (pop_ok k1 HL.out.hb HL.out.hp hk1 (by omega))
          rw [hat] at HC
          rw [hd_sf ls F e p (by omega)] at HC
          have HMS := hide hmeas
          have HFW := hide hfew
          have HRM := hide (RowsI.room (HL.out.rows p hlt))
          have HNB := hide (HL.out.ex p hlt)
          obtain ⟨m, hm⟩ : ∃ m, nb ls p - e = m := ⟨_, rfl⟩
          obtain ⟨cc, hcc⟩ : ∃ cc, (F p).2 - e = cc := ⟨_, rfl⟩
          obtain ⟨fb, hfb⟩ : ∃ fb, (F p).1 = fb := ⟨_, rfl⟩
          rw [hm, hcc, hfb] at HC
          have HM := hide hm
          have HCC := hide hcc
          have HFB := hide hfb
          have hm1 : (0 : Int) < (m : Int) := by have := HNB.out; omega
          clear hbl ho hat hk1 hmeas hfew hm hcc hfb hll
          go_wp2_with fail
          refine HC.out.mono ?_
          rintro en w1 ⟨rfl, l1, hb1, hp1, hq1, ht1⟩
          have hta : ∀ W, (Instr.typeAssert (.iface 59 (.agg #[.int .i64 (p : Int), .int .i64 (e : Int), .slice (some ⟨fb, e, none⟩) m cc])) 20 59 false).run Try.prog W = .ok (.agg #[.int .i64 (p : Int), .int .i64 (e : Int), .slice (some ⟨fb, e, none⟩) m cc]) W := fun W => by kernel_rfl
          go_upto_region 10 with (fail)
          obtain ⟨V, hV⟩ : ∃ V, w1.alloc (.cells #[.int .i64 (p : Int), .int .i64 (e : Int), .slice (some ⟨fb, e, none⟩) m cc] 59) = V := ⟨_, rfl⟩
          have hgV : Gr w1 V := by rw [← hV]; exact (Gr.refl _).alloc _
          have hbH : Bl V w1.heap.size 59 #[.int .i64 (p : Int), .int .i64 (e : Int), .slice (some ⟨fb, e, none⟩) m cc] := by rw [← hV]; exact Bl.new _ _ _
          rw [hV]
          have HBV := hide (hb1.gr hgV)
          have HP1 := hide hp1
          have HQ1 := hide hq1
          have HRV := hide (fun q hq => (RowsI.tw (HL.out.rows q hq) ht1 (by decide) (by decide)).gr hgV)
          have HPL := hide ((HL.out.pl.tw ht1).gr hgV)
          have HGV := hide ((gr_tw HL.out.gr ht1 (Nat.le_refl _)).trans hgV)
          clear hV hb1 hp1 hq1 ht1 hgV HC c0
          have hen : e < (ct ls p).length := by have := HNB.out; unfold nb at this; omega
          obtain ⟨g', c2, A2, c3, e1, cB, hix⟩ := RowsI.get (HRV.out p hlt) hen
          injection e1 with e1 _ _
          injection e1 with e1
          injection e1 with e1 _ _
          have hgd : (ct ls p)[e] = (ct ls p).getD e [] := by rw [List.getD_eq_getElem?_getD, List.getElem?_eq_getElem hen]; rfl
          rw [← e1, HFB.out] at cB
          rw [hgd] at cB hix
          have HIX := hide hix
          have HBL := hide (bat_len ls HN.out p e)
          obtain ⟨bt, hbt⟩ : ∃ bt, (ct ls p).getD e [] = bt := ⟨_, rfl⟩
          have HBT := hide hbt
          rw [hbt] at cB HIX HBL
          have HBA := hide (fun k i (hk : bt[k]? = some i) => bat_at hbt hk)
          have hn0 : V.cell? ⟨w1.heap.size, 0, none⟩ = some (.int .i64 (p : Int)) := hbH.cell 0
          have hn1 : V.cell? ⟨w1.heap.size, 1, none⟩ = some (.int .i64 (e : Int)) := hbH.cell 1
          have hn2 : V.cell? ⟨w1.heap.size, 2, none⟩ = some (.slice (some ⟨fb, e, none⟩) m cc) := hbH.cell 2
          have HBH := hide hbH
          have hbl1 : (bt.length : Int) ≤ 101 := by have := HBL.out; omega
          have HVS := hide (show w.heap.size < V.heap.size by obtain ⟨_, h, _⟩ := HBV.out; exact h.lt)
          clear hix hgd hbt hbH e1 hta hen
          go_wp2_with fail
          go_loopw [3, 36] (fun v i wr' => ∃ k : Nat, i = .int .i64 k ∧ k ≤ bt.length ∧ Hid (PlW wr' (w.heap.size + 1) v (uptoB ls e ++ rowB ls e p ++ (bt.take k).map (plc ls p))) ∧ Hid (Tw T2 w.heap.size V wr')) (fun v i _ => bt.length - (intOf i).toNat)
          case atStart => exact ⟨0, rfl, by omega, by simpa using HPL, Tw.refl _ _ _⟩
          case round =>
            obtain ⟨k, rfl, hk, HP, HT⟩ := hrel
            have HGK2 := hide (gr_tw HGV.out HT.out (Nat.le_refl _))
            have HBH2 := hide (Bl.tw HBH.out HT.out (by decide))
            by_cases hkl : k < bt.length
            · have hkl' : (k : Int) < (bt.length : Int) := by omega
              obtain ⟨j, x, hj, ej, hx, hplc⟩ := HBA.out k bt[k] (List.getElem?_eq_getElem hkl)
              have HTK := hide (show (bt.take k).map (plc ls p) ++ [plc ls p bt[k]] = (bt.take (k + 1)).map (plc ls p) by rw [List.take_succ_eq_append_getElem hkl, List.map_append]; rfl)
              obtain ⟨_, _, e2, _, hrd⟩ := (OwnI.tw HIX.out HT.out (by decide)).ints.is
              injection e2 with e2 _ e3
              subst e2 e3
              obtain ⟨ad, rfl, a0⟩ := hrd k hkl
              change wr.cell? (ad.add k) = some (.int .i64 bt[k]) at a0
              rw [ej] at a0 hplc HTK
              rw [hplc] at HTK
              have hp0 : wr.cell? ⟨w1.heap.size, 0, none⟩ = some (.int .i64 (p : Int)) := HBH2.out.cell 0
              have HPC := hide (place_ok _ ls p j wr (HV.out.gr HGK2.out) hlt hj (by have := HN.out p; omega) x hx (HB_.out p x (hx ▸ List.getElem_mem hj)))
              clear hplc ej hx hrd
              go_wp2_with fail
              refine HPC.out.mono ?_
              rintro en w3 ⟨⟨qa, qb⟩, rfl, q1, q2, hg3⟩
              obtain ⟨R1, c5, e5, _⟩ := q1.is
              obtain ⟨R2, c6, e6, _⟩ := q2.is
              simp only at e5 e6
              subst e5 e6
              have HP3 := hide (HP.out.gr hg3)
              have HT3 := hide (HT.out.trans (Tw.of_gr hg3))
              have HQ := hide (show RwO w3 x.t (.slice R1 (x.t.reads.map rdC).length c5, .slice R2 (x.t.writes.map wrC).length c6) from ⟨OwnR.base q1 (Nat.zero_le _), OwnR.base q2 (Nat.zero_le _)⟩)
              clear q1 q2 hg3 HPC HP HT a0 hp0
              generalize (x.t.reads.map rdC).length = m1 at HQ ⊢
              generalize (x.t.writes.map wrC).length = m2 at HQ ⊢
              go_wp2_with (at_builtin; refine pause ?_)
              refine hide ?_
              refine wpList_pushW rfl (.tmp 40) (.tmp 46) rfl (g := w.heap.size) (B := w.heap.size + 1) ⟨p, (j : Int) + 1, x.t⟩ HQ.out rfl rfl rfl rfl rfl rfl rfl HP3.out (by have := HVS.out; have := HT3.out.size; omega) (by omega) rfl (by have := HFW.out; have := HBL.out; rw [List.length_append, List.length_map, List.length_take]; omega) (fun v' w4 hp4 ht4 => ?_)
              rw [List.append_assoc, HTK.out] at hp4
              have HP4 := hide hp4
              have HT4 := hide (HT3.out.trans ht4)
              obtain ⟨R3, c7, rfl⟩ := hp4.is
              generalize (uptoB ls e ++ rowB ls e p ++ (bt.take (k + 1)).map (plc ls p)).length = m3 at HP4 ⊢
              clear hp4 ht4 HP3 HT3 HTK HQ
              go_wp2_with fail
              go_roundw
              case rel => exact ⟨k + 1, by go_num, by omega, HP4, HT4⟩
              case measure => simp [intOf]; omega
            · obtain rfl : k = bt.length := by omega
              rw [List.take_length, ← HBT.out] at HP
              change Hid (PlW wr (w.heap.size + 1) _ (uptoB ls e ++ rowB ls e p ++ bat ls p e)) at HP
              have z0 : wr.cell? ⟨w1.heap.size, 0, none⟩ = some (.int .i64 (p : Int)) := HBH2.out.cell 0
              have z1 : wr.cell? ⟨w1.heap.size, 1, none⟩ = some (.int .i64 (e : Int)) := HBH2.out.cell 1
              have z2 : wr.cell? ⟨w1.heap.size, 2, none⟩ = some (.slice (some ⟨fb, e, none⟩) m cc) := HBH2.out.cell 2
              have HLA := hide (last_ok p e (some ⟨fb, e, none⟩) m cc wr)
              unfold hdV at HLA
              by_cases hm1' : m = 1
              · have hd : decide (m = 1) = true := by simp [hm1']
                rw [hd] at HLA
                have HE := hide (fun u w' (h : PlW w' (w.heap.size + 1) u (uptoB ls e ++ rowB ls e p ++ bat ls p e)) (hg : Gr w w') => show AllPost ls w (.returned u) w' from ⟨u, rfl, by rw [order_stop (HL.out.stop (by rw [HM.out]; exact hm1')), rowB, ← List.append_assoc]; exact h.pl, hg, h.fresh (by omega)⟩)
                clear hm1' hd
                go_wp2_with fail
                refine HLA.out.mono ?_
                rintro en w5 ⟨rfl, hg5⟩
                have HEE := hide (HE.out _ w5 (HP.out.gr hg5) (HGK2.out.trans hg5))
                clear hg5 HLA HE z0 z1 z2
                go_wp2_with fail
                go_ret
                exact HEE.out
              · have hd : decide (m = 1) = false := by simp [hm1']
                rw [hd] at HLA
                have hm2 : 2 ≤ m := by have := HNB.out; omega
                have hroom : m ≤ cc ∧ cc ≤ maxLen := by
                  have := HRM.out
                  have := HM.out
                  have := HCC.out
                  omega
                have HFO := hide (following_ok p e fb e m cc (by omega) hm2 hroom.1 hroom.2)
                unfold hdV at HFO
                have hhd : (hdC (SF ls F) (((e + 1 : Nat) : Int) * 1000 + (p : Int))).toArray = #[.int .i64 (p : Int), .int .i64 ((e + 1 : Nat) : Int), .slice (some ⟨fb, e + 1, none⟩) (m - 1) (cc - 1)] := by
                  rw [hd_sf ls F (e + 1) p (by omega), HFB.out, show nb ls p - (e + 1) = m - 1 by have := HM.out; omega, show (F p).2 - (e + 1) = cc - 1 by have := HCC.out; omega]
                have hl1 : l1.length ≤ 900000 := by
                  have h1 := HQ1.out fun _ => true
                  have h2 : cnt (fun _ => true) l = l.length := by simp [cnt]
                  have h3 : cnt (fun _ => true) l1 = l1.length := by simp [cnt]
                  have h4 := HL.out.mem.len
                  omega
                have HPU := hide (fun W (h : HB (SF ls F) W w.heap.size l1) => push_ok (((e + 1 : Nat) : Int) * 1000 + (p : Int)) h HP1.out hl1)
                rw [hhd] at HPU
                have HNX := hide (fun w' l2 all' => HL.out.next (w' := w') (l1 := l1) (l2 := l2) (all' := all') (by rw [HM.out]; exact hm1') HQ1.out)
                clear hm1' hd hroom hhd hl1 hm2
                go_wp2_with fail
                refine HLA.out.mono ?_
                rintro en w5 ⟨rfl, hg5⟩
                replace z0 := gr_cell hg5 _ _ z0
                replace z1 := gr_cell hg5 _ _ z1
                replace z2 := gr_cell hg5 _ _ z2
                have HG5 := hide hg5
                clear hg5 HLA
                go_wp2_with fail
                refine (HFO.out w5).mono ?_
                rintro en w6 ⟨rfl, hg6⟩
                have HG6 := hide (HG5.out.trans hg6)
                have HPC := hide (HPU.out w6 ((HB.tw HBV.out HT.out).gr HG6.out))
                clear hg6 HFO HG5 z0 z1 z2 HPU
                go_wp2_with fail
                refine HPC.out.mono ?_
                rintro en w7 ⟨rfl, l2, hb2, hp2, hq2, ht2⟩
                obtain ⟨e', p', h2, hnum⟩ := HNX.out w7 l2 _ hq2 hb2 hp2 (fun q hq => RowsI.tw ((RowsI.tw (HRV.out q hq) HT.out (by decide) (by decide)).gr HG6.out) ht2 (by decide) (by decide)) ((HP.out.gr HG6.out).tw ht2) (gr_tw (HGK2.out.trans HG6.out) ht2 (Nat.le_refl _))
                have H2 := hide h2
                have HK2 := hide (show 101 * ls.length ≤ (gk - 1) + (e' * ls.length + p') ∧ gk - 1 < gk by have := HGK.out; have := HMS.out; omega)
                clear hb2 hp2 hq2 ht2 h2 hnum HPC HNX
                go_wp2_with fail
                go_roundg (gk - 1)
                case rel => exact ⟨F, l2, e', p', H2, HK2.out.1⟩
                case measure => exact HK2.out.2

theorem All_ok (v : Value) (ls : List (List EntT)) (w : World) (hv : LogsX w v ls) (hl : ls.length ≤ 10) (hn : ∀ p, (lg ls p).length ≤ 100) (hb : ∀ p, ∀ e ∈ lg ls p, EntBnd e) :
    Calls Try.prog 11 #[v] w fun e w' => ∃ u, e = .returned u ∧ PlX w' u (orderL ls).1 ∧ Gr w w' ∧ Fresh w.heap.size u := All_main v ls w hv hl hn hb

end Go.Proofs.Ytncdmecppfmmgaa.HeadHeap
