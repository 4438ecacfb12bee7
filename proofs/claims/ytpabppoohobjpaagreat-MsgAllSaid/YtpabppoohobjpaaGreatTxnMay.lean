/-
  The document's MayTxn by its contract.
-/
import Derived.Test.YtpabppoohobjpaaGreatTxnWords
import Derived.Test.YtpabppoohobjpaaGreatKeyRef
import Derived.Test.YtpabppoohobjpaaGreatPlayKeys
namespace Go.Proofs.YtpabppoohobjpaaGreat
open Go Go.RowKit TxnMath KeyMath
set_option maxRecDepth 100000

set_option maxHeartbeats 1000000 in
theorem RefMayTxnB_ok (v : Value) (t : TxT) (w : World) (hv : TxAt w v t) (ht : TxBnd t) :
    Calls Tryz.prog 25 #[v] w fun e w' => e = .returned (.bool (mayT t)) ∧ Gr w w' := by
  obtain ⟨i0, hi, hz0, hz1, hz2⟩ := info_parts info_str
  obtain ⟨rv, wv, rfl, hr, hw⟩ := hv
  obtain ⟨A, c, rfl, hr⟩ := hr.is
  obtain ⟨B, d, rfl, hw⟩ := hw.is
  have HR := hide hr
  have HW := hide hw
  have hrn := ht.rn
  have hwn := ht.wn
  have hrd := hide ht.rd
  have hwr := hide ht.wr
  clear hr hw ht
  obtain ⟨b, hb⟩ : ∃ b, mayT t = b := ⟨_, rfl⟩
  have F1 := hide (fun h => hb.symm.trans (@may_rd t h))
  have F2 := hide (fun h => hb.symm.trans (@may_wr t h))
  have F3 := hide (fun h1 h2 => hb.symm.trans (@may_rest t h1 h2))
  rw [hb]
  clear hb
  go_enter Tryz.func25, Tryz.ntmps25
  go_wp2_with fail
  obtain ⟨W, hW⟩ : ∃ W, w.alloc (.cells #[.int .i64 t.ses, .int .i64 t.seq, .slice A t.reads.length c, .slice B t.writes.length d] 27) = W := ⟨_, rfl⟩
  have hg : Gr w W := by rw [← hW]; exact (Gr.refl _).alloc _
  have hbx : Bl W w.heap.size 27 #[.int .i64 t.ses, .int .i64 t.seq, .slice A t.reads.length c, .slice B t.writes.length d] := by rw [← hW]; exact Bl.new _ _ _
  rw [hW]
  clear hW
  generalize w.heap.size = g at hbx ⊢
  have HB := hide hbx
  have c2 : W.cell? ⟨g, 2, none⟩ = some (.slice A t.reads.length c) := hbx.cell 2
  clear hbx
  go_loopw [3, 5] (fun o i wr => ∃ k : Nat, i = .int .i64 k ∧ k ≤ t.reads.length ∧ OwnV 9 wr W.heap.size o (((t.reads.take k).map (·.key)).map Value.string) ∧ Hid (∀ j (hj : j < t.reads.length), j < k → rdOk t.reads[j] = true) ∧ Gr W wr) (fun _ i _ => t.reads.length - (intOf i).toNat)
  case atStart => exact ⟨0, rfl, by omega, OwnV.none_ _ _, fun j hj hk => absurd hk (by omega), Gr.refl _⟩
  case round =>
    obtain ⟨k, rfl, hk, hown, hso, hgr⟩ := hrel
    have a2 := gr_cell hgr _ _ c2
    by_cases hlt : k < t.reads.length
    · have hlt' : (k : Int) < (t.reads.length : Int) := by omega
      obtain ⟨ad, c', e1, a0, a1, b2, a3⟩ := (HR.out.gr (hg.trans hgr)).rd hlt
      simp only [Value.slice.injEq, true_and] at e1
      obtain ⟨rfl, rfl⟩ := e1
      have hlx := hide (hrd.out _ (List.getElem_mem hlt))
      have hno := hide (all_false (p := rdOk) hlt)
      have hyes := hide (all_more hso.out hlt)
      have hmap := hide (map_take_more (·.key) hlt)
      have hlen : ((t.reads.take k).map (·.key)).length = k := by rw [List.length_map, List.length_take]; omega
      obtain ⟨x, hx⟩ : ∃ x, t.reads[k]'hlt = x := ⟨_, rfl⟩
      simp only [hx] at a0 a1 b2 a3 hlx hno hyes hmap
      clear hx hso
      obtain ⟨th, hth⟩ : ∃ th, x.there = th := ⟨_, rfl⟩
      have hway := rd_way x
      rw [hth] at hway a3
      clear hth
      have hxb := hide (Bl.new wr 47 #[.string x.key, .int .i64 x.ver, .string x.val, .bool th])
      have hlow := hide hown.lt
      replace hown := hown.gr ((Gr.refl wr).alloc (.cells #[.string x.key, .int .i64 x.ver, .string x.val, .bool th] 47))
      replace hgr := hgr.alloc (.cells #[.string x.key, .int .i64 x.ver, .string x.val, .bool th] 47)
      have hnewr : wr.heap.size < (wr.alloc (.cells #[.string x.key, .int .i64 x.ver, .string x.val, .bool th] 47)).heap.size := by simp
      rcases hway with ⟨h1, hok⟩ | ⟨h1, h2, hok⟩ | ⟨h1, h2, rfl, h4, hok⟩ | ⟨h1, h2, rfl, h4, hok⟩ | ⟨h1, h2, rfl, h4, hok⟩ | ⟨h1, h2, rfl, h4, hok⟩
      iterate 4
        · replace hno := hide (F1.out (hno.out hok))
          try have h5 := isEmpty_no h4
          try (have h6 : (x.ver == 0) = true := (by rw [h4]; rfl); clear h4)
          clear hyes hok F1 F2 F3
          go_wp2_with (at_builtin; refine wpList_pushV rfl (.tmp 21) (.tmp 24) _ rfl 9 i0 _ 16 Tryz.underlying28 hi hz0 hz1 hz2 rfl rfl rfl hown hgr (congrArg (fun z => Value.slice (some ⟨z, 0, none⟩) 1 1) (by simp)) (by rw [List.length_map, hlen]; unfold maxLen; omega) (by rw [List.length_map, hlen]; omega) ?_; intro v3 w3 ho3 hg3 hp3; have hx3 : Bl w3 wr.heap.size 47 #[.string x.key, .int .i64 x.ver, .string x.val, .bool _] := (hp3.1.block wr.heap.size hnewr (fun e => by have := hlow.out _ e.symm; omega)).trans hxb.out; have x1 : w3.cell? ⟨wr.heap.size, 1, none⟩ = some (.int .i64 x.ver) := hx3.cell 1; have x2 : w3.cell? ⟨wr.heap.size, 2, none⟩ = some (.string x.val) := hx3.cell 2; have x3 : w3.cell? ⟨wr.heap.size, 3, none⟩ = some (.bool _) := hx3.cell 3; clear hown hgr hp3 hx3 hnewr a0 a1 b2 a3 a2)
          go_ret
          exact ⟨by rw [hno.out]; rfl, hg.trans hg3⟩
      all_goals
        replace hyes := hide (hyes.out hok)
        clear hno hok
        go_wp2_with (at_builtin; refine wpList_pushV rfl (.tmp 21) (.tmp 24) _ rfl 9 i0 _ 16 Tryz.underlying28 hi hz0 hz1 hz2 rfl rfl rfl hown hgr (congrArg (fun z => Value.slice (some ⟨z, 0, none⟩) 1 1) (by simp)) (by rw [List.length_map, hlen]; unfold maxLen; omega) (by rw [List.length_map, hlen]; omega) ?_; intro v3 w3 ho3 hg3 hp3; have hx3 : Bl w3 wr.heap.size 47 #[.string x.key, .int .i64 x.ver, .string x.val, .bool _] := (hp3.1.block wr.heap.size hnewr (fun e => by have := hlow.out _ e.symm; omega)).trans hxb.out; have x1 : w3.cell? ⟨wr.heap.size, 1, none⟩ = some (.int .i64 x.ver) := hx3.cell 1; have x2 : w3.cell? ⟨wr.heap.size, 2, none⟩ = some (.string x.val) := hx3.cell 2; have x3 : w3.cell? ⟨wr.heap.size, 3, none⟩ = some (.bool _) := hx3.cell 3; clear hown hgr hp3 hx3 hnewr a0 a1 b2 a3 a2)
        go_roundw
        case rel => exact ⟨k + 1, by go_num, by omega, by rw [hmap.out, List.map_append]; exact ho3, hyes, hg3⟩
        case measure => simp [intOf]; omega
    · obtain rfl : k = t.reads.length := by omega
      have hall := hide (all_done (Nat.le_refl _) hso.out)
      have F3' := hide (F3.out hall.out)
      rw [List.take_length] at hown
      have hg2 := hg.trans hgr
      have HO := hide hown
      have HB2 := hide (HB.out.gr hgr)
      clear F3 hall hso c2 F1 hown HR HB
      have c3 : wr.cell? ⟨g, 3, none⟩ = some (.slice B t.writes.length d) := (HB2.out).cell 3
      go_wp2_with fail
      go_loopw [4, 7] (fun o i wz => ∃ k : Nat, i = .int .i64 k ∧ k ≤ t.writes.length ∧ OwnV 9 wz wr.heap.size o (((t.writes.take k).map (·.key)).map Value.string) ∧ Hid (∀ j (hj : j < t.writes.length), j < k → wrOk t.writes[j] = true) ∧ Gr wr wz) (fun _ i _ => t.writes.length - (intOf i).toNat)
      case atStart => exact ⟨0, rfl, by omega, OwnV.none_ _ _, fun j hj hk => absurd hk (by omega), Gr.refl _⟩
      case round =>
        obtain ⟨k, rfl, hk2, hown, hso, hgr⟩ := hrel
        have c3' := gr_cell hgr _ _ c3
        by_cases hlt2 : k < t.writes.length
        · have hlt' : (k : Int) < (t.writes.length : Int) := by omega
          obtain ⟨ad, c', e1, a0, a1, b2⟩ := (HW.out.gr (hg2.trans hgr)).wr hlt2
          simp only [Value.slice.injEq, true_and] at e1
          obtain ⟨rfl, rfl⟩ := e1
          have hno := hide (all_false (p := wrOk) hlt2)
          have hyes := hide (all_more hso.out hlt2)
          have hmap := hide (map_take_more (·.key) hlt2)
          have hlen : ((t.writes.take k).map (·.key)).length = k := by rw [List.length_map, List.length_take]; omega
          have hgz := hide (hg2.trans hgr)
          obtain ⟨x, hx⟩ : ∃ x, t.writes[k]'hlt2 = x := ⟨_, rfl⟩
          simp only [hx] at a0 a1 b2 hno hyes hmap
          clear hx hso
          obtain ⟨th, hth⟩ : ∃ th, x.gone = th := ⟨_, rfl⟩
          have hway := wr_way x
          rw [hth] at hway b2
          clear hth
          have hxb := hide (Bl.new wr 78 #[.string x.key, .string x.val, .bool th])
          have hlow := hide hown.lt
          replace hown := hown.gr ((Gr.refl wr).alloc (.cells #[.string x.key, .string x.val, .bool th] 78))
          replace hgr := hgr.alloc (.cells #[.string x.key, .string x.val, .bool th] 78)
          have hnewr : wr.heap.size < (wr.alloc (.cells #[.string x.key, .string x.val, .bool th] 78)).heap.size := by simp
          rcases hway with ⟨h2, hok⟩ | ⟨h2, rfl, h4, hok⟩ | ⟨h2, rfl, h4, hok⟩ | ⟨h2, rfl, hok⟩
          iterate 2
            · replace hno := hide (F2.out (hno.out hok))
              try have h5 := isEmpty_no h4
              clear hyes hok F2 F3'
              go_wp2_with (at_builtin; refine wpList_pushV rfl (.tmp 66) (.tmp 69) _ rfl 9 i0 _ 16 Tryz.underlying28 hi hz0 hz1 hz2 rfl rfl rfl hown hgr (congrArg (fun z => Value.slice (some ⟨z, 0, none⟩) 1 1) (by simp)) (by rw [List.length_map, hlen]; unfold maxLen; omega) (by rw [List.length_map, hlen]; omega) ?_; intro v3 w3 ho3 hg3 hp3; have hx3 : Bl w3 wr.heap.size 78 #[.string x.key, .string x.val, .bool _] := (hp3.1.block wr.heap.size hnewr (fun e => by have := hlow.out _ e.symm; omega)).trans hxb.out; have x1 : w3.cell? ⟨wr.heap.size, 1, none⟩ = some (.string x.val) := hx3.cell 1; have x2 : w3.cell? ⟨wr.heap.size, 2, none⟩ = some (.bool _) := hx3.cell 2; clear hown hgr hp3 hx3 hnewr a0 a1 b2 c3')
              go_ret
              exact ⟨by rw [hno.out]; rfl, hg2.trans hg3⟩
          all_goals
            replace hyes := hide (hyes.out hok)
            clear hno hok
            go_wp2_with (at_builtin; refine wpList_pushV rfl (.tmp 66) (.tmp 69) _ rfl 9 i0 _ 16 Tryz.underlying28 hi hz0 hz1 hz2 rfl rfl rfl hown hgr (congrArg (fun z => Value.slice (some ⟨z, 0, none⟩) 1 1) (by simp)) (by rw [List.length_map, hlen]; unfold maxLen; omega) (by rw [List.length_map, hlen]; omega) ?_; intro v3 w3 ho3 hg3 hp3; have hx3 : Bl w3 wr.heap.size 78 #[.string x.key, .string x.val, .bool _] := (hp3.1.block wr.heap.size hnewr (fun e => by have := hlow.out _ e.symm; omega)).trans hxb.out; have x1 : w3.cell? ⟨wr.heap.size, 1, none⟩ = some (.string x.val) := hx3.cell 1; have x2 : w3.cell? ⟨wr.heap.size, 2, none⟩ = some (.bool _) := hx3.cell 2; clear hown hgr hp3 hx3 hnewr a0 a1 b2 c3')
            go_roundw
            case rel => exact ⟨k + 1, by go_num, by omega, by rw [hmap.out, List.map_append]; exact ho3, hyes, hg3⟩
            case measure => simp [intOf]; omega
        · obtain rfl : k = t.writes.length := by omega
          have hall2 := all_done (Nat.le_refl _) hso.out
          have hb := hide (F3'.out hall2)
          rw [List.take_length] at hown
          have hg3 := hide (hg2.trans hgr)
          have HRs := HO.out.gr hgr
          obtain ⟨rA, rc, rfl, hRS⟩ := HRs.strs (fun s hs => by obtain ⟨y, hy, rfl⟩ := List.mem_map.1 hs; have := (hrd.out y hy).key; unfold maxLen; omega)
          obtain ⟨wA, wc, rfl, hWS⟩ := hown.strs (fun s hs => by obtain ⟨y, hy, rfl⟩ := List.mem_map.1 hs; have := (hwr.out y hy).key; unfold maxLen; omega)
          have C1 := hide (RefRisingB_ok rA _ rc _ rfl wr hRS (fun s hs => by obtain ⟨y, hy, rfl⟩ := List.mem_map.1 hs; have := (hrd.out y hy).key; omega) (by rw [List.length_map]; omega))
          have C2 := hide (fun w' (h : Gr wr w') => RefRisingB_ok wA _ wc _ rfl w' (hWS.gr h) (fun s hs => by obtain ⟨y, hy, rfl⟩ := List.mem_map.1 hs; have := (hwr.out y hy).key; omega) (by rw [List.length_map]; omega))
          have l1 : (t.reads.map (·.key)).length = t.reads.length := List.length_map _
          have l2 : (t.writes.map (·.key)).length = t.writes.length := List.length_map _
          rw [l1] at C1 ⊢
          rw [l2] at C2 ⊢
          have hbz := HB2.out.gr hgr
          have b0 : wr.cell? ⟨g, 0, none⟩ = some (.int .i64 t.ses) := hbz.cell 0
          have b1 : wr.cell? ⟨g, 1, none⟩ = some (.int .i64 t.seq) := hbz.cell 1
          clear hbz hall2 hso hown HRs hgr
          by_cases q0 : 1 ≤ t.ses
          rotate_left
          · have hb2 := hide (show b = false by rw [hb.out, decide_eq_false q0]; simp)
            clear hb C1 C2 HW
            go_wp2_with fail
            go_ret
            exact ⟨by rw [hb2.out]; rfl, hg3.out⟩
          by_cases q1 : t.ses ≤ 9
          rotate_left
          · have hb2 := hide (show b = false by rw [hb.out, decide_eq_false q1]; simp)
            clear hb C1 C2 HW
            go_wp2_with fail
            go_ret
            exact ⟨by rw [hb2.out]; rfl, hg3.out⟩
          by_cases q2 : 1 ≤ t.seq
          rotate_left
          · have hb2 := hide (show b = false by rw [hb.out, decide_eq_false q2]; simp)
            clear hb C1 C2 HW
            go_wp2_with fail
            go_ret
            exact ⟨by rw [hb2.out]; rfl, hg3.out⟩
          by_cases q3 : t.seq ≤ 1000
          rotate_left
          · have hb2 := hide (show b = false by rw [hb.out, decide_eq_false q3]; simp)
            clear hb C1 C2 HW
            go_wp2_with fail
            go_ret
            exact ⟨by rw [hb2.out]; rfl, hg3.out⟩
          by_cases q4 : t.reads.length ≤ 6
          rotate_left
          · have hb2 := hide (show b = false by rw [hb.out, decide_eq_false q4]; simp)
            have q4' : ¬ (t.reads.length : Int) ≤ 6 := by omega
            clear hb C1 C2 HW
            go_wp2_with fail
            go_ret
            exact ⟨by rw [hb2.out]; rfl, hg3.out⟩
          have q4' : (t.reads.length : Int) ≤ 6 := by omega
          by_cases q5 : t.writes.length ≤ 4
          rotate_left
          · have hb2 := hide (show b = false by rw [hb.out, decide_eq_false q5]; simp)
            have q5' : ¬ (t.writes.length : Int) ≤ 4 := by omega
            clear hb C1 C2 HW
            go_wp2_with fail
            go_ret
            exact ⟨by rw [hb2.out]; rfl, hg3.out⟩
          have q5' : (t.writes.length : Int) ≤ 4 := by omega
          have hb3 := hide (show b = (risingK (t.reads.map (·.key)) && risingK (t.writes.map (·.key))) by rw [hb.out, decide_eq_true q0, decide_eq_true q1, decide_eq_true q2, decide_eq_true q3, decide_eq_true q4, decide_eq_true q5]; rfl)
          generalize risingK (t.reads.map (·.key)) = k1 at hb3 C1
          generalize risingK (t.writes.map (·.key)) = k2 at hb3 C2
          clear hb
          cases k1
          · go_wp2_with fail
            refine C1.out.mono ?_
            rintro e w5 ⟨rfl, hg5⟩
            go_wp2_with fail
            go_ret
            exact ⟨by rw [hb3.out]; rfl, hg3.out.trans hg5⟩
          · go_wp2_with fail
            refine C1.out.mono ?_
            rintro e w5 ⟨rfl, hg5⟩
            go_wp2_with fail
            refine (C2.out _ hg5).mono ?_
            rintro e w6 ⟨rfl, hg6⟩
            go_wp2_with fail
            go_ret
            exact ⟨by rw [hb3.out]; rfl, (hg3.out.trans hg5).trans hg6⟩

theorem RefMayTxn_ok (v : Value) (t : TxT) (w : World) (hv : TxAt w v t) (ht : TxLim 1000000 t) :
    Calls Tryz.prog 25 #[v] w fun e w' => e = .returned (.bool (mayT t)) ∧ Gr w w' := RefMayTxnB_ok v t w hv ht.bnd

end Go.Proofs.YtpabppoohobjpaaGreat
