/-
  The document's order of many logs, by its contract.
-/
import Derived.Test.YtncdmecppfmmgaaMgMem
import Derived.Test.YtncdmecppfmmgaaEpRefCut
namespace Go.Proofs.Ytncdmecppfmmgaa
open Go Go.RowKit TxnMath KeyMath MsgMath EpMath MgMath
set_option maxRecDepth 100000

theorem bat_at {ls : List (List EntT)} {p e k : Nat} (he : e < (ct ls p).length) (hk : k < (ct ls p)[e].length) : (bat ls p e).take (k + 1) = (bat ls p e).take k ++ [plc ls p (ct ls p)[e][k]] := by
  have h1 : bat ls p e = (ct ls p)[e].map (plc ls p) := by unfold bat; simp [he]
  rw [h1, List.take_succ_eq_append_getElem (by simpa using hk)]
  simp
theorem bat_len {ls : List (List EntT)} {p e : Nat} (he : e < (ct ls p).length) : (bat ls p e).length = (ct ls p)[e].length := by
  unfold bat; simp [he]
theorem lg_at {ls : List (List EntT)} {p : Nat} (h : p < ls.length) : lg ls p = ls[p] := by unfold lg; simp [h]
theorem row_bnd (ls : List (List EntT)) (N : Nat) (hN : ∀ p, (lg ls p).length ≤ N) (e : Nat) : ∀ p, (rowB ls e p).length ≤ p * (N + 1)
  | 0 => by simp [rowB]
  | p + 1 => by
    have h1 := row_bnd ls N hN e p
    have h2 : (bat ls p e).length ≤ N + 1 := by
      unfold bat
      rw [List.length_map]
      by_cases he : e < (ct ls p).length
      · have := cut_row ((lg ls p).map (·.shut)) _ (List.getElem_mem he)
        rw [List.length_map] at this
        have := hN p
        simp only [List.getD_eq_getElem?_getD, List.getElem?_eq_getElem he, Option.getD_some]
        unfold ct at *
        omega
      · simp only [List.getD_eq_getElem?_getD]
        rw [List.getElem?_eq_none (by omega)]
        simp
    rw [rowB, List.length_append, Nat.add_mul]
    omega
theorem upto_bnd (ls : List (List EntT)) (N : Nat) (hN : ∀ p, (lg ls p).length ≤ N) : ∀ e, (uptoB ls e).length ≤ e * (ls.length * (N + 1))
  | 0 => by simp [uptoB]
  | e + 1 => by
    have h1 := upto_bnd ls N hN e
    have h2 := row_bnd ls N hN e ls.length
    rw [uptoB, List.length_append, Nat.add_mul]
    omega

def OrderPost (w : World) (ls : List (List EntT)) (e : Ending) (w' : World) : Prop := ∃ u, e = .returned (.tuple #[u, .int .i64 (orderL ls).2]) ∧ PlX w' u (orderL ls).1 ∧ Gr w w'

set_option maxHeartbeats 8000000 in
theorem order_ok (v : Value) (ls : List (List EntT)) (w : World) (hv : LogsX w v ls) (hl : ls.length ≤ 10) (hn : ∀ p, (lg ls p).length ≤ 100) :
    Calls Try.prog 29 #[v] w (OrderPost w ls) := by
  have HV := hide hv
  obtain ⟨A, c, rfl, _⟩ := hv.is
  have HN := hide hn
  clear hv hn
  rcases Nat.eq_zero_or_pos ls.length with h0 | h0
  · have ho := order_none h0
    go_enter Try.func29, Try.ntmps29
    go_wp2_with fail
    go_ret2
    exact ⟨.slice none 0 0, by rw [ho]; rfl, by rw [ho]; exact PlX.nil w, Gr.refl w⟩
  obtain ⟨e0, p0, hs⟩ : ∃ e p, Stop ls e p := ⟨_, _, stop_best h0⟩
  have HO := hide (order_stop hs)
  have HS := hide hs
  have hp0 := hs.lt
  have HBU := hide (fun e => upto_bnd ls 100 HN.out e)
  have HBR := hide (fun e p => row_bnd ls 100 HN.out e p)
  have he0 : e0 ≤ 101 := by
    have h1 := hs.is
    have h2 := cut_bnd ((lg ls p0).map (·.shut))
    have h3 := HN.out p0
    rw [List.length_map] at h2
    unfold nb ct at h1
    omega
  clear hs
  have hz : ((ls.length : Int) == 0) = false := by rw [beq_eq_false_iff_ne]; omega
  have HGW := hide (Gr.refl w)
  have HC0 := hide (CutsI.none_ w w.heap.size)
  go_enter Try.func29, Try.ntmps29
  go_wp2_with fail
  go_loopw [4, 5] (fun v i wr => ∃ k : Nat, i = .int .i64 k ∧ k ≤ ls.length ∧ Hid (CutsI wr w.heap.size v ((List.range k).map (ct ls))) ∧ Hid (Gr w wr)) (fun _ i _ => ls.length - (intOf i).toNat)
  case atStart => exact ⟨0, rfl, by omega, HC0, HGW⟩
  case round =>
    obtain ⟨k, rfl, hk, HC, HR⟩ := hrel
    obtain ⟨A1, c1, hv1⟩ := HC.out.is
    rw [List.length_map, List.length_range] at hv1
    subst hv1
    by_cases hlt : k < ls.length
    · have hlt' : (k : Int) < (ls.length : Int) := by omega
      obtain ⟨A', c', e1, _, hj⟩ := (HV.out.gr HR.out).is
      simp only [Value.slice.injEq, true_and] at e1
      obtain ⟨rfl, rfl⟩ := e1
      obtain ⟨ad, A2, c2, rfl, a0, hx⟩ := hj k hlt
      have hln := HN.out k
      rw [lg_at hlt] at hln
      have HCUT := hide (fun W (h : Gr wr W) => RefCut_ok _ ls[k] W (hx.gr h) (by omega))
      have HCT := hide (show cutL (ls[k].map (·.shut)) = ct ls k from by unfold ct; rw [lg_at hlt])
      rw [HCT.out] at HCUT
      have hws := HR.out.size
      clear hj hx hln
      generalize ls[k].length = n2 at a0 HCUT
      go_wp2_with fail
      refine (HCUT.out _ (Gr.refl wr)).mono ?_
      rintro e w2 ⟨u, rfl, hru, hg2⟩
      have HRU := hide hru
      have HR2 := hide (HR.out.trans hg2)
      have HC2 := hide (HC.out.gr hg2)
      obtain ⟨A3, c3, hv3⟩ := hru.is
      generalize (ct ls k).length = n3 at hv3
      subst hv3
      clear hru hg2 HCUT a0
      go_wp2_with (at_builtin; refine wpList_pushCut rfl (.tmp 20) (.tmp 26) rfl (w0 := w) rfl HC2.out HRU.out hws HR2.out (congrArg (fun z => Value.slice (some ⟨z, 0, none⟩) 1 1) (by simp)) (by simp; omega) ?_; intro v4 w4 hc4 hg4; obtain ⟨A4, c4, hv4⟩ := hc4.is; generalize List.length (_ ++ _) = m4 at hv4; subst hv4; have HC4 := hide hc4; have HG4 := hide hg4; clear hc4 hg4)
      go_roundw
      case rel => exact ⟨k + 1, by go_num, by omega, by unfold Hid; rw [List.range_succ, List.map_append]; exact HC4.out, HG4⟩
      case measure => simp [intOf]; omega
    · obtain rfl : k = ls.length := by omega
      go_wp2_with fail
      have HP0 := hide (PlO.none_ w wr wr.heap.size)
      have HWR := hide (Gr.refl wr)
      obtain ⟨W1, hW1⟩ : ∃ W1, wr = W1 := ⟨_, rfl⟩
      rw [hW1] at HC HR HP0 HWR ⊢
      clear hW1
      go_loopw [6, 7] (fun v i wr => ∃ e : Nat, i = .int .i64 e ∧ e ≤ e0 ∧ Hid (PlO w wr W1.heap.size v (uptoB ls e)) ∧ Hid (Gr W1 wr)) (fun _ i _ => e0 + 1 - (intOf i).toNat)
      case atStart => exact ⟨0, rfl, by omega, HP0, HWR⟩
      case round =>
        obtain ⟨e, rfl, he, HP, HR1⟩ := hrel
        obtain ⟨A5, c5, hv5⟩ := HP.out.is
        generalize (uptoB ls e).length = n5 at hv5
        subst hv5
        go_wp2_with fail
        have HPr : Hid (PlO w wr W1.heap.size (.slice A5 n5 c5) (uptoB ls e ++ rowB ls e 0)) := by
          unfold Hid; rw [rowB, List.append_nil]; exact HP.out
        go_loopw [6, 8] (fun v i wr => ∃ p : Nat, i = .int .i64 p ∧ p ≤ ls.length ∧ (e = e0 → p ≤ p0) ∧ Hid (PlO w wr W1.heap.size v (uptoB ls e ++ rowB ls e p)) ∧ Hid (Gr W1 wr)) (fun _ i _ => ls.length - (intOf i).toNat)
        case atStart => exact ⟨0, rfl, by omega, fun _ => by omega, HPr, HR1⟩
        case round =>
          obtain ⟨p, rfl, hp, hpe, HP3, HR3⟩ := hrel
          obtain ⟨A6, c6, hv6⟩ := HP3.out.is
          generalize (uptoB ls e ++ rowB ls e p).length = n6 at hv6
          subst hv6
          by_cases hlt : p < ls.length
          · have hlt' : (p : Int) < (ls.length : Int) := by omega
            have hel : e < (ct ls p).length := by have := HS.out.all p hlt; unfold nb at this; omega
            have hel' : (e : Int) < ((ct ls p).length : Int) := by omega
            obtain ⟨g, cc, e1, hj⟩ := HC.out.at_ (by simp; omega)
            simp only [List.length_map, List.length_range, Value.slice.injEq, true_and] at e1
            obtain ⟨rfl, rfl⟩ := e1
            obtain ⟨x, B', a0, hx⟩ := hj p (by simpa using hlt)
            simp only [List.getElem_map, List.getElem_range] at hx
            obtain ⟨g2, c2, rfl, hr⟩ := hx.at_ (by omega)
            obtain ⟨A3, c3, a1, _, n1⟩ := hr e hel
            obtain ⟨AL, cL, e1, _, hjl⟩ := HV.out.is
            simp only [Value.slice.injEq, true_and] at e1
            obtain ⟨rfl, rfl⟩ := e1
            obtain ⟨ad, A', c', rfl, l0, hxl⟩ := hjl p hlt
            have HA0 := hide (fun W (h : Gr W1 W) => gr_cell h _ _ a0)
            have HA1 := hide (fun W (h : Gr W1 W) => gr_cell h _ _ a1)
            have HN1 := hide n1
            have HL0 := hide (fun W (h : Gr W1 W) => gr_cell (HR.out.trans h) _ _ l0)
            have HXL := hide hxl
            have HRNG := hide (cut_rng ((lg ls p).map (·.shut)) _ (List.getElem_mem (show e < (cutL ((lg ls p).map (·.shut))).length from hel)))
            have HBAT := hide (fun k (hk : k < (ct ls p)[e].length) => bat_at hel hk)
            have HBL := hide (bat_len hel)
            have hnl := HN.out p
            have HLG := hide (lg_at hlt)
            clear hj hx hr n1 hjl hxl l0 a0 a1
            have hrl : (ct ls p)[e].length ≤ 101 := by
              have := cut_row ((lg ls p).map (·.shut)) _ (List.getElem_mem (show e < (cutL ((lg ls p).map (·.shut))).length from hel))
              rw [List.length_map] at this
              unfold ct
              omega
            have HK0 : Hid (PlO w wr W1.heap.size (.slice A6 n6 c6) (uptoB ls e ++ rowB ls e p ++ (bat ls p e).take 0)) := by
              unfold Hid; rw [List.take_zero, List.append_nil]; exact HP3.out
            change Hid (∀ x ∈ (ct ls p)[e], _) at HRNG
            generalize hrow : (ct ls p)[e] = row at *
            have hrow' := hide hrow
            clear hrow
            go_wp2_with fail
            go_loopw [6, 9] (fun v i ws => ∃ k : Nat, i = .int .i64 k ∧ k ≤ row.length ∧ Hid (PlO w ws W1.heap.size v (uptoB ls e ++ rowB ls e p ++ (bat ls p e).take k)) ∧ Hid (Gr W1 ws)) (fun _ i _ => row.length - (intOf i).toNat)
            case atStart => exact ⟨0, rfl, by omega, HK0, HR3⟩
            case round =>
              obtain ⟨k, rfl, hk, HP4, HR4⟩ := hrel
              obtain ⟨A7, c7, hv7⟩ := HP4.out.is
              generalize (uptoB ls e ++ rowB ls e p ++ (bat ls p e).take k).length = n7 at hv7
              subst hv7
              have b0 := HA0.out _ HR4.out
              have b1 := HA1.out _ HR4.out
              by_cases hkl : k < row.length
              · have hkl' : (k : Int) < (row.length : Int) := by omega
                obtain ⟨a3, rfl, y0⟩ := HN1.out k hkl
                have z0 := gr_cell HR4.out _ _ y0
                have hrng := HRNG.out _ (List.getElem_mem hkl)
                rw [List.length_map] at hrng
                obtain ⟨m, hm⟩ : ∃ m : Nat, row[k] = (m : Int) + 1 := ⟨(row[k] - 1).toNat, by omega⟩
                have hml : m < ls[p].length := by have := HLG.out; rw [← this]; omega
                have hml' : (m : Int) < (ls[p].length : Int) := by omega
                have HT := hide (HBAT.out k hkl)
                rw [hm] at z0 HT
                obtain ⟨ad2, c'', q, e3, hq, _, _, t2, t3, t4, t5⟩ := HXL.out.ent hml
                simp only [Value.slice.injEq, true_and] at e3
                obtain ⟨rfl, rfl⟩ := e3
                have HPL := hide (show (plc ls p ((m : Int) + 1)).t = ls[p][m].t from by unfold plc; rw [HLG.out]; simp [hml])
                have l1 := HL0.out _ HR4.out
                have hgw := HR.out.trans HR4.out
                replace t2 := gr_cell hgw _ _ t2
                replace t3 := gr_cell hgw _ _ t3
                replace t4 := gr_cell hgw _ _ t4
                replace t5 := gr_cell hgw _ _ t5
                have HQ := hide hq
                obtain ⟨⟨B1, d1, q1, _⟩, _⟩ := hq.rd
                obtain ⟨⟨B2, d2, q2, _⟩, _⟩ := hq.wr
                obtain ⟨qa, qb⟩ := q
                simp only at q1 q2 t4 t5
                rw [q1] at t4 HQ
                rw [q2] at t5 HQ
                generalize (List.map rdC ls[p][m].t.reads).length = n8 at t4 HQ
                generalize (List.map wrC ls[p][m].t.writes).length = n9 at t5 HQ
                rw [← HPL.out] at HQ t2 t3
                clear hq q1 q2 HPL y0 hrng hm
                have hm100 : ls[p].length ≤ 100 := by rw [← HLG.out]; exact hnl
                have hix : (m : Int) + 1 - 1 = (m : Int) := by omega
                have hwx : IntKind.i64.wrap (m : Int) = (m : Int) := IntWalk.i64_in _ (by omega)
                have hub : (uptoB ls e).length ≤ 101 * (10 * (100 + 1)) := Nat.le_trans (HBU.out e) (Nat.mul_le_mul (by omega) (Nat.mul_le_mul_right _ hl))
                have hrb : (rowB ls e p).length ≤ p * (100 + 1) := HBR.out e p
                have HLEN := hide (show (uptoB ls e ++ rowB ls e p ++ (bat ls p e).take k).length ≤ 1000000 from by
                  rw [List.length_append, List.length_append, List.length_take]
                  omega)
                clear hub hrb
                go_wp2_with (at_builtin; refine pause ?_)
                refine hide ?_
                refine wpList_pushPl rfl (.tmp 58) (.tmp 71) rfl (w0 := w) (w1 := W1) (plc ls p ((m : Int) + 1)) HQ.out rfl rfl rfl rfl rfl rfl rfl HP4.out HR4.out (congrArg (fun z => Value.slice (some ⟨z, 0, none⟩) 1 1) (by simp)) HLEN.out ?_
                intro v8 w8 hp8 hg8
                obtain ⟨A8, c8, hv8⟩ := hp8.is
                generalize List.length (_ ++ _) = m8 at hv8
                subst hv8
                have HP8 := hide hp8
                have HG8 := hide hg8
                clear hp8 hg8
                go_wp2_with fail
                go_roundw
                case rel => exact ⟨k + 1, by go_num, by omega, by unfold Hid; rw [HT.out, ← List.append_assoc]; exact HP8.out, HG8⟩
                case measure => simp [intOf]; omega
              · obtain rfl : k = row.length := by omega
                have HP5 : Hid (PlO w wr W1.heap.size (.slice A7 n7 c7) (uptoB ls e ++ rowB ls e (p + 1))) := by
                  have := HP4.out
                  rw [List.take_of_length_le (by rw [HBL.out]; exact Nat.le_refl _), List.append_assoc] at this
                  exact this
                have HR5 := hide HR4.out
                have hwn : IntKind.i64.wrap (((ct ls p).length : Int) - 1) = ((ct ls p).length : Int) - 1 := IntWalk.i64_in _ (by have h2 : (ct ls p).length ≤ (lg ls p).length + 1 := (by have := cut_bnd ((lg ls p).map (·.shut)); rw [List.length_map] at this; exact this); omega)
                clear HP4
                by_cases hst : e + 1 = (ct ls p).length
                · have hst' : ((ct ls p).length : Int) - 1 = (e : Int) := by omega
                  have hee : e = e0 := by have := HS.out.all p hlt; unfold nb at this; omega
                  have hpp : p = p0 := by
                    have h1 := hpe hee
                    rcases Nat.lt_or_ge p p0 with h2 | h2
                    · have := HS.out.ahead p h2; unfold nb at this; omega
                    · omega
                  have HFIN := hide (show orderL ls = (uptoB ls e ++ rowB ls e (p + 1), (p : Int)) from by rw [HO.out, hee, hpp])
                  clear hee hpp hwn
                  go_wp2_with fail
                  go_ret2
                  exact ⟨_, by rw [HFIN.out]; rfl, by rw [HFIN.out]; exact HP5.out.pl (HR.out.trans HR5.out), HR.out.trans HR5.out⟩
                · have hst' : ((e : Int) == ((ct ls p).length : Int) - 1) = false := by rw [beq_eq_false_iff_ne]; omega
                  have hpn : e = e0 → p + 1 ≤ p0 := fun h => by
                    have h1 := hpe h
                    rcases Nat.lt_or_ge p p0 with h2 | h2
                    · omega
                    · have h3 : p = p0 := by omega
                      have := HS.out.is
                      unfold nb at this
                      rw [h, h3] at hst
                      omega
                  go_wp2_with fail
                  go_roundw
                  case rel => exact ⟨p + 1, by go_num, by omega, hpn, HP5, HR5⟩
                  case measure => simp [intOf]; omega
          · obtain rfl : p = ls.length := by omega
            have hne : e ≠ e0 := fun h => by have := hpe h; omega
            go_wp2_with fail
            go_roundw
            case rel => exact ⟨e + 1, by go_num, by omega, by unfold Hid; rw [uptoB]; exact HP3.out, HR3⟩
            case measure => simp [intOf]; omega

end Go.Proofs.Ytncdmecppfmmgaa

/-
  The document's All and Head by their contracts.
-/
namespace Go.Proofs.Ytncdmecppfmmgaa
open Go Go.RowKit TxnMath KeyMath MsgMath EpMath MgMath
set_option maxRecDepth 100000

set_option maxHeartbeats 1000000 in
theorem RefAll_ok (v : Value) (ls : List (List EntT)) (w : World) (hv : LogsX w v ls) (hl : ls.length ≤ 10) (hn : ∀ p, (lg ls p).length ≤ 100) :
    Calls Try.prog 12 #[v] w fun e w' => ∃ u, e = .returned u ∧ PlX w' u (orderL ls).1 ∧ Gr w w' := by
  have HO := hide (order_ok v ls w hv hl hn)
  obtain ⟨A, c, rfl, _⟩ := hv.is
  clear hv
  go_enter Try.func12, Try.ntmps12
  go_wp2_with fail
  refine HO.out.mono ?_
  rintro e w1 ⟨u, rfl, hp, hg⟩
  have HP := hide hp
  have HG := hide hg
  clear hp hg
  go_wp2_with fail
  go_ret
  exact ⟨_, rfl, HP.out, HG.out⟩

set_option maxHeartbeats 1000000 in
theorem RefHead_ok (v : Value) (ls : List (List EntT)) (w : World) (hv : LogsX w v ls) (hl : ls.length ≤ 10) (hn : ∀ p, (lg ls p).length ≤ 100) :
    Calls Try.prog 15 #[v] w fun e w' => e = .returned (.int .i64 (orderL ls).2) ∧ Gr w w' := by
  have HO := hide (order_ok v ls w hv hl hn)
  obtain ⟨A, c, rfl, _⟩ := hv.is
  clear hv
  go_enter Try.func15, Try.ntmps15
  go_wp2_with fail
  refine HO.out.mono ?_
  rintro e w1 ⟨u, rfl, hp, hg⟩
  have HG := hide hg
  clear hp hg
  go_wp2_with fail
  go_ret
  exact ⟨rfl, HG.out⟩

end Go.Proofs.Ytncdmecppfmmgaa
