/-
  'Light', the document's Touches and ReadShards by their contracts.
-/
import Derived.Test.YtjpdhijhmpdbnaaGreatTxnWords
import Derived.Test.YtjpdhijhmpdbnaaGreatKeyRef
namespace Go.Proofs.YtjpdhijhmpdbnaaGreat
open Go Go.RowKit TxnMath KeyMath
set_option maxRecDepth 100000

def lightR (x : RdT) : Bool := decide (x.key.size + x.val.size ≤ 60)
def lightW (x : WrT) : Bool := decide (x.key.size + x.val.size ≤ 60)
def lightT (t : TxT) : Bool := t.reads.all lightR && t.writes.all lightW && decide (t.reads.length ≤ 8) && decide (t.writes.length ≤ 8)
theorem light_lim {M : Nat} {t : TxT} (h : TxLim M t) (hl : lightT t = true) : TxLim 60 t := by
  unfold lightT at hl
  simp only [Bool.and_eq_true, decide_eq_true_eq, List.all_eq_true, lightR, lightW] at hl
  obtain ⟨⟨⟨h1, h2⟩, h3⟩, h4⟩ := hl
  exact ⟨h.ses, h.seq, by omega, by omega, fun x hx => ⟨by have := h1 x hx; omega, by have := h1 x hx; omega, (h.rd x hx).ver⟩, fun x hx => ⟨by have := h2 x hx; omega, by have := h2 x hx; omega⟩⟩

set_option maxHeartbeats 400000 in
theorem Light_ok (v : Value) (t : TxT) (w : World) (hv : TxAt w v t) (ht : TxLim reachBytes t) :
    Calls Tryz.prog 5 #[v] w fun e w' => e = .returned (.bool (lightT t)) ∧ Gr w w' := by
  obtain ⟨rv, wv, rfl, hr, hw⟩ := hv
  obtain ⟨A, c, rfl, hr⟩ := hr.is
  obtain ⟨B, d, rfl, hw⟩ := hw.is
  have HR := hide hr
  have HW := hide hw
  have hM : reachBytes = 140737488351232 := rfl
  have hrn := ht.rn
  have hwn := ht.wn
  rw [hM] at hrn hwn ht
  have hrd := hide ht.rd
  have hwr := hide ht.wr
  clear hr hw ht hM
  obtain ⟨b, hb⟩ : ∃ b, lightT t = b := ⟨_, rfl⟩
  have F1 := hide (fun h : t.reads.all lightR = false => hb.symm.trans (show lightT t = false by unfold lightT; rw [h]; rfl))
  have F2 := hide (fun h : t.writes.all lightW = false => hb.symm.trans (show lightT t = false by unfold lightT; rw [h, Bool.and_false]; rfl))
  have F3 := hide (fun (h1 : t.reads.all lightR = true) (h2 : t.writes.all lightW = true) => hb.symm.trans (show lightT t = (decide (t.reads.length ≤ 8) && decide (t.writes.length ≤ 8)) by unfold lightT; rw [h1, h2]; rfl))
  rw [hb]
  clear hb
  go_enter Tryz.func5, Tryz.ntmps5
  go_wp2_with fail
  obtain ⟨W, hW⟩ : ∃ W, w.alloc (.cells #[.int .i64 t.ses, .int .i64 t.seq, .slice A t.reads.length c, .slice B t.writes.length d] 26) = W := ⟨_, rfl⟩
  have hg : Gr w W := by rw [← hW]; exact (Gr.refl _).alloc _
  have hbx : Bl W w.heap.size 26 #[.int .i64 t.ses, .int .i64 t.seq, .slice A t.reads.length c, .slice B t.writes.length d] := by rw [← hW]; exact Bl.new _ _ _
  have c2 : W.cell? ⟨w.heap.size, 2, none⟩ = some (.slice A t.reads.length c) := hbx.cell 2
  have c3 : W.cell? ⟨w.heap.size, 3, none⟩ = some (.slice B t.writes.length d) := hbx.cell 3
  rw [hW]
  clear hW hbx
  generalize w.heap.size = g at c2 c3 ⊢
  go_loopw [3] (fun i wr => ∃ k : Nat, i = .int .i64 k ∧ k ≤ t.reads.length ∧ Hid (∀ j (hj : j < t.reads.length), j < k → lightR t.reads[j] = true) ∧ Gr W wr) (fun i _ => t.reads.length - (intOf i).toNat)
  case atStart => exact ⟨0, rfl, by omega, fun j hj hk => absurd hk (by omega), Gr.refl _⟩
  case round =>
    obtain ⟨k, rfl, hk, hso, hgr⟩ := hrel
    have a2 := gr_cell hgr _ _ c2
    by_cases hlt : k < t.reads.length
    · have hlt' : (k : Int) < (t.reads.length : Int) := by omega
      obtain ⟨ad, c', e1, a0, _, a1, _⟩ := (HR.out.gr (hg.trans hgr)).rd hlt
      simp only [Value.slice.injEq, true_and] at e1
      obtain ⟨rfl, rfl⟩ := e1
      have hlx := hrd.out _ (List.getElem_mem hlt)
      have hno := hide (all_false (p := lightR) hlt)
      have hyes := hide (all_more hso.out hlt)
      obtain ⟨x, hx⟩ : ∃ x, t.reads[k]'hlt = x := ⟨_, rfl⟩
      rw [hx] at a0 a1 hlx hno hyes
      have l1 := hlx.key
      have l2 := hlx.val
      clear hx hlx hso c2
      have hwrap : IntKind.i64.wrap ((x.key.size : Int) + (x.val.size : Int)) = (x.key.size : Int) + (x.val.size : Int) := by rw [IntKind.wrap_i64]; omega
      by_cases hs : (60 : Int) < (x.key.size : Int) + (x.val.size : Int)
      · have hn2 := hide (F1.out (hno.out (by unfold lightR; rw [decide_eq_false_iff_not]; omega)))
        clear hno hyes F1 F2 F3
        go_wp2_with fail
        go_quiet (fail)
        go_wp2_with fail
        go_ret
        exact ⟨by rw [hn2.out]; rfl, (hg.trans hgr).drewN _⟩
      · replace hyes := hide (hyes.out (by unfold lightR; rw [decide_eq_true_eq]; omega))
        clear hno
        go_wp2_with fail
        go_quiet (fail)
        go_wp2_with fail
        go_roundw
        case rel => exact ⟨k + 1, by go_num, by omega, hyes, hgr.drewN _⟩
        case measure => simp [intOf]; omega
    · obtain rfl : k = t.reads.length := by omega
      have hall := hide (all_done (Nat.le_refl _) hso.out)
      replace c3 := gr_cell hgr _ _ c3
      have hg2 := hg.trans hgr
      clear hso c2 F1 hgr hg HR
      go_wp2_with fail
      go_loopw [4] (fun i wz => ∃ k : Nat, i = .int .i64 k ∧ k ≤ t.writes.length ∧ Hid (∀ j (hj : j < t.writes.length), j < k → lightW t.writes[j] = true) ∧ Gr wr wz) (fun i _ => t.writes.length - (intOf i).toNat)
      case atStart => exact ⟨0, rfl, by omega, fun j hj hk => absurd hk (by omega), Gr.refl _⟩
      case round =>
        obtain ⟨k, rfl, hk2, hso, hgr⟩ := hrel
        replace c3 := gr_cell hgr _ _ c3
        by_cases hlt2 : k < t.writes.length
        · have hlt' : (k : Int) < (t.writes.length : Int) := by omega
          obtain ⟨ad, c', e1, a0, a1, _⟩ := (HW.out.gr (hg2.trans hgr)).wr hlt2
          simp only [Value.slice.injEq, true_and] at e1
          obtain ⟨rfl, rfl⟩ := e1
          have hlx := hwr.out _ (List.getElem_mem hlt2)
          have hno := hide (all_false (p := lightW) hlt2)
          have hyes := hide (all_more hso.out hlt2)
          obtain ⟨x, hx⟩ : ∃ x, t.writes[k]'hlt2 = x := ⟨_, rfl⟩
          rw [hx] at a0 a1 hlx hno hyes
          have l1 := hlx.key
          have l2 := hlx.val
          clear hx hlx hso a2
          have hwrap : IntKind.i64.wrap ((x.key.size : Int) + (x.val.size : Int)) = (x.key.size : Int) + (x.val.size : Int) := by rw [IntKind.wrap_i64]; omega
          by_cases hs : (60 : Int) < (x.key.size : Int) + (x.val.size : Int)
          · have hn2 := hide (F2.out (hno.out (by unfold lightW; rw [decide_eq_false_iff_not]; omega)))
            clear hno hyes F2 F3
            go_wp2_with fail
            go_quiet (fail)
            go_wp2_with fail
            go_ret
            exact ⟨by rw [hn2.out]; rfl, (hg2.trans hgr).drewN _⟩
          · replace hyes := hide (hyes.out (by unfold lightW; rw [decide_eq_true_eq]; omega))
            clear hno
            go_wp2_with fail
            go_quiet (fail)
            go_wp2_with fail
            go_roundw
            case rel => exact ⟨k + 1, by go_num, by omega, hyes, hgr.drewN _⟩
            case measure => simp [intOf]; omega
        · obtain rfl : k = t.writes.length := by omega
          have hall2 := all_done (Nat.le_refl _) hso.out
          have hb := hide (F3.out hall.out hall2)
          replace a2 := gr_cell hgr _ _ a2
          clear hso hall2 F2 F3 hall
          by_cases q1 : t.reads.length ≤ 8
          · by_cases q2 : t.writes.length ≤ 8
            · have q1' : (t.reads.length : Int) ≤ 8 := by omega
              have q2' : (t.writes.length : Int) ≤ 8 := by omega
              rw [decide_eq_true q1, decide_eq_true q2] at hb
              go_wp2_with fail
              go_ret
              exact ⟨by rw [hb.out]; rfl, hg2.trans hgr⟩
            · have q1' : (t.reads.length : Int) ≤ 8 := by omega
              have q2' : ¬ (t.writes.length : Int) ≤ 8 := by omega
              rw [decide_eq_true q1, decide_eq_false q2] at hb
              go_wp2_with fail
              go_ret
              exact ⟨by rw [hb.out]; rfl, hg2.trans hgr⟩
          · have q1' : ¬ (t.reads.length : Int) ≤ 8 := by omega
            rw [decide_eq_false q1] at hb
            go_wp2_with fail
            go_ret
            exact ⟨by rw [hb.out]; rfl, hg2.trans hgr⟩

end Go.Proofs.YtjpdhijhmpdbnaaGreat
