/-
  The document's Touches and ReadShards by their contracts.
-/
import Derived.Test.YtjpdhijhmpdbnaaGreatTxnLook
import Derived.Test.YtjpdhijhmpdbnaaGreatBaseW
namespace Go.Proofs.YtjpdhijhmpdbnaaGreat
open Go Go.RowKit TxnMath KeyMath
set_option maxRecDepth 100000

set_option maxHeartbeats 400000 in
theorem RefTouches_ok (v : Value) (t : TxT) (s n : Int) (w : World) (hv : TxAt w v t) (ht : TxLim 1000000 t) (hn : I64 n) :
    Calls Tryz.prog 17 #[v, .int .i64 s, .int .i64 n] w fun e w' => e = .returned (.bool (touchT t s n)) ∧ Gr w w' := by
  obtain ⟨rv, wv, rfl, hr, hw⟩ := hv
  obtain ⟨A, c, rfl, hr⟩ := hr.is
  obtain ⟨B, d, rfl, hw⟩ := hw.is
  have HR := hide hr
  have HW := hide hw
  have hrn := ht.rn
  have hwn := ht.wn
  have hrd := hide ht.rd
  have hwr := hide ht.wr
  have hn0 := hide hn
  clear hr hw ht hn
  obtain ⟨b, hb⟩ : ∃ b, touchT t s n = b := ⟨_, rfl⟩
  have F1 := hide (fun h : (t.reads.any fun x => shardK x.key n == s) = true => hb.symm.trans (show touchT t s n = true by unfold touchT; rw [h]; rfl))
  have F2 := hide (fun h : (t.writes.any fun x => shardK x.key n == s) = true => hb.symm.trans (show touchT t s n = true by unfold touchT; rw [h, Bool.or_true]))
  have F3 := hide (fun (h1 : (t.reads.any fun x => shardK x.key n == s) = false) (h2 : (t.writes.any fun x => shardK x.key n == s) = false) => hb.symm.trans (show touchT t s n = false by unfold touchT; rw [h1, h2]; rfl))
  rw [hb]
  clear hb
  go_enter Tryz.func17, Tryz.ntmps17
  go_wp2_with fail
  obtain ⟨W, hW⟩ : ∃ W, w.alloc (.cells #[.int .i64 t.ses, .int .i64 t.seq, .slice A t.reads.length c, .slice B t.writes.length d] 26) = W := ⟨_, rfl⟩
  have hg : Gr w W := by rw [← hW]; exact (Gr.refl _).alloc _
  have hbx : Bl W w.heap.size 26 #[.int .i64 t.ses, .int .i64 t.seq, .slice A t.reads.length c, .slice B t.writes.length d] := by rw [← hW]; exact Bl.new _ _ _
  have c2 : W.cell? ⟨w.heap.size, 2, none⟩ = some (.slice A t.reads.length c) := hbx.cell 2
  have c3 : W.cell? ⟨w.heap.size, 3, none⟩ = some (.slice B t.writes.length d) := hbx.cell 3
  rw [hW]
  clear hW hbx
  generalize w.heap.size = g at c2 c3 ⊢
  go_loopw [7] (fun i wr => ∃ k : Nat, i = .int .i64 k ∧ k ≤ t.reads.length ∧ Hid ((t.reads.take k).any (fun x => shardK x.key n == s) = false) ∧ Gr W wr) (fun i _ => t.reads.length - (intOf i).toNat)
  case atStart => exact ⟨0, rfl, by omega, by simp [Hid], Gr.refl _⟩
  case round =>
    obtain ⟨k, rfl, hk, hso, hgr⟩ := hrel
    have a2 := gr_cell hgr _ _ c2
    by_cases hlt : k < t.reads.length
    · have hlt' : (k : Int) < (t.reads.length : Int) := by omega
      obtain ⟨ad, c', e1, a0, _⟩ := (HR.out.gr (hg.trans hgr)).rd hlt
      simp only [Value.slice.injEq, true_and] at e1
      obtain ⟨rfl, rfl⟩ := e1
      have hlx := (hrd.out _ (List.getElem_mem hlt)).key
      have hno := hide (any_more (p := fun x : RdT => shardK x.key n == s) hlt)
      have hyes := hide (any_true (p := fun x : RdT => shardK x.key n == s) hlt)
      obtain ⟨x, hx⟩ : ∃ x, t.reads[k]'hlt = x := ⟨_, rfl⟩
      rw [hx] at a0 hlx hno hyes
      have HC := hide (fun w => RefShard_ok x.key (by omega) n hn0.out.1 hn0.out.2 w)
      generalize shardK x.key n = q at HC hno hyes
      clear hx hlx c2
      by_cases hs : q = s
      · subst hs
        have hn2 := hide (F1.out (hyes.out (by simp)))
        clear hno hyes F1 F2 F3 hso
        go_wp2_with fail
        refine (HC.out _).mono ?_
        rintro e w1 ⟨rfl, rfl⟩
        go_wp2_with fail
        go_ret
        exact ⟨by rw [hn2.out]; rfl, hg.trans hgr⟩
      · have hz := hide (p := (t.reads.take (k + 1)).any (fun x => shardK x.key n == s) = false) (by rw [hno.out, hso.out, beq_no hs]; rfl)
        clear hno hyes hso
        go_wp2_with fail
        refine (HC.out _).mono ?_
        rintro e w1 ⟨rfl, rfl⟩
        go_wp2_with fail
        go_roundw
        case rel => exact ⟨k + 1, by go_num, by omega, hz, hgr⟩
        case measure => simp [intOf]; omega
    · obtain rfl : k = t.reads.length := by omega
      have hall := hide (hso.out)
      rw [any_all (Nat.le_refl _)] at hall
      replace F3 := hide (F3.out hall.out)
      replace c3 := gr_cell hgr _ _ c3
      have hg2 := hg.trans hgr
      clear hso c2 F1 hgr hg HR hall
      go_wp2_with fail
      go_loopw [8] (fun i wz => ∃ k : Nat, i = .int .i64 k ∧ k ≤ t.writes.length ∧ Hid ((t.writes.take k).any (fun x => shardK x.key n == s) = false) ∧ Gr wr wz) (fun i _ => t.writes.length - (intOf i).toNat)
      case atStart => exact ⟨0, rfl, by omega, by simp [Hid], Gr.refl _⟩
      case round =>
        obtain ⟨k, rfl, hk2, hso, hgr⟩ := hrel
        replace c3 := gr_cell hgr _ _ c3
        by_cases hlt2 : k < t.writes.length
        · have hlt' : (k : Int) < (t.writes.length : Int) := by omega
          obtain ⟨ad, c', e1, a0, _⟩ := (HW.out.gr (hg2.trans hgr)).wr hlt2
          simp only [Value.slice.injEq, true_and] at e1
          obtain ⟨rfl, rfl⟩ := e1
          have hlx := (hwr.out _ (List.getElem_mem hlt2)).key
          have hno := hide (any_more (p := fun x : WrT => shardK x.key n == s) hlt2)
          have hyes := hide (any_true (p := fun x : WrT => shardK x.key n == s) hlt2)
          obtain ⟨x, hx⟩ : ∃ x, t.writes[k]'hlt2 = x := ⟨_, rfl⟩
          rw [hx] at a0 hlx hno hyes
          have HC := hide (fun w => RefShard_ok x.key (by omega) n hn0.out.1 hn0.out.2 w)
          generalize shardK x.key n = q at HC hno hyes
          clear hx hlx a2
          by_cases hs : q = s
          · subst hs
            have hn2 := hide (F2.out (hyes.out (by simp)))
            clear hno hyes F2 F3 hso
            go_wp2_with fail
            refine (HC.out _).mono ?_
            rintro e w1 ⟨rfl, rfl⟩
            go_wp2_with fail
            go_ret
            exact ⟨by rw [hn2.out]; rfl, hg2.trans hgr⟩
          · have hz := hide (p := (t.writes.take (k + 1)).any (fun x => shardK x.key n == s) = false) (by rw [hno.out, hso.out, beq_no hs]; rfl)
            clear hno hyes hso
            go_wp2_with fail
            refine (HC.out _).mono ?_
            rintro e w1 ⟨rfl, rfl⟩
            go_wp2_with fail
            go_roundw
            case rel => exact ⟨k + 1, by go_num, by omega, hz, hgr⟩
            case measure => simp [intOf]; omega
        · obtain rfl : k = t.writes.length := by omega
          have hall := hso.out
          rw [any_all (Nat.le_refl _)] at hall
          have hb := hide (F3.out hall)
          clear hso hall F2 F3
          go_wp2_with fail
          go_ret
          exact ⟨by rw [hb.out]; rfl, hg2.trans hgr⟩

set_option maxHeartbeats 1000000 in
theorem RefReads_ok (v : Value) (t : TxT) (n : Int) (w : World) (hv : TxAt w v t) (ht : TxLim 1000000 t) (hn : I64 n) (hn1 : n ≤ 1000000) :
    Calls Tryz.prog 15 #[v, .int .i64 n] w fun e w' => ∃ u, e = .returned u ∧ NatsAt w' u (readsOf t n) ∧ Gr w w' := by
  obtain ⟨i0, hi, hz0, hz1, hz2⟩ := info_parts info_i64
  obtain ⟨rv, wv, rfl, hr, hw⟩ := hv
  obtain ⟨A, c, rfl, hr⟩ := hr.is
  have HR := hide hr
  have hrn := ht.rn
  have hrd := hide ht.rd
  have hn0 := hide hn
  clear hr ht hn
  obtain ⟨m, hm, hm1, hcase⟩ : ∃ m : Nat, (max n 1).toNat = m ∧ (m : Int) ≤ 1000000 ∧ (n < 1 ∧ m = 1 ∨ n = (m : Int) ∧ ¬ n < 1) := by
    by_cases h : n < 1
    · exact ⟨1, by omega, by omega, .inl ⟨h, rfl⟩⟩
    · exact ⟨n.toNat, by omega, by omega, .inr ⟨by omega, h⟩⟩
  unfold readsOf
  rw [hm]
  clear hm
  obtain ⟨M, hM⟩ : ∃ M : Nat, m = M := ⟨_, rfl⟩
  have HM := hide hM
  rw [hM]
  clear hM
  rcases hcase with ⟨hlow, h1⟩ | ⟨h1, hlow⟩
  all_goals
    have H1 := hide h1
    clear h1
    go_enter Tryz.func15, Tryz.ntmps15
    go_wp2_with fail
    obtain ⟨W, hW⟩ : ∃ W, w.alloc (.cells #[.int .i64 t.ses, .int .i64 t.seq, .slice A t.reads.length c, wv] 26) = W := ⟨_, rfl⟩
    have hg : Gr w W := by rw [← hW]; exact (Gr.refl _).alloc _
    have hbx : Bl W w.heap.size 26 #[.int .i64 t.ses, .int .i64 t.seq, .slice A t.reads.length c, wv] := by rw [← hW]; exact Bl.new _ _ _
    have c2 : W.cell? ⟨w.heap.size, 2, none⟩ = some (.slice A t.reads.length c) := hbx.cell 2
    rw [hW]
    clear hW hbx
    generalize w.heap.size = g at c2 ⊢
    go_loopw [5, 6] (fun o i wr => ∃ k : Nat, i = .int .i64 k ∧ k ≤ M ∧ OwnV 3 wr W.heap.size o ((readsTo t n k).map natV) ∧ Gr W wr) (fun _ i _ => M - (intOf i).toNat)
    case atStart => exact ⟨0, rfl, by omega, OwnV.none_ _ _, Gr.refl _⟩
    case round =>
      obtain ⟨k, rfl, hk, hown, hgr⟩ := hrel
      have hlenk := readsTo_len t n k
      have hMo := HM.out
      have hH1 := H1.out
      by_cases hkm : k < M
      · first | have hkm' : (k : Int) < n := by omega | have hkm' : (k : Int) < 1 := by omega
        clear hMo hH1
        have hmore := hide (readsTo_more t n k)
        replace c2 := gr_cell hgr _ _ c2
        have hg2 := hg.trans hgr
        have HO := hide hown
        clear hown
        go_wp2_with fail
        go_loopw [7, 8] (fun o i wz => ∃ j : Nat, i = .int .i64 j ∧ j ≤ t.reads.length ∧ o = .bool ((t.reads.take j).any fun x => shardK x.key n == (k : Int)) ∧ wz = wr) (fun _ i _ => t.reads.length - (intOf i).toNat)
        case atStart => exact ⟨0, rfl, by omega, by simp, rfl⟩
        case round =>
          obtain ⟨j, rfl, hj, rfl, rfl⟩ := hrel
          by_cases hlt : j < t.reads.length
          · have hlt' : (j : Int) < (t.reads.length : Int) := by omega
            obtain ⟨ad, c', e1, a0, _⟩ := (HR.out.gr hg2).rd hlt
            simp only [Value.slice.injEq, true_and] at e1
            obtain ⟨rfl, rfl⟩ := e1
            have hlx := (hrd.out _ (List.getElem_mem hlt)).key
            have hno := hide (any_more (p := fun x : RdT => shardK x.key n == (k : Int)) hlt)
            obtain ⟨x, hx⟩ : ∃ x, t.reads[j]'hlt = x := ⟨_, rfl⟩
            rw [hx] at a0 hlx hno
            have HC := hide (fun w => RefShard_ok x.key (by omega) n hn0.out.1 hn0.out.2 w)
            generalize shardK x.key n = q at HC hno
            clear hx hlx
            cases hso : (t.reads.take j).any fun x => shardK x.key n == (k : Int)
            · rw [hso] at hno
              clear hso
              go_wp2_with fail
              refine (HC.out _).mono ?_
              rintro e w1 ⟨rfl, rfl⟩
              by_cases hs : q = (k : Int)
              · subst hs
                go_wp2_with fail
                go_roundw
                case rel => exact ⟨j + 1, by go_num, by omega, by rw [hno.out]; simp, trivial⟩
                case measure => simp [intOf]; omega
              · have hz := hide (beq_no hs)
                go_wp2_with fail
                go_roundw
                case rel => exact ⟨j + 1, by go_num, by omega, by rw [hno.out, hz.out]; rfl, trivial⟩
                case measure => simp [intOf]; omega
            · rw [hso] at hno
              clear hso
              go_wp2_with fail
              go_roundw
              case rel => exact ⟨j + 1, by go_num, by omega, by rw [hno.out]; rfl, trivial⟩
              case measure => simp [intOf]; omega
          · obtain rfl : j = t.reads.length := by omega
            have hin := hide (any_all (xs := t.reads) (p := fun x : RdT => shardK x.key n == (k : Int)) (Nat.le_refl _))
            change Hid (_ = readIn t n k) at hin
            rw [hin.out]
            cases hr : readIn t n k
            · have hz := hmore.out
              rw [hr, if_neg (by simp)] at hz
              have HZ := hide hz
              clear hz hr hin hmore
              go_wp2_with fail
              go_roundw
              case rel => exact ⟨k + 1, by go_num, by omega, by rw [HZ.out]; exact HO.out, hgr⟩
              case measure => simp [intOf]; omega
            · have hz := hmore.out
              rw [hr, if_pos rfl] at hz
              have HZ := hide hz
              clear hz hr hin hmore
              have hown := HO.out
              go_wp2_with (at_builtin; refine wpList_pushV rfl (.tmp 36) (.tmp 38) _ rfl 3 i0 _ 8 Tryz.underlying35 hi hz0 hz1 hz2 rfl rfl rfl hown hgr rfl (by rw [List.length_map]; unfold maxLen; omega) (by rw [List.length_map]; omega) ?_; intro v3 w3 ho3 hg3 _)
              go_roundw
              case rel => exact ⟨k + 1, by go_num, by omega, by rw [HZ.out, List.map_append]; exact ho3, hg3⟩
              case measure => simp [intOf]; omega
      · obtain rfl : k = M := by omega
        have hkm' : ¬ (k : Int) < 1 := by omega
        have hkm2 : ¬ (k : Int) < n := by omega
        clear hMo hH1
        go_wp2_with fail
        go_ret
        exact ⟨_, rfl, hown.nats, hg.trans hgr⟩

end Go.Proofs.YtjpdhijhmpdbnaaGreat
