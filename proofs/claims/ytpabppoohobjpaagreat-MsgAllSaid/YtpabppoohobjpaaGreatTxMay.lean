/-
  txn.May by its contract.
-/
import Derived.Test.YtpabppoohobjpaaGreatTxKeys
namespace Go.Proofs.YtpabppoohobjpaaGreat
open Go Go.RowKit TxnMath KeyMath
set_option maxRecDepth 100000

theorem upTo_ok (m v : Int) (w : World) : Calls Tryz.prog 59 #[.int .i64 m, .int .i64 v] w fun e w' => e = .returned (.bool (decide (1 ≤ v) && decide (v ≤ m))) ∧ w = w' := by
  by_cases h : 1 ≤ v
  · have h1 : decide ((1 : Int) ≤ v) = true := decide_eq_true h
    rw [h1, Bool.true_and]
    go_enter Tryz.func59, Tryz.ntmps59
    go_wp2_with fail
    go_ret
    exact ⟨rfl, rfl⟩
  · have h1 : decide ((1 : Int) ≤ v) = false := decide_eq_false h
    rw [h1, Bool.false_and]
    go_enter Tryz.func59, Tryz.ntmps59
    go_wp2_with fail
    go_ret
    exact ⟨rfl, rfl⟩

theorem rdOk_gone {x : RdT} (h : x.there = false) (_ : ¬ 16 < x.val.size ∨ x.val.toList = []) : rdOk x = (decide (0 ≤ x.ver) && empty x.val) := by
  unfold rdOk
  rw [h]
  by_cases h1 : x.ver < 0
  · rw [decide_eq_true h1, decide_eq_false (show ¬ 0 ≤ x.ver by omega)]; rfl
  · rw [decide_eq_false h1, decide_eq_true (show 0 ≤ x.ver by omega)]
    cases he : empty x.val
    · simp
    · have : x.val.size = 0 := by
        unfold empty at he
        rw [beq_iff_eq] at he
        rw [← list_size, ← ByteArray.toList_eq, he, ByteArray.toList_eq]
        rfl
      rw [decide_eq_false (show ¬ 16 < x.val.size by omega)]
      simp
theorem rdOk_gone' {x : RdT} (h : x.there = false) : rdOk x = (decide (0 ≤ x.ver) && empty x.val) := by
  by_cases h1 : 16 < x.val.size
  · have h2 : ¬ x.val.toList = [] := fun e => by
      have : x.val.size = 0 := by rw [← list_size, ← ByteArray.toList_eq, e]; rfl
      omega
    unfold rdOk
    rw [decide_eq_true h1, empty_no h2, Bool.and_false]
    simp
  · exact rdOk_gone h (.inl h1)
theorem rdOk_there {x : RdT} (h : x.there = true) : rdOk x = (decide (0 < x.ver) && decide (x.val.size ≤ 16)) := by
  unfold rdOk
  rw [h, Bool.eq_iff_iff]
  simp
  omega
theorem wrOk_gone {x : WrT} (h : x.gone = true) : wrOk x = empty x.val := by
  unfold wrOk
  rw [h]
  cases he : empty x.val
  · simp
  · have : x.val.size = 0 := by
      unfold empty at he
      rw [beq_iff_eq] at he
      rw [← list_size, ← ByteArray.toList_eq, he, ByteArray.toList_eq]
      rfl
    rw [decide_eq_false (show ¬ 16 < x.val.size by omega)]
    rfl
theorem wrOk_there {x : WrT} (h : x.gone = false) : wrOk x = decide (x.val.size ≤ 16) := by
  unfold wrOk
  rw [h, Bool.eq_iff_iff]
  simp

set_option maxHeartbeats 400000 in
theorem mayRead_ok (x : RdT) (w : World) : Calls Tryz.prog 62 #[.agg #[.string x.key, .int .i64 x.ver, .string x.val, .bool x.there]] w fun e w' => e = .returned (.bool (rdOk x)) ∧ Gr w w' := by
  have hg : ∀ o, Gr w (w.alloc o) := fun o => (Gr.refl _).alloc o
  have HG := hide hg
  clear hg
  cases ht : x.there
  · have E := hide (rdOk_gone' ht)
    clear ht
    by_cases h1 : 0 ≤ x.ver
    · have d1 : decide ((0 : Int) ≤ x.ver) = true := decide_eq_true h1
      rw [d1, Bool.true_and] at E
      by_cases h2 : x.val.toList = []
      · rw [empty_yes h2] at E
        have h3 : x.val.toList.isEmpty = true := by rw [h2]; rfl
        go_enter Tryz.func62, Tryz.ntmps62
        go_wp2_with fail
        go_ret
        exact ⟨by rw [E.out]; rfl, HG.out _⟩
      · rw [empty_no h2] at E
        have h3 := isEmpty_no h2
        go_enter Tryz.func62, Tryz.ntmps62
        go_wp2_with fail
        go_ret
        exact ⟨by rw [E.out]; rfl, HG.out _⟩
    · have d1 : decide ((0 : Int) ≤ x.ver) = false := decide_eq_false h1
      rw [d1, Bool.false_and] at E
      go_enter Tryz.func62, Tryz.ntmps62
      go_wp2_with fail
      go_ret
      exact ⟨by rw [E.out]; rfl, HG.out _⟩
  · have E := hide (rdOk_there ht)
    clear ht
    by_cases h1 : 0 < x.ver
    · have d1 : decide ((0 : Int) < x.ver) = true := decide_eq_true h1
      have d2 : decide ((x.val.size : Int) ≤ 16) = decide (x.val.size ≤ 16) := by rw [decide_eq_decide]; omega
      rw [d1, Bool.true_and, ← d2] at E
      clear d2
      go_enter Tryz.func62, Tryz.ntmps62
      go_wp2_with fail
      go_ret
      exact ⟨by rw [E.out]; rfl, HG.out _⟩
    · have d1 : decide ((0 : Int) < x.ver) = false := decide_eq_false h1
      rw [d1, Bool.false_and] at E
      go_enter Tryz.func62, Tryz.ntmps62
      go_wp2_with fail
      go_ret
      exact ⟨by rw [E.out]; rfl, HG.out _⟩

set_option maxHeartbeats 400000 in
theorem mayWrite_ok (x : WrT) (w : World) : Calls Tryz.prog 65 #[.agg #[.string x.key, .string x.val, .bool x.gone]] w fun e w' => e = .returned (.bool (wrOk x)) ∧ Gr w w' := by
  have hg : ∀ o, Gr w (w.alloc o) := fun o => (Gr.refl _).alloc o
  have HG := hide hg
  clear hg
  cases ht : x.gone
  · have E := hide (wrOk_there ht)
    clear ht
    have d2 : decide ((x.val.size : Int) ≤ 16) = decide (x.val.size ≤ 16) := by rw [decide_eq_decide]; omega
    rw [← d2] at E
    clear d2
    go_enter Tryz.func65, Tryz.ntmps65
    go_wp2_with fail
    go_ret
    exact ⟨by rw [E.out]; rfl, HG.out _⟩
  · have E := hide (wrOk_gone ht)
    clear ht
    by_cases h2 : x.val.toList = []
    · rw [empty_yes h2] at E
      have h3 : x.val.toList.isEmpty = true := by rw [h2]; rfl
      go_enter Tryz.func65, Tryz.ntmps65
      go_wp2_with fail
      go_ret
      exact ⟨by rw [E.out]; rfl, HG.out _⟩
    · rw [empty_no h2] at E
      have h3 := isEmpty_no h2
      go_enter Tryz.func65, Tryz.ntmps65
      go_wp2_with fail
      go_ret
      exact ⟨by rw [E.out]; rfl, HG.out _⟩

set_option maxHeartbeats 1000000 in
theorem mayAllR_ok (v : Value) (xs : List RdT) (w : World) (hv : RowAt 4 w v (xs.map rdC)) (hn : xs.length ≤ 1000000) (hk : ∀ x ∈ xs, x.key.size ≤ 281474976710656) :
    Calls Tryz.prog 60 #[v, .int .i64 6, .func (.func 61) #[] #[], .func (.func 62) #[] #[]] w fun e w' => e = .returned (.bool (decide (xs.length ≤ 6) && risingK (xs.map (·.key)) && xs.all rdOk)) ∧ Gr w w' := by
  have HK := hide (keysR_ok v xs w hv hn)
  obtain ⟨A, c, rfl, hr⟩ := hv.is
  have HR := hide hr
  clear hr hv
  obtain ⟨b, hb⟩ : ∃ b, (decide (xs.length ≤ 6) && risingK (xs.map (·.key)) && xs.all rdOk) = b := ⟨_, rfl⟩
  rw [hb]
  by_cases h6 : (6 : Int) < (xs.length : Int)
  · have E := hide (show b = false by rw [← hb, decide_eq_false (show ¬ xs.length ≤ 6 by omega)]; rfl)
    clear hb
    go_enter Tryz.func60, Tryz.ntmps60
    go_wp2_with fail
    go_ret
    exact ⟨by rw [E.out]; rfl, Gr.refl _⟩
  · rw [decide_eq_true (show xs.length ≤ 6 by omega), Bool.true_and] at hb
    have hmem : ∀ s ∈ xs.map (·.key), (s.size : Int) ≤ 281474976710656 := by
      intro s hs
      obtain ⟨x, hx, rfl⟩ := List.mem_map.1 hs
      have := hk x hx
      omega
    have HM := hide hmem
    have HLN := hide (show ((xs.map (·.key)).length : Int) ≤ 1000000 by rw [List.length_map]; omega)
    clear hmem hk
    go_enter Tryz.func60, Tryz.ntmps60
    go_wp2_with fail
    refine HK.out.mono ?_
    rintro e w1 ⟨v1, rfl, hown, hg1⟩
    obtain ⟨B, d, rfl, hs⟩ := hown.strs (fun s hs => by have := HM.out s hs; unfold maxLen; omega)
    clear hown
    have HS := hide hs
    clear hs
    go_wp2_with fail
    refine (RisingB_ok B xs.length d _ (by rw [List.length_map]) w1 HS.out HM.out HLN.out).mono ?_
    rintro e w2 ⟨rfl, hg2⟩
    cases hri : risingK (xs.map (·.key))
    · have E := hide (show b = false by rw [← hb, hri]; rfl)
      clear hb hri
      go_wp2_with fail
      go_ret
      exact ⟨by rw [E.out]; rfl, hg1.trans hg2⟩
    · rw [hri, Bool.true_and] at hb
      have HB := hide hb
      have hg := hg1.trans hg2
      clear hb hri hg1 hg2 HS
      go_wp2_with fail
      go_loopw [24] (fun i wr => ∃ k : Nat, i = .int .i64 k ∧ k ≤ xs.length ∧ Hid (∀ j (hj : j < xs.length), j < k → rdOk xs[j] = true) ∧ Gr w wr) (fun i _ => xs.length - (intOf i).toNat)
      case atStart => exact ⟨0, rfl, by omega, fun j hj hk => absurd hk (by omega), hg⟩
      case round =>
        obtain ⟨k, rfl, hk, hso, hgr⟩ := hrel
        by_cases hlt : k < xs.length
        · have hlt' : (k : Int) < (xs.length : Int) := by omega
          obtain ⟨ad, c', e1, a0, a1, b2, a3⟩ := (HR.out.gr hgr).rd hlt
          simp only [Value.slice.injEq, true_and] at e1
          obtain ⟨rfl, rfl⟩ := e1
          have hno := hide (all_false (p := rdOk) hlt)
          have hyes := hide (all_more hso.out hlt)
          obtain ⟨x, hx⟩ : ∃ x, xs[k]'hlt = x := ⟨_, rfl⟩
          simp only [hx] at a0 a1 b2 a3 hno hyes
          clear hx hso
          go_wp2_with fail
          refine (mayRead_ok x _).mono ?_
          rintro e w3 ⟨rfl, hg3⟩
          replace hgr := hgr.trans (((Gr.refl wr).alloc _).trans hg3)
          clear hg3 a0 a1 b2 a3
          cases hok : rdOk x
          · have E := hide (HB.out.symm.trans (hno.out hok))
            clear hno hyes hok
            go_wp2_with fail
            go_ret
            exact ⟨by rw [E.out]; rfl, hgr⟩
          · replace hyes := hide (hyes.out hok)
            clear hno hok
            go_wp2_with fail
            go_roundw
            case rel => exact ⟨k + 1, by go_num, by omega, hyes, hgr⟩
            case measure => simp [intOf]; omega
        · obtain rfl : k = xs.length := by omega
          have E := hide (HB.out.symm.trans (all_done (Nat.le_refl _) hso.out))
          clear hso
          go_wp2_with fail
          go_ret
          exact ⟨by rw [E.out]; rfl, hgr⟩

set_option maxHeartbeats 1000000 in
theorem mayAllW_ok (v : Value) (xs : List WrT) (w : World) (hv : RowAt 3 w v (xs.map wrC)) (hn : xs.length ≤ 1000000) (hk : ∀ x ∈ xs, x.key.size ≤ 281474976710656) :
    Calls Tryz.prog 63 #[v, .int .i64 4, .func (.func 64) #[] #[], .func (.func 65) #[] #[]] w fun e w' => e = .returned (.bool (decide (xs.length ≤ 4) && risingK (xs.map (·.key)) && xs.all wrOk)) ∧ Gr w w' := by
  have HK := hide (keysW_ok v xs w hv hn)
  obtain ⟨A, c, rfl, hr⟩ := hv.is
  have HR := hide hr
  clear hr hv
  obtain ⟨b, hb⟩ : ∃ b, (decide (xs.length ≤ 4) && risingK (xs.map (·.key)) && xs.all wrOk) = b := ⟨_, rfl⟩
  rw [hb]
  by_cases h6 : (4 : Int) < (xs.length : Int)
  · have E := hide (show b = false by rw [← hb, decide_eq_false (show ¬ xs.length ≤ 4 by omega)]; rfl)
    clear hb
    go_enter Tryz.func63, Tryz.ntmps63
    go_wp2_with fail
    go_ret
    exact ⟨by rw [E.out]; rfl, Gr.refl _⟩
  · rw [decide_eq_true (show xs.length ≤ 4 by omega), Bool.true_and] at hb
    have hmem : ∀ s ∈ xs.map (·.key), (s.size : Int) ≤ 281474976710656 := by
      intro s hs
      obtain ⟨x, hx, rfl⟩ := List.mem_map.1 hs
      have := hk x hx
      omega
    have HM := hide hmem
    have HLN := hide (show ((xs.map (·.key)).length : Int) ≤ 1000000 by rw [List.length_map]; omega)
    clear hmem hk
    go_enter Tryz.func63, Tryz.ntmps63
    go_wp2_with fail
    refine HK.out.mono ?_
    rintro e w1 ⟨v1, rfl, hown, hg1⟩
    obtain ⟨B, d, rfl, hs⟩ := hown.strs (fun s hs => by have := HM.out s hs; unfold maxLen; omega)
    clear hown
    have HS := hide hs
    clear hs
    go_wp2_with fail
    refine (RisingB_ok B xs.length d _ (by rw [List.length_map]) w1 HS.out HM.out HLN.out).mono ?_
    rintro e w2 ⟨rfl, hg2⟩
    cases hri : risingK (xs.map (·.key))
    · have E := hide (show b = false by rw [← hb, hri]; rfl)
      clear hb hri
      go_wp2_with fail
      go_ret
      exact ⟨by rw [E.out]; rfl, hg1.trans hg2⟩
    · rw [hri, Bool.true_and] at hb
      have HB := hide hb
      have hg := hg1.trans hg2
      clear hb hri hg1 hg2 HS
      go_wp2_with fail
      go_loopw [24] (fun i wr => ∃ k : Nat, i = .int .i64 k ∧ k ≤ xs.length ∧ Hid (∀ j (hj : j < xs.length), j < k → wrOk xs[j] = true) ∧ Gr w wr) (fun i _ => xs.length - (intOf i).toNat)
      case atStart => exact ⟨0, rfl, by omega, fun j hj hk => absurd hk (by omega), hg⟩
      case round =>
        obtain ⟨k, rfl, hk, hso, hgr⟩ := hrel
        by_cases hlt : k < xs.length
        · have hlt' : (k : Int) < (xs.length : Int) := by omega
          obtain ⟨ad, c', e1, a0, a1, b2⟩ := (HR.out.gr hgr).wr hlt
          simp only [Value.slice.injEq, true_and] at e1
          obtain ⟨rfl, rfl⟩ := e1
          have hno := hide (all_false (p := wrOk) hlt)
          have hyes := hide (all_more hso.out hlt)
          obtain ⟨x, hx⟩ : ∃ x, xs[k]'hlt = x := ⟨_, rfl⟩
          simp only [hx] at a0 a1 b2 hno hyes
          clear hx hso
          go_wp2_with fail
          refine (mayWrite_ok x _).mono ?_
          rintro e w3 ⟨rfl, hg3⟩
          replace hgr := hgr.trans (((Gr.refl wr).alloc _).trans hg3)
          clear hg3 a0 a1 b2
          cases hok : wrOk x
          · have E := hide (HB.out.symm.trans (hno.out hok))
            clear hno hyes hok
            go_wp2_with fail
            go_ret
            exact ⟨by rw [E.out]; rfl, hgr⟩
          · replace hyes := hide (hyes.out hok)
            clear hno hok
            go_wp2_with fail
            go_roundw
            case rel => exact ⟨k + 1, by go_num, by omega, hyes, hgr⟩
            case measure => simp [intOf]; omega
        · obtain rfl : k = xs.length := by omega
          have E := hide (HB.out.symm.trans (all_done (Nat.le_refl _) hso.out))
          clear hso
          go_wp2_with fail
          go_ret
          exact ⟨by rw [E.out]; rfl, hgr⟩

theorem mayT_as (t : TxT) : mayT t = (decide (1 ≤ t.ses) && decide (t.ses ≤ 9) && (decide (1 ≤ t.seq) && decide (t.seq ≤ 1000)) && (decide (t.reads.length ≤ 6) && risingK (t.reads.map (·.key)) && t.reads.all rdOk) && (decide (t.writes.length ≤ 4) && risingK (t.writes.map (·.key)) && t.writes.all wrOk)) := by
  unfold mayT
  rw [Bool.eq_iff_iff]
  simp only [Bool.and_eq_true]
  constructor
  · rintro ⟨⟨⟨⟨⟨⟨⟨⟨⟨h1, h2⟩, h3⟩, h4⟩, h5⟩, h6⟩, h7⟩, h8⟩, h9⟩, h10⟩
    exact ⟨⟨⟨⟨h3, h4⟩, h5, h6⟩, ⟨h7, h9⟩, h1⟩, ⟨h8, h10⟩, h2⟩
  · rintro ⟨⟨⟨⟨h3, h4⟩, h5, h6⟩, ⟨h7, h9⟩, h1⟩, ⟨h8, h10⟩, h2⟩
    exact ⟨⟨⟨⟨⟨⟨⟨⟨⟨h1, h2⟩, h3⟩, h4⟩, h5⟩, h6⟩, h7⟩, h8⟩, h9⟩, h10⟩

set_option maxHeartbeats 1000000 in
theorem TxMayB_ok (v : Value) (t : TxT) (w : World) (hv : TxAt w v t) (ht : TxBnd t) :
    Calls Tryz.prog 50 #[v] w fun e w' => e = .returned (.bool (mayT t)) ∧ Gr w w' := by
  have HM := hide (mayT_as t)
  obtain ⟨rv, wv, rfl, hr, hw⟩ := hv
  obtain ⟨A, c, rfl, hr⟩ := hr.is
  obtain ⟨B, d, rfl, hw⟩ := hw.is
  have C1 := hide (upTo_ok 9 t.ses)
  have C2 := hide (upTo_ok 1000 t.seq)
  have C3 := hide (fun w' hg => mayAllR_ok _ t.reads w' (hr.gr hg) ht.rn (fun x hx => (ht.rd x hx).key))
  have C4 := hide (fun w' hg => mayAllW_ok _ t.writes w' (hw.gr hg) ht.wn (fun x hx => (ht.wr x hx).key))
  obtain ⟨b1, hb1⟩ : ∃ b, (decide (1 ≤ t.ses) && decide (t.ses ≤ 9)) = b := ⟨_, rfl⟩
  obtain ⟨b2, hb2⟩ : ∃ b, (decide (1 ≤ t.seq) && decide (t.seq ≤ 1000)) = b := ⟨_, rfl⟩
  obtain ⟨b3, hb3⟩ : ∃ b, (decide (t.reads.length ≤ 6) && risingK (t.reads.map (·.key)) && t.reads.all rdOk) = b := ⟨_, rfl⟩
  obtain ⟨b4, hb4⟩ : ∃ b, (decide (t.writes.length ≤ 4) && risingK (t.writes.map (·.key)) && t.writes.all wrOk) = b := ⟨_, rfl⟩
  rw [hb1] at C1 HM
  rw [hb2] at C2 HM
  rw [hb3] at C3 HM
  rw [hb4] at C4 HM
  rw [HM.out]
  clear HM hb1 hb2 hb3 hb4 hr hw ht
  have hg0 : ∀ o, Gr w (w.alloc o) := fun o => (Gr.refl _).alloc o
  have HG := hide hg0
  clear hg0
  cases b1
  · go_enter Tryz.func50, Tryz.ntmps50
    go_wp2_with fail
    refine (C1.out _).mono ?_
    rintro e w1 ⟨rfl, rfl⟩
    go_wp2_with fail
    go_ret
    exact ⟨rfl, HG.out _⟩
  cases b2
  · go_enter Tryz.func50, Tryz.ntmps50
    go_wp2_with fail
    refine (C1.out _).mono ?_
    rintro e w1 ⟨rfl, rfl⟩
    go_wp2_with fail
    refine (C2.out _).mono ?_
    rintro e w1 ⟨rfl, rfl⟩
    go_wp2_with fail
    go_ret
    exact ⟨rfl, HG.out _⟩
  simp only [Bool.true_and]
  go_enter Tryz.func50, Tryz.ntmps50
  go_wp2_with fail
  refine (C1.out _).mono ?_
  rintro e w1 ⟨rfl, rfl⟩
  go_wp2_with fail
  refine (C2.out _).mono ?_
  rintro e w1 ⟨rfl, rfl⟩
  go_wp2_with fail
  refine (C3.out _ (HG.out _)).mono ?_
  rintro e w3 ⟨rfl, hg3⟩
  have hbx := box1 hg3
  have c3 : w3.cell? ⟨w.heap.size, 3, none⟩ = some (.slice B t.writes.length d) := hbx.cell 3
  have hgw := (HG.out _).trans hg3
  clear hbx hg3
  cases b3
  · go_wp2_with fail
    go_ret
    exact ⟨rfl, hgw⟩
  go_wp2_with fail
  refine (C4.out _ hgw).mono ?_
  rintro e w4 ⟨rfl, hg4⟩
  go_wp2_with fail
  go_ret
  exact ⟨rfl, hgw.trans hg4⟩

theorem TxMay_ok (v : Value) (t : TxT) (w : World) (hv : TxAt w v t) (ht : TxLim 1000000 t) :
    Calls Tryz.prog 50 #[v] w fun e w' => e = .returned (.bool (mayT t)) ∧ Gr w w' := TxMayB_ok v t w hv ht.bnd

end Go.Proofs.YtpabppoohobjpaaGreat
