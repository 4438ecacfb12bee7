/-
  Tick.
-/
import Derived.Test.YthpaoeiackbdoaaRfSmall
namespace Go.Proofs.Ythpaoeiackbdoaa
open Go Go.RowKit TxnMath KeyMath MsgMath BalMath RfMath
set_option maxRecDepth 100000

/-- .. numbers that stay numbers -/
structure RfGood (r : RaftT) : Prop extends RfSz r where
  term : r.term < 1152921504606846976
  nexts : ∀ x ∈ r.next, 0 ≤ x ∧ x ≤ 1152921504606846976
  mtchs : ∀ x ∈ r.mtch, 0 ≤ x ∧ x ≤ 1000000
theorem rk_of_may {r : RaftT} (hm : mayR r = true) (h : RfGood r) : Rk r := by
  simp only [mayR, withinB, mayLogB, Bool.and_eq_true, decide_eq_true_eq] at hm
  obtain ⟨⟨⟨⟨⟨⟨⟨⟨⟨⟨⟨⟨h1, h2⟩, h3⟩, h4⟩, h5⟩, h6⟩, ⟨h7, _⟩⟩, h8⟩, h9⟩, h10⟩, h11⟩, h12⟩, h13⟩ := hm
  exact ⟨h1, h2, h3, ⟨h4, Int.le_of_lt h.term⟩, h7, h.bnd, h8.1, h10, h11, h12, h.nexts, h.mtchs, h13⟩
theorem exec_field0 {ev : Operand → Value} {o : Oper} {x : Operand} (a b c d e : Value) (ho : o.op = .field 86 x 0) (hx : ev x = .agg #[a, b, c, d, e]) (w : World) : (execOp ev o).run Try.prog w = .ok (.value a) w := by
  have hr : (Instr.field 86 (.agg #[a, b, c, d, e]) 0).run Try.prog w = .ok a w := by kernel_rfl
  unfold execOp
  simp only [ho, hx]
  rw [Sem.run_bind, hr]
  rfl
theorem cell_stays {w : World} {g b i : Nat} {s : StT} {R : RowsM} {old : Array Value} {v : Value} (h : MemR w g s R) (hb : Bl w b 28 old) (hs : old.size = 13) (hbg : ¬ Foot g R b) (hc : (mbC s.r R)[i]? = some v) :
    (w.drew.setCells b 0 (rfC s.r R)).cell? ⟨g, i, none⟩ = some v := by
  have hk := (Bl.sets (t := 28) (g := b) (rfC s.r R) 0 w.drew old (by rw [hs]; rfl) (hb.drewN 1)).2
  have hbl : Bl (w.drew.setCells b 0 (rfC s.r R)) g 81 (mbC s.r R) := (hk.block g h.bl.lt (fun e => by injection e with e; exact hbg (.inl e.symm))).trans h.bl
  rw [hbl.cell]
  exact hc

set_option maxHeartbeats 1000000 in
theorem Tick_ok (w : World) (r : RaftT) (R0 : RowsM) (h : RaftR Any w r R0) (hs : RfGood r) :
    Calls Try.prog 27 #[.agg (rfC r R0).toArray] w fun e w' => ∃ v u, e = .returned (.tuple #[v, u]) ∧ TurnX w w' (tickT r) v u := by
  obtain ⟨W1, hW1⟩ : ∃ W1, (w.alloc (.cells (rfC r R0).toArray 28)).alloc (.cells #[.int .i64 0, .int .i64 0, .int .i64 0, .int .i64 0, .int .i64 0, .slice none 0 0, .int .i64 0, .int .i64 0, .int .i64 0, .slice none 0 0, .slice none 0 0, .slice none 0 0, .int .i64 0] 28) = W1 := ⟨_, rfl⟩
  have hg1 : Gr w W1 := by rw [← hW1]; exact ((Gr.refl _).alloc _).alloc _
  have hb1 : Bl W1 w.heap.size 28 (rfC r R0).toArray := by rw [← hW1]; exact (Bl.new _ _ _).gr ((Gr.refl _).alloc _)
  have hb2 : Bl W1 (w.heap.size + 1) 28 #[.int .i64 0, .int .i64 0, .int .i64 0, .int .i64 0, .int .i64 0, .slice none 0 0, .int .i64 0, .int .i64 0, .int .i64 0, .slice none 0 0, .slice none 0 0, .slice none 0 0, .int .i64 0] := by
    rw [← hW1]
    have := Bl.new (w.alloc (.cells (rfC r R0).toArray 28)) 28 #[.int .i64 0, .int .i64 0, .int .i64 0, .int .i64 0, .int .i64 0, .slice none 0 0, .int .i64 0, .int .i64 0, .int .i64 0, .slice none 0 0, .slice none 0 0, .slice none 0 0, .int .i64 0]
    simpa using this
  obtain ⟨b, hb⟩ : ∃ b, w.heap.size = b := ⟨_, rfl⟩
  rw [hb] at hb1 hb2
  have hb2l := hb2.lt
  have HMO := hide (memberOf_ok W1 r R0 (h.gr hg1) hs.toRfSz)
  have HMA := hide (fun W (hW : Gr w W) => May_ok W r R0 (h.gr hW) hs.toRfSz)
  obtain ⟨ok, hok⟩ : ∃ ok, mayR r = ok := ⟨_, rfl⟩
  rw [hok] at HMA
  obtain ⟨D, hD⟩ : ∃ D, (rfC r R0).toArray = D := ⟨_, rfl⟩
  have HDS := hide (show some D.size = some 13 by rw [← hD]; rfl)
  have HB1 := hide hb1
  rw [hD] at HB1 HMO HMA
  have HRK := hide (fun (e : ok = true) => rk_of_may (hok.trans e) hs)
  have HTM := hide hs.term
  have HT : Hid (tickT r = if ok = true then tickS ⟨r, []⟩ else ⟨r, []⟩) := by unfold Hid tickT; rw [hok]
  simp only [rfC] at hW1 ⊢
  go_enter Try.func27, Try.ntmps27
  go_upto_region 1 with (fail)
  clear hW1 hD h hs hok
  refine wp_region_list ?_
  rw [List.toList_toArray]
  refine wpList_val (.agg D) rfl (exec_box rfl rfl HB1.out Try.underlying28 rfl (by rw [HDS.out]; kernel_rfl)) ?_
  simp only [Act.put, List.setIfInBounds_toArray, List.set_cons_zero, List.set_cons_succ]
  go_wp2_with fail
  refine HMO.out.mono ?_
  rintro e w2 ⟨g, R, rfl, hM, hg2, hf2, hlo⟩
  have HM2 := hide hM
  have HB2 := hide (HB1.out.gr hg2)
  have HG2 := hide (hg1.trans hg2)
  have HC2 := hide (hb2.gr hg2)
  have hlo2 : b + 1 < R.lo := by rw [hlo]; exact hb2l
  have HF2 := hide (show ¬ Foot g R (b + 1) from fun hf => by have := hf2 _ hf; omega)
  clear hM HMO
  go_upto_region 2 with (fail)
  refine wp_region_list ?_
  rw [List.toList_toArray]
  refine wpList_val (.agg D) rfl (exec_box rfl rfl HB2.out Try.underlying28 rfl (by rw [HDS.out]; kernel_rfl)) ?_
  simp only [Act.put, List.setIfInBounds_toArray, List.set_cons_zero, List.set_cons_succ]
  go_wp2_with fail
  refine (HMA.out w2 HG2.out).mono ?_
  rintro e w3 ⟨rfl, hg3⟩
  have HM3 := hide (HM2.out.gr hg3)
  have HC3 := hide (HC2.out.gr hg3)
  have HG3 := hide (HG2.out.trans hg3)
  have hbz : w.heap.size ≤ b + 1 := by omega
  clear HM2 HC2 HG2 HB2 HB1 hg3 hg2 HMA
  cases ok
  · have HT2 : Hid (tickT r = ⟨r, []⟩) := HT.out.trans (if_neg (by simp))
    go_wp2_with fail
    have HMz := HM3
    have HGz := HG3
    have HFT := hide (fun j (hj : Foot g R j) => show w.heap.size ≤ j from Nat.le_trans hg1.size (hf2 j hj))
    have HCz := HC3
    have hFz := HF2.out
    have hLz := hlo2
    have HQ13 := hide (cell_stays (i := 13) HM3.out HC3.out rfl hFz rfl)
    refine Det.wp_region_det [8] (Cw w3 (b + 1) (rfC (⟨r, []⟩ : StT).r R)) (by kernel_rfl) (by kernel_rfl) (by kernel_rfl) rfl ?_
    refine Det.pure rfl rfl (.pointer (some ⟨g, 0, none⟩)) (fun w => by rfl) ?_
    simp only [Act.put, List.setIfInBounds_toArray, List.set_cons_zero, List.set_cons_succ]
    refine Det.pure rfl rfl (.pointer (some ⟨g, 0, none⟩)) (fun w => by rfl) ?_
    simp only [Act.put, List.setIfInBounds_toArray, List.set_cons_zero, List.set_cons_succ]
    refine Det.pure rfl rfl (.pointer (some ⟨g, 0, none⟩)) (fun w => by rfl) ?_
    simp only [Act.put, List.setIfInBounds_toArray, List.set_cons_zero, List.set_cons_succ]
    refine Det.plain rfl rfl 0 0 (by kernel_rfl) (.agg (rfC (⟨r, []⟩ : StT).r R).toArray) (fun m' _ hm w hw => by
      obtain rfl : m' = 0 := by omega
      have hw2 : w = w3.drew := hw
      rw [hw2]
      exact exec_part rfl rfl (HMz.out.bl.drewN 1)) ?_
    simp only [Act.put, List.setIfInBounds_toArray, List.set_cons_zero, List.set_cons_succ]
    refine Det.pure rfl rfl (.pointer (some ⟨g, 0, none⟩)) (fun w => by rfl) ?_
    simp only [Act.put, List.setIfInBounds_toArray, List.set_cons_zero, List.set_cons_succ]
    refine Det.pure rfl rfl (.pointer (some ⟨g, 0, none⟩)) (fun w => by rfl) ?_
    simp only [Act.put, List.setIfInBounds_toArray, List.set_cons_zero, List.set_cons_succ]
    refine Det.pure rfl rfl (.pointer (some ⟨g, 13, none⟩)) (fun w => by rfl) ?_
    simp only [Act.put, List.setIfInBounds_toArray, List.set_cons_zero, List.set_cons_succ]
    refine Det.load (u := R.q) rfl rfl rfl 0 1 (by kernel_rfl) (fun w => by kernel_rfl) rfl (fun m' _ hm w hw => by
      have h2 : m' = 0 ∨ m' = 1 := by omega
      rcases h2 with h2 | h2
      · subst h2
        have hw2 : w = w3.drew := hw
        rw [hw2]
        exact HMz.out.cell 13
      · subst h2
        have hw2 : w = w3.drew.setCells (b + 1) 0 (rfC (⟨r, []⟩ : StT).r R) := hw
        rw [hw2]
        exact HQ13.out) ?_
    simp only [Act.put, List.setIfInBounds_toArray, List.set_cons_zero, List.set_cons_succ]
    refine det_store (p := .pointer (some ⟨b + 1, 0, none⟩)) (u := .agg (rfC (⟨r, []⟩ : StT).r R).toArray) rfl rfl rfl rfl rfl (fun w1 hw => by
      obtain rfl : w1 = w3.drew := hw
      exact ⟨_, store_raft _ (HCz.out.drewN 1) rfl rfl HMz.out.ones, rfl⟩) ?_
    simp only [Act.put]
    refine Det.pure rfl rfl R.q (fun w => by rfl) ?_
    simp only [Act.put, List.setIfInBounds_toArray, List.set_cons_zero, List.set_cons_succ]
    refine Det.nil ?_
    intro w' hw'
    obtain rfl : w' = w3.drew.setCells (b + 1) 0 (rfC (⟨r, []⟩ : StT).r R) := hw'
    have HTD := hide (MemR.told HMz.out HGz.out HCz.out rfl hFz hLz hbz HFT.out)
    clear HMz HCz HQ13
    generalize w3.drew.setCells (b + 1) 0 (rfC (⟨r, []⟩ : StT).r R) = W9 at HTD ⊢
    go_wp2_with fail
    refine bodyPost_ret (rf_results2 rfl _ W9 (b + 1) 28 (rfC (⟨r, []⟩ : StT).r R).toArray (0, 0) _ rfl HTD.out.1 Try.underlying28 rfl (by kernel_rfl)) rfl ?_
    exact ⟨_, _, rfl, by rw [HT2.out]; exact HTD.out.2⟩
  · have HT2 : Hid (tickT r = tickS ⟨r, []⟩) := HT.out.trans (if_pos rfl)
    have hk := HRK.out rfl
    have HK := hide hk
    have HIN := hide (inRole_ok w3 g ⟨r, []⟩ R HM3.out)
    go_wp2_with fail
    refine HIN.out.mono ?_
    rintro e w4 ⟨rfl, hg4⟩
    have HM4 := hide (HM3.out.gr hg4)
    have HC4 := hide (HC3.out.gr hg4)
    have HG4 := hide (HG3.out.trans hg4)
    have HF0 := hide (fun j (hj : Foot g R j) => show w.heap.size ≤ j from Nat.le_trans hg1.size (hf2 j hj))
    clear HM3 HC3 HG3 hg4
    have HWT := hide (wait_ok w4 g ⟨r, []⟩ R HM4.out HK.out HTM.out (by show (0 : Nat) ≤ 380; omega))
    have HSA := hide (sendAll_ok w4 g ⟨r, []⟩ R HM4.out HK.out (by show (0 : Nat) ≤ 500; omega))
    have hfd : ∀ (a b c d e : Value) (W : World), (Instr.field 86 (.agg #[a, b, c, d, e]) 0).run Try.prog W = .ok a W := fun a b c d e W => by kernel_rfl
    by_cases h2 : r.role = 2
    · have HY := hide (show tickS ⟨r, []⟩ = allS ⟨r, []⟩ from if_pos h2)
      rw [show duties g r.role = _ from if_pos h2]
      simp only [boundV]
      go_wp2_with fail
      refine HSA.out.mono ?_
      rintro e w5 ⟨rfl, R5, q1, q2⟩
      rw [← HY.out] at q1
      obtain ⟨S5, hS5⟩ : ∃ S5, tickS ⟨r, []⟩ = S5 := ⟨_, rfl⟩
      rw [hS5] at q1
      have HS5 := hide (HT2.out.trans hS5)
      have hC5 := q2.bl HC4.out HF2.out
      have HMz := hide q1
      have HGz := hide (q2.gr HG4.out HF0.out).1
      have HFT := hide (q2.gr HG4.out HF0.out).2
      have HCz := hide hC5.1
      have hFz := hC5.2
      have hLz : b + 1 < R5.lo := by rw [q2.lo]; exact hlo2
      have HQ13 := hide (cell_stays (i := 13) q1 hC5.1 rfl hC5.2 rfl)
      clear hfd q1 q2 hC5 HM4 HC4 HG4 HWT HSA HIN hS5 HY
      go_wp2_with fail
      refine Det.wp_region_det [8] (Cw w5 (b + 1) (rfC S5.r R5)) (by kernel_rfl) (by kernel_rfl) (by kernel_rfl) rfl ?_
      refine Det.pure rfl rfl (.pointer (some ⟨g, 0, none⟩)) (fun w => by rfl) ?_
      simp only [Act.put, List.setIfInBounds_toArray, List.set_cons_zero, List.set_cons_succ]
      refine Det.pure rfl rfl (.pointer (some ⟨g, 0, none⟩)) (fun w => by rfl) ?_
      simp only [Act.put, List.setIfInBounds_toArray, List.set_cons_zero, List.set_cons_succ]
      refine Det.pure rfl rfl (.pointer (some ⟨g, 0, none⟩)) (fun w => by rfl) ?_
      simp only [Act.put, List.setIfInBounds_toArray, List.set_cons_zero, List.set_cons_succ]
      refine Det.plain rfl rfl 0 0 (by kernel_rfl) (.agg (rfC S5.r R5).toArray) (fun m' _ hm w hw => by
        obtain rfl : m' = 0 := by omega
        have hw2 : w = w5.drew := hw
        rw [hw2]
        exact exec_part rfl rfl (HMz.out.bl.drewN 1)) ?_
      simp only [Act.put, List.setIfInBounds_toArray, List.set_cons_zero, List.set_cons_succ]
      refine Det.pure rfl rfl (.pointer (some ⟨g, 0, none⟩)) (fun w => by rfl) ?_
      simp only [Act.put, List.setIfInBounds_toArray, List.set_cons_zero, List.set_cons_succ]
      refine Det.pure rfl rfl (.pointer (some ⟨g, 0, none⟩)) (fun w => by rfl) ?_
      simp only [Act.put, List.setIfInBounds_toArray, List.set_cons_zero, List.set_cons_succ]
      refine Det.pure rfl rfl (.pointer (some ⟨g, 13, none⟩)) (fun w => by rfl) ?_
      simp only [Act.put, List.setIfInBounds_toArray, List.set_cons_zero, List.set_cons_succ]
      refine Det.load (u := R5.q) rfl rfl rfl 0 1 (by kernel_rfl) (fun w => by kernel_rfl) rfl (fun m' _ hm w hw => by
        have h2 : m' = 0 ∨ m' = 1 := by omega
        rcases h2 with h2 | h2
        · subst h2
          have hw2 : w = w5.drew := hw
          rw [hw2]
          exact HMz.out.cell 13
        · subst h2
          have hw2 : w = w5.drew.setCells (b + 1) 0 (rfC S5.r R5) := hw
          rw [hw2]
          exact HQ13.out) ?_
      simp only [Act.put, List.setIfInBounds_toArray, List.set_cons_zero, List.set_cons_succ]
      refine det_store (p := .pointer (some ⟨b + 1, 0, none⟩)) (u := .agg (rfC S5.r R5).toArray) rfl rfl rfl rfl rfl (fun w1 hw => by
        obtain rfl : w1 = w5.drew := hw
        exact ⟨_, store_raft _ (HCz.out.drewN 1) rfl rfl HMz.out.ones, rfl⟩) ?_
      simp only [Act.put]
      refine Det.pure rfl rfl R5.q (fun w => by rfl) ?_
      simp only [Act.put, List.setIfInBounds_toArray, List.set_cons_zero, List.set_cons_succ]
      refine Det.nil ?_
      intro w' hw'
      obtain rfl : w' = w5.drew.setCells (b + 1) 0 (rfC S5.r R5) := hw'
      have HTD := hide (MemR.told HMz.out HGz.out HCz.out rfl hFz hLz hbz HFT.out)
      clear HMz HCz HQ13
      generalize w5.drew.setCells (b + 1) 0 (rfC S5.r R5) = W9 at HTD ⊢
      go_wp2_with fail
      refine bodyPost_ret (rf_results2 rfl _ W9 (b + 1) 28 (rfC S5.r R5).toArray (0, 0) _ rfl HTD.out.1 Try.underlying28 rfl (by kernel_rfl)) rfl ?_
      exact ⟨_, _, rfl, by rw [HS5.out]; exact HTD.out.2⟩
    · have HY := hide (show tickS ⟨r, []⟩ = waitS ⟨r, []⟩ from if_neg h2)
      by_cases h1 : r.role = 1
      · rw [show duties g r.role = _ from (if_neg h2).trans (if_pos h1)]
        simp only [boundV]
        go_wp2_with fail
        refine HWT.out.mono ?_
        rintro e w5 ⟨rfl, R5, q1, q2⟩
        rw [← HY.out] at q1
        obtain ⟨S5, hS5⟩ : ∃ S5, tickS ⟨r, []⟩ = S5 := ⟨_, rfl⟩
        rw [hS5] at q1
        have HS5 := hide (HT2.out.trans hS5)
        have hC5 := q2.bl HC4.out HF2.out
        have HMz := hide q1
        have HGz := hide (q2.gr HG4.out HF0.out).1
        have HFT := hide (q2.gr HG4.out HF0.out).2
        have HCz := hide hC5.1
        have hFz := hC5.2
        have hLz : b + 1 < R5.lo := by rw [q2.lo]; exact hlo2
        have HQ13 := hide (cell_stays (i := 13) q1 hC5.1 rfl hC5.2 rfl)
        clear hfd q1 q2 hC5 HM4 HC4 HG4 HWT HSA HIN hS5 HY
        go_wp2_with fail
        refine Det.wp_region_det [8] (Cw w5 (b + 1) (rfC S5.r R5)) (by kernel_rfl) (by kernel_rfl) (by kernel_rfl) rfl ?_
        refine Det.pure rfl rfl (.pointer (some ⟨g, 0, none⟩)) (fun w => by rfl) ?_
        simp only [Act.put, List.setIfInBounds_toArray, List.set_cons_zero, List.set_cons_succ]
        refine Det.pure rfl rfl (.pointer (some ⟨g, 0, none⟩)) (fun w => by rfl) ?_
        simp only [Act.put, List.setIfInBounds_toArray, List.set_cons_zero, List.set_cons_succ]
        refine Det.pure rfl rfl (.pointer (some ⟨g, 0, none⟩)) (fun w => by rfl) ?_
        simp only [Act.put, List.setIfInBounds_toArray, List.set_cons_zero, List.set_cons_succ]
        refine Det.plain rfl rfl 0 0 (by kernel_rfl) (.agg (rfC S5.r R5).toArray) (fun m' _ hm w hw => by
          obtain rfl : m' = 0 := by omega
          have hw2 : w = w5.drew := hw
          rw [hw2]
          exact exec_part rfl rfl (HMz.out.bl.drewN 1)) ?_
        simp only [Act.put, List.setIfInBounds_toArray, List.set_cons_zero, List.set_cons_succ]
        refine Det.pure rfl rfl (.pointer (some ⟨g, 0, none⟩)) (fun w => by rfl) ?_
        simp only [Act.put, List.setIfInBounds_toArray, List.set_cons_zero, List.set_cons_succ]
        refine Det.pure rfl rfl (.pointer (some ⟨g, 0, none⟩)) (fun w => by rfl) ?_
        simp only [Act.put, List.setIfInBounds_toArray, List.set_cons_zero, List.set_cons_succ]
        refine Det.pure rfl rfl (.pointer (some ⟨g, 13, none⟩)) (fun w => by rfl) ?_
        simp only [Act.put, List.setIfInBounds_toArray, List.set_cons_zero, List.set_cons_succ]
        refine Det.load (u := R5.q) rfl rfl rfl 0 1 (by kernel_rfl) (fun w => by kernel_rfl) rfl (fun m' _ hm w hw => by
          have h2 : m' = 0 ∨ m' = 1 := by omega
          rcases h2 with h2 | h2
          · subst h2
            have hw2 : w = w5.drew := hw
            rw [hw2]
            exact HMz.out.cell 13
          · subst h2
            have hw2 : w = w5.drew.setCells (b + 1) 0 (rfC S5.r R5) := hw
            rw [hw2]
            exact HQ13.out) ?_
        simp only [Act.put, List.setIfInBounds_toArray, List.set_cons_zero, List.set_cons_succ]
        refine det_store (p := .pointer (some ⟨b + 1, 0, none⟩)) (u := .agg (rfC S5.r R5).toArray) rfl rfl rfl rfl rfl (fun w1 hw => by
          obtain rfl : w1 = w5.drew := hw
          exact ⟨_, store_raft _ (HCz.out.drewN 1) rfl rfl HMz.out.ones, rfl⟩) ?_
        simp only [Act.put]
        refine Det.pure rfl rfl R5.q (fun w => by rfl) ?_
        simp only [Act.put, List.setIfInBounds_toArray, List.set_cons_zero, List.set_cons_succ]
        refine Det.nil ?_
        intro w' hw'
        obtain rfl : w' = w5.drew.setCells (b + 1) 0 (rfC S5.r R5) := hw'
        have HTD := hide (MemR.told HMz.out HGz.out HCz.out rfl hFz hLz hbz HFT.out)
        clear HMz HCz HQ13
        generalize w5.drew.setCells (b + 1) 0 (rfC S5.r R5) = W9 at HTD ⊢
        go_wp2_with fail
        refine bodyPost_ret (rf_results2 rfl _ W9 (b + 1) 28 (rfC S5.r R5).toArray (0, 0) _ rfl HTD.out.1 Try.underlying28 rfl (by kernel_rfl)) rfl ?_
        exact ⟨_, _, rfl, by rw [HS5.out]; exact HTD.out.2⟩
      · rw [show duties g r.role = _ from (if_neg h2).trans (if_neg h1)]
        simp only [boundV]
        go_wp2_with fail
        refine HWT.out.mono ?_
        rintro e w5 ⟨rfl, R5, q1, q2⟩
        rw [← HY.out] at q1
        obtain ⟨S5, hS5⟩ : ∃ S5, tickS ⟨r, []⟩ = S5 := ⟨_, rfl⟩
        rw [hS5] at q1
        have HS5 := hide (HT2.out.trans hS5)
        have hC5 := q2.bl HC4.out HF2.out
        have HMz := hide q1
        have HGz := hide (q2.gr HG4.out HF0.out).1
        have HFT := hide (q2.gr HG4.out HF0.out).2
        have HCz := hide hC5.1
        have hFz := hC5.2
        have hLz : b + 1 < R5.lo := by rw [q2.lo]; exact hlo2
        have HQ13 := hide (cell_stays (i := 13) q1 hC5.1 rfl hC5.2 rfl)
        clear hfd q1 q2 hC5 HM4 HC4 HG4 HWT HSA HIN hS5 HY
        go_wp2_with fail
        refine Det.wp_region_det [8] (Cw w5 (b + 1) (rfC S5.r R5)) (by kernel_rfl) (by kernel_rfl) (by kernel_rfl) rfl ?_
        refine Det.pure rfl rfl (.pointer (some ⟨g, 0, none⟩)) (fun w => by rfl) ?_
        simp only [Act.put, List.setIfInBounds_toArray, List.set_cons_zero, List.set_cons_succ]
        refine Det.pure rfl rfl (.pointer (some ⟨g, 0, none⟩)) (fun w => by rfl) ?_
        simp only [Act.put, List.setIfInBounds_toArray, List.set_cons_zero, List.set_cons_succ]
        refine Det.pure rfl rfl (.pointer (some ⟨g, 0, none⟩)) (fun w => by rfl) ?_
        simp only [Act.put, List.setIfInBounds_toArray, List.set_cons_zero, List.set_cons_succ]
        refine Det.plain rfl rfl 0 0 (by kernel_rfl) (.agg (rfC S5.r R5).toArray) (fun m' _ hm w hw => by
          obtain rfl : m' = 0 := by omega
          have hw2 : w = w5.drew := hw
          rw [hw2]
          exact exec_part rfl rfl (HMz.out.bl.drewN 1)) ?_
        simp only [Act.put, List.setIfInBounds_toArray, List.set_cons_zero, List.set_cons_succ]
        refine Det.pure rfl rfl (.pointer (some ⟨g, 0, none⟩)) (fun w => by rfl) ?_
        simp only [Act.put, List.setIfInBounds_toArray, List.set_cons_zero, List.set_cons_succ]
        refine Det.pure rfl rfl (.pointer (some ⟨g, 0, none⟩)) (fun w => by rfl) ?_
        simp only [Act.put, List.setIfInBounds_toArray, List.set_cons_zero, List.set_cons_succ]
        refine Det.pure rfl rfl (.pointer (some ⟨g, 13, none⟩)) (fun w => by rfl) ?_
        simp only [Act.put, List.setIfInBounds_toArray, List.set_cons_zero, List.set_cons_succ]
        refine Det.load (u := R5.q) rfl rfl rfl 0 1 (by kernel_rfl) (fun w => by kernel_rfl) rfl (fun m' _ hm w hw => by
          have h2 : m' = 0 ∨ m' = 1 := by omega
          rcases h2 with h2 | h2
          · subst h2
            have hw2 : w = w5.drew := hw
            rw [hw2]
            exact HMz.out.cell 13
          · subst h2
            have hw2 : w = w5.drew.setCells (b + 1) 0 (rfC S5.r R5) := hw
            rw [hw2]
            exact HQ13.out) ?_
        simp only [Act.put, List.setIfInBounds_toArray, List.set_cons_zero, List.set_cons_succ]
        refine det_store (p := .pointer (some ⟨b + 1, 0, none⟩)) (u := .agg (rfC S5.r R5).toArray) rfl rfl rfl rfl rfl (fun w1 hw => by
          obtain rfl : w1 = w5.drew := hw
          exact ⟨_, store_raft _ (HCz.out.drewN 1) rfl rfl HMz.out.ones, rfl⟩) ?_
        simp only [Act.put]
        refine Det.pure rfl rfl R5.q (fun w => by rfl) ?_
        simp only [Act.put, List.setIfInBounds_toArray, List.set_cons_zero, List.set_cons_succ]
        refine Det.nil ?_
        intro w' hw'
        obtain rfl : w' = w5.drew.setCells (b + 1) 0 (rfC S5.r R5) := hw'
        have HTD := hide (MemR.told HMz.out HGz.out HCz.out rfl hFz hLz hbz HFT.out)
        clear HMz HCz HQ13
        generalize w5.drew.setCells (b + 1) 0 (rfC S5.r R5) = W9 at HTD ⊢
        go_wp2_with fail
        refine bodyPost_ret (rf_results2 rfl _ W9 (b + 1) 28 (rfC S5.r R5).toArray (0, 0) _ rfl HTD.out.1 Try.underlying28 rfl (by kernel_rfl)) rfl ?_
        exact ⟨_, _, rfl, by rw [HS5.out]; exact HTD.out.2⟩

end Go.Proofs.Ythpaoeiackbdoaa

/-
  isFor.
-/
namespace Go.Proofs.Ythpaoeiackbdoaa
open Go Go.RowKit TxnMath KeyMath MsgMath BalMath RfMath
set_option maxRecDepth 100000

set_option maxHeartbeats 2000000 in
theorem isFor_ok (w : World) (g : Nat) (s : StT) (R : RowsM) (h : MemR w g s R) (v : Value) (l : MsgT) (hl : MsgX (Free g R) w v l) :
    Calls Try.prog 40 #[.pointer (some ⟨g, 0, none⟩), v] w fun e w' => e = .returned (.bool (isFor l s.r)) ∧ Gr w w' := by
  obtain ⟨r, rfl, _⟩ := hl
  obtain ⟨W1, hW1⟩ : ∃ W1, w.alloc (.cells (cellsM l r).toArray 47) = W1 := ⟨_, rfl⟩
  have hB := h.box (cellsM l r).toArray 47
  have hb1 : Bl W1 w.heap.size 47 (cellsM l r).toArray := by rw [← hW1]; exact Bl.new _ _ _
  have hg1 : Gr w W1 := by rw [← hW1]; exact (Gr.refl _).alloc _
  rw [hW1] at hB
  obtain ⟨b, hb⟩ : ∃ b, w.heap.size = b := ⟨_, rfl⟩
  rw [hb] at hb1
  have b1 : W1.cell? ⟨b, 1, none⟩ = some (.int .i64 l.frm) := hb1.cell 1
  have b2 : W1.cell? ⟨b, 2, none⟩ = some (.int .i64 l.to) := hb1.cell 2
  have c0 : W1.cell? ⟨g, 0, none⟩ = some (.int .i64 s.r.me) := hB.1.cell 0
  have c1 : W1.cell? ⟨g, 1, none⟩ = some (.int .i64 s.r.nodes) := hB.1.cell 1
  have HW := hide (fun n => within_ok l.frm 1 s.r.nodes (W1.drewN n))
  have HD : Hid (isFor l s.r = (withinB l.frm 1 s.r.nodes && !decide (l.frm = s.r.me) && decide (l.to = s.r.me))) := rfl
  generalize withinB l.frm 1 s.r.nodes = wi at HW HD
  have HG := hide hg1
  obtain ⟨fr, hfr⟩ : ∃ fr, l.frm = fr := ⟨_, rfl⟩
  obtain ⟨tt, htt⟩ : ∃ tt, l.to = tt := ⟨_, rfl⟩
  obtain ⟨me, hme⟩ : ∃ me, s.r.me = me := ⟨_, rfl⟩
  obtain ⟨nn, hnn⟩ : ∃ nn, s.r.nodes = nn := ⟨_, rfl⟩
  rw [hfr, htt, hme] at HD
  rw [hfr] at b1
  rw [htt] at b2
  rw [hme] at c0
  rw [hnn] at c1
  rw [hfr, hnn] at HW
  simp only [cellsM, hfr, htt] at hW1 ⊢
  generalize isFor l s.r = res at HD ⊢
  clear h hB hb1 hg1
  go_enter Try.func40, Try.ntmps40
  go_upto_region 1 with (fail)
  clear hW1
  cases wi
  · have HR : Hid (res = false) := by unfold Hid; rw [HD.out]; rfl
    go_quiet (refine Calls.quiet_of_same (HW.out _))
    go_wp2_with fail
    go_ret
    exact ⟨by rw [HR.out]; rfl, HG.out.trans ((Gr.refl _).drewN _)⟩
  · by_cases h1 : fr = me
    · subst h1
      have HR : Hid (res = false) := by unfold Hid; rw [HD.out]; simp
      go_quiet (refine Calls.quiet_of_same (HW.out _))
      go_wp2_with fail
      go_ret
      exact ⟨by rw [HR.out]; rfl, HG.out.trans ((Gr.refl _).drewN _)⟩
    · have h1' : (fr == me) = false := by rw [beq_eq_false_iff_ne]; exact h1
      by_cases h2 : tt = me
      · subst h2
        have HR : Hid (res = true) := by unfold Hid; rw [HD.out]; simp [h1]
        go_quiet (refine Calls.quiet_of_same (HW.out _))
        go_wp2_with fail
        go_ret
        exact ⟨by rw [HR.out]; simp [h1], HG.out.trans ((Gr.refl _).drewN _)⟩
      · have h2' : (tt == me) = false := by rw [beq_eq_false_iff_ne]; exact h2
        have HR : Hid (res = false) := by unfold Hid; rw [HD.out]; simp [h2]
        go_quiet (refine Calls.quiet_of_same (HW.out _))
        go_wp2_with fail
        go_ret
        exact ⟨by rw [HR.out]; rfl, HG.out.trans ((Gr.refl _).drewN _)⟩

end Go.Proofs.Ythpaoeiackbdoaa

/-
  Take.
-/
namespace Go.Proofs.Ythpaoeiackbdoaa.Grow
open Go Go.RowKit Go.Proofs.Ythpaoeiackbdoaa TxnMath KeyMath MsgMath BalMath RfMath
set_option maxRecDepth 100000
/-- a pointer to a member that is as it was -/
abbrev Mk (g : Nat) (s : StT) (R : RowsM) : Known := fun v w => v = .pointer (some ⟨g, 0, none⟩) ∧ MemR w g s R
theorem Mk.stays (g : Nat) (s : StT) (R : RowsM) : Stays (Mk g s R) := fun _ _ _ ⟨h1, h2⟩ hg => ⟨h1, h2.gr hg⟩
theorem cd_row {P : Program} {ops : Array Oper} {w0 : World} {n0 : Nat} {Q : (Tmp → Known) → Prop} {o : Oper} {rest : List Oper} {K : Tmp → Known} {b : Bool} {ty : TypeId} {x : Operand} {g : Nat} {e : TypeId} {cs : Array Value} {d : TypeDesc} (ho : o.op = .load ty x) (hG : Gd ops K n0 o b) (hx : KnC K b x (Bx g e cs))
    (hu : P.underlying ty = some d) (hd : (match d with | .struct _ | .array _ _ => true | _ => false) = true) (hi : (P.info? ty).map (·.size) = some cs.size) (h : wpGrow P ops w0 n0 Q rest (upd K o.dst (Cd b (Is (.agg cs))))) : wpGrow P ops w0 n0 Q (o :: rest) K := by
  refine cd_step hG (Is.stays _) (fun hb a w _ _ hl => ?_) h
  obtain ⟨h1, h2⟩ : a.eval x = .pointer (some ⟨g, 0, none⟩) ∧ Bl w g e cs := looks_c (Ψ := Bx g e cs) hb (by simp [ho, Op.operands]) hx hl
  unfold does execOp
  simp only [ho, h1, Instr.loadAt, Instr.sureAddr, Sem.run_bind, Sem.run_pure, Result.andThen_ok, run_loadVar_row w g e ty cs (0, 0) d h2 hu hd hi]
  exact ⟨Gr.refl w, rfl⟩
end Go.Proofs.Ythpaoeiackbdoaa.Grow
namespace Go.Proofs.Ythpaoeiackbdoaa
open Go Go.RowKit TxnMath KeyMath MsgMath BalMath RfMath
set_option maxRecDepth 100000

/-- what is asked of a letter that is handed in -/
structure LetterIn (l : MsgT) : Prop where
  term : l.term ≤ 1152921504606846976
  index : l.index ≤ 9223372036854775807
  len : l.entries.length ≤ 1000
  bnd : ∀ e ∈ l.entries, EntBnd e

set_option maxHeartbeats 2000000 in
theorem Take_ok (w : World) (r : RaftT) (R0 : RowsM) (h : RaftR Any w r R0) (hs : RfGood r) (v : Value) (l : MsgT) (hl : MsgX Any w v l) (hli : LetterIn l) :
    Calls Try.prog 22 #[.agg (rfC r R0).toArray, v] w fun e w' => ∃ v u, e = .returned (.tuple #[v, u]) ∧ TurnX w w' (takeT r l) v u := by
  obtain ⟨rw5, rfl, hr⟩ := hl
  have hr0 : MsgR (fun j => j < w.heap.size) w l rw5 := hr.move (Moves.same fun j hj _ => hj)
  obtain ⟨W1, hW1⟩ : ∃ W1, ((w.alloc (.cells (rfC r R0).toArray 28)).alloc (.cells (cellsM l rw5).toArray 47)).alloc (.cells #[.int .i64 0, .int .i64 0, .int .i64 0, .int .i64 0, .int .i64 0, .slice none 0 0, .int .i64 0, .int .i64 0, .int .i64 0, .slice none 0 0, .slice none 0 0, .slice none 0 0, .int .i64 0] 28) = W1 := ⟨_, rfl⟩
  have hg1 : Gr w W1 := by rw [← hW1]; exact (((Gr.refl _).alloc _).alloc _).alloc _
  have hb1 : Bl W1 w.heap.size 28 (rfC r R0).toArray := by rw [← hW1]; exact (Bl.new _ _ _).gr (((Gr.refl _).alloc _).alloc _)
  have hbl : Bl W1 (w.heap.size + 1) 47 (cellsM l rw5).toArray := by
    rw [← hW1]
    have := (Bl.new (w.alloc (.cells (rfC r R0).toArray 28)) 47 (cellsM l rw5).toArray).gr ((Gr.refl _).alloc (.cells #[.int .i64 0, .int .i64 0, .int .i64 0, .int .i64 0, .int .i64 0, .slice none 0 0, .int .i64 0, .int .i64 0, .int .i64 0, .slice none 0 0, .slice none 0 0, .slice none 0 0, .int .i64 0] 28))
    simpa using this
  have hb2 : Bl W1 (w.heap.size + 2) 28 #[.int .i64 0, .int .i64 0, .int .i64 0, .int .i64 0, .int .i64 0, .slice none 0 0, .int .i64 0, .int .i64 0, .int .i64 0, .slice none 0 0, .slice none 0 0, .slice none 0 0, .int .i64 0] := by
    rw [← hW1]
    have := Bl.new ((w.alloc (.cells (rfC r R0).toArray 28)).alloc (.cells (cellsM l rw5).toArray 47)) 28 #[.int .i64 0, .int .i64 0, .int .i64 0, .int .i64 0, .int .i64 0, .slice none 0 0, .int .i64 0, .int .i64 0, .int .i64 0, .slice none 0 0, .slice none 0 0, .slice none 0 0, .int .i64 0]
    simpa using this
  obtain ⟨b, hb⟩ : ∃ b, w.heap.size = b := ⟨_, rfl⟩
  rw [hb] at hb1 hb2 hbl
  have hb2l := hb2.lt
  have HMO := hide (memberOf_ok W1 r R0 (h.gr hg1) hs.toRfSz)
  have HMA := hide (fun W (hW : Gr w W) => May_ok W r R0 (h.gr hW) hs.toRfSz)
  obtain ⟨ok, hok⟩ : ∃ ok, mayR r = ok := ⟨_, rfl⟩
  rw [hok] at HMA
  obtain ⟨D, hD⟩ : ∃ D, (rfC r R0).toArray = D := ⟨_, rfl⟩
  obtain ⟨E, hE⟩ : ∃ E, (cellsM l rw5).toArray = E := ⟨_, rfl⟩
  have hE0 : E[0]? = some (.int .i64 l.kind) := by rw [← hE]; rfl
  have HDS := hide (show some D.size = some 13 by rw [← hD]; rfl)
  have HES := hide (show some E.size = some 24 by rw [← hE]; rfl)
  have HB1 := hide hb1
  have HBL := hide hbl
  rw [hD] at HB1 HMO HMA
  rw [hE] at HBL
  have HRK := hide (fun (e : ok = true) => rk_of_may (hok.trans e) hs)
  obtain ⟨fo, hfo⟩ : ∃ fo, isFor l r = fo := ⟨_, rfl⟩
  have HFO := hide (show fo = true → 1 ≤ l.frm ∧ l.frm ≤ r.nodes from fun e => by
    rw [← hfo] at e
    simp only [isFor, withinB, Bool.and_eq_true, decide_eq_true_eq] at e
    exact e.1.1)
  have HT : Hid (takeT r l = if (ok && fo && decide (l.kind < 5)) = true then takeS l ⟨r, []⟩ else ⟨r, []⟩) := by unfold Hid takeT takeB; rw [hok, hfo]
  have HX := hide (fun (g : Nat) (R : RowsM) W (hW : Gr w W) (hf : ∀ j, Foot g R j → W1.heap.size ≤ j) => show MsgX (Free g R) W (.agg E) l from ⟨rw5, by rw [← hE], hr0.move fun j hj hx => ⟨hW.block j hj, fun hf2 => by have := hf j hf2; have := hg1.size; omega⟩⟩)
  simp only [rfC, cellsM] at hW1 ⊢
  go_enter Try.func22, Try.ntmps22
  go_upto_region 1 with (fail)
  clear hW1 hD hE h hs hok hr hr0
  refine wp_region_list ?_
  rw [List.toList_toArray]
  refine wpList_val (.agg D) rfl (exec_box rfl rfl HB1.out Try.underlying28 rfl (by rw [HDS.out]; kernel_rfl)) ?_
  simp only [Act.put, List.setIfInBounds_toArray, List.set_cons_zero, List.set_cons_succ]
  go_wp2_with fail
  refine HMO.out.mono ?_
  rintro e w2 ⟨g, R, rfl, hM, hg2, hf2, hlo⟩
  have HM2 := hide hM
  have HB2 := hide (HB1.out.gr hg2)
  have HL2 := hide (HBL.out.gr hg2)
  have HG2 := hide (hg1.trans hg2)
  have HC2 := hide (hb2.gr hg2)
  have hlo2 : b + 2 < R.lo := by rw [hlo]; exact hb2l
  have HF2 := hide (show ¬ Foot g R (b + 2) from fun hf => by have := hf2 _ hf; omega)
  have HFL := hide (show ¬ Foot g R (b + 1) from fun hf => by have := hf2 _ hf; omega)
  have HF0 := hide (fun j (hj : Foot g R j) => show w.heap.size ≤ j from Nat.le_trans hg1.size (hf2 j hj))
  have HX2 := hide (fun W (hW : Gr w W) => HX.out g R W hW hf2)
  have hbz : w.heap.size ≤ b + 2 := by omega
  clear hM HMO hg2 HX
  go_upto_region 2 with (fail)
  refine Grow.wp_region_text 32 [9, 10, 11, 12, 13, 14, 15, 16, 17, 18, 19, 20] rfl (by kernel_rfl) (by kernel_rfl) (Grow.Ahead.more (Grow.Ahead.more (Grow.Ahead.more (Grow.Ahead.none_ _ _) 2 (Grow.Bx.stays b 28 D) ⟨rfl, HB2.out⟩) 3 (Grow.Bx.stays (b + 1) 47 E) ⟨rfl, HL2.out⟩) 6 (Grow.Mk.stays g ⟨r, []⟩ R) ⟨rfl, HM2.out⟩) ?_
  refine Grow.grow_row rfl (.inl ⟨rfl, rfl⟩) rfl Try.underlying28 rfl (by rw [HDS.out]; kernel_rfl) ?_
  refine Grow.grow_call1 (Φ := Grow.Is (.bool ok)) rfl (.inl ⟨rfl, rfl⟩) Try.func15 (by kernel_rfl) (by kernel_rfl) (Ψ := Grow.Is (.agg D)) rfl (Grow.Is.stays _) (fun v W hW hv => by
    obtain rfl : v = _ := hv
    exact (HMA.out W (HG2.out.trans hW)).mono fun e w' ⟨he, hg⟩ => ⟨_, he, hg, rfl⟩) ?_
  refine Grow.grow_mv (.inl rfl) (.inl ⟨rfl, rfl⟩) rfl ?_
  refine Grow.cd_mv (b := ok) (.inl rfl) (.inl ⟨2, 11, rfl, rfl, rfl, by decide⟩) (.inl rfl) (Grow.Mk.stays _ _ _) ?_
  refine Grow.cd_row (b := ok) rfl (.inl ⟨2, 11, rfl, rfl, rfl, by decide⟩) (.inl rfl) Try.underlying47 rfl (by rw [HES.out]; kernel_rfl) ?_
  refine Grow.cd_call2 (Φ := Grow.Is (.bool fo)) (b := ok) rfl (.inl ⟨2, 11, rfl, rfl, rfl, by decide⟩) Try.func40 (by kernel_rfl) (by kernel_rfl) (Ψ := Grow.Mk g ⟨r, []⟩ R) (Ψ' := Grow.Is (.agg E)) (.inr rfl) (.inr rfl) (Grow.Is.stays _) (fun v u W hW hv hu => by
    obtain ⟨rfl, hm⟩ := hv
    obtain rfl : u = _ := hu
    exact (isFor_ok W g ⟨r, []⟩ R hm _ l (HX2.out W (HG2.out.trans hW))).mono fun e w' ⟨he, hg⟩ => ⟨_, he, hg, by rw [← hfo]⟩) ?_
  refine Grow.pick_and (b := ok) rfl rfl rfl (.inr rfl) ?_
  refine Grow.grow_mv (.inl rfl) (.inl ⟨rfl, rfl⟩) rfl ?_
  refine Grow.cd_field (j := 0) (u := .int .i64 l.kind) (Ψ := (Grow.Is (.int .i64 l.kind))) (b := (ok && fo)) rfl (.inl ⟨7, 16, rfl, rfl, rfl, by decide⟩) (.inl rfl) (fun w => by kernel_rfl) hE0 (Grow.Is.stays _) (fun _ _ => rfl) ?_
  refine Grow.cd_load (b := (ok && fo)) rfl (fun w => by kernel_rfl) (.inl ⟨7, 16, rfl, rfl, rfl, by decide⟩) (.inr rfl) (Grow.Is.stays _) ?_
  refine Grow.cd_int (c := .bool (decide (l.kind < 5))) (b := (ok && fo)) rfl (.inl ⟨7, 16, rfl, rfl, rfl, by decide⟩) (.inr rfl) (fun _ => rfl) (by rw [show binOp .lss _ _ _ = pure (.bool (decide (l.kind < 5))) from rfl]) ?_
  refine Grow.pick_and (b := (ok && fo)) rfl rfl rfl (.inr rfl) ?_
  intro a1 w3 hg3 hsz hdf hun hkk
  have k20 : a1.tmps.getD 20 undef = .bool (ok && fo && decide (l.kind < 5)) := hkk 20
  have k2 : a1.tmps.getD 2 undef = _ := (hkk 2).1
  have k3 : a1.tmps.getD 3 undef = _ := (hkk 3).1
  have k6 : a1.tmps.getD 6 undef = _ := (hkk 6).1
  obtain ⟨X, hX, hlay⟩ := Grow.lay_kept_by _ a1 32 _ hsz hdf hun
  rw [hX] at k20
  clear hX hun hdf hsz hkk k2 k3 k6
  subst hlay
  simp only [List.range, List.range.loop, List.map_cons, List.map_nil, List.contains_cons, List.contains_nil, Nat.reduceBEq, Bool.or_false, Bool.or_true, cond_false, cond_true, Array.getD_eq_getD_getElem?, List.getElem?_toArray, List.getElem?_cons_zero, List.getElem?_cons_succ, Option.getD_some, k20]
  clear k20
  have HM3 := hide (HM2.out.gr hg3)
  have HC3 := hide (HC2.out.gr hg3)
  have HL3 := hide (HL2.out.gr hg3)
  have HG3 := hide (HG2.out.trans hg3)
  clear HM2 HC2 HG2 HB2 HB1 HL2 hg3 HMA HBL
  obtain ⟨go, hgo⟩ : ∃ go, (ok && fo && decide (l.kind < 5)) = go := ⟨_, rfl⟩
  rw [hgo] at HT ⊢
  cases go
  · have HT2 : Hid (takeT r l = ⟨r, []⟩) := HT.out.trans (if_neg (by simp))
    clear hgo
    go_wp2_with fail
    have HMz := HM3
    have HGz := HG3
    have HFT := HF0
    have HCz := HC3
    have hFz := HF2.out
    have hLz := hlo2
    have HQ13 := hide (cell_stays (i := 13) HM3.out HC3.out rfl hFz rfl)
    refine Det.wp_region_det [8] (Cw w3 (b + 2) (rfC (⟨r, []⟩ : StT).r R)) (by kernel_rfl) (by kernel_rfl) (by kernel_rfl) rfl ?_
    refine Det.pure rfl rfl (.pointer (some ⟨g, 0, none⟩)) (fun w => by rfl) ?_
    simp only [Act.put, List.setIfInBounds_toArray, List.set_cons_zero, List.set_cons_succ]
    refine Det.pure rfl rfl (.pointer (some ⟨g, 0, none⟩)) (fun w => by rfl) ?_
    simp only [Act.put, List.setIfInBounds_toArray, List.set_cons_zero, List.set_cons_succ]
    refine Det.pure rfl rfl (.pointer (some ⟨g, 0, none⟩)) (fun w => by rfl) ?_
    simp only [Act.put, List.setIfInBounds_toArray, List.set_cons_zero, List.set_cons_succ]
    refine Det.plain rfl rfl 0 0 (by kernel_rfl) (.agg (rfC (⟨r, []⟩ : StT).r R).toArray) (fun m' _ hm w hw => by
      obtain rfl : m' = 0 := by omega
      have hw2 : w = w3.drew := hw
      rw [hw2]
      exact exec_part rfl rfl (HMz.out.bl.drewN 1)) ?_
    simp only [Act.put, List.setIfInBounds_toArray, List.set_cons_zero, List.set_cons_succ]
    refine Det.pure rfl rfl (.pointer (some ⟨g, 0, none⟩)) (fun w => by rfl) ?_
    simp only [Act.put, List.setIfInBounds_toArray, List.set_cons_zero, List.set_cons_succ]
    refine Det.pure rfl rfl (.pointer (some ⟨g, 0, none⟩)) (fun w => by rfl) ?_
    simp only [Act.put, List.setIfInBounds_toArray, List.set_cons_zero, List.set_cons_succ]
    refine Det.pure rfl rfl (.pointer (some ⟨g, 13, none⟩)) (fun w => by rfl) ?_
    simp only [Act.put, List.setIfInBounds_toArray, List.set_cons_zero, List.set_cons_succ]
    refine Det.load (u := R.q) rfl rfl rfl 0 1 (by kernel_rfl) (fun w => by kernel_rfl) rfl (fun m' _ hm w hw => by
      have h2 : m' = 0 ∨ m' = 1 := by omega
      rcases h2 with h2 | h2
      · subst h2
        have hw2 : w = w3.drew := hw
        rw [hw2]
        exact HMz.out.cell 13
      · subst h2
        have hw2 : w = w3.drew.setCells (b + 2) 0 (rfC (⟨r, []⟩ : StT).r R) := hw
        rw [hw2]
        exact HQ13.out) ?_
    simp only [Act.put, List.setIfInBounds_toArray, List.set_cons_zero, List.set_cons_succ]
    refine det_store (p := .pointer (some ⟨b + 2, 0, none⟩)) (u := .agg (rfC (⟨r, []⟩ : StT).r R).toArray) rfl rfl rfl rfl rfl (fun w1 hw => by
      obtain rfl : w1 = w3.drew := hw
      exact ⟨_, store_raft _ (HCz.out.drewN 1) rfl rfl HMz.out.ones, rfl⟩) ?_
    simp only [Act.put]
    refine Det.pure rfl rfl R.q (fun w => by rfl) ?_
    simp only [Act.put, List.setIfInBounds_toArray, List.set_cons_zero, List.set_cons_succ]
    refine Det.nil ?_
    intro w' hw'
    obtain rfl : w' = w3.drew.setCells (b + 2) 0 (rfC (⟨r, []⟩ : StT).r R) := hw'
    have HTD := hide (MemR.told HMz.out HGz.out HCz.out rfl hFz hLz hbz HFT.out)
    clear HMz HCz HQ13
    generalize w3.drew.setCells (b + 2) 0 (rfC (⟨r, []⟩ : StT).r R) = W9 at HTD ⊢
    go_wp2_with fail
    refine bodyPost_ret (rf_results2 rfl _ W9 (b + 2) 28 (rfC (⟨r, []⟩ : StT).r R).toArray (0, 0) _ rfl HTD.out.1 Try.underlying28 rfl (by kernel_rfl)) rfl ?_
    exact ⟨_, _, rfl, by rw [HT2.out]; exact HTD.out.2⟩
  · have HT2 : Hid (takeT r l = takeS l ⟨r, []⟩) := HT.out.trans (if_pos rfl)
    simp only [Bool.and_eq_true, decide_eq_true_eq] at hgo
    have hk := HRK.out hgo.1.1
    have hff := HFO.out hgo.1.2
    have HTK := hide (take_ok w3 g ⟨r, []⟩ R HM3.out hk _ l (HX2.out w3 HG3.out) ⟨hff, hli.term, hli.index, hli.len, hli.bnd⟩ (by show (0 : Nat) ≤ 380; omega))
    clear hgo
    go_upto_region 3 with (fail)
    refine wp_region_list ?_
    rw [List.toList_toArray]
    refine wpList_val (.pointer (some ⟨g, 0, none⟩)) rfl rfl ?_
    refine wpList_val (.agg E) rfl (exec_box rfl rfl HL3.out Try.underlying47 rfl (by rw [HES.out]; kernel_rfl)) ?_
    simp only [Act.put, List.setIfInBounds_toArray, List.set_cons_zero, List.set_cons_succ]
    go_wp2_with fail
    refine HTK.out.mono ?_
    rintro e w5 ⟨rfl, R5, q1, q2⟩
    obtain ⟨S5, hS5⟩ : ∃ S5, takeS l ⟨r, []⟩ = S5 := ⟨_, rfl⟩
    rw [hS5] at q1
    have HS5 := hide (HT2.out.trans hS5)
    have hC5 := q2.bl HC3.out HF2.out
    have HMz := hide q1
    have HGz := hide (q2.gr HG3.out HF0.out).1
    have HFT := hide (q2.gr HG3.out HF0.out).2
    have HCz := hide hC5.1
    have hFz := hC5.2
    have hLz : b + 2 < R5.lo := by rw [q2.lo]; exact hlo2
    have HQ13 := hide (cell_stays (i := 13) q1 hC5.1 rfl hC5.2 rfl)
    clear q1 q2 hC5 HM3 HC3 HG3 HTK hS5 HL3
    go_wp2_with fail
    refine Det.wp_region_det [8] (Cw w5 (b + 2) (rfC S5.r R5)) (by kernel_rfl) (by kernel_rfl) (by kernel_rfl) rfl ?_
    refine Det.pure rfl rfl (.pointer (some ⟨g, 0, none⟩)) (fun w => by rfl) ?_
    simp only [Act.put, List.setIfInBounds_toArray, List.set_cons_zero, List.set_cons_succ]
    refine Det.pure rfl rfl (.pointer (some ⟨g, 0, none⟩)) (fun w => by rfl) ?_
    simp only [Act.put, List.setIfInBounds_toArray, List.set_cons_zero, List.set_cons_succ]
    refine Det.pure rfl rfl (.pointer (some ⟨g, 0, none⟩)) (fun w => by rfl) ?_
    simp only [Act.put, List.setIfInBounds_toArray, List.set_cons_zero, List.set_cons_succ]
    refine Det.plain rfl rfl 0 0 (by kernel_rfl) (.agg (rfC S5.r R5).toArray) (fun m' _ hm w hw => by
      obtain rfl : m' = 0 := by omega
      have hw2 : w = w5.drew := hw
      rw [hw2]
      exact exec_part rfl rfl (HMz.out.bl.drewN 1)) ?_
    simp only [Act.put, List.setIfInBounds_toArray, List.set_cons_zero, List.set_cons_succ]
    refine Det.pure rfl rfl (.pointer (some ⟨g, 0, none⟩)) (fun w => by rfl) ?_
    simp only [Act.put, List.setIfInBounds_toArray, List.set_cons_zero, List.set_cons_succ]
    refine Det.pure rfl rfl (.pointer (some ⟨g, 0, none⟩)) (fun w => by rfl) ?_
    simp only [Act.put, List.setIfInBounds_toArray, List.set_cons_zero, List.set_cons_succ]
    refine Det.pure rfl rfl (.pointer (some ⟨g, 13, none⟩)) (fun w => by rfl) ?_
    simp only [Act.put, List.setIfInBounds_toArray, List.set_cons_zero, List.set_cons_succ]
    refine Det.load (u := R5.q) rfl rfl rfl 0 1 (by kernel_rfl) (fun w => by kernel_rfl) rfl (fun m' _ hm w hw => by
      have h2 : m' = 0 ∨ m' = 1 := by omega
      rcases h2 with h2 | h2
      · subst h2
        have hw2 : w = w5.drew := hw
        rw [hw2]
        exact HMz.out.cell 13
      · subst h2
        have hw2 : w = w5.drew.setCells (b + 2) 0 (rfC S5.r R5) := hw
        rw [hw2]
        exact HQ13.out) ?_
    simp only [Act.put, List.setIfInBounds_toArray, List.set_cons_zero, List.set_cons_succ]
    refine det_store (p := .pointer (some ⟨b + 2, 0, none⟩)) (u := .agg (rfC S5.r R5).toArray) rfl rfl rfl rfl rfl (fun w1 hw => by
      obtain rfl : w1 = w5.drew := hw
      exact ⟨_, store_raft _ (HCz.out.drewN 1) rfl rfl HMz.out.ones, rfl⟩) ?_
    simp only [Act.put]
    refine Det.pure rfl rfl R5.q (fun w => by rfl) ?_
    simp only [Act.put, List.setIfInBounds_toArray, List.set_cons_zero, List.set_cons_succ]
    refine Det.nil ?_
    intro w' hw'
    obtain rfl : w' = w5.drew.setCells (b + 2) 0 (rfC S5.r R5) := hw'
    have HTD := hide (MemR.told HMz.out HGz.out HCz.out rfl hFz hLz hbz HFT.out)
    clear HMz HCz HQ13
    generalize w5.drew.setCells (b + 2) 0 (rfC S5.r R5) = W9 at HTD ⊢
    go_wp2_with fail
    refine bodyPost_ret (rf_results2 rfl _ W9 (b + 2) 28 (rfC S5.r R5).toArray (0, 0) _ rfl HTD.out.1 Try.underlying28 rfl (by kernel_rfl)) rfl ?_
    exact ⟨_, _, rfl, by rw [HS5.out]; exact HTD.out.2⟩

end Go.Proofs.Ythpaoeiackbdoaa
