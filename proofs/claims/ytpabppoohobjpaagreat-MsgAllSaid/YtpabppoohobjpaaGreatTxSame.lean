/-
  txn.Same by its contract.
-/
import Derived.Test.YtpabppoohobjpaaGreatTxnWords
import Derived.Test.YtpabppoohobjpaaGreatTxEqual
namespace Go.Proofs.YtpabppoohobjpaaGreat
open Go Go.RowKit TxnMath KeyMath
set_option maxRecDepth 100000

set_option maxHeartbeats 1000000 in
theorem TxSameB_ok (v u : Value) (t x : TxT) (w : World) (hv : TxAt w v t) (hu : TxAt w u x) (ht : TxBnd t) (hx : TxBnd x) :
    Calls Tryz.prog 35 #[v, u] w fun e w' => e = .returned (.bool (decide (t = x))) ∧ Gr w w' := by
  obtain ⟨rv, wv, rfl, hr, hw⟩ := hv
  obtain ⟨rv', wv', rfl, hr', hw'⟩ := hu
  obtain ⟨A, c, rfl, hr⟩ := hr.is
  obtain ⟨B, d, rfl, hw⟩ := hw.is
  obtain ⟨A', c', rfl, hr'⟩ := hr'.is
  obtain ⟨B', d', rfl, hw'⟩ := hw'.is
  have CR := hide (fun w' hg => EqualR_ok _ _ t.reads x.reads w' (hr.gr hg) (hr'.gr hg) (by have := ht.rn; omega) (by have := hx.rn; omega))
  have CW := hide (fun w' hg => EqualW_ok _ _ t.writes x.writes w' (hw.gr hg) (hw'.gr hg) (by have := ht.wn; omega) (by have := hx.wn; omega))
  obtain ⟨b, hb⟩ : ∃ b, decide (t = x) = b := ⟨_, rfl⟩
  have F1 := hide (fun h : ¬ t.ses = x.ses => hb.symm.trans (decide_eq_false (tx_ne_ses h)))
  have F2 := hide (fun h : ¬ t.seq = x.seq => hb.symm.trans (decide_eq_false (tx_ne_seq h)))
  have F3 := hide (fun h : ¬ t.reads = x.reads => hb.symm.trans (decide_eq_false (tx_ne_rd h)))
  have F4 := hide (fun h : ¬ t.writes = x.writes => hb.symm.trans (decide_eq_false (tx_ne_wr h)))
  have FE := hide (fun h1 h2 h3 h4 => hb.symm.trans (decide_eq_true (@tx_eq t x h1 h2 h3 h4)))
  rw [hb]
  have hg0 : ∀ o o', Gr w ((w.alloc o).alloc o') := fun o o' => ((Gr.refl _).alloc _).alloc _
  have HG := hide hg0
  clear hb hr hr' hw hw' ht hx hg0
  by_cases q1 : t.ses = x.ses
  rotate_left
  · obtain rfl := F1.out q1
    clear F1 F2 F3 F4 FE
    go_enter Tryz.func35, Tryz.ntmps35
    go_wp2_with fail
    go_ret
    exact ⟨rfl, HG.out _ _⟩
  by_cases q2 : t.seq = x.seq
  rotate_left
  · obtain rfl := F2.out q2
    clear F1 F2 F3 F4 FE
    go_enter Tryz.func35, Tryz.ntmps35
    go_wp2_with fail
    go_ret
    exact ⟨rfl, HG.out _ _⟩
  replace FE := hide (FE.out q1 q2)
  by_cases q3 : t.reads = x.reads
  rotate_left
  · obtain rfl := F3.out q3
    rw [decide_eq_false q3] at CR
    clear F1 F2 F3 F4 FE q3
    go_enter Tryz.func35, Tryz.ntmps35
    go_wp2_with fail
    refine (CR.out _ (HG.out _ _)).mono ?_
    rintro e w1 ⟨rfl, hg1⟩
    go_wp2_with fail
    go_ret
    exact ⟨rfl, (HG.out _ _).trans hg1⟩
  rw [decide_eq_true q3] at CR
  have FW : Hid (decide (t.writes = x.writes) = b) := by
    by_cases q4 : t.writes = x.writes
    · exact (decide_eq_true q4).trans (FE.out q3 q4).symm
    · exact (decide_eq_false q4).trans (F4.out q4).symm
  rw [FW.out] at CW
  clear F1 F2 F3 F4 FE FW q3
  go_enter Tryz.func35, Tryz.ntmps35
  go_wp2_with fail
  refine (CR.out _ (HG.out _ _)).mono ?_
  rintro e w1 ⟨rfl, hg1⟩
  have hbx := boxes2 hg1
  have c3 : w1.cell? ⟨w.heap.size, 3, none⟩ = some (.slice B t.writes.length d) := hbx.1.cell 3
  have d3 : w1.cell? ⟨w.heap.size + 1, 3, none⟩ = some (.slice B' x.writes.length d') := hbx.2.cell 3
  have hg := (HG.out _ _).trans hg1
  clear hbx hg1 CR
  go_wp2_with fail
  refine (CW.out _ hg).mono ?_
  rintro e w2 ⟨rfl, hg2⟩
  go_wp2_with fail
  go_ret
  exact ⟨rfl, hg.trans hg2⟩

theorem TxSame_ok (v u : Value) (t x : TxT) (w : World) (hv : TxAt w v t) (hu : TxAt w u x) (ht : TxLim 1000000 t) (hx : TxLim 1000000 x) :
    Calls Tryz.prog 35 #[v, u] w fun e w' => e = .returned (.bool (decide (t = x))) ∧ Gr w w' := TxSameB_ok v u t x w hv hu ht.bnd hx.bnd

end Go.Proofs.YtpabppoohobjpaaGreat
