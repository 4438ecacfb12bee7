/-
  'begun' of the statements on txn: true.
-/
import Derived.Test.YtjpdhijhmpdbnaaTxnDone
namespace Go.Proofs.Ytjpdhijhmpdbnaa
open Go Go.RowKit TxnMath KeyMath NumPlain TakeMath
set_option maxRecDepth 100000

/-- the transaction of one write -/
def oneT : TxT := ⟨1, 1, [], [⟨⟨#[97]⟩, ⟨#[118]⟩, false⟩]⟩
theorem one_rises : risingK [⟨#[97]⟩] = true := by
  unfold risingK risesTo riseAt
  simp only [List.length_singleton, List.range_one, List.all_cons, List.all_nil, Bool.and_true, beq_self_eq_true, Bool.true_or]
  decide
theorem one_may : mayT oneT = true := by
  unfold mayT oneT
  have h : risingK [] = true := rfl
  have hw : ([⟨⟨#[97]⟩, ⟨#[118]⟩, false⟩] : List WrT).all wrOk = true := by
    rw [List.all_cons, List.all_nil, Bool.and_true]
    unfold wrOk
    rfl
  simp only [List.map_nil, List.map_cons, h, one_rises, hw, List.all_nil]
  decide
theorem one_enc : encT oneT = [1, 1, 0, 1, 1, 97, 1, 118, 0] := by decide
theorem one_put : putTx oneT = [1, 1, 0, 1, 1, 97, 1, 118, 0] := by unfold putTx; rw [one_may, ← one_enc]; rfl
theorem one_taken : takenT [1, 1, 0, 1, 1, 97, 1, 118, 0] = oneT ∧ takenK [1, 1, 0, 1, 1, 97, 1, 118, 0] = 9 ∧ takenB [1, 1, 0, 1, 1, 97, 1, 118, 0] = true := by
  have h := txOf_put one_may (fun x hx => absurd hx (by simp [oneT])) []
  rw [List.append_nil, one_enc] at h
  unfold takenT takenK takenB
  rw [h]
  exact ⟨rfl, rfl, rfl⟩
theorem nil_taken : takenT [] = ⟨0, 0, [], []⟩ ∧ takenK [] = 0 ∧ takenB [] = false := by
  have h : txOf [] = none := rfl
  unfold takenT takenK takenB
  rw [h]
  exact ⟨rfl, rfl, rfl⟩
theorem one_touch : touchT oneT 1 3 = true := by decide
theorem one_reads : readsOf oneT 3 = [] := by decide
theorem one_lim : TxLim 1000000 oneT := ⟨⟨by decide, by decide⟩, ⟨by decide, by decide⟩, by decide, by decide, fun x hx => absurd hx (by simp [oneT]), fun x hx => by
  simp only [oneT, List.mem_singleton] at hx
  subst hx
  exact ⟨by decide, by decide⟩⟩
theorem no_lim : TxLim 1000000 ⟨0, 0, [], []⟩ := ⟨⟨by decide, by decide⟩, ⟨by decide, by decide⟩, by decide, by decide, fun x hx => absurd hx (by simp), fun x hx => absurd hx (by simp)⟩

/-- what reads as a transaction, with its rows' shapes in sight -/
theorem TxAt.is {w : World} {v : Value} {t : TxT} (h : TxAt w v t) : ∃ A c B d, v = .agg #[.int .i64 t.ses, .int .i64 t.seq, .slice A t.reads.length c, .slice B t.writes.length d] := by
  obtain ⟨rv, wv, rfl, hr, hw⟩ := h
  obtain ⟨A, c, rfl, _⟩ := hr.is
  obtain ⟨B, d, rfl, _⟩ := hw.is
  exact ⟨A, c, B, d, rfl⟩
theorem TxAt.is0 {w : World} {v : Value} (h : TxAt w v ⟨0, 0, [], []⟩) : ∃ A c B d, v = .agg #[.int .i64 0, .int .i64 0, .slice A 0 c, .slice B 0 d] := h.is
theorem TxAt.is1 {w : World} {v : Value} (h : TxAt w v oneT) : ∃ A c B d, v = .agg #[.int .i64 1, .int .i64 1, .slice A 0 c, .slice B 1 d] := h.is
theorem conv_run (w : World) {A : Option Addr} {l : List UInt8} (n c : Nat) (hn : l.length = n) (h : Rd w A l) : (convert 22 9 (.slice A n c)).run Try.prog w = .ok (.string (bs l)) w :=
  run_conv w 22 9 5 Try.underlying22 Try.underlying5 Try.underlying9 n c hn h

/-- a transaction's four cells -/
theorem Bl.four {w : World} {g : Nat} {t : TypeId} {a b c d : Value} (h : Bl w g t #[a, b, c, d]) : w.cell? ⟨g, 0, none⟩ = some a ∧ w.cell? ⟨g, 1, none⟩ = some b ∧ w.cell? ⟨g, 2, none⟩ = some c ∧ w.cell? ⟨g, 3, none⟩ = some d := ⟨h.cell 0, h.cell 1, h.cell 2, h.cell 3⟩

set_option maxRecDepth 100000 in
set_option maxHeartbeats 1000000 in
theorem begun_ok (w : World) : Calls Try.prog 7 #[] w fun e w' => e = .returned (.bool true) ∧ Gr w w' := by
  go_enter Try.func7, Try.ntmps7
  go_wp2_with fail
  have hg0 : Gr w ((w.alloc (.cells #[.string ⟨#[97]⟩, .string ⟨#[118]⟩, .bool false] 41)).alloc (.cells #[.int .i64 1, .int .i64 1, .slice none 0 0, .slice (some ⟨w.heap.size, 0, none⟩) 1 1] 28)) := ((Gr.refl _).alloc _).alloc _
  have hb1 : Bl ((w.alloc (.cells #[.string ⟨#[97]⟩, .string ⟨#[118]⟩, .bool false] 41)).alloc (.cells #[.int .i64 1, .int .i64 1, .slice none 0 0, .slice (some ⟨w.heap.size, 0, none⟩) 1 1] 28)) w.heap.size 41 #[.string ⟨#[97]⟩, .string ⟨#[118]⟩, .bool false] := (Bl.new _ _ _).gr ((Gr.refl _).alloc _)
  have hb2 : Bl ((w.alloc (.cells #[.string ⟨#[97]⟩, .string ⟨#[118]⟩, .bool false] 41)).alloc (.cells #[.int .i64 1, .int .i64 1, .slice none 0 0, .slice (some ⟨w.heap.size, 0, none⟩) 1 1] 28)) (w.heap.size + 1) 28 #[.int .i64 1, .int .i64 1, .slice none 0 0, .slice (some ⟨w.heap.size, 0, none⟩) 1 1] := by
    have := Bl.new (w.alloc (.cells #[.string ⟨#[97]⟩, .string ⟨#[118]⟩, .bool false] 41)) 28 #[.int .i64 1, .int .i64 1, .slice none 0 0, .slice (some ⟨w.heap.size, 0, none⟩) 1 1]
    rwa [show (w.alloc (.cells #[.string ⟨#[97]⟩, .string ⟨#[118]⟩, .bool false] 41)).heap.size = w.heap.size + 1 by simp] at this
  generalize ((w.alloc (.cells #[.string ⟨#[97]⟩, .string ⟨#[118]⟩, .bool false] 41)).alloc (.cells #[.int .i64 1, .int .i64 1, .slice none 0 0, .slice (some ⟨w.heap.size, 0, none⟩) 1 1] 28)) = w1 at hg0 hb1 hb2 ⊢
  have hT : TxAt w1 (.agg #[.int .i64 1, .int .i64 1, .slice none 0 0, .slice (some ⟨w.heap.size, 0, none⟩) 1 1]) oneT := by
    refine ⟨_, _, rfl, ⟨none, 0, rfl, Nat.le_refl _, fun j i r u hj _ => by simp [oneT] at hj⟩, ⟨_, 1, rfl, Nat.le_refl _, fun j i r u hj hi => ⟨_, rfl, ?_⟩⟩⟩
    match j, hj with
    | 0, hj =>
      simp [oneT] at hj
      subst hj
      have e : (⟨w.heap.size, 0, none⟩ : Addr).add (0 * 3 + i) = ⟨w.heap.size, i, none⟩ := by unfold Addr.add; split <;> simp_all
      rw [e, hb1.cell i]
      simpa [wrC] using hi
  clear hb1
  have HT := hide hT
  have HB := hide hb2
  obtain ⟨gT, hgT⟩ : ∃ gT, w.heap.size + 1 = gT := ⟨_, rfl⟩
  rw [hgT] at HB ⊢
  clear hT hb2 hgT
  obtain ⟨gW, hgW⟩ : ∃ gW, w.heap.size = gW := ⟨_, rfl⟩
  rw [hgW] at HB HT ⊢
  clear hgW
  refine (TxPut_ok _ oneT w1 HT.out one_lim).mono ?_
  rintro e w2 ⟨A2, c2, rfl, hby2, hg2⟩
  rw [one_put] at hby2 ⊢
  have hgr2 := hg0.trans hg2
  have HBY := hide hby2
  clear hby2
  go_wp2_with fail
  refine (TxTake_ok A2 _ c2 [1, 1, 0, 1, 1, 97, 1, 118, 0] rfl w2 HBY.out (by simp)).mono ?_
  rintro e w3 ⟨v3, rfl, htx3, hg3⟩
  rw [one_taken.1] at htx3
  rw [one_taken.2.1, one_taken.2.2]
  have HX3 := hide htx3
  obtain ⟨xA, xc, xB, xd, rfl⟩ := htx3.is1
  have hgr3 := hgr2.trans hg3
  have hg23 := hg3
  clear htx3 hg0 hgr2
  have hG13 := hg2.trans hg3
  go_wp2_with fail
  have hg4 := hgr3.alloc (.cells #[.int .i64 1, .int .i64 1, .slice xA 0 xc, .slice xB 1 xd] 28)
  have hX4 := Bl.new w3 28 #[.int .i64 1, .int .i64 1, .slice xA 0 xc, .slice xB 1 xd]
  have hG14 := hG13.alloc (.cells #[.int .i64 1, .int .i64 1, .slice xA 0 xc, .slice xB 1 xd] 28)
  have hG34 := (Gr.refl w3).alloc (.cells #[.int .i64 1, .int .i64 1, .slice xA 0 xc, .slice xB 1 xd] 28)
  obtain ⟨w4, hw4⟩ : ∃ w4, w3.alloc (.cells #[.int .i64 1, .int .i64 1, .slice xA 0 xc, .slice xB 1 xd] 28) = w4 := ⟨_, rfl⟩
  rw [hw4] at hg4 hX4 hG14 hG34 ⊢
  obtain ⟨gX, hgX⟩ : ∃ gX, w3.heap.size = gX := ⟨_, rfl⟩
  rw [hgX] at hX4 ⊢
  clear hw4 hgX
  refine (TxTake_ok none 0 0 [] rfl w4 ⟨Rd.nil _ _, by simp, by simp [maxLen], fun _ => rfl⟩ (by simp)).mono ?_
  rintro e w5 ⟨v5, rfl, htx5, hg5⟩
  rw [nil_taken.1] at htx5
  rw [nil_taken.2.1, nil_taken.2.2]
  obtain ⟨yA, yc, yB, yd, rfl⟩ := htx5.is0
  have hX5 := hide (hX4.gr hg5)
  have hG15 := hG14.trans hg5
  have hG35 := hG34.trans hg5
  have hgr5 := hg4.trans hg5
  clear hX4 htx5 hg5 hg4 hG13 hgr3 hG14 hG34 hg3 hg2
  have hg6 := (Gr.refl w5).alloc (.cells #[.int .i64 0, .int .i64 0, .slice yA 0 yc, .slice yB 0 yd] 28)
  obtain ⟨t0, t1, t2, t3⟩ := (HB.out.gr (hG15.trans hg6)).four
  have HM := hide (fun w' (h : Gr w1 w') => TxMay_ok _ oneT w' (HT.out.gr h) one_lim)
  rw [one_may] at HM
  go_wp2_with fail
  clear t0 t1 t2 t3
  refine (HM.out _ (hG15.trans hg6)).mono ?_
  rintro e w7 ⟨rfl, hg7⟩
  have hG17 := hG15.trans (hg6.trans hg7)
  have hG37 := hG35.trans (hg6.trans hg7)
  have hgr7 := hgr5.trans (hg6.trans hg7)
  have hX7 := hX5.out.gr (hg6.trans hg7)
  have hconv : (convert 22 9 (.slice A2 9 c2)).run Try.prog w7 = .ok (.string ⟨#[1, 1, 0, 1, 1, 97, 1, 118, 0]⟩) w7 := conv_run w7 9 c2 rfl (HBY.out.gr (hg23.trans hG37)).rd
  obtain ⟨t0, t1, t2, t3⟩ := (HB.out.gr hG17).four
  obtain ⟨x0, x1, x2, x3⟩ := hX7.four
  have hX7' := hide hX7
  clear hg6 hg7 hG15 hG35 hgr5 hX5 hX7
  go_wp2_with fail
  refine (TxSame_ok _ _ oneT oneT w7 (HX3.out.gr hG37) (HT.out.gr hG17) one_lim one_lim).mono ?_
  rintro e w8 ⟨rfl, hg8⟩
  rw [decide_eq_true rfl]
  have hG18 := hG17.trans hg8
  have hgr8 := hgr7.trans hg8
  clear t0 t1 t2 t3 x0 x1 x2 x3 hconv hX7' hG17 hG37 hgr7 hg8
  obtain ⟨t0, t1, t2, t3⟩ := (HB.out.gr hG18).four
  have HT1 := hide (fun w' (h : Gr w1 w') => TxTouches_ok _ oneT 1 3 w' (HT.out.gr h) one_lim ⟨by decide, by decide⟩ ⟨by decide, by decide⟩)
  have HT2 := hide (fun w' (h : Gr w1 w') => TxReads_ok _ oneT 3 w' (HT.out.gr h) one_lim ⟨by decide, by decide⟩ (by decide))
  rw [one_touch] at HT1
  rw [one_reads] at HT2
  go_wp2_with fail
  refine (HT1.out _ hG18).mono ?_
  rintro e w9 ⟨rfl, hg9⟩
  have hG19 := hG18.trans hg9
  have hgr9 := hgr8.trans hg9
  clear t0 t1 t2 t3 hG18 hgr8 hg9
  obtain ⟨t0, t1, t2, t3⟩ := (HB.out.gr hG19).four
  go_wp2_with fail
  refine (HT2.out _ hG19).mono ?_
  rintro e w10 ⟨u, rfl, ⟨uA, uc, rfl, _⟩, hg10⟩
  have hgr10 := hgr9.trans hg10
  go_wp2_with fail
  go_ret
  exact ⟨rfl, hgr10⟩

end Go.Proofs.Ytjpdhijhmpdbnaa
