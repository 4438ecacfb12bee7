/-
  The walk of 'TxnApart'.
-/
import Derived.Test.YtjpdhijhmpdbnaaTxnMade
namespace Go.Proofs.Ytjpdhijhmpdbnaa
open Go Go.RowKit TxnMath KeyMath NumPlain TakeMath
set_option maxRecDepth 100000

set_option maxRecDepth 100000 in
set_option maxHeartbeats 1000000 in
theorem walk_TxnApart (w : World) (A : Option Addr) (n c : Nat) (l : List UInt8) (hn : n = l.length) (hby : By w A c l) (B : Option Addr) (m d : Nat) (r : List UInt8) (hm : m = r.length) (hbr : By w B d r) :
    Calls Try.prog 6 #[.slice A n c, .slice B m d] w fun e w' => e = .returned (.bool true) ∧ Gr w w' := by
  subst hn hm
  have HBY := hide hby
  have HBR := hide hbr
  clear hby hbr
  by_cases h1 : (30 : Int) < (l.length : Int)
  · go_enter Try.func6, Try.ntmps6
    go_wp2_with fail
    refine (begun_ok _).mono ?_
    rintro e w1 ⟨rfl, hg1⟩
    go_wp2_with fail
    go_ret
    exact ⟨rfl, hg1⟩
  by_cases h2 : (30 : Int) < (r.length : Int)
  · go_enter Try.func6, Try.ntmps6
    go_wp2_with fail
    refine (begun_ok _).mono ?_
    rintro e w1 ⟨rfl, hg1⟩
    go_wp2_with fail
    go_ret
    exact ⟨rfl, hg1⟩
  go_enter Try.func6, Try.ntmps6
  go_wp2_with fail
  refine (begun_ok _).mono ?_
  rintro e w1 ⟨rfl, hg1⟩
  go_wp2_with fail
  refine (Made_ok A c l w1 (HBY.out.gr hg1)).mono ?_
  rintro e w2 ⟨rfl, hg2, hpk⟩
  go_wp2_with fail
  refine (Txn_ok w1.heap.size A c l 0 4 (by decide) (by omega) w2 hpk).mono ?_
  intro e w3 hp
  obtain ⟨ta, tb, tA, tn, tc, tB, tm, td, rfl, htx, hb3⟩ := hp.made
  have hmt := txP_may l 0 4
  have hht := txP_hi l 0 4 (by decide)
  have hlt := txP_lim l 0 4 (by decide)
  clear hp hpk
  generalize (txP l 0 4).1 = t at htx hmt hht hlt
  have hg3 : Gr w w3 := (hg1.trans hg2).fresh hb3 hg1.size
  clear hg1 hg2 hb3
  go_wp2_with fail
  refine (Made_ok B d r w3 (HBR.out.gr hg3)).mono ?_
  rintro e w4 ⟨rfl, hg4, hpk⟩
  go_wp2_with fail
  refine (Txn_ok w3.heap.size B d r 0 4 (by decide) (by omega) w4 hpk).mono ?_
  intro e w5 hp
  obtain ⟨ua, ub, uA, un, uc, uB, um, ud, rfl, hux, hb5⟩ := hp.made
  have hmu := txP_may r 0 4
  have hhu := txP_hi r 0 4 (by decide)
  have hlu := txP_lim r 0 4 (by decide)
  clear hp hpk
  generalize (txP r 0 4).1 = u at hux hmu hhu hlu
  have hg35 : Gr w3 w5 := hg4.fresh hb5 (Nat.le_refl _)
  have hg5 := hg3.trans hg35
  have HT := hide (htx.gr hg35)
  have HU := hide hux
  have hlenT := encT_len hmt
  have hlenU := encT_len hmu
  have HFRONT := hide (fun r => encT_front (r := r) hmu hhu hmt hht)
  have HPT := hide (put_may hmt)
  have HPU := hide (put_may hmu)
  have HLT := hide hlt
  have HLU := hide hlu
  clear htx hux hmt hmu hht hhu hlt hlu hg3 hg4 hb5 hg35
  go_wp2_with fail
  have hal : Gr w5 ((w5.alloc (.cells #[.int .i64 ta, .int .i64 tb, .slice tA tn tc, .slice tB tm td] 28)).alloc (.cells #[.int .i64 ua, .int .i64 ub, .slice uA un uc, .slice uB um ud] 28)) := ((Gr.refl _).alloc _).alloc _
  have hbx := boxes2 (Gr.refl ((w5.alloc (.cells #[.int .i64 ta, .int .i64 tb, .slice tA tn tc, .slice tB tm td] 28)).alloc (.cells #[.int .i64 ua, .int .i64 ub, .slice uA un uc, .slice uB um ud] 28)))
  generalize (w5.alloc (.cells #[.int .i64 ta, .int .i64 tb, .slice tA tn tc, .slice tB tm td] 28)).alloc (.cells #[.int .i64 ua, .int .i64 ub, .slice uA un uc, .slice uB um ud] 28) = w6 at hal hbx ⊢
  have HT6 := hide (HT.out.gr hal)
  have HU6 := hide (HU.out.gr hal)
  have hg6 := hg5.trans hal
  obtain ⟨gT, hgT⟩ : ∃ gT, w5.heap.size = gT := ⟨_, rfl⟩
  rw [hgT] at hbx ⊢
  obtain ⟨gU, hgU⟩ : ∃ gU, gT + 1 = gU := ⟨_, rfl⟩
  rw [hgU] at hbx ⊢
  have HBX := hide hbx
  clear hbx hgT hgU hal HT HU hg5
  obtain ⟨E, hE⟩ : ∃ E, encT t = E := ⟨_, rfl⟩
  obtain ⟨F, hF⟩ : ∃ F, encT u = F := ⟨_, rfl⟩
  have HC1 := hide (fun w' (h : Gr w6 w') => TxPut_ok _ t w' (HT6.out.gr h) HLT.out)
  have HC2 := hide (fun w' (h : Gr w6 w') => TxPut_ok _ u w' (HU6.out.gr h) HLU.out)
  rw [HPT.out, hE] at HC1
  rw [HPU.out, hF] at HC2
  rw [hE] at hlenT
  rw [hF] at hlenU
  refine Grow.wp_region_kept 79 [27, 28, 29, 30, 7, 8] rfl (by kernel_rfl) (by kernel_rfl) (by kernel_rfl) (Grow.Ahead.more (Grow.Ahead.more (Grow.Ahead.none_ _ _) 5 (Grow.Bx.stays gT 28 #[.int .i64 ta, .int .i64 tb, .slice tA tn tc, .slice tB tm td]) ⟨rfl, HBX.out.1.drewN 1⟩) 6 (Grow.Bx.stays gU 28 #[.int .i64 ua, .int .i64 ub, .slice uA un uc, .slice uB um ud]) ⟨rfl, HBX.out.2.drewN 1⟩) ?_
  refine Grow.grow_row rfl (.inl ⟨rfl, rfl⟩) rfl Try.underlying28 rfl (by kernel_rfl) ?_
  refine Grow.grow_call1 (Φ := Grow.Sl E) rfl (.inl ⟨rfl, rfl⟩) Try.func10 (by kernel_rfl) (by kernel_rfl) (Ψ := Grow.Is (.agg #[.int .i64 ta, .int .i64 tb, .slice tA tn tc, .slice tB tm td])) rfl (Grow.Sl.stays _) (fun v w' hg hv => by
    have hv' : v = .agg #[.int .i64 ta, .int .i64 tb, .slice tA tn tc, .slice tB tm td] := hv
    rw [hv']
    exact (HC1.out w' (((Gr.refl w6).drewN 1).trans hg)).mono fun e w'' ⟨A2, c2, he, hb, hg2⟩ => ⟨_, he, hg2, A2, c2, rfl, hb⟩) ?_
  refine Grow.grow_row rfl (.inl ⟨rfl, rfl⟩) rfl Try.underlying28 rfl (by kernel_rfl) ?_
  refine Grow.grow_call1 (Φ := Grow.Sl F) rfl (.inl ⟨rfl, rfl⟩) Try.func10 (by kernel_rfl) (by kernel_rfl) (Ψ := Grow.Is (.agg #[.int .i64 ua, .int .i64 ub, .slice uA un uc, .slice uB um ud])) rfl (Grow.Sl.stays _) (fun v w' hg hv => by
    have hv' : v = .agg #[.int .i64 ua, .int .i64 ub, .slice uA un uc, .slice uB um ud] := hv
    rw [hv']
    exact (HC2.out w' (((Gr.refl w6).drewN 1).trans hg)).mono fun e w'' ⟨A2, c2, he, hb, hg2⟩ => ⟨_, he, hg2, A2, c2, rfl, hb⟩) ?_
  refine Grow.grow_mvs (.inr rfl) (.inl ⟨rfl, rfl⟩) rfl ?_
  refine Grow.grow_mvs (.inr rfl) (.inl ⟨rfl, rfl⟩) rfl ?_
  intro a1 w7 hg7 hs1 hd1 hu1 hk1
  obtain ⟨eA, ec, h7, hbE⟩ : Grow.Sl E (a1.tmps.getD 7 undef) w7 := hk1 7
  obtain ⟨fA, fc, h8, hbF⟩ : Grow.Sl F (a1.tmps.getD 8 undef) w7 := hk1 8
  obtain ⟨X, hX, hlay⟩ := Grow.lay_kept_by _ a1 79 _ hs1 hd1 hu1
  rw [hX] at h7 h8
  clear hX hu1 hd1 hs1 hk1 HC1 HC2
  subst hlay
  simp only [List.range, List.range.loop, List.map_cons, List.map_nil, List.contains_cons, List.contains_nil, Nat.reduceBEq, Bool.or_false, Bool.or_true, cond_false, cond_true, Array.getD_eq_getD_getElem?, List.getElem?_toArray, List.getElem?_cons_zero, List.getElem?_cons_succ, Option.getD_some, h7, h8]
  clear h7 h8
  have hg67 : Gr w6 w7 := ((Gr.refl w6).drewN 1).trans hg7
  have hg07 := hg6.trans hg67
  have HBE := hide hbE
  have HBF := hide hbF
  clear hbE hbF hg7 hg6
  obtain ⟨t0, t1, t2, t3⟩ := (HBX.out.1.gr hg67).four
  obtain ⟨u0, u1, u2, u3⟩ := (HBX.out.2.gr hg67).four
  have HS := hide (fun w' (h : Gr w6 w') => SameTxn_ok _ _ t u w' (HT6.out.gr h) (HU6.out.gr h) (by have := HLT.out.rn; omega) (by have := HLU.out.rn; omega) (by have := HLU.out.wn; omega))
  have HS2 := hide (fun w' (h : Gr w6 w') => TxSame_ok _ _ t u w' (HT6.out.gr h) (HU6.out.gr h) HLT.out HLU.out)
  have HEF := hide (fun (h : t = u) => show E = F by rw [← hE, ← hF, h])
  have HNE := hide (fun (r : List UInt8) (h : F = E ++ r) => (show t = u from (HFRONT.out r (by rw [hE, hF]; exact h)).1.symm))
  clear hE hF
  go_wp2_with fail
  refine (HS.out _ hg67).mono ?_
  rintro e w8 ⟨rfl, hg8⟩
  have hg68 := hg67.trans hg8
  have hg78 := hg8
  have hg08 := hg07.trans hg8
  clear t0 t1 t2 t3 u0 u1 u2 u3 hg67 hg07
  have hbE := HBE.out.gr hg8
  have hbF := HBF.out.gr hg8
  have e1 := beq_no (show ¬ (E.length : Int) = 0 by omega)
  have e2 := beq_no (show ¬ (F.length : Int) = 0 by omega)
  have cE : ∀ m, (convert 22 9 (.slice eA E.length ec)).run Try.prog (w8.drewN m) = .ok (.string (bs E)) (w8.drewN m) := fun m => conv_run (w8.drewN m) _ ec rfl (hbE.rd.drewN m)
  have cF : ∀ m j, j ≤ F.length → (convert 22 9 (.slice fA j fc)).run Try.prog (w8.drewN m) = .ok (.string (bs (F.take j))) (w8.drewN m) := fun m j hj => conv_run (w8.drewN m) j fc (by rw [List.length_take]; omega) ((hbF.take j).rd.drewN m)
  have HCE := hide cE
  have HCF := hide cF
  have hfc : (F.length : Int) ≤ (fc : Int) := by have := hbF.le; omega
  clear cE cF hbE hbF HS
  by_cases htu : t = u
  · rw [decide_eq_true htu] at *
    have hEF := HEF.out htu
    subst hEF
    have hsame : (bs (E.take E.length)).toList = (bs E).toList := by rw [List.take_length]
    go_wp2_with fail
    refine wp_region_quiet_lit (by kernel_rfl) (by kernel_rfl) ?_
    repeat (go_big_quiet_step (fail))
    refine quiet_conv_if (by rfl) 22 9 (.tmp 54) rfl rfl (fun w' ⟨n, hw'⟩ => by rw [hw']; exact HCF.out _ _ (Nat.le_refl _)) ?_
    simp only [Act.put, List.setIfInBounds_toArray, List.set_cons_zero, List.set_cons_succ]
    repeat (go_big_quiet_step (fail))
    refine quiet_conv_if (by rfl) 22 9 (.tmp 56) rfl rfl (fun w' ⟨n, hw'⟩ => by rw [hw']; exact HCE.out _) ?_
    simp only [Act.put, List.setIfInBounds_toArray, List.set_cons_zero, List.set_cons_succ]
    repeat (go_big_quiet_step (fail))
    refine wpQuiet_nil ?_
    rintro _ ⟨nq, rfl⟩
    have hg9 := hg68.drewN nq
    have hg09 := hg08.drewN nq
    obtain ⟨t0, t1, t2, t3⟩ := (HBX.out.1.gr hg9).four
    obtain ⟨u0, u1, u2, u3⟩ := (HBX.out.2.gr hg9).four
    have hq : ((bs (E.take E.length)).toList == (bs E).toList) = true := by rw [hsame, beq_self_eq_true]
    try rw [hq]
    clear hsame
    go_wp2_with fail
    refine (HS2.out _ hg9).mono ?_
    rintro e w10 ⟨rfl, hg10⟩
    have hg7x := (hg78.drewN nq).trans hg10
    have kE := conv_run w10 _ ec rfl (HBE.out.gr hg7x).rd
    have kF := conv_run w10 _ fc rfl (HBF.out.gr hg7x).rd
    have hs : ((bs E).toList == (bs E).toList) = true := by rw [beq_self_eq_true]
    clear t0 t1 t2 t3 u0 u1 u2 u3
    go_wp2_with fail
    go_ret
    exact ⟨rfl, hg09.trans hg10⟩
  · rw [decide_eq_false htu] at *
    have hne : E ≠ F := fun h => htu (HNE.out [] (by rw [List.append_nil, h]))
    have hs : ((bs E).toList == (bs F).toList) = false := bs_ne_ hne
    have hs2 : ¬ (bs E).toList = (bs F).toList := fun h => by rw [h, beq_self_eq_true] at hs; cases hs
    by_cases hle : (E.length : Int) ≤ (F.length : Int)
    · have hne2 : F.take E.length ≠ E := fun h => htu (HNE.out (F.drop E.length) (by have h3 := List.take_append_drop E.length F; rw [h] at h3; exact h3.symm))
      have hq : ((bs (F.take E.length)).toList == (bs E).toList) = false := bs_ne_ hne2
      have hq2 : ¬ (bs (F.take E.length)).toList = (bs E).toList := fun h => by rw [h, beq_self_eq_true] at hq; cases hq
      have HLE := hide hle
      go_wp2_with fail
      refine wp_region_quiet_lit (by kernel_rfl) (by kernel_rfl) ?_
      repeat (go_big_quiet_step (fail))
      refine quiet_conv_if (by rfl) 22 9 (.tmp 54) rfl rfl (fun w' ⟨n, hw'⟩ => by rw [hw']; exact HCF.out _ _ (by have := HLE.out; omega)) ?_
      simp only [Act.put, List.setIfInBounds_toArray, List.set_cons_zero, List.set_cons_succ]
      have hmin : (min (E.length : Int) (F.length : Int)).toNat = E.length := by have := HLE.out; omega
      try simp only [hmin]
      clear hmin
      repeat (go_big_quiet_step (fail))
      refine quiet_conv_if (by rfl) 22 9 (.tmp 56) rfl rfl (fun w' ⟨n, hw'⟩ => by rw [hw']; exact HCE.out _) ?_
      simp only [Act.put, List.setIfInBounds_toArray, List.set_cons_zero, List.set_cons_succ]
      repeat (go_big_quiet_step (fail))
      refine wpQuiet_nil ?_
      rintro _ ⟨nq, rfl⟩
      have hg9 := hg68.drewN nq
      have hg09 := hg08.drewN nq
      obtain ⟨t0, t1, t2, t3⟩ := (HBX.out.1.gr hg9).four
      obtain ⟨u0, u1, u2, u3⟩ := (HBX.out.2.gr hg9).four
      clear hle
      go_wp2_with fail
      refine (HS2.out _ hg9).mono ?_
      rintro e w10 ⟨rfl, hg10⟩
      have hg7x := (hg78.drewN nq).trans hg10
      have kE := conv_run w10 _ ec rfl (HBE.out.gr hg7x).rd
      have kF := conv_run w10 _ fc rfl (HBF.out.gr hg7x).rd
      clear t0 t1 t2 t3 u0 u1 u2 u3
      go_wp2_with fail
      go_ret
      exact ⟨rfl, hg09.trans hg10⟩
    · have hd : decide (E.length ≤ F.length) = false := by rw [decide_eq_false_iff_not]; omega
      go_wp2_with fail
      refine wp_region_quiet_lit (by kernel_rfl) (by kernel_rfl) ?_
      repeat (go_big_quiet_step (fail))
      try simp only [hd]
      repeat (go_big_quiet_step (fail))
      refine wpQuiet_nil ?_
      rintro _ ⟨nq, rfl⟩
      have hg9 := hg68.drewN nq
      have hg09 := hg08.drewN nq
      obtain ⟨t0, t1, t2, t3⟩ := (HBX.out.1.gr hg9).four
      obtain ⟨u0, u1, u2, u3⟩ := (HBX.out.2.gr hg9).four
      clear hle hd
      go_wp2_with fail
      refine (HS2.out _ hg9).mono ?_
      rintro e w10 ⟨rfl, hg10⟩
      have hg7x := (hg78.drewN nq).trans hg10
      have kE := conv_run w10 _ ec rfl (HBE.out.gr hg7x).rd
      have kF := conv_run w10 _ fc rfl (HBF.out.gr hg7x).rd
      clear t0 t1 t2 t3 u0 u1 u2 u3
      go_wp2_with fail
      go_ret
      exact ⟨rfl, hg09.trans hg10⟩

end Go.Proofs.Ytjpdhijhmpdbnaa
