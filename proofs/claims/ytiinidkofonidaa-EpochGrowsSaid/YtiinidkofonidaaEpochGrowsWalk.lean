/-
  The walk of 'EpochGrows'.
-/
import Derived.Test.YtiinidkofonidaaEpochAllWalk
import Derived.Test.YtiinidkofonidaaEntGrow
namespace Go.Proofs.Ytiinidkofonidaa.Grow
open Go Go.RowKit TxnMath KeyMath MsgMath EpMath Go.Proofs.Ytiinidkofonidaa
section
variable {ops : Array Oper} {w0 : World} {n0 : Nat} {Q : (Tmp → Known) → Prop} {o : Oper} {rest : List Oper} {K : Tmp → Known} {Φ : Known}
/-- a conversion of what is known -/
theorem grow_conv1 {src dst : TypeId} {x : Operand} {u v : Value} (ho : o.op = .convert src dst x) (hw : Wanted ops K n0 o true) (hx : Kn K x (Is u)) (hr : ∀ w, (convert src dst u).run Try.prog w = .ok v w)
    (h : wpGrow Try.prog ops w0 n0 Q rest (upd K o.dst (Is v))) : wpGrow Try.prog ops w0 n0 Q (o :: rest) K := by
  refine grow_step hw (fun _ => Is.stays _) (fun a w _ _ hl => ?_) h
  have h1 : a.eval x = u := looks_op (Ψ := Is u) (by simp [ho, Op.operands]) hx hl
  unfold does execOp
  simp only [ho, h1]
  rw [Sem.run_bind, hr w]
  exact ⟨Gr.refl w, rfl⟩
end
end Go.Proofs.Ytiinidkofonidaa.Grow
namespace Go.Proofs.Ytiinidkofonidaa
open Go Go.RowKit TxnMath KeyMath MsgMath EpMath
set_option maxRecDepth 100000

theorem rem_u8 (n : Nat) : binOp .rem 5 (.int .u8 (n : Int)) (.int .u8 16) = pure (.int .u8 ((n % 16 : Nat) : Int)) := by
  have e : (n : Int).tmod 16 = ((n % 16 : Nat) : Int) := rfl
  rw [binOp_rem]
  simp [Op.intDiv, e]
theorem conv_u8 (n : Nat) (h : n < 256) (w : World) : (convert 5 3 (.int .u8 (n : Int))).run Try.prog w = .ok (.int .i64 (n : Int)) w := by
  simp [go_sem]
  simp [IntKind.wrap, IntKind.bits, IntKind.signed]
  omega

set_option maxHeartbeats 4000000 in
theorem walk_EpochGrows (w : World) (A : Option Addr) (n c : Nat) (l : List UInt8) (hn : n = l.length) (hby : By w A c l) (a : Int) (ha : (Lit.int .u8 a).wf = true) :
    Calls Try.prog 4 #[.slice A n c, .int .u8 a] w fun e w' => e = .returned (.bool true) ∧ Gr w w' := by
  subst hn
  have HBY := hide hby
  clear hby
  obtain ⟨na, rfl, hna⟩ := u8_nat ha
  clear ha
  by_cases h1 : (150 : Int) < (l.length : Int)
  · go_enter Try.func4, Try.ntmps4
    go_wp2_with fail
    refine (begun_ok _).mono ?_
    rintro e w1 ⟨rfl, hg1⟩
    go_wp2_with fail
    go_ret
    exact ⟨rfl, hg1⟩
  obtain ⟨ka, hka⟩ : ∃ k, na % 16 = k := ⟨_, rfl⟩
  have ea : (na : Int).tmod 16 = (ka : Int) := by rw [← hka]; rfl
  have ea2 : (na : Int) % 16 = (ka : Int) := by omega
  have hka7 : ka ≤ 15 := by omega
  have hkn : na % 16 = ka := hka
  have HLL := hide (logP_len l 0 15)
  clear hka
  go_enter Try.func4, Try.ntmps4
  go_wp2_with fail
  refine (begun_ok _).mono ?_
  rintro e w1 ⟨rfl, hg1⟩
  go_wp2_with fail
  refine (Made_ok A c l w1 (HBY.out.gr hg1)).mono ?_
  rintro e w2 ⟨rfl, hg2, hpk⟩
  have hgw1 := hg1.size
  have hg12 := hg1.trans hg2
  go_wp2_with fail
  refine (Log_ok w1.heap.size A c l 0 15 (by omega) (by omega) w2 hpk).mono ?_
  rintro e w3 ⟨lv, rfl, hlo, hb3, _⟩
  have hx := hlo.entsX
  clear hlo hpk
  generalize (logP l 0 15).1 = L at hx HLL
  obtain ⟨ad, lc, p, hv, _⟩ := hx.ent (k := 0) (by rw [HLL.out]; decide)
  subst hv
  rw [HLL.out] at hx ⊢
  have hle := hx.le
  have HX := hide hx
  have HT := hide (hx.take ka (by omega))
  have HG := hide (show Gr w w3 from hg12.fresh hb3 hgw1)
  clear hx hb3 hg1 hg2 hg12 hgw1 HBY
  have HST := hide (show shuts (L.take ka) = (shuts L).take ka from by unfold shuts; rw [List.map_take])
  have HPRE := hide (cut_pre (shuts L) ka (by rw [shuts_len, HLL.out]; exact hka7))
  have HB1 := hide (cut_bnd (shuts L))
  have HR1 := hide (cut_row (shuts L))
  have HQ1 := hide (seal_len (shuts L))
  have HQ2 := hide (seal_len ((shuts L).take ka))
  have HN2 := hide (cut_len ((shuts L).take ka))
  have hst := HST.out
  have hl2 : ((shuts L).take ka).length = ka := by rw [List.length_take, shuts_len, HLL.out]; omega
  rw [shuts_len, HLL.out] at HB1 HR1 HQ1
  rw [hl2] at HQ2 HN2
  have HC1 := hide (fun W (h : EntsX Any W (.slice (some ad) ka lc) (L.take ka)) => Cut_ok _ (L.take ka) W h (by rw [List.length_take]; omega))
  have HC2 := hide (fun W (h : EntsX Any W (.slice (some ad) 15 lc) L) => Cut_ok _ L W h (by rw [HLL.out]; decide))
  have KS1 := hide (fun (w0 : World) (v : Value) (W : World) (_ : Gr w0 W) (h : EntsX Any W v (L.take ka)) => show Calls Try.prog 12 #[v] W fun e w' => ∃ u, e = .returned u ∧ Gr W w' ∧ Grow.Is (.int .i64 (sealN (shuts (L.take ka)) (L.take ka).length : Nat)) u w' from (Sealed_ok v (L.take ka) W h (by rw [List.length_take]; omega)).mono fun e w1 ⟨he, hg⟩ => ⟨_, he, hg, rfl⟩)
  have KS2 := hide (fun (w0 : World) (v : Value) (W : World) (_ : Gr w0 W) (h : EntsX Any W v L) => show Calls Try.prog 12 #[v] W fun e w' => ∃ u, e = .returned u ∧ Gr W w' ∧ Grow.Is (.int .i64 (sealN (shuts L) L.length : Nat)) u w' from (Sealed_ok v L W h (by rw [HLL.out]; decide)).mono fun e w1 ⟨he, hg⟩ => ⟨_, he, hg, rfl⟩)
  rw [hst] at HC1 KS1
  rw [List.length_take, HLL.out, Nat.min_eq_left hka7] at KS1
  rw [HLL.out] at KS2
  clear hst hl2 HST
  generalize (shuts L).take ka = x at HPRE HQ2 HN2 HC1 KS1
  generalize shuts L = y at HPRE HB1 HR1 HQ1 HC2 KS2
  generalize cutL x = P at HPRE HQ2 HN2 HC1
  generalize cutL y = R at HPRE HB1 HR1 HQ1 HC2
  generalize sealN x ka = q1 at HQ2 KS1
  generalize sealN y 15 = q2 at HQ1 KS2
  go_wp2_with fail
  refine (HC1.out w3 HT.out).mono ?_
  rintro e w4 ⟨va, rfl, hr4, hg4⟩
  replace HX := hide (HX.out.gr hg4)
  replace HT := hide (HT.out.gr hg4)
  replace HG := hide (HG.out.trans hg4)
  clear hg4 HC1
  go_wp2_with fail
  refine (HC2.out w4 HX.out).mono ?_
  rintro e w5 ⟨vb, rfl, hr5, hg5⟩
  replace HX := hide (HX.out.gr hg5)
  replace HT := hide (HT.out.gr hg5)
  replace HG := hide (HG.out.trans hg5)
  have HA := hide (hr4.gr hg5)
  have HB := hide hr5
  clear hr4 hr5 hg5 HC2
  have hp0 : 0 < P.length := by have := HQ2.out; omega
  have hpr : P.length ≤ R.length := HPRE.out.1
  have hr16 : R.length ≤ 16 := HB1.out
  obtain ⟨ga, ca, rfl, _⟩ := HA.out.at_ hp0
  obtain ⟨gb, cb, rfl, _⟩ := HB.out.at_ (by omega)
  have hp1 : decide ((P.length : Int) < 1) = false := decide_eq_false (by omega)
  have hpr1 : decide (R.length < P.length) = false := decide_eq_false (by omega)
  have hpr' : decide ((R.length : Int) < (P.length : Int)) = false := decide_eq_false (by omega)
  go_wp2_with fail
  clear hp1 hpr1 hpr'
  go_loopw [8] (fun i wr => ∃ j : Nat, i = .int .i64 j ∧ j ≤ P.length ∧ Hid (Gr w5 wr)) (fun i _ => P.length - (intOf i).toNat)
  case atStart => exact ⟨0, rfl, by omega, Gr.refl _⟩
  case round =>
    obtain ⟨j, rfl, hj, HR⟩ := hrel
    by_cases hlt : j < P.length
    · have hlt' : (j : Int) < (P.length : Int) := by omega
      have hltr : j < R.length := by omega
      have hltr' : (j : Int) < (R.length : Int) := by omega
      have hrj := HR1.out _ (List.getElem_mem hltr)
      obtain ⟨q3, q4, q5⟩ := HPRE.out.2 j hlt hltr
      obtain ⟨ga', ca', e1, ha⟩ := (HA.out.gr HR.out).at_ hp0
      obtain ⟨gb', cb', e2, hb⟩ := (HB.out.gr HR.out).at_ (by omega)
      simp only [Value.slice.injEq, Option.some.injEq, Addr.mk.injEq, true_and, and_true] at e1 e2
      obtain ⟨rfl, rfl⟩ := e1
      obtain ⟨rfl, rfl⟩ := e2
      obtain ⟨A1, k1, a1, i1, n1⟩ := ha j hlt
      obtain ⟨A2, k2, a2, i2, n2⟩ := hb j hltr
      have HA1 := hide (fun W (h : Gr wr W) => gr_cell h _ _ a1)
      have HA2 := hide (fun W (h : Gr wr W) => gr_cell h _ _ a2)
      have HN1 := hide n1
      have HN2' := hide n2
      have HEQ := hide q5
      clear ha hb n1 n2 q5 i1 i2
      generalize P[j] = pj at *
      generalize R[j] = rj at *
      have hgt : ¬ (rj.length : Int) < (pj.length : Int) := by omega
      have hw1 : IntKind.i64.wrap ((j : Int) + 1) = (j : Int) + 1 := IntWalk.i64_in _ (by omega)
      by_cases hnl : j + 1 < P.length
      · have hnl' : (j : Int) + 1 < (P.length : Int) := by omega
        have hne := q3 hnl
        have hne' : (pj.length : Int) = (rj.length : Int) := by omega
        clear q3
        go_wp2_with fail
        go_quiet (fail)
        go_wp2_with fail
        clear hw1
        have HQn := hide (show Gr wr (wr.drewN nq) from (Gr.refl wr).drewN nq)
        generalize wr.drewN nq = wq at HQn ⊢
        go_loopw [9] (fun i ws => ∃ k : Nat, i = .int .i64 k ∧ k ≤ pj.length ∧ Hid (Gr wq ws)) (fun i _ => pj.length - (intOf i).toNat)
        case atStart => exact ⟨0, rfl, by omega, Gr.refl _⟩
        case round =>
          obtain ⟨k, rfl, hk, HR2⟩ := hrel
          have HR3 := hide (HQn.out.trans HR2.out)
          have b1 := HA1.out _ HR3.out
          have b2 := HA2.out _ HR3.out
          by_cases hk2 : k < pj.length
          · have hk2' : (k : Int) < (pj.length : Int) := by omega
            have hk3' : (k : Int) < (rj.length : Int) := by omega
            obtain ⟨x1, rfl, y1⟩ := HN1.out k hk2
            obtain ⟨x2, rfl, y2⟩ := HN2'.out k (by omega)
            have z1 := gr_cell HR3.out _ _ y1
            have z2 := gr_cell HR3.out _ _ y2
            have heq := HEQ.out k hk2 (by omega)
            rw [heq] at z1
            clear y1 y2 heq
            generalize rj[k] = num at z1 z2
            go_wp2_with fail
            go_quiet (fail)
            go_wp2_with fail
            go_roundw
            case rel => exact ⟨k + 1, by go_num, by omega, HR2.out.drewN _⟩
            case measure => simp [intOf]; omega
          · obtain rfl : k = pj.length := by omega
            go_wp2_with fail
            go_roundw
            case rel => exact ⟨j + 1, by go_num, by omega, HR.out.trans HR3.out⟩
            case measure => simp [intOf]; omega
      · have hnl' : decide ((j : Int) + 1 < (P.length : Int)) = false := decide_eq_false (by omega)
        clear q3
        go_wp2_with fail
        go_quiet (fail)
        go_wp2_with fail
        clear hw1
        have HQn := hide (show Gr wr (wr.drewN nq) from (Gr.refl wr).drewN nq)
        generalize wr.drewN nq = wq at HQn ⊢
        go_loopw [9] (fun i ws => ∃ k : Nat, i = .int .i64 k ∧ k ≤ pj.length ∧ Hid (Gr wq ws)) (fun i _ => pj.length - (intOf i).toNat)
        case atStart => exact ⟨0, rfl, by omega, Gr.refl _⟩
        case round =>
          obtain ⟨k, rfl, hk, HR2⟩ := hrel
          have HR3 := hide (HQn.out.trans HR2.out)
          have b1 := HA1.out _ HR3.out
          have b2 := HA2.out _ HR3.out
          by_cases hk2 : k < pj.length
          · have hk2' : (k : Int) < (pj.length : Int) := by omega
            have hk3' : (k : Int) < (rj.length : Int) := by omega
            obtain ⟨x1, rfl, y1⟩ := HN1.out k hk2
            obtain ⟨x2, rfl, y2⟩ := HN2'.out k (by omega)
            have z1 := gr_cell HR3.out _ _ y1
            have z2 := gr_cell HR3.out _ _ y2
            have heq := HEQ.out k hk2 (by omega)
            rw [heq] at z1
            clear y1 y2 heq
            generalize rj[k] = num at z1 z2
            go_wp2_with fail
            go_quiet (fail)
            go_wp2_with fail
            go_roundw
            case rel => exact ⟨k + 1, by go_num, by omega, HR2.out.drewN _⟩
            case measure => simp [intOf]; omega
          · obtain rfl : k = pj.length := by omega
            go_wp2_with fail
            go_roundw
            case rel => exact ⟨j + 1, by go_num, by omega, HR.out.trans HR3.out⟩
            case measure => simp [intOf]; omega
    · obtain rfl : j = P.length := by omega
      replace HX := hide ((HX.out.gr HR.out).gr (Gr.refl _).drew)
      replace HG := hide (HG.out.trans HR.out)
      have hrem : binOp .rem 5 (.int .u8 (na : Int)) (.int .u8 16) = pure (.int .u8 (ka : Int)) := by
        rw [← hkn]
        exact rem_u8 na
      have hge : binOp .geq 3 (.int .i64 (q2 : Int)) (.int .i64 (q1 : Int)) = pure (.bool true) := by
        rw [show binOp .geq 3 (.int .i64 (q2 : Int)) (.int .i64 (q1 : Int)) = pure (.bool (decide ((q1 : Int) ≤ (q2 : Int)))) from rfl, decide_eq_true (by have := HQ1.out; have := HQ2.out; omega)]
      go_wp2_with fail
      refine Grow.wp_region_kept 106 [97, 98, 99, 100, 101, 102, 103, 104, 105, 4] rfl (by kernel_rfl) (by kernel_rfl) (by kernel_rfl) (Grow.Ahead.more (Grow.Ahead.more (Grow.Ahead.none_ _ _) 5 (Grow.En.stays L) HX.out) 1 (Grow.Is.stays (.int .u8 (na : Int))) rfl) ?_
      refine Grow.grow_move _ (Φ := (Grow.En (L))) (.inl rfl) (.inl ⟨rfl, rfl⟩) rfl (Grow.En.stays _) ?_
      refine Grow.grow_call1 (Φ := (Grow.Is (.int .i64 (q2 : Int)))) rfl (.inl ⟨rfl, rfl⟩) Try.func12 (by kernel_rfl) (by kernel_rfl) rfl (Grow.Is.stays _) (KS2.out _) ?_
      refine Grow.grow_move _ (Φ := (Grow.En (L))) (.inl rfl) (.inl ⟨rfl, rfl⟩) rfl (Grow.En.stays _) ?_
      refine Grow.grow_mv (c := .int .u8 (na : Int)) (.inl rfl) (.inl ⟨rfl, rfl⟩) rfl ?_
      refine Grow.grow_int (c := .int .u8 (ka : Int)) rfl (.inl ⟨rfl, rfl⟩) rfl (fun _ => rfl) hrem ?_
      refine Grow.grow_conv1 (v := .int .i64 (ka : Int)) rfl (.inl ⟨rfl, rfl⟩) rfl (fun w => conv_u8 ka (by omega) w) ?_
      refine Grow.grow_take_en (l := L) ka rfl (by rw [HLL.out]; exact hka7) rfl (.inl ⟨rfl, rfl⟩) rfl rfl ?_
      refine Grow.grow_call1 (Φ := (Grow.Is (.int .i64 (q1 : Int)))) rfl (.inl ⟨rfl, rfl⟩) Try.func12 (by kernel_rfl) (by kernel_rfl) rfl (Grow.Is.stays _) (KS1.out _) ?_
      refine Grow.grow_int (c := .bool true) rfl (.inl ⟨rfl, rfl⟩) rfl rfl hge ?_
      refine Grow.grow_mv (c := .bool true) (.inr rfl) (.inl ⟨rfl, rfl⟩) rfl ?_
      intro a1 w9 hg9 hs1 hd1 hu1 hk1
      have h4 : a1.tmps.getD 4 undef = .bool true := hk1 4
      obtain ⟨V, hV, hlay⟩ := Grow.lay_kept_by _ a1 106 _ hs1 hd1 hu1
      rw [hV] at h4
      clear hV hu1 hd1 hs1 hk1
      subst hlay
      simp only [List.range, List.range.loop, List.map_cons, List.map_nil, List.contains_cons, List.contains_nil, Nat.reduceBEq, Bool.or_false, Bool.or_true, cond_false, cond_true, Array.getD_eq_getD_getElem?, List.getElem?_toArray, List.getElem?_cons_zero, List.getElem?_cons_succ, Option.getD_some, h4]
      clear h4
      have HG9 := hide (HG.out.trans ((Gr.refl _).drew.trans hg9))
      clear hg9
      go_wp2_with fail
      go_ret
      exact ⟨rfl, HG9.out⟩

end Go.Proofs.Ytiinidkofonidaa
