/-
  The walk of 'UlogJoin'.
-/
import Derived.Test.YthgpeegnedocfaaUlogHasWalk
import Derived.Test.YthgpeegnedocfaaUlGrow
namespace Go.Proofs.Ythgpeegnedocfaa
open Go Go.RowKit TxnMath KeyMath MsgMath
set_option maxRecDepth 100000

/-- what was joined, or a front of it, joined again -/
theorem join_again {l m : List EntT} {k : Nat} (hk : k ≤ l.length) (n : Nat) : joinL (joinL l k m) k (m.take n) = joinL l k m := by
  have hat := join_at (m := m) hk
  refine join_fix ?_ fun j hj => ?_
  · rcases join_ahead (m := m) hk with ⟨_, h⟩ | ⟨_, h⟩
    · omega
    · rw [h]; exact hk
  · rw [List.length_take] at hj
    obtain ⟨h1, h2⟩ := hat j (by omega)
    exact ⟨h1, by rw [h2, List.getElem_take]⟩

set_option maxHeartbeats 2000000 in
theorem walk_UlogJoin (w : World) (A : Option Addr) (n c : Nat) (l : List UInt8) (hn : n = l.length) (hby : By w A c l) (B : Option Addr) (m d : Nat) (r : List UInt8) (hm : m = r.length) (hbr : By w B d r)
    (a : Int) (ha : (Lit.int .u8 a).wf = true) (b : Int) (hb : (Lit.int .u8 b).wf = true) :
    Calls Try.prog 4 #[.slice A n c, .slice B m d, .int .u8 a, .int .u8 b] w fun e w' => e = .returned (.bool true) ∧ Gr w w' := by
  subst hn hm
  have HBY := hide hby
  have HBR := hide hbr
  clear hby hbr
  obtain ⟨na, rfl, hna⟩ := u8_nat ha
  obtain ⟨nb, rfl, hnb⟩ := u8_nat hb
  clear ha hb
  by_cases h1 : (80 : Int) < (l.length : Int)
  · go_enter Try.func4, Try.ntmps4
    go_wp2_with fail
    refine (begun_ok _).mono ?_
    rintro e w1 ⟨rfl, hg1⟩
    go_wp2_with fail
    go_ret
    exact ⟨rfl, hg1⟩
  by_cases h2 : (80 : Int) < (r.length : Int)
  · go_enter Try.func4, Try.ntmps4
    go_wp2_with fail
    refine (begun_ok _).mono ?_
    rintro e w1 ⟨rfl, hg1⟩
    go_wp2_with fail
    go_ret
    exact ⟨rfl, hg1⟩
  obtain ⟨ka, hka⟩ : ∃ k, na % 9 = k := ⟨_, rfl⟩
  have ea : (na : Int).tmod 9 = (ka : Int) := by rw [← hka]; rfl
  have ea2 : (na : Int) % 9 = (ka : Int) := by omega
  have hka8 : ka ≤ 8 := by omega
  have HLB := hide (logP_bnd l 0 8)
  have HKB := hide (logP_bnd r 0 4)
  have HLL := hide (logP_len l 0 8)
  have HKL := hide (logP_len r 0 4)
  obtain ⟨kb, hkb⟩ : ∃ k, nb % 5 = k := ⟨_, rfl⟩
  have eb : (nb : Int).tmod 5 = (kb : Int) := by rw [← hkb]; rfl
  have eb2 : (nb : Int) % 5 = (kb : Int) := by omega
  have hkb4 : kb ≤ 4 := by omega
  clear hka hkb
  go_enter Try.func4, Try.ntmps4
  go_wp2_with fail
  refine (begun_ok _).mono ?_
  rintro e w1 ⟨rfl, hg1⟩
  go_wp2_with fail
  refine (Made_ok A c l w1 (HBY.out.gr hg1)).mono ?_
  rintro e w2 ⟨rfl, hg2, hpk⟩
  have hgw1 := hg1.size
  have hg12 := hg1.trans hg2
  go_wp2_with fail
  refine (Log_ok w1.heap.size A c l 0 8 (by omega) (by omega) w2 hpk).mono ?_
  rintro e w3 ⟨lv, rfl, hlo, hb3, _⟩
  have hx := hlo.entsX
  clear hlo hpk
  generalize (logP l 0 8).1 = L at hx HLL HLB
  obtain ⟨lA, lc, rfl⟩ := hx.is
  rw [HLL.out] at hx ⊢
  have HX := hide hx
  have hg3 : Gr w w3 := hg12.fresh hb3 hgw1
  clear hx hb3 hg1 hg2 hg12 hgw1
  go_wp2_with fail
  refine (Made_ok B d r w3 (HBR.out.gr hg3)).mono ?_
  rintro e w4 ⟨rfl, hg4, hpk⟩
  have hgw3 := hg3.size
  have hg34 := hg3.trans hg4
  go_wp2_with fail
  refine (Log_ok w3.heap.size B d r 0 4 (by omega) (by omega) w4 hpk).mono ?_
  rintro e w5 ⟨kv, rfl, hko, hb5, _⟩
  have hy := hko.entsX
  clear hko hpk
  generalize (logP r 0 4).1 = R at hy HKL HKB
  obtain ⟨rA, rc, rfl⟩ := hy.is
  rw [HKL.out] at hy ⊢
  have HY := hide hy
  have hg5 : Gr w w5 := hg34.fresh hb5 hgw3
  have hg35 : Gr w3 w5 := hg4.fresh hb5 (Nat.le_refl _)
  replace HX := hide (HX.out.gr hg35)
  clear hy hb5 hg3 hg4 hg34 hg35 hgw3
  have HJA := hide (fun n => join_again (l := L) (m := R) (k := ka) (by have := HLL.out; omega) n)
  have HTK : Hid (List.take ka (joinL L ka R) = List.take ka L ∧ ka + 4 ≤ (joinL L ka R).length) := by
    have hrl := HKL.out
    rcases join_ahead (l := L) (m := R) (k := ka) (by have := HLL.out; omega) with ⟨h1, h2⟩ | ⟨h1, _⟩
    · exact ⟨h1, by omega⟩
    · omega
  have HXM := hide HTK.out.2
  replace HTK := hide HTK.out.1
  have HAT := hide (join_at (l := L) (m := R) (k := ka) (by have := HLL.out; omega))
  have HSX : Hid (Grow.Sm (joinL L ka R)) := ⟨by have := join_len (l := L) (m := R) (i := (ka : Int)); have := HLL.out; have := HKL.out; omega, fun e he => (join_mem e he).elim (HLB.out e) (HKB.out e)⟩
  have HSL : Hid (Grow.Sm L) := ⟨by have := HLL.out; omega, HLB.out⟩
  have HSR : Hid (Grow.Sm R) := ⟨by have := HKL.out; omega, HKB.out⟩
  have HNIL : Hid (joinL L ka [] = L) := join_fix (by have := HLL.out; omega) fun j hj => absurd hj (by simp)
  go_wp2_with fail
  refine (Join_ok _ _ L R ka w5 HX.out HY.out HSL.out.1 HSR.out.1 HLB.out HKB.out).mono ?_
  rintro e w6 ⟨xv, rfl, ho6, hg6⟩
  have hz := ho6.entsX
  replace HX := hide (HX.out.gr hg6)
  replace HY := hide (HY.out.gr hg6)
  have HG := hide (hg5.trans hg6)
  clear ho6 hg6 hg5 HBY HBR HLB HKB
  generalize joinL L ka R = X at hz HAT HTK HXM HSX HJA
  obtain ⟨xA, xc, rfl⟩ := hz.is
  have HZ := hide hz
  clear hz
  go_wp2_with fail
  refine (Join_ok _ _ X R ka w6 HZ.out HY.out HSX.out.1 HSR.out.1 HSX.out.2 HSR.out.2).mono ?_
  rintro e w7 ⟨yv, rfl, ho7, hg7⟩
  have hz7 := ho7.entsX
  have hjr := HJA.out R.length
  rw [List.take_length] at hjr
  rw [hjr] at hz7
  obtain ⟨yA, yc, rfl⟩ := hz7.is
  have HY7 := hide hz7
  replace HX := hide (HX.out.gr hg7)
  replace HY := hide (HY.out.gr hg7)
  replace HZ := hide (HZ.out.gr hg7)
  replace HG := hide (HG.out.trans hg7)
  clear hz7 hjr ho7 hg7
  have hrc := HY.out.le
  have hrc1 : (kb : Int) ≤ (rc : Int) := by omega
  have hrc0 : ¬ rc = 0 := by omega
  go_wp2_with fail
  refine (Join_ok _ _ X (R.take kb) ka w7 HZ.out (HY.out.take kb hkb4) HSX.out.1 (HSR.out.take kb).1 HSX.out.2 (HSR.out.take kb).2).mono ?_
  rintro e w8 ⟨zv, rfl, ho8, hg8⟩
  have hz8 := ho8.entsX
  rw [HJA.out] at hz8
  obtain ⟨zA, zc, rfl⟩ := hz8.is
  have HZ8 := hide hz8
  replace HX := hide (HX.out.gr hg8)
  replace HY := hide (HY.out.gr hg8)
  replace HZ := hide (HZ.out.gr hg8)
  replace HY7 := hide (HY7.out.gr hg8)
  replace HG := hide (HG.out.trans hg8)
  clear hz8 ho8 hg8 hrc hrc1 hrc0 HJA
  go_wp2_with fail
  refine Grow.wp_region_kept 110 [57, 58, 59, 60, 61, 62, 63, 64, 65, 66, 67, 68, 69, 70, 71, 72, 73, 74, 75, 76, 77, 78, 79, 80, 81, 82, 83, 84, 85] rfl (by kernel_rfl) (by kernel_rfl) (by kernel_rfl) (Grow.Ahead.more (Grow.Ahead.more (Grow.Ahead.more (Grow.Ahead.more (Grow.Ahead.more (Grow.Ahead.more (Grow.Ahead.none_ _ _) 9 (Grow.En.stays L) (HX.out.gr (Gr.refl _).drew)) 10 (Grow.En.stays R) (HY.out.gr (Gr.refl _).drew)) 11 (Grow.Is.stays (.int .i64 (ka : Int))) rfl) 12 (Grow.En.stays X) (HZ.out.gr (Gr.refl _).drew)) 13 (Grow.En.stays X) (HY7.out.gr (Gr.refl _).drew)) 14 (Grow.En.stays X) (HZ8.out.gr (Gr.refl _).drew)) ?_
  refine Grow.grow_move _ (Φ := (Grow.En (X))) (.inl rfl) (.inl ⟨rfl, rfl⟩) rfl (Grow.En.stays _) ?_
  refine Grow.grow_move _ (Φ := (Grow.En (X))) (.inl rfl) (.inl ⟨rfl, rfl⟩) rfl (Grow.En.stays _) ?_
  refine Grow.grow_call2 (Φ := (Grow.Is (.bool true))) rfl (.inl ⟨rfl, rfl⟩) Try.func20 (by kernel_rfl) (by kernel_rfl) rfl rfl (Grow.Is.stays _) (Grow.kSame HSX.out HSX.out (decide_eq_true rfl)) ?_
  refine Grow.grow_un (c := .bool false) rfl (.inl ⟨rfl, rfl⟩) rfl (fun _ => rfl) ?_
  refine Grow.grow_mv (c := .bool false) (.inl rfl) (.inl ⟨rfl, rfl⟩) rfl ?_
  refine Grow.grow_move _ (Φ := (Grow.En (X))) (.inl rfl) (.inr ⟨4, false, 61, rfl, rfl, rfl, by decide⟩) rfl (Grow.En.stays _) ?_
  refine Grow.grow_move _ (Φ := (Grow.En (X))) (.inl rfl) (.inr ⟨4, false, 61, rfl, rfl, rfl, by decide⟩) rfl (Grow.En.stays _) ?_
  refine Grow.grow_call2 (Φ := (Grow.Is (.bool true))) rfl (.inr ⟨4, false, 61, rfl, rfl, rfl, by decide⟩) Try.func20 (by kernel_rfl) (by kernel_rfl) rfl rfl (Grow.Is.stays _) (Grow.kSame HSX.out HSX.out (decide_eq_true rfl)) ?_
  refine Grow.grow_un (c := .bool false) rfl (.inr ⟨4, false, 61, rfl, rfl, rfl, by decide⟩) rfl (fun _ => rfl) ?_
  refine Grow.grow_pick_no (Φ := (Grow.Is (.bool false))) rfl (.inl ⟨rfl, rfl⟩) rfl rfl (Grow.Is.stays _) ?_
  refine Grow.grow_mv (c := .bool false) (.inl rfl) (.inl ⟨rfl, rfl⟩) rfl ?_
  refine Grow.grow_move _ (Φ := (Grow.En (X))) (.inl rfl) (.inr ⟨10, false, 67, rfl, rfl, rfl, by decide⟩) rfl (Grow.En.stays _) ?_
  refine Grow.grow_len_en (n := X.length) rfl rfl (.inr ⟨10, false, 67, rfl, rfl, rfl, by decide⟩) rfl ?_
  refine Grow.grow_mv (c := .int .i64 (ka : Int)) (.inl rfl) (.inr ⟨10, false, 67, rfl, rfl, rfl, by decide⟩) rfl ?_
  refine Grow.grow_move _ (Φ := (Grow.En (R))) (.inl rfl) (.inr ⟨10, false, 67, rfl, rfl, rfl, by decide⟩) rfl (Grow.En.stays _) ?_
  refine Grow.grow_len_en (n := 4) (by rw [HKL.out]; rfl) rfl (.inr ⟨10, false, 67, rfl, rfl, rfl, by decide⟩) rfl ?_
  refine Grow.grow_int (c := .int .i64 ((ka : Int) + 4)) rfl (.inr ⟨10, false, 67, rfl, rfl, rfl, by decide⟩) rfl rfl (by rw [show binOp .add _ _ _ = pure (.int .i64 (IntKind.i64.wrap ((ka : Int) + 4))) from rfl, IntWalk.i64_in _ (by omega)]) ?_
  refine Grow.grow_int (c := .bool false) rfl (.inr ⟨10, false, 67, rfl, rfl, rfl, by decide⟩) rfl rfl (by rw [show binOp .lss _ _ _ = pure (.bool (decide ((X.length : Int) < (ka : Int) + 4))) from rfl, decide_eq_false (by have := HXM.out; omega)]) ?_
  refine Grow.grow_pick_no (Φ := (Grow.Is (.bool false))) rfl (.inl ⟨rfl, rfl⟩) rfl rfl (Grow.Is.stays _) ?_
  refine Grow.grow_mv (c := .bool false) (.inl rfl) (.inl ⟨rfl, rfl⟩) rfl ?_
  refine Grow.grow_move _ (Φ := (Grow.En (X))) (.inl rfl) (.inr ⟨19, false, 76, rfl, rfl, rfl, by decide⟩) rfl (Grow.En.stays _) ?_
  refine Grow.grow_mv (c := .int .i64 (ka : Int)) (.inl rfl) (.inr ⟨19, false, 76, rfl, rfl, rfl, by decide⟩) rfl ?_
  refine Grow.grow_take_en (l := X) ka rfl (by have := HXM.out; omega) rfl (.inr ⟨19, false, 76, rfl, rfl, rfl, by decide⟩) rfl rfl ?_
  refine Grow.grow_move _ (Φ := (Grow.En (L))) (.inl rfl) (.inr ⟨19, false, 76, rfl, rfl, rfl, by decide⟩) rfl (Grow.En.stays _) ?_
  refine Grow.grow_mv (c := .int .i64 (ka : Int)) (.inl rfl) (.inr ⟨19, false, 76, rfl, rfl, rfl, by decide⟩) rfl ?_
  refine Grow.grow_take_en (l := L) ka rfl (by have := HLL.out; omega) rfl (.inr ⟨19, false, 76, rfl, rfl, rfl, by decide⟩) rfl rfl ?_
  refine Grow.grow_call2 (Φ := (Grow.Is (.bool true))) rfl (.inr ⟨19, false, 76, rfl, rfl, rfl, by decide⟩) Try.func15 (by kernel_rfl) (by kernel_rfl) rfl rfl (Grow.Is.stays _) (Grow.kRefSame (HSX.out.take ka) (HSL.out.take ka) (decide_eq_true HTK.out)) ?_
  refine Grow.grow_un (c := .bool false) rfl (.inr ⟨19, false, 76, rfl, rfl, rfl, by decide⟩) rfl (fun _ => rfl) ?_
  refine Grow.grow_pick_no (Φ := (Grow.Is (.bool false))) rfl (.inl ⟨rfl, rfl⟩) rfl rfl (Grow.Is.stays _) ?_
  intro a1 w9 hg9 hs1 hd1 hu1 hk1
  have h85 : a1.tmps.getD 85 undef = .bool false := hk1 85
  obtain ⟨V, hV, hlay⟩ := Grow.lay_kept_by _ a1 110 _ hs1 hd1 hu1
  rw [hV] at h85
  clear hV hu1 hd1 hs1 hk1
  subst hlay
  simp only [List.range, List.range.loop, List.map_cons, List.map_nil, List.contains_cons, List.contains_nil, Nat.reduceBEq, Bool.or_false, Bool.or_true, cond_false, cond_true, Array.getD_eq_getD_getElem?, List.getElem?_toArray, List.getElem?_cons_zero, List.getElem?_cons_succ, Option.getD_some, h85]
  clear h85
  replace hg9 := (Gr.refl w8).drew.trans hg9
  replace HX := hide (HX.out.gr hg9)
  replace HY := hide (HY.out.gr hg9)
  replace HZ := hide (HZ.out.gr hg9)
  replace HG := hide (HG.out.trans hg9)
  clear hg9 HY7 HZ8 HTK
  go_wp2_with fail
  go_loopw [15] (fun i wr => ∃ j : Nat, i = .int .i64 j ∧ j ≤ 4 ∧ Gr w9 wr) (fun i _ => 4 - (intOf i).toNat)
  case atStart => exact ⟨0, rfl, by omega, Gr.refl _⟩
  case round =>
    obtain ⟨j, rfl, hj, hgr⟩ := hrel
    by_cases hlt : j < 4
    · have hlt' : (j : Int) < 4 := by omega
      have hjr : j < R.length := by rw [HKL.out]; exact hlt
      obtain ⟨hx, he⟩ := HAT.out j hjr
      obtain ⟨tm, htm⟩ : ∃ tm, R[j].term = tm := ⟨_, rfl⟩
      have HTR : Hid ((R[j]?).map EntT.term = some tm) := by rw [List.getElem?_eq_getElem hjr]; exact congrArg some htm
      have HTX : Hid ((X[ka + j]?).map EntT.term = some tm) := by rw [List.getElem?_eq_getElem hx]; exact congrArg some (he.trans htm)
      clear he htm hx hjr
      go_wp2_with fail
      refine Grow.wp_region_kept 110 [92, 93, 94, 95, 96, 97, 98, 99, 100, 101, 102, 103, 104] rfl (by kernel_rfl) (by kernel_rfl) (by kernel_rfl) (Grow.Ahead.more (Grow.Ahead.more (Grow.Ahead.more (Grow.Ahead.more (Grow.Ahead.none_ _ _) 10 (Grow.En.stays R) ((HY.out.gr hgr).gr (Gr.refl _).drew)) 11 (Grow.Is.stays (.int .i64 (ka : Int))) rfl) 12 (Grow.En.stays X) ((HZ.out.gr hgr).gr (Gr.refl _).drew)) 15 (Grow.Is.stays (.int .i64 (j : Int))) rfl) ?_
      refine Grow.grow_move _ (Φ := (Grow.En (X))) (.inl rfl) (.inl ⟨rfl, rfl⟩) rfl (Grow.En.stays _) ?_
      refine Grow.grow_mv (c := .int .i64 (ka : Int)) (.inl rfl) (.inl ⟨rfl, rfl⟩) rfl ?_
      refine Grow.grow_mv (c := .int .i64 (j : Int)) (.inl rfl) (.inl ⟨rfl, rfl⟩) rfl ?_
      refine Grow.grow_int (c := .int .i64 ((ka : Int) + (j : Int))) rfl (.inl ⟨rfl, rfl⟩) rfl rfl (by rw [show binOp .add _ _ _ = pure (.int .i64 (IntKind.i64.wrap ((ka : Int) + (j : Int)))) from rfl, IntWalk.i64_in _ (by omega)]) ?_
      refine Grow.grow_at_en (l := X) (ka + j) (by push_cast; rfl) (t := tm) HTX.out rfl (.inl ⟨rfl, rfl⟩) rfl rfl ?_
      refine Grow.grow_term rfl (.inl ⟨rfl, rfl⟩) rfl ?_
      refine Grow.grow_load rfl (fun _ => by kernel_rfl) (.inl ⟨rfl, rfl⟩) rfl ?_
      refine Grow.grow_move _ (Φ := (Grow.En (R))) (.inl rfl) (.inl ⟨rfl, rfl⟩) rfl (Grow.En.stays _) ?_
      refine Grow.grow_mv (c := .int .i64 (j : Int)) (.inl rfl) (.inl ⟨rfl, rfl⟩) rfl ?_
      refine Grow.grow_at_en (l := R) j rfl (t := tm) HTR.out rfl (.inl ⟨rfl, rfl⟩) rfl rfl ?_
      refine Grow.grow_term rfl (.inl ⟨rfl, rfl⟩) rfl ?_
      refine Grow.grow_load rfl (fun _ => by kernel_rfl) (.inl ⟨rfl, rfl⟩) rfl ?_
      refine Grow.grow_int_alike rfl rfl (.inl ⟨rfl, rfl⟩) rfl rfl ?_
      intro a2 w10 hg10 hs1 hd1 hu1 hk1
      have h104 : a2.tmps.getD 104 undef = .bool false := hk1 104
      obtain ⟨V2, hV, hlay⟩ := Grow.lay_kept_by _ a2 110 _ hs1 hd1 hu1
      rw [hV] at h104
      clear hV hu1 hd1 hs1 hk1
      subst hlay
      simp only [List.range, List.range.loop, List.map_cons, List.map_nil, List.contains_cons, List.contains_nil, Nat.reduceBEq, Bool.or_false, Bool.or_true, cond_false, cond_true, Array.getD_eq_getD_getElem?, List.getElem?_toArray, List.getElem?_cons_zero, List.getElem?_cons_succ, Option.getD_some, h104]
      clear h104
      replace hgr := hgr.trans ((Gr.refl _).drew.trans hg10)
      clear hg10
      go_wp2_with fail
      go_roundw
      case rel => exact ⟨j + 1, by go_num, by omega, hgr⟩
      case measure => simp [intOf]; omega
    · have hlt' : ¬ (j : Int) < 4 := by omega
      have hzn : EntsX Any wr (.slice none 0 0) [] := EntsX.nil _ _
      go_wp2_with fail
      refine (Join_ok _ _ L [] ka wr (HX.out.gr hgr) hzn HSL.out.1 Grow.Sm.nil.1 HSL.out.2 Grow.Sm.nil.2).mono ?_
      rintro e w11 ⟨uv, rfl, ho11, hg11⟩
      have hz11 := ho11.entsX
      rw [HNIL.out] at hz11
      obtain ⟨uA, uc, rfl⟩ := hz11.is
      have HU := hide hz11
      clear hz11 ho11 hzn
      go_wp2_with fail
      refine (Same_ok _ _ L L w11 HU.out ((HX.out.gr hgr).gr hg11) (by have := HLL.out; omega) (by have := HLL.out; omega) HSL.out.2 HSL.out.2).mono ?_
      rintro e w12 ⟨rfl, hg12⟩
      go_wp2_with fail
      go_ret
      exact ⟨by simp, ((HG.out.trans hgr).trans hg11).trans hg12⟩

end Go.Proofs.Ythgpeegnedocfaa
