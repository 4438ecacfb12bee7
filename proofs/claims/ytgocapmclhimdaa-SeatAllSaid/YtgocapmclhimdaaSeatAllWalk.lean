/-
  The walk of 'SeatAll'. Written by tools/genSeatAll.py.
-/
import Derived.Test.YtgocapmclhimdaaSeArgs
import Derived.Test.YtgocapmclhimdaaSeBegun
import Derived.Test.YtgocapmclhimdaaQuietIf
namespace Go.Proofs.Ytgocapmclhimdaa
open Go Go.RowKit SeMath
set_option maxRecDepth 100000

set_option maxHeartbeats 4000000 in
theorem walk_SeatAll (w : World) (v : Value) (ls : List PrT) (h : RowAt 2 w v (ls.map prC)) (hok : ∀ x ∈ ls, PrOk x) (hlen : ls.length ≤ 281474976710656) (xs : Int) (_h1 : (Lit.int .i64 xs).wf = true) (xq : Int) (_h2 : (Lit.int .i64 xq).wf = true) (xp : Int) (_h3 : (Lit.int .i64 xp).wf = true) :
    Calls Try.prog 3 #[v, .int .i64 xs, .int .i64 xq, .int .i64 xp] w fun e w' => e = .returned (.bool true) ∧ Gr w w' := by
  have HR := hide h
  have HOK := hide hok
  have HBE := hide begun_ok
  obtain ⟨A, c, rfl⟩ := pr_is h
  clear h hok _h1 _h2 _h3
  go_enter Try.func3, Try.ntmps3
  go_wp2_with fail
  refine (HBE.out _).mono ?_
  rintro e w1 ⟨rfl, hg1⟩
  have HG1 := hide hg1
  clear hg1
  by_cases hbig : (40 : Int) < (ls.length : Int)
  · go_wp2_with fail
    go_ret
    exact ⟨rfl, HG1.out⟩
  · have hl40 : ls.length ≤ 40 := by omega
    clear hbig HBE
    go_wp2_with fail
    go_loopw [9, 10, 11] (fun p u i wr => ∃ (k : Nat) (S R : List SeT) (A : Option Addr) (c : Nat) (A' : Option Addr) (c' : Nat), i = .int .i64 k ∧ k ≤ ls.length ∧ u = .slice A S.length c ∧ p = .slice A' R.length c' ∧ S.length ≤ k ∧ R.length ≤ k ∧ Hid (SeX wr u S) ∧ Hid (SeX wr p R) ∧ Hid (Rise S) ∧ Hid (Gr w wr)) (fun _ _ i _ => ls.length - (intOf i).toNat)
    case atStart => exact ⟨0, [], [], none, 0, none, 0, rfl, Nat.zero_le _, rfl, rfl, Nat.le_refl _, Nat.le_refl _, hide (SeX.nil _ _ _), hide (SeX.nil _ _ _), hide (by simp [Rise]), HG1⟩
    case round =>
      obtain ⟨k, S, R, As, cs, Ar, cr, rfl, hk, rfl, rfl, hSk, hRk, HS, HP, HRI, HG⟩ := hrel
      by_cases hlt : k < ls.length
      · have hlt' : (k : Int) < (ls.length : Int) := by omega
        obtain ⟨ad, c', e1, a0, a1⟩ := pr_at HR.out hlt
        simp only [Value.slice.injEq, true_and] at e1
        obtain ⟨rfl, rfl⟩ := e1
        have hp := HOK.out _ (List.getElem_mem hlt)
        generalize ls[k] = pr at a0 a1 hp
        obtain ⟨a, b⟩ := pr
        obtain ⟨ha, hb⟩ := hp
        simp only at a0 a1 ha hb
        have HC0 : Hid (∀ W, Gr w W → W.cell? ((ad.add (k * 2)).add 0) = some (.int .u8 (a : Int))) := hide fun W hg => by rw [add_zero_]; exact gr_cell hg _ _ a0
        have HC1 : Hid (∀ W, Gr w W → W.cell? ((ad.add (k * 2)).add 1) = some (.int .u8 (b : Int))) := hide fun W hg => gr_cell hg _ _ a1
        clear a0 a1
        have HTU := hide (fun (W : World) (h : SeX W (.slice As S.length cs) S) => Turn_ok _ S ⟨((a % 5 : Nat) : Int), ((b % 9 : Nat) : Int), ((k + 1 : Nat) : Int)⟩ W h (by omega) HRI.out)
        have HTR := hide (fun (W : World) (h : SeX W (.slice As S.length cs) S) => RefTurn_ok _ S ⟨((a % 5 : Nat) : Int), ((b % 9 : Nat) : Int), ((k + 1 : Nat) : Int)⟩ W h (by omega))
        have HRI2 := hide (turn_rise ⟨((a % 5 : Nat) : Int), ((b % 9 : Nat) : Int), ((k + 1 : Nat) : Int)⟩ HRI.out)
        have HLE := hide (turn_len ⟨((a % 5 : Nat) : Int), ((b % 9 : Nat) : Int), ((k + 1 : Nat) : Int)⟩ S)
        unfold TurnPost at HTU HTR
        simp only at HTU HTR
        generalize turnL ⟨((a % 5 : Nat) : Int), ((b % 9 : Nat) : Int), ((k + 1 : Nat) : Int)⟩ S = S' at HTU HTR HRI2 HLE
        generalize turnB ⟨((a % 5 : Nat) : Int), ((b % 9 : Nat) : Int), ((k + 1 : Nat) : Int)⟩ S = bo at HTU HTR
        have HA0 := hide (HC0.out _ (HG.out.drewN 1))
        have HA1 := hide (HC1.out _ (HG.out.drewN 1))
        go_wp2_with fail
        refine Grow.wp_region_kept 149 [35, 36, 37, 38, 39, 40, 41, 42, 43, 44, 45, 46, 47, 48, 49, 50, 51, 52, 53, 54, 55, 12, 13] rfl (by kernel_rfl) (by kernel_rfl) (by kernel_rfl) (Grow.Ahead.more (Grow.Ahead.more (Grow.Ahead.more (Grow.Ahead.none_ _ _) 0 (Grow.Is.stays (.slice (some ad) ls.length c)) (by rfl)) 11 (Grow.Is.stays (.int .i64 (k : Int))) (by rfl)) 10 (Grow.Sx.stays (.slice As S.length cs) S) (by exact ⟨rfl, HS.out.gr ((Gr.refl _).drewN 1)⟩)) ?_
        refine Grow.grow_move (.tmp 10) (.inl rfl) (.inl ⟨rfl, rfl⟩) rfl (Grow.Sx.stays _ _) ?_
        refine Grow.grow_mv (.inl rfl) (.inl ⟨rfl, rfl⟩) rfl ?_
        refine Grow.grow_mv (.inl rfl) (.inl ⟨rfl, rfl⟩) rfl ?_
        refine Grow.grow_see2 (x := .tmp 37) (y := .tmp 38) (z := .pointer (some (ad.add (k * 2)))) (.inl ⟨rfl, rfl⟩) (by simp [Op.operands]) (by simp [Op.operands]) rfl rfl (fun a W _ hx hy => exec_idxPr rfl hx hy hlt W) ?_
        refine Grow.grow_see1 (x := .tmp 39) (z := .pointer (some ((ad.add (k * 2)).add 0))) (.inl ⟨rfl, rfl⟩) (by simp [Op.operands]) rfl (fun a W _ hx => exec_arr (j := 0) rfl hx rfl (by decide) W) ?_
        refine Grow.grow_see1 (x := .tmp 40) (z := .int .u8 (a : Int)) (.inl ⟨rfl, rfl⟩) (by simp [Op.operands]) rfl (fun a W hg hx => exec_ldU8 rfl hx (gr_cell hg _ _ HA0.out)) ?_
        refine Grow.grow_see1 (x := .tmp 41) (z := .int .u8 ((a % 5 : Nat) : Int)) (.inl ⟨rfl, rfl⟩) (by simp [Op.operands]) rfl (fun a W _ hx => exec_rem (m := 5) rfl hx rfl (by decide) (by decide) W) ?_
        refine Grow.grow_see1 (x := .tmp 42) (z := .int .i64 ((a % 5 : Nat) : Int)) (.inl ⟨rfl, rfl⟩) (by simp [Op.operands]) rfl (fun a W _ hx => exec_conv rfl hx (by omega) W) ?_
        refine Grow.grow_mv (.inl rfl) (.inl ⟨rfl, rfl⟩) rfl ?_
        refine Grow.grow_mv (.inl rfl) (.inl ⟨rfl, rfl⟩) rfl ?_
        refine Grow.grow_see2 (x := .tmp 44) (y := .tmp 45) (z := .pointer (some (ad.add (k * 2)))) (.inl ⟨rfl, rfl⟩) (by simp [Op.operands]) (by simp [Op.operands]) rfl rfl (fun a W _ hx hy => exec_idxPr rfl hx hy hlt W) ?_
        refine Grow.grow_see1 (x := .tmp 46) (z := .pointer (some ((ad.add (k * 2)).add 1))) (.inl ⟨rfl, rfl⟩) (by simp [Op.operands]) rfl (fun a W _ hx => exec_arr (j := 1) rfl hx rfl (by decide) W) ?_
        refine Grow.grow_see1 (x := .tmp 47) (z := .int .u8 (b : Int)) (.inl ⟨rfl, rfl⟩) (by simp [Op.operands]) rfl (fun a W hg hx => exec_ldU8 rfl hx (gr_cell hg _ _ HA1.out)) ?_
        refine Grow.grow_see1 (x := .tmp 48) (z := .int .u8 ((b % 9 : Nat) : Int)) (.inl ⟨rfl, rfl⟩) (by simp [Op.operands]) rfl (fun a W _ hx => exec_rem (m := 9) rfl hx rfl (by decide) (by decide) W) ?_
        refine Grow.grow_see1 (x := .tmp 49) (z := .int .i64 ((b % 9 : Nat) : Int)) (.inl ⟨rfl, rfl⟩) (by simp [Op.operands]) rfl (fun a W _ hx => exec_conv rfl hx (by omega) W) ?_
        refine Grow.grow_mv (.inl rfl) (.inl ⟨rfl, rfl⟩) rfl ?_
        refine Grow.grow_see1 (x := .tmp 51) (z := .int .i64 ((k + 1 : Nat) : Int)) (.inl ⟨rfl, rfl⟩) (by simp [Op.operands]) rfl (fun a W _ hx => exec_add (b := 1) rfl hx rfl (by omega) (by decide) W) ?_
        refine Grow.grow_call4 (Φ := Grow.TuK S' bo) rfl (.inl ⟨rfl, rfl⟩) Try.func7 (by kernel_rfl) (by kernel_rfl) (Ψ := Grow.Sx (.slice As S.length cs) S) (Ψ' := Grow.Is (.int .i64 ((a % 5 : Nat) : Int))) (Ψ'' := Grow.Is (.int .i64 ((b % 9 : Nat) : Int))) (Ψ3 := Grow.Is (.int .i64 ((k + 1 : Nat) : Int))) rfl rfl rfl rfl (Grow.TuK.stays _ _) (fun v u t s W _ h1 h2 h3 h4 => by
          obtain ⟨rfl, h1⟩ := h1
          subst h2 h3 h4
          refine (HTU.out W h1).mono ?_
          rintro e w' ⟨u, rfl, ho, hg⟩
          obtain ⟨A', c', hu, _⟩ := ho.x.is
          exact ⟨_, rfl, hg, A', c', by rw [hu], by rw [← hu]; exact ho.x⟩) ?_
        refine Grow.grow_move (.tmp 53) (.inl rfl) (.inl ⟨rfl, rfl⟩) rfl (Grow.TuK.stays _ _) ?_
        refine Grow.grow_partK (Ψ := Grow.TuK S' bo) (Φ := Grow.SlK S') rfl (.inl ⟨rfl, rfl⟩) rfl (Grow.SlK.stays _) (fun v W h => by obtain ⟨A', c', rfl, h⟩ := h; exact ⟨_, rfl, A', c', rfl, h⟩) ?_
        refine Grow.grow_partK (Ψ := Grow.TuK S' bo) (Φ := Grow.Is (.bool bo)) rfl (.inl ⟨rfl, rfl⟩) rfl (Grow.Is.stays _) (fun v W h => by obtain ⟨A', c', rfl, h⟩ := h; exact ⟨_, rfl, rfl⟩) ?_
        refine Grow.grow_move (.tmp 54) (.inr rfl) (.inl ⟨rfl, rfl⟩) rfl (Grow.SlK.stays _) ?_
        refine Grow.grow_move (.tmp 55) (.inr rfl) (.inl ⟨rfl, rfl⟩) rfl (Grow.Is.stays _) ?_
        intro a1 w3 hg3 hs1 hd1 hu1 hk1
        have h12 : Grow.SlK S' (a1.tmps.getD 12 undef) w3 := hk1 12
        have h13 : a1.tmps.getD 13 undef = .bool bo := hk1 13
        obtain ⟨X, hX, hlay⟩ := Grow.lay_kept_by _ a1 149 _ hs1 hd1 hu1
        rw [hX] at h12 h13
        obtain ⟨A12, c12, h12, hx12⟩ := h12
        clear hX hu1 hd1 hs1 hk1
        subst hlay
        simp only [List.range, List.range.loop, List.map_cons, List.map_nil, List.contains_cons, List.contains_nil, Nat.reduceBEq, Bool.or_false, Bool.or_true, cond_false, cond_true, Array.getD_eq_getD_getElem?, List.getElem?_toArray, List.getElem?_cons_zero, List.getElem?_cons_succ, Option.getD_some, h12, h13]
        clear h12 h13
        have hg3' : Gr wr w3 := ((Gr.refl wr).drewN 1).trans hg3
        have HS := hide (HS.out.gr hg3')
        have HP := hide (HP.out.gr hg3')
        have HG := hide (HG.out.trans hg3')
        have HX12 := hide hx12
        have HA0 := hide (HC0.out _ (HG.out.drewN 1))
        have HA1 := hide (HC1.out _ (HG.out.drewN 1))
        clear hg3 hg3' hx12 HTU
        generalize w3 = wr at HS HP HG HX12 HA0 HA1 ⊢
        go_wp2_with fail
        refine Grow.wp_region_kept 149 [56, 57, 58, 59, 60, 61, 62, 63, 64, 65, 66, 67, 68, 69, 70, 71, 72, 73, 74, 75, 76, 14, 15] rfl (by kernel_rfl) (by kernel_rfl) (by kernel_rfl) (Grow.Ahead.more (Grow.Ahead.more (Grow.Ahead.more (Grow.Ahead.none_ _ _) 0 (Grow.Is.stays (.slice (some ad) ls.length c)) (by rfl)) 11 (Grow.Is.stays (.int .i64 (k : Int))) (by rfl)) 10 (Grow.Sx.stays (.slice As S.length cs) S) (by exact ⟨rfl, HS.out.gr ((Gr.refl _).drewN 1)⟩)) ?_
        refine Grow.grow_move (.tmp 10) (.inl rfl) (.inl ⟨rfl, rfl⟩) rfl (Grow.Sx.stays _ _) ?_
        refine Grow.grow_mv (.inl rfl) (.inl ⟨rfl, rfl⟩) rfl ?_
        refine Grow.grow_mv (.inl rfl) (.inl ⟨rfl, rfl⟩) rfl ?_
        refine Grow.grow_see2 (x := .tmp 58) (y := .tmp 59) (z := .pointer (some (ad.add (k * 2)))) (.inl ⟨rfl, rfl⟩) (by simp [Op.operands]) (by simp [Op.operands]) rfl rfl (fun a W _ hx hy => exec_idxPr rfl hx hy hlt W) ?_
        refine Grow.grow_see1 (x := .tmp 60) (z := .pointer (some ((ad.add (k * 2)).add 0))) (.inl ⟨rfl, rfl⟩) (by simp [Op.operands]) rfl (fun a W _ hx => exec_arr (j := 0) rfl hx rfl (by decide) W) ?_
        refine Grow.grow_see1 (x := .tmp 61) (z := .int .u8 (a : Int)) (.inl ⟨rfl, rfl⟩) (by simp [Op.operands]) rfl (fun a W hg hx => exec_ldU8 rfl hx (gr_cell hg _ _ HA0.out)) ?_
        refine Grow.grow_see1 (x := .tmp 62) (z := .int .u8 ((a % 5 : Nat) : Int)) (.inl ⟨rfl, rfl⟩) (by simp [Op.operands]) rfl (fun a W _ hx => exec_rem (m := 5) rfl hx rfl (by decide) (by decide) W) ?_
        refine Grow.grow_see1 (x := .tmp 63) (z := .int .i64 ((a % 5 : Nat) : Int)) (.inl ⟨rfl, rfl⟩) (by simp [Op.operands]) rfl (fun a W _ hx => exec_conv rfl hx (by omega) W) ?_
        refine Grow.grow_mv (.inl rfl) (.inl ⟨rfl, rfl⟩) rfl ?_
        refine Grow.grow_mv (.inl rfl) (.inl ⟨rfl, rfl⟩) rfl ?_
        refine Grow.grow_see2 (x := .tmp 65) (y := .tmp 66) (z := .pointer (some (ad.add (k * 2)))) (.inl ⟨rfl, rfl⟩) (by simp [Op.operands]) (by simp [Op.operands]) rfl rfl (fun a W _ hx hy => exec_idxPr rfl hx hy hlt W) ?_
        refine Grow.grow_see1 (x := .tmp 67) (z := .pointer (some ((ad.add (k * 2)).add 1))) (.inl ⟨rfl, rfl⟩) (by simp [Op.operands]) rfl (fun a W _ hx => exec_arr (j := 1) rfl hx rfl (by decide) W) ?_
        refine Grow.grow_see1 (x := .tmp 68) (z := .int .u8 (b : Int)) (.inl ⟨rfl, rfl⟩) (by simp [Op.operands]) rfl (fun a W hg hx => exec_ldU8 rfl hx (gr_cell hg _ _ HA1.out)) ?_
        refine Grow.grow_see1 (x := .tmp 69) (z := .int .u8 ((b % 9 : Nat) : Int)) (.inl ⟨rfl, rfl⟩) (by simp [Op.operands]) rfl (fun a W _ hx => exec_rem (m := 9) rfl hx rfl (by decide) (by decide) W) ?_
        refine Grow.grow_see1 (x := .tmp 70) (z := .int .i64 ((b % 9 : Nat) : Int)) (.inl ⟨rfl, rfl⟩) (by simp [Op.operands]) rfl (fun a W _ hx => exec_conv rfl hx (by omega) W) ?_
        refine Grow.grow_mv (.inl rfl) (.inl ⟨rfl, rfl⟩) rfl ?_
        refine Grow.grow_see1 (x := .tmp 72) (z := .int .i64 ((k + 1 : Nat) : Int)) (.inl ⟨rfl, rfl⟩) (by simp [Op.operands]) rfl (fun a W _ hx => exec_add (b := 1) rfl hx rfl (by omega) (by decide) W) ?_
        refine Grow.grow_call4 (Φ := Grow.TuK S' bo) rfl (.inl ⟨rfl, rfl⟩) Try.func8 (by kernel_rfl) (by kernel_rfl) (Ψ := Grow.Sx (.slice As S.length cs) S) (Ψ' := Grow.Is (.int .i64 ((a % 5 : Nat) : Int))) (Ψ'' := Grow.Is (.int .i64 ((b % 9 : Nat) : Int))) (Ψ3 := Grow.Is (.int .i64 ((k + 1 : Nat) : Int))) rfl rfl rfl rfl (Grow.TuK.stays _ _) (fun v u t s W _ h1 h2 h3 h4 => by
          obtain ⟨rfl, h1⟩ := h1
          subst h2 h3 h4
          refine (HTR.out W h1).mono ?_
          rintro e w' ⟨u, rfl, ho, hg⟩
          obtain ⟨A', c', hu, _⟩ := ho.x.is
          exact ⟨_, rfl, hg, A', c', by rw [hu], by rw [← hu]; exact ho.x⟩) ?_
        refine Grow.grow_move (.tmp 74) (.inl rfl) (.inl ⟨rfl, rfl⟩) rfl (Grow.TuK.stays _ _) ?_
        refine Grow.grow_partK (Ψ := Grow.TuK S' bo) (Φ := Grow.SlK S') rfl (.inl ⟨rfl, rfl⟩) rfl (Grow.SlK.stays _) (fun v W h => by obtain ⟨A', c', rfl, h⟩ := h; exact ⟨_, rfl, A', c', rfl, h⟩) ?_
        refine Grow.grow_partK (Ψ := Grow.TuK S' bo) (Φ := Grow.Is (.bool bo)) rfl (.inl ⟨rfl, rfl⟩) rfl (Grow.Is.stays _) (fun v W h => by obtain ⟨A', c', rfl, h⟩ := h; exact ⟨_, rfl, rfl⟩) ?_
        refine Grow.grow_move (.tmp 75) (.inr rfl) (.inl ⟨rfl, rfl⟩) rfl (Grow.SlK.stays _) ?_
        refine Grow.grow_move (.tmp 76) (.inr rfl) (.inl ⟨rfl, rfl⟩) rfl (Grow.Is.stays _) ?_
        intro a1 w3 hg3 hs1 hd1 hu1 hk1
        have h12 : Grow.SlK S' (a1.tmps.getD 14 undef) w3 := hk1 14
        have h13 : a1.tmps.getD 15 undef = .bool bo := hk1 15
        obtain ⟨X, hX, hlay⟩ := Grow.lay_kept_by _ a1 149 _ hs1 hd1 hu1
        rw [hX] at h12 h13
        obtain ⟨A14, c14, h12, hx14⟩ := h12
        clear hX hu1 hd1 hs1 hk1
        subst hlay
        simp only [List.range, List.range.loop, List.map_cons, List.map_nil, List.contains_cons, List.contains_nil, Nat.reduceBEq, Bool.or_false, Bool.or_true, cond_false, cond_true, Array.getD_eq_getD_getElem?, List.getElem?_toArray, List.getElem?_cons_zero, List.getElem?_cons_succ, Option.getD_some, h12, h13]
        clear h12 h13
        have hg3' : Gr wr w3 := ((Gr.refl wr).drewN 1).trans hg3
        have HS := hide (HS.out.gr hg3')
        have HG := hide (HG.out.trans hg3')
        have HX12 := hide (HX12.out.gr hg3')
        have HX14 := hide hx14
        have HC1 := hide (RefSame_ok _ _ S' S' w3 HX12.out HX14.out (by have := HLE.out; omega))
        have HC2 := hide (fun W (h1 : SeX W (.slice A12 S'.length c12) S') (h2 : SeX W (.slice A14 S'.length c14) S') => Same_ok _ _ S' S' W h1 h2 (by have := HLE.out; omega))
        simp only [decide_true] at HC1 HC2
        clear hg3 hg3' hx14 HTR HA0 HA1 HP HC0
        go_wp2_with fail
        refine HC1.out.mono ?_
        rintro e w5 ⟨rfl, m5, rfl⟩
        have hg5 : Gr w3 (w3.drewN m5) := (Gr.refl _).drewN m5
        go_wp2_with fail
        refine (HC2.out _ (HX12.out.gr hg5) (HX14.out.gr hg5)).mono ?_
        rintro e w6 ⟨rfl, m6, rfl⟩
        have HS6 := hide (HX14.out.gr ((Gr.refl _).drewN (m5 + m6)))
        have HP6 := hide (HS.out.gr ((Gr.refl _).drewN (m5 + m6)))
        have HG6 := hide (HG.out.drewN (m5 + m6))
        clear hg5 HX12 HX14 HS HG HC1 HC2
        go_wp2_with fail
        go_roundw
        case rel => exact ⟨k + 1, S', S, A14, c14, As, cs, by go_num, by omega, rfl, rfl, by have := HLE.out; omega, by omega, HS6, HP6, HRI2, HG6⟩
        case measure => simp [intOf]; omega
      · obtain rfl : k = ls.length := by omega
        have HTU := hide (fun (W : World) (h : SeX W (.slice As S.length cs) S) => Turn_ok _ S ⟨xs, xq, xp⟩ W h (by omega) HRI.out)
        have HTR := hide (fun (W : World) (h : SeX W (.slice As S.length cs) S) => RefTurn_ok _ S ⟨xs, xq, xp⟩ W h (by omega))
        have HFU := hide (fun (W : World) (h : SeX W (.slice As S.length cs) S) => Find_ok _ S xs W h (by omega))
        have HFR := hide (fun (W : World) (h : SeX W (.slice As S.length cs) S) => RefFind_ok _ S xs W h (by omega))
        have HLE := hide (turn_len ⟨xs, xq, xp⟩ S)
        unfold TurnPost at HTU HTR
        unfold FindPost at HFU HFR
        simp only at HTU HTR
        generalize turnL ⟨xs, xq, xp⟩ S = S' at HTU HTR HLE
        generalize turnB ⟨xs, xq, xp⟩ S = bo at HTU HTR
        generalize findS xs S = fo at HFU HFR
        generalize hasS xs S = fb at HFU HFR
        obtain ⟨f1, f2, f3⟩ := fo
        simp only [seA] at HFU HFR
        have HS1 := hide (fun (W : World) u v (h1 : SeX W u S') (h2 : SeX W v S') => RefSame_ok u v S' S' W h1 h2 (by have := HLE.out; omega))
        have HS2 := hide (fun (W : World) (h1 : SeX W (.slice Ar R.length cr) R) (h2 : SeX W (.slice As S.length cs) S) => Same_ok _ _ R S W h1 h2 (by omega))
        have HS3 := hide (fun (W : World) (h1 : SeX W (.slice Ar R.length cr) R) (h2 : SeX W (.slice As S.length cs) S) => RefSame_ok _ _ R S W h1 h2 (by omega))
        generalize decide (R = S) = dd at HS2 HS3
        simp only [decide_true] at HS1
        clear HRI HOK
        go_wp2_with fail
        refine (HTU.out _ HS.out).mono ?_
        rintro e w2 ⟨u2, rfl, ho2, hg2⟩
        have HX2 := hide ho2.x
        have HS := hide (HS.out.gr hg2)
        have HP := hide (HP.out.gr hg2)
        have HG := hide (HG.out.trans hg2)
        obtain ⟨A2, c2, rfl, _⟩ := ho2.x.is
        clear ho2 hg2 HTU
        go_wp2_with fail
        refine (HTR.out _ HS.out).mono ?_
        rintro e w3 ⟨u3, rfl, ho3, hg3⟩
        have HX3 := hide ho3.x
        have HX2 := hide (HX2.out.gr hg3)
        have HS := hide (HS.out.gr hg3)
        have HP := hide (HP.out.gr hg3)
        have HG := hide (HG.out.trans hg3)
        obtain ⟨A3, c3, rfl, _⟩ := ho3.x.is
        clear ho3 hg3 HTR
        go_wp2_with fail
        refine (HFU.out _ HS.out).mono ?_
        rintro e w4 ⟨rfl, hg4⟩
        go_upto_region 17 with (fail)
        obtain ⟨W4, hW4⟩ : ∃ W4, w4.alloc (.cells #[.int .i64 f1, .int .i64 f2, .int .i64 f3] 30) = W4 := ⟨_, rfl⟩
        have hg4' : Gr w3 W4 := by rw [← hW4]; exact hg4.alloc _
        have HB4 : Hid (Bl W4 w4.heap.size 30 #[.int .i64 f1, .int .i64 f2, .int .i64 f3]) := hide (by rw [← hW4]; exact Bl.new _ _ _)
        rw [hW4]
        have HX3 := hide (HX3.out.gr hg4')
        have HX2 := hide (HX2.out.gr hg4')
        have HS := hide (HS.out.gr hg4')
        have HP := hide (HP.out.gr hg4')
        have HG := hide (HG.out.trans hg4')
        generalize w4.heap.size = g4 at HB4 ⊢
        clear hW4 hg4 hg4' HFU
        go_wp2_with fail
        refine (HFR.out _ HS.out).mono ?_
        rintro e w5 ⟨rfl, hg5⟩
        go_upto_region 18 with (fail)
        obtain ⟨W5, hW5⟩ : ∃ W5, w5.alloc (.cells #[.int .i64 f1, .int .i64 f2, .int .i64 f3] 30) = W5 := ⟨_, rfl⟩
        have hg5' : Gr W4 W5 := by rw [← hW5]; exact hg5.alloc _
        have HB5 : Hid (Bl W5 w5.heap.size 30 #[.int .i64 f1, .int .i64 f2, .int .i64 f3]) := hide (by rw [← hW5]; exact Bl.new _ _ _)
        rw [hW5]
        have HX3 := hide (HX3.out.gr hg5')
        have HX2 := hide (HX2.out.gr hg5')
        have HS := hide (HS.out.gr hg5')
        have HP := hide (HP.out.gr hg5')
        have HB4 := hide (HB4.out.gr hg5')
        have HG := hide (HG.out.trans hg5')
        generalize w5.heap.size = g5 at HB5 ⊢
        clear hW5 hg5 hg5' HFR
        have HC := hide (HS1.out W5 _ _ HX2.out HX3.out)
        go_wp2_with fail
        refine HC.out.mono ?_
        rintro e w6 ⟨rfl, m6, rfl⟩
        have hgm : Gr W5 (W5.drewN m6) := (Gr.refl _).drewN m6
        have k0 : (W5.drewN m6).cell? ⟨g4, 0, none⟩ = some (.int .i64 f1) := (HB4.out.gr hgm).cell 0
        have k1 : (W5.drewN m6).cell? ⟨g4, 1, none⟩ = some (.int .i64 f2) := (HB4.out.gr hgm).cell 1
        have k2 : (W5.drewN m6).cell? ⟨g4, 2, none⟩ = some (.int .i64 f3) := (HB4.out.gr hgm).cell 2
        have q0 : (W5.drewN m6).cell? ⟨g5, 0, none⟩ = some (.int .i64 f1) := (HB5.out.gr hgm).cell 0
        have q1 : (W5.drewN m6).cell? ⟨g5, 1, none⟩ = some (.int .i64 f2) := (HB5.out.gr hgm).cell 1
        have q2 : (W5.drewN m6).cell? ⟨g5, 2, none⟩ = some (.int .i64 f3) := (HB5.out.gr hgm).cell 2
        have HC2 := hide (HS2.out _ (HP.out.gr hgm) (HS.out.gr hgm))
        generalize W5.drewN m6 = W6 at k0 k1 k2 q0 q1 q2 HC2 hgm ⊢
        have HP := hide (HP.out.gr hgm)
        have HS := hide (HS.out.gr hgm)
        have HG := hide (HG.out.trans hgm)
        clear hgm HX2 HX3 HB4 HB5 HC HS1 HS2
        go_wp2_with fail
        refine HC2.out.mono ?_
        rintro e w7 ⟨rfl, m7, rfl⟩
        have hgm : Gr W6 (W6.drewN m7) := (Gr.refl _).drewN m7
        have HC3 := hide (HS3.out _ (HP.out.gr hgm) (HS.out.gr hgm))
        clear k0 k1 k2 q0 q1 q2 HC2
        go_wp2_with fail
        refine HC3.out.mono ?_
        rintro e w8 ⟨rfl, m8, rfl⟩
        go_wp2_with fail
        go_ret
        exact ⟨by simp, HG.out.drewN (m7 + m8)⟩
end Go.Proofs.Ytgocapmclhimdaa
