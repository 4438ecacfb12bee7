/-
  The walk of 'MergeForms'.
-/
import Derived.Test.YtncdmecppfmmgaaMergeFacts
import Derived.Test.YtncdmecppfmmgaaMgGrow
namespace Go.Proofs.Ytncdmecppfmmgaa
open Go Go.RowKit TxnMath KeyMath MsgMath EpMath MgMath
set_option maxRecDepth 100000

def fE (n : Nat) : EntT := barE 1 false 1 (n : Int)
def fS : EntT := barE 1 true 0 0
def fRow (k : Nat) : List EntT := (List.range k).map fun j => fE (j + 1)
theorem fRow_len (k : Nat) : (fRow k).length = k := by simp [fRow]
theorem fRow_more (k : Nat) : fRow (k + 1) = fRow k ++ [fE (k + 1)] := by unfold fRow; rw [List.range_succ, List.map_append]; rfl
def fLogs : List (List EntT) := [[fE 1, fS, fE 2, fS], [fE 3, fE 4, fS, fE 5], [fS, fE 6, fS]]
def fPls : List PlaceT := [⟨0, 1, ⟨1, 1, [], []⟩⟩, ⟨1, 1, ⟨1, 3, [], []⟩⟩, ⟨1, 2, ⟨1, 4, [], []⟩⟩, ⟨0, 3, ⟨1, 2, [], []⟩⟩, ⟨1, 4, ⟨1, 5, [], []⟩⟩]
theorem fLogs_order : orderL fLogs = (fPls, 1) := by decide
theorem fOne_order : orderL (fLogs.take 1) = ([⟨0, 1, ⟨1, 1, [], []⟩⟩, ⟨0, 3, ⟨1, 2, [], []⟩⟩], 0) := by decide
theorem fLogs_bare : ∀ L ∈ fLogs, ∀ e ∈ L, Bare e := by decide
theorem fOne_bare : ∀ L ∈ fLogs.take 1, ∀ e ∈ L, Bare e := by decide
def fWant : List Int := [1, 3, 4, 2, 5]
def fPart : List Int := [0, 1, 1, 0, 1]
theorem fPls_seq : ∀ k, (h : k < 5) → fPls[k].t.seq = fWant[k] ∧ (fPls[k].part : Int) = fPart[k] := by decide
theorem LogsX.take {w : World} {A : Option Addr} {n c : Nat} {ls : List (List EntT)} (h : LogsX w (.slice A n c) ls) (i : Nat) (hi : i ≤ n) : LogsX w (.slice A i c) (ls.take i) := by
  obtain ⟨xs, h1, ⟨A', c', e, hv⟩, h3⟩ := h
  injection e with e1 e2 e3
  subst e1 e2 e3
  refine ⟨xs.take i, by simp [h1], ⟨A, c, by simp [hi], ⟨fun j hj => ?_, by have := hv.le; simp; omega, hv.max, hv.nil⟩⟩, fun j hj hj2 => ?_⟩
  · have hj' : j < xs.length := by simp at hj; omega
    obtain ⟨ad, h4, h5⟩ := hv.rd j hj'
    exact ⟨ad, h4, by rw [List.getElem_take]; exact h5⟩
  · rw [List.getElem_take, List.getElem_take]
    exact h3 j (by simp at hj; omega) (by simp at hj2; omega)

set_option maxHeartbeats 8000000 in
theorem walk_MergeForms (w : World) :
    Calls Try.prog 7 #[] w fun e w' => e = .returned (.bool true) ∧ Gr w w' := by
  have HA := hide (fun W v (h : LogsX W v fLogs) => fLogs_order ▸ All_ok v _ W h (by decide) (lg_small (by decide)) (lg_all fun L hL e he => (fLogs_bare L hL e he).bnd))
  have HH := hide (fun W v (h : LogsX W v fLogs) => fLogs_order ▸ Head_ok v _ W h (by decide) (lg_small (by decide)))
  have HA1 := hide (fun W v (h : LogsX W v (fLogs.take 1)) => fOne_order ▸ All_ok v _ W h (by decide) (lg_small (by decide)) (lg_all fun L hL e he => (fOne_bare L hL e he).bnd))
  have HH1 := hide (fun W v (h : LogsX W v (fLogs.take 1)) => fOne_order ▸ Head_ok v _ W h (by decide) (lg_small (by decide)))
  have F1 : firstL 1 2 fPls 0 = 4 := by decide
  have F2 : firstL 1 6 fPls 0 = 0 := by decide
  have HF1 := hide (fun W v (h : PlX W v fPls) => F1 ▸ First_ok v _ 1 2 W h (by decide))
  have HF2 := hide (fun W v (h : PlX W v fPls) => F2 ▸ First_ok v _ 1 6 W h (by decide))
  clear F1 F2
  go_enter Try.func7, Try.ntmps7
  go_wp2_with fail
  refine (begun_ok _).mono ?_
  rintro e w1 ⟨rfl, hg1⟩
  go_wp2_with fail
  obtain ⟨W2, hW2⟩ : ∃ W2, w1.alloc (.cells #[.int .i64 1, .bool true, .int .i64 0, .int .i64 0, .slice none 0 0, .slice none 0 0] 43) = W2 := ⟨_, rfl⟩
  have b2 : Bl W2 w1.heap.size 43 #[.int .i64 1, .bool true, .int .i64 0, .int .i64 0, .slice none 0 0, .slice none 0 0] := by rw [← hW2]; exact Bl.new w1 _ _
  have g2 : Gr w W2 := by rw [← hW2]; exact hg1.alloc _
  rw [hW2]
  have HG := hide g2
  have HB2 := hide b2
  clear hW2 g2 hg1 b2
  have H0 := hide (OwnEnt.none_ (fun _ => False) W2 W2.heap.size)
  have HW0 := hide (Gr.refl W2)
  go_loopw [2, 3] (fun v i wr => ∃ k : Nat, i = .int .i64 ((k : Int) + 1) ∧ k ≤ 6 ∧ Hid (OwnEnt (fun _ => False) wr W2.heap.size v (fRow k)) ∧ Hid (Gr W2 wr)) (fun _ i _ => 7 - (intOf i).toNat)
  case atStart => exact ⟨0, by go_num, by omega, H0, HW0⟩
  case round =>
    obtain ⟨k, rfl, hk, HO, HR⟩ := hrel
    obtain ⟨oA, oc, hv⟩ := HO.out.is
    rw [fRow_len] at hv
    subst hv
    by_cases hlt : k < 6
    · have hlt' : (k : Int) + 1 ≤ 6 := by omega
      have hNX := hide (fRow_more k)
      go_wp2_with (at_builtin; refine pause ?_)
      refine hide ?_
      refine wpList_pushEnt rfl (.tmp 17) (.tmp 21) rfl (fE (k + 1)) (.slice none 0 0, .slice none 0 0) (by simp [entC, fE, barE]) rfl HO.out (bare_rows _ _ ⟨rfl, rfl⟩) HR.out.size (congrArg (fun z => Value.slice (some ⟨z, 0, none⟩) 1 1) (by simp)) (by rw [fRow_len]; omega) ?_
      intro v3 w3 o3 p3
      have g3 : Gr W2 w3 := own_more HR.out HO.out (Nat.le_refl _) (Gr.refl _) p3
      rw [← hNX.out] at o3
      obtain ⟨A3, c3, rfl⟩ := o3.is
      rw [fRow_len] at o3 p3 ⊢
      have HO3 := hide o3
      have HR3 := hide g3
      clear o3 p3 g3
      go_wp2_with fail
      go_roundw
      case rel => exact ⟨k + 1, by go_num, by omega, HO3, HR3⟩
      case measure => simp [intOf]; omega
    · obtain rfl : k = 6 := by omega
      go_wp2_with fail
      have hea : Grow.Ea fS (.pointer (some ⟨w1.heap.size, 0, none⟩)) wr.drew := by
        refine ⟨_, (.slice none 0 0, .slice none 0 0), rfl, bare_rows _ _ ⟨rfl, rfl⟩, fun j u hu => ?_⟩
        rw [addr_at]
        have hb := HB2.out.gr HR.out
        refine (show wr.cell? ⟨w1.heap.size, j, none⟩ = some u from ?_)
        rw [hb.cell]
        rw [← hu]
        simp [entC, fS, barE]
      have hen : Grow.En (fRow 6) (.slice oA 6 oc) wr.drew := HO.out.entsX.gr (Gr.refl wr).drew
      have HEA := hide hea
      have HEN := hide hen
      clear hea hen
      refine Grow.wp_region_kept 118 [23, 24, 25, 26, 27, 28, 29, 30, 31, 32, 33, 34, 35, 36, 37, 38, 39, 40, 41, 42, 43, 44, 45, 46, 47, 48, 49, 4] rfl (by kernel_rfl) (by kernel_rfl) (by kernel_rfl) (Grow.Ahead.more (Grow.Ahead.more (Grow.Ahead.none_ _ _) 1 (Grow.Ea.stays fS) (by exact HEA.out)) 2 (Grow.En.stays (fRow 6)) (by exact HEN.out)) ?_
      refine Grow.grow_move _ (Φ := Grow.En (fRow 6)) (.inl rfl) (.inl ⟨rfl, rfl⟩) rfl (Grow.En.stays _) ?_
      refine Grow.grow_ea 0 rfl (e := fE 1) rfl rfl (.inl ⟨rfl, rfl⟩) rfl (fun _ => rfl) ?_
      refine Grow.grow_load_ea rfl (.inl ⟨rfl, rfl⟩) rfl ?_
      refine Grow.grow_load_ea (e := fS) rfl (.inl ⟨rfl, rfl⟩) rfl ?_
      refine Grow.grow_move _ (Φ := Grow.En (fRow 6)) (.inl rfl) (.inl ⟨rfl, rfl⟩) rfl (Grow.En.stays _) ?_
      refine Grow.grow_ea 1 rfl (e := fE 2) rfl rfl (.inl ⟨rfl, rfl⟩) rfl (fun _ => rfl) ?_
      refine Grow.grow_load_ea rfl (.inl ⟨rfl, rfl⟩) rfl ?_
      refine Grow.grow_load_ea (e := fS) rfl (.inl ⟨rfl, rfl⟩) rfl ?_
      refine Grow.grow_e4 (a := fE 1) (b := fS) (c := fE 2) (d := fS) rfl (.inl ⟨rfl, rfl⟩) rfl rfl rfl rfl ?_
      refine Grow.grow_move _ (Φ := Grow.En (fRow 6)) (.inl rfl) (.inl ⟨rfl, rfl⟩) rfl (Grow.En.stays _) ?_
      refine Grow.grow_ea 2 rfl (e := fE 3) rfl rfl (.inl ⟨rfl, rfl⟩) rfl (fun _ => rfl) ?_
      refine Grow.grow_load_ea rfl (.inl ⟨rfl, rfl⟩) rfl ?_
      refine Grow.grow_move _ (Φ := Grow.En (fRow 6)) (.inl rfl) (.inl ⟨rfl, rfl⟩) rfl (Grow.En.stays _) ?_
      refine Grow.grow_ea 3 rfl (e := fE 4) rfl rfl (.inl ⟨rfl, rfl⟩) rfl (fun _ => rfl) ?_
      refine Grow.grow_load_ea rfl (.inl ⟨rfl, rfl⟩) rfl ?_
      refine Grow.grow_load_ea (e := fS) rfl (.inl ⟨rfl, rfl⟩) rfl ?_
      refine Grow.grow_move _ (Φ := Grow.En (fRow 6)) (.inl rfl) (.inl ⟨rfl, rfl⟩) rfl (Grow.En.stays _) ?_
      refine Grow.grow_ea 4 rfl (e := fE 5) rfl rfl (.inl ⟨rfl, rfl⟩) rfl (fun _ => rfl) ?_
      refine Grow.grow_load_ea rfl (.inl ⟨rfl, rfl⟩) rfl ?_
      refine Grow.grow_e4 (a := fE 3) (b := fE 4) (c := fS) (d := fE 5) rfl (.inl ⟨rfl, rfl⟩) rfl rfl rfl rfl ?_
      refine Grow.grow_load_ea (e := fS) rfl (.inl ⟨rfl, rfl⟩) rfl ?_
      refine Grow.grow_move _ (Φ := Grow.En (fRow 6)) (.inl rfl) (.inl ⟨rfl, rfl⟩) rfl (Grow.En.stays _) ?_
      refine Grow.grow_ea 5 rfl (e := fE 6) rfl rfl (.inl ⟨rfl, rfl⟩) rfl (fun _ => rfl) ?_
      refine Grow.grow_load_ea rfl (.inl ⟨rfl, rfl⟩) rfl ?_
      refine Grow.grow_load_ea (e := fS) rfl (.inl ⟨rfl, rfl⟩) rfl ?_
      refine Grow.grow_e3 (a := fS) (b := fE 6) (c := fS) rfl (.inl ⟨rfl, rfl⟩) rfl rfl rfl ?_
      refine Grow.grow_l3 rfl (.inl ⟨rfl, rfl⟩) rfl rfl rfl ?_
      refine Grow.grow_move _ (Φ := Grow.Ls fLogs) (.inr rfl) (.inl ⟨rfl, rfl⟩) rfl (Grow.Ls.stays _) ?_
      intro a1 w5 hg5 hs1 hd1 hu1 hk1
      have h4 : LogsX w5 (a1.tmps.getD 4 undef) fLogs := hk1 4
      obtain ⟨V, hV, hlay⟩ := Grow.lay_kept_by _ a1 118 _ hs1 hd1 hu1
      rw [hV] at h4
      clear hV hu1 hd1 hs1 hk1
      subst hlay
      simp only [List.range, List.range.loop, List.map_cons, List.map_nil, List.contains_cons, List.contains_nil, Nat.reduceBEq, Bool.or_false, Bool.or_true, cond_false, cond_true, Array.getD_eq_getD_getElem?, List.getElem?_toArray, List.getElem?_cons_zero, List.getElem?_cons_succ, Option.getD_some]
      replace HG := hide ((HG.out.trans HR.out).trans ((Gr.refl _).drew.trans hg5))
      obtain ⟨lA, lc, hv4, hlc, _⟩ := h4.is
      rw [hv4] at h4 ⊢
      have HLX := hide h4
      clear h4 hg5 HEA HEN HO HR HB2 hv4
      have hlc1 : (1 : Int) ≤ (lc : Int) := by have : (fLogs.length : Int) = 3 := rfl; omega
      rw [show fLogs.length = 3 from rfl] at HLX ⊢
      clear hlc
      go_wp2_with fail
      refine (HA.out w5 _ HLX.out).mono ?_
      rintro e w6 ⟨va, rfl, hpa, hg6, _⟩
      obtain ⟨aA, ac, rfl, hac⟩ := hpa.is
      rw [show fPls.length = 5 from rfl] at hpa hac ⊢
      replace HLX := hide (HLX.out.gr hg6)
      replace HG := hide (HG.out.trans hg6)
      have HPA := hide hpa
      clear hpa hg6 HA
      go_wp2_with fail
      obtain ⟨W7, hW7⟩ : ∃ W7, (w6.alloc (.cells #[.int .i64 1, .int .i64 3, .int .i64 4, .int .i64 2, .int .i64 5] 3)).alloc (.cells #[.int .i64 0, .int .i64 1, .int .i64 1, .int .i64 0, .int .i64 1] 3) = W7 := ⟨_, rfl⟩
      have b1 : Bl W7 w6.heap.size 3 #[.int .i64 1, .int .i64 3, .int .i64 4, .int .i64 2, .int .i64 5] := by rw [← hW7]; exact (Bl.new w6 _ _).gr ((Gr.refl _).alloc _)
      have b2 : Bl W7 (w6.heap.size + 1) 3 #[.int .i64 0, .int .i64 1, .int .i64 1, .int .i64 0, .int .i64 1] := by
        have := Bl.new (w6.alloc (.cells #[.int .i64 1, .int .i64 3, .int .i64 4, .int .i64 2, .int .i64 5] 3)) 3 #[.int .i64 0, .int .i64 1, .int .i64 1, .int .i64 0, .int .i64 1]
        rw [World.size_alloc] at this
        rw [← hW7]; exact this
      have g7 : Gr w6 W7 := by rw [← hW7]; exact ((Gr.refl _).alloc _).alloc _
      rw [hW7]
      clear hW7
      refine (HH.out W7 _ (HLX.out.gr g7)).mono ?_
      rintro e w8 ⟨rfl, hg8⟩
      have HB1 := hide (b1.gr hg8)
      have HB2 := hide (b2.gr hg8)
      replace HLX := hide (HLX.out.gr (g7.trans hg8))
      replace HG := hide (HG.out.trans (g7.trans hg8))
      replace HPA := hide (HPA.out.gr (g7.trans hg8))
      have HW8 := hide (Gr.refl w8)
      clear b1 b2 g7 hg8 HH
      go_wp2_with fail
      go_loopw [8] (fun i wr => ∃ k : Nat, i = .int .i64 (k : Int) ∧ k ≤ 5 ∧ Hid (Gr w8 wr)) (fun i _ => 5 - (intOf i).toNat)
      case atStart => exact ⟨0, rfl, by omega, HW8⟩
      case round =>
        obtain ⟨k, rfl, hk, HR⟩ := hrel
        by_cases hlt : k < 5
        · have hlt' : (k : Int) < 5 := by omega
          obtain ⟨ad, c', q, e1, _, a0, _, _, a3, _, _⟩ := (HPA.out.gr HR.out).at_ (k := k) hlt
          simp only [Value.slice.injEq] at e1
          obtain ⟨rfl, _, rfl⟩ := e1
          rw [(fPls_seq k hlt).1] at a3
          rw [(fPls_seq k hlt).2] at a0
          have c1 : wr.cell? ⟨w6.heap.size, k, none⟩ = some (.int .i64 fWant[k]) := by
            rw [(HB1.out.gr HR.out).cell]
            rcases k with _ | _ | _ | _ | _ | k
            · rfl
            · rfl
            · rfl
            · rfl
            · rfl
            · omega
          have c2 : wr.cell? ⟨w6.heap.size + 1, k, none⟩ = some (.int .i64 fPart[k]) := by
            rw [(HB2.out.gr HR.out).cell]
            rcases k with _ | _ | _ | _ | _ | k
            · rfl
            · rfl
            · rfl
            · rfl
            · rfl
            · omega
          generalize fWant[k] = z1 at a3 c1
          generalize fPart[k] = z2 at a0 c2
          go_wp2_with fail
          go_quiet (fail)
          go_wp2_with fail
          go_roundw
          case rel => exact ⟨k + 1, by go_num, by omega, HR.out.trans ((Gr.refl wr).drewN _)⟩
          case measure => simp [intOf]; omega
        · obtain rfl : k = 5 := by omega
          have HL1 := hide ((HLX.out.gr HR.out).take 1 (by decide))
          replace HPA := hide (HPA.out.gr HR.out)
          replace HG := hide (HG.out.trans HR.out)
          clear HB1 HB2 HR HW8 HLX
          go_wp2_with fail
          refine (HA1.out _ _ HL1.out).mono ?_
          rintro e w9 ⟨vo, rfl, hpo, hg9, _⟩
          obtain ⟨oA9, oc9, rfl, _⟩ := hpo.is
          simp only [List.length_cons, List.length_nil, Nat.zero_add, Nat.reduceAdd]
          replace HPA := hide (HPA.out.gr hg9)
          replace HG := hide (HG.out.trans hg9)
          replace HL1 := hide (HL1.out.gr hg9)
          clear hpo hg9 HA1
          go_wp2_with fail
          refine (HH1.out _ _ HL1.out).mono ?_
          rintro e w10 ⟨rfl, hg10⟩
          replace HPA := hide (HPA.out.gr hg10)
          replace HG := hide (HG.out.trans hg10)
          clear hg10 HH1 HL1
          go_wp2_with fail
          refine (HF1.out _ _ HPA.out).mono ?_
          rintro e w11 ⟨rfl, hg11⟩
          replace HPA := hide (HPA.out.gr hg11)
          replace HG := hide (HG.out.trans hg11)
          clear hg11 HF1
          go_wp2_with fail
          refine (HF2.out _ _ HPA.out).mono ?_
          rintro e w12 ⟨rfl, hg12⟩
          replace HPA := hide (HPA.out.gr hg12)
          replace HG := hide (HG.out.trans hg12)
          clear hg12 HF2
          obtain ⟨ad, c', q, e1, _, _, a1, _, _, _, _⟩ := HPA.out.at_ (k := 3) (by decide)
          simp only [Value.slice.injEq] at e1
          obtain ⟨rfl, _, rfl⟩ := e1
          have ez : ad.add (3 * 6) = ⟨ad.block, ad.off + 18, none⟩ := rfl
          rw [ez] at a1
          have a1' : w12.cell? ⟨ad.block, ad.off + 18 + 1, none⟩ = some (.int .i64 3) := a1
          have a1'' : w12.cell? ⟨ad.block, ad.off + 19, none⟩ = some (.int .i64 3) := a1
          clear a1
          go_wp2_with fail
          go_ret
          exact ⟨rfl, HG.out⟩

end Go.Proofs.Ytncdmecppfmmgaa
