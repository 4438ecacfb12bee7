/-
  The statements on merge ask first whether it does anything: it does.
-/
import Derived.Test.YtncdmecppfmmgaaMgLit
import Derived.Test.YtncdmecppfmmgaaMgSame
import Derived.Test.YtncdmecppfmmgaaMgDone
namespace Go.Proofs.Ytncdmecppfmmgaa
open Go Go.RowKit TxnMath KeyMath MsgMath EpMath MgMath
set_option maxRecDepth 100000

def begA : List (List EntT) := [[barE 1 false 1 1], [barE 1 false 2 1, barE 1 true 0 0]]
def begB : List (List EntT) := [[barE 1 false 1 1, barE 1 true 0 0], [barE 1 false 2 1, barE 1 true 0 0]]
theorem begA_order : orderL begA = ([⟨0, 1, ⟨1, 1, [], []⟩⟩], 0) := by decide
theorem begB_order : orderL begB = ([⟨0, 1, ⟨1, 1, [], []⟩⟩, ⟨1, 1, ⟨2, 1, [], []⟩⟩], 0) := by decide
theorem begA_bare : ∀ L ∈ begA, ∀ e ∈ L, Bare e := by decide
theorem begB_bare : ∀ L ∈ begB, ∀ e ∈ L, Bare e := by decide
theorem lg_small {ls : List (List EntT)} {n : Nat} (h : ∀ L ∈ ls, L.length ≤ n) : ∀ p, (lg ls p).length ≤ n := fun p => by
  unfold lg
  by_cases hp : p < ls.length
  · have := h _ (List.getElem_mem hp)
    simp [hp, this]
  · simp [hp]
theorem lg_all {ls : List (List EntT)} {P : EntT → Prop} (h : ∀ L ∈ ls, ∀ e ∈ L, P e) : ∀ p, ∀ e ∈ lg ls p, P e := fun p e he => by
  unfold lg at he
  by_cases hp : p < ls.length
  · simp only [List.getD_eq_getElem?_getD, List.getElem?_eq_getElem hp, Option.getD_some] at he
    exact h _ (List.getElem_mem hp) e he
  · simp [hp] at he

set_option maxHeartbeats 2000000 in
theorem begun_ok (w : World) : Calls Try.prog 9 #[] w fun e w' => e = .returned (.bool true) ∧ Gr w w' := by
  have HC1 := hide (fun W v (h : LogsX W v begA) => begA_order ▸ All_ok v _ W h (by decide) (lg_small (by decide)) (lg_all fun L hL e he => (begA_bare L hL e he).bnd))
  have HC2 := hide (fun W v (h : LogsX W v begB) => begB_order ▸ All_ok v _ W h (by decide) (lg_small (by decide)) (lg_all fun L hL e he => (begB_bare L hL e he).bnd))
  have HH := hide (fun W v (h : LogsX W v begB) => begB_order ▸ Head_ok v _ W h (by decide) (lg_small (by decide)))
  have HN := hide (fun W => order_none (ls := []) rfl ▸ Head_ok (.slice none 0 0) [] W (LogsX.nil W) (by decide) (lg_small (by decide)))
  have F1 : firstL 2 1 [⟨0, 1, ⟨1, 1, [], []⟩⟩, ⟨1, 1, ⟨2, 1, [], []⟩⟩] 0 = 2 := by decide
  have F2 : firstL 2 2 [⟨0, 1, ⟨1, 1, [], []⟩⟩, ⟨1, 1, ⟨2, 1, [], []⟩⟩] 0 = 0 := by decide
  have HF1 := hide (fun W v (h : PlX W v [⟨0, 1, ⟨1, 1, [], []⟩⟩, ⟨1, 1, ⟨2, 1, [], []⟩⟩]) => F1 ▸ First_ok v _ 2 1 W h (by decide))
  have HF2 := hide (fun W v (h : PlX W v [⟨0, 1, ⟨1, 1, [], []⟩⟩, ⟨1, 1, ⟨2, 1, [], []⟩⟩]) => F2 ▸ First_ok v _ 2 2 W h (by decide))
  clear F1 F2
  go_enter Try.func9, Try.ntmps9
  go_wp2_with fail
  obtain ⟨W2, hW2⟩ : ∃ W2, (w.alloc (.cells #[.int .i64 1, .int .i64 1, .slice none 0 0, .slice none 0 0] 39)).alloc (.cells #[.int .i64 2, .int .i64 1, .slice none 0 0, .slice none 0 0] 39) = W2 := ⟨_, rfl⟩
  have hs2 : w.heap.size + 1 + 1 = W2.heap.size := by rw [← hW2]; simp
  have g2 : Gr w W2 := by rw [← hW2]; exact ((Gr.refl _).alloc _).alloc _
  rw [hW2, hs2]
  obtain ⟨W3, hW3⟩ : ∃ W3, W2.alloc (.cells #[.int .i64 1, .bool false, .int .i64 1, .int .i64 1, .slice none 0 0, .slice none 0 0] 43) = W3 := ⟨_, rfl⟩
  have hs3 : W2.heap.size + 1 = W3.heap.size := by rw [← hW3]; simp
  have o3 : OwnEnt (fun _ => False) W3 W2.heap.size (.slice (some ⟨W2.heap.size, 0, none⟩) 1 1) [barE 1 false 1 1] := own_lit (es := [barE 1 false 1 1]) (Nat.le_refl _) rfl (begA_bare _ (by simp [begA])) (by decide) hW3
  have g3 : Gr W2 W3 := by rw [← hW3]; exact (Gr.refl _).alloc _
  rw [hW3, hs3]
  obtain ⟨W4, hW4⟩ : ∃ W4, W3.alloc (.cells #[.int .i64 1, .bool false, .int .i64 2, .int .i64 1, .slice none 0 0, .slice none 0 0, .int .i64 1, .bool true, .int .i64 0, .int .i64 0, .slice none 0 0, .slice none 0 0] 43) = W4 := ⟨_, rfl⟩
  have hs4 : W3.heap.size + 1 = W4.heap.size := by rw [← hW4]; simp
  have o4 : OwnEnt (fun _ => False) W4 W3.heap.size (.slice (some ⟨W3.heap.size, 0, none⟩) 2 2) [barE 1 false 2 1, barE 1 true 0 0] := own_lit (es := [barE 1 false 2 1, barE 1 true 0 0]) (Nat.le_refl _) rfl (begA_bare _ (by simp [begA])) (by decide) hW4
  have g4 : Gr W3 W4 := by rw [← hW4]; exact (Gr.refl _).alloc _
  rw [hW4, hs4]
  obtain ⟨W5, hW5⟩ : ∃ W5, W4.alloc (.cells #[.slice (some ⟨W2.heap.size, 0, none⟩) 1 1, .slice (some ⟨W3.heap.size, 0, none⟩) 2 2] 33) = W5 := ⟨_, rfl⟩
  have hb5 : Bl W5 W4.heap.size 33 #[.slice (some ⟨W2.heap.size, 0, none⟩) 1 1, .slice (some ⟨W3.heap.size, 0, none⟩) 2 2] := by rw [← hW5]; exact Bl.new _ _ _
  have g5 : Gr W4 W5 := by rw [← hW5]; exact (Gr.refl _).alloc _
  have hs5 : W4.heap.size + 1 = W5.heap.size := by rw [← hW5]; simp
  rw [hW5]
  have o35 := (o3.gr g4).gr g5
  have o45 := o4.gr g5
  have hlx : LogsX W5 (.slice (some ⟨W4.heap.size, 0, none⟩) 2 2) begA := LogsX.of_bl hb5 rfl rfl (by decide) fun j h h2 => by
    rcases j with _ | _ | j
    · exact o35.entsX
    · exact o45.entsX
    · simp at h; omega
  refine (HC1.out W5 _ hlx).mono ?_
  rintro e w6 ⟨va, rfl, hpa, hg6, hfr⟩
  have hb6 := hb5.gr hg6
  have o36 := o35.gr hg6
  have o46 := o45.gr hg6
  obtain ⟨Aa, ca, hva, _⟩ := hpa.is
  obtain ⟨ada, c', pa, e1, _, _, a1, _⟩ := hpa.at_ (k := 0) (by decide)
  subst hva
  injection e1 with e1 _ e2
  subst e1 e2
  have hfr' := hfr ada _ _ rfl (by decide)
  have c0 : w6.cell? ⟨W4.heap.size, 0, none⟩ = some (.slice (some ⟨W2.heap.size, 0, none⟩) 1 1) := hb6.cell 0
  have HG6 := hide (((((g2.trans g3).trans g4).trans g5).trans hg6))
  have hs6 := hg6.size
  clear hW2 hW3 hW4 hW5 hpa g2 g3 g4 g5 hg6 hlx hfr o3 o4 o35 o45 hb5
  have HO36 := hide o36
  have HO46 := hide o46
  have HA1 := hide a1
  have HB6 := hide hb6
  clear o36 o46 a1 hb6
  go_wp2_with (at_builtin; refine pause ?_)
  refine hide ?_
  refine wpList_pushEnt rfl (.tmp 21) (.tmp 23) rfl (barE 1 true 0 0) (.slice none 0 0, .slice none 0 0) rfl rfl HO36.out (bare_rows _ _ ⟨rfl, rfl⟩) (by omega) (congrArg (fun z => Value.slice (some ⟨z, 0, none⟩) 1 1) (by simp)) (by decide) ?_
  intro v7 w7 o7 p7
  have p71 : But w6 w7 W2.heap.size := p7.1
  have hb7 := HB6.out.but_ p71 (by omega)
  have o47 := HO46.out.but p71 (by omega) (fun _ h => h.elim)
  have a7 := p71.cell HA1.out (by show (ada.add _).block ≠ _; rw [add_block]; omega)
  have hv7 : v7.ownBlock ≠ some W4.heap.size := by
    rcases p7.2 with e | ⟨k, e, hk⟩
    · rw [e]; intro h; injection h with h; have h' : W2.heap.size = W4.heap.size := h; omega
    · rw [e]; intro h; injection h with h; omega
  have f0 : w7.frozen? ⟨W4.heap.size, 0, none⟩ = false := hb7.frozen 0
  have c7 : w7.cell? ⟨W4.heap.size, 0, none⟩ = some (.slice (some ⟨W2.heap.size, 0, none⟩) 1 1) := hb7.cell 0
  obtain ⟨A7, d7, e7⟩ := o7.is
  simp only [List.length_append, List.length_cons, List.length_nil, Nat.zero_add, Nat.reduceAdd] at e7
  subst e7
  have HO7 := hide o7
  have HO47 := hide o47
  have HA7 := hide a7
  have HB7 := hide hb7
  have HV7 := hide hv7
  have HP7 := hide p71
  clear o7 o47 a7 hb7 hv7 p7 p71 c0 HA1 HB6 HO36 HO46
  go_wp2_with fail
  obtain ⟨W8, hW8⟩ : ∃ W8, w7.setCell ⟨W4.heap.size, 0, none⟩ (.slice A7 2 d7) = W8 := ⟨_, rfl⟩
  have b8 : But w7 W8 W4.heap.size := by rw [← hW8]; exact (But.refl _ _).set 0 _
  have hb8 : Bl W8 W4.heap.size 33 #[.slice A7 2 d7, .slice (some ⟨W3.heap.size, 0, none⟩) 2 2] := by rw [← hW8]; exact HB7.out.put 0 _
  rw [hW8]
  have x1 := (HO7.out.off HV7.out (fun _ h => h.elim)).move (w' := W8) (X' := Any) fun j hj hx => ⟨b8.block j hj (fun e => by injection e with e; exact hx e), trivial⟩
  have x2 := (HO47.out.off (g := W4.heap.size) (by intro h; injection h with h; simp at h; omega) (fun _ h => h.elim)).move (w' := W8) (X' := Any) fun j hj hx => ⟨b8.block j hj (fun e => by injection e with e; exact hx e), trivial⟩
  have a8 := b8.cell HA7.out (by show (ada.add _).block ≠ _; rw [add_block]; omega)
  have HG8 := hide ((HG6.out.fresh HP7.out (by omega)).fresh b8 (by omega))
  have hlx : LogsX W8 (.slice (some ⟨W4.heap.size, 0, none⟩) 2 2) begB := LogsX.of_bl hb8 rfl rfl (by decide) fun j h h2 => by
    rcases j with _ | _ | j
    · exact x1
    · exact x2
    · simp at h; omega
  clear hW8 hb8 b8 HB7 HO7 HO47 HA7 HV7 HP7 f0 c7 x1 x2
  refine (HC2.out W8 _ hlx).mono ?_
  rintro e w9 ⟨vb, rfl, hpb, hg9, _⟩
  have a9 := gr_cell hg9 _ _ a8
  obtain ⟨Ab, cb, hvb, _⟩ := hpb.is
  obtain ⟨adb, c'', pb, e1, _, b9, _, _⟩ := hpb.at_ (k := 1) (by decide)
  subst hvb
  injection e1 with e1 _ e2
  subst e1 e2
  have HLX := hide (hlx.gr hg9)
  have HG9 := hide (HG8.out.trans hg9)
  have HPB := hide hpb
  simp only [List.getElem_cons_zero, List.getElem_cons_succ, List.length_nil, List.length_cons, Nat.zero_add, Nat.reduceAdd] at a9 b9 HPB
  have ez : ada.add (0 * 6) = ada := add_zero_ ada
  rw [ez] at a9
  have ez2 : adb.add (1 * 6) = ⟨adb.block, adb.off + 6, none⟩ := rfl
  rw [ez2] at b9
  clear hlx hg9 hpb HG8 HG6 HC1 HC2 a8 hs2 hs3 hs4 hs5 hs6 hfr'
  go_wp2_with fail
  refine (HH.out w9 _ HLX.out).mono ?_
  rintro e w10 ⟨rfl, hg10⟩
  replace HPB := hide (HPB.out.gr hg10)
  replace HG9 := hide (HG9.out.trans hg10)
  clear hg10 HLX HH a9 b9
  go_wp2_with fail
  refine (HN.out w10).mono ?_
  rintro e w11 ⟨rfl, hg11⟩
  replace HPB := hide (HPB.out.gr hg11)
  replace HG9 := hide (HG9.out.trans hg11)
  clear hg11 HN
  go_wp2_with fail
  refine (HF1.out w11 _ HPB.out).mono ?_
  rintro e w12 ⟨rfl, hg12⟩
  replace HPB := hide (HPB.out.gr hg12)
  replace HG9 := hide (HG9.out.trans hg12)
  clear hg12 HF1
  go_wp2_with fail
  refine (HF2.out w12 _ HPB.out).mono ?_
  rintro e w13 ⟨rfl, hg13⟩
  replace HG9 := hide (HG9.out.trans hg13)
  clear hg13 HF2 HPB
  go_wp2_with fail
  go_ret
  exact ⟨rfl, HG9.out⟩

end Go.Proofs.Ytncdmecppfmmgaa
