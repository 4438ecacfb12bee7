/-
  The statements on ulog ask first whether it does anything: it does.
-/
import Derived.Test.YthgpeegnedocfaaUlLaw
namespace Go.Proofs.Ythgpeegnedocfaa
open Go Go.RowKit TxnMath KeyMath MsgMath
set_option maxRecDepth 100000

set_option maxHeartbeats 1000000 in
theorem begun_ok (w : World) : Calls Try.prog 8 #[] w fun e w' => e = .returned (.bool true) ∧ Gr w w' := by
  have T2 : termL [sealE 1, sealE 2] 2 = 2 := by decide
  have T3 : termL [sealE 1, sealE 2] 3 = 0 := by decide
  have H1 : hasL [sealE 1, sealE 2] 1 1 = true := by decide
  have H0 : hasL [sealE 1, sealE 2] 0 9 = true := by decide
  have H2 : hasL [sealE 1, sealE 2] 2 1 = false := by decide
  have J : joinL [sealE 1, sealE 2] 1 [sealE 3] = [sealE 1, sealE 3] := by decide
  have N2 : newerL [sealE 1, sealE 2] 2 2 = true := by decide
  have N1 : newerL [sealE 1, sealE 2] 1 2 = false := by decide
  have S1 : decide ([sealE 1, sealE 2] = [sealE 1, sealE 2]) = true := by decide
  have S2 : decide ([sealE 1, sealE 2] = [sealE 1, sealE 3]) = false := by decide
  have CL := hide (fun W v (h : EntsX Any W v [sealE 1, sealE 2]) => And.intro (T2 ▸ Term_ok v _ 2 W h (by decide)) (And.intro (T3 ▸ Term_ok v _ 3 W h (by decide)) (And.intro (H1 ▸ Has_ok v _ 1 1 W h (by decide)) (And.intro (H0 ▸ Has_ok v _ 0 9 W h (by decide)) (And.intro (H2 ▸ Has_ok v _ 2 1 W h (by decide)) (And.intro (N2 ▸ Newer_ok v _ 2 2 W h (by decide)) (N1 ▸ Newer_ok v _ 1 2 W h (by decide))))))))
  have hb : ∀ a b : Int, ∀ e ∈ [sealE a, sealE b], EntBnd e := fun a b e he => by
    simp only [List.mem_cons, List.not_mem_nil, or_false] at he
    rcases he with rfl | rfl <;> exact sealE_bnd _
  have hb1 : ∀ e ∈ [sealE 3], EntBnd e := fun e he => by
    simp only [List.mem_cons, List.not_mem_nil, or_false] at he
    subst he; exact sealE_bnd _
  have CJ := hide (fun W v u (h : EntsX Any W v [sealE 1, sealE 2]) (h2 : EntsX Any W u [sealE 3]) => Join_ok v u _ _ 1 W h h2 (by decide) (by decide) (hb 1 2) hb1)
  have CS := hide (fun W v (h : EntsX Any W v [sealE 1, sealE 2]) => S1 ▸ Same_ok v v _ _ W h h (by decide) (by decide) (hb 1 2) (hb 1 2))
  have CS2 := hide (fun W v u (h : EntsX Any W v [sealE 1, sealE 2]) (h2 : EntsX Any W u [sealE 1, sealE 3]) => S2 ▸ Same_ok v u _ _ W h h2 (by decide) (by decide) (hb 1 2) (hb 1 3))
  have HJ := hide J
  clear T2 T3 H1 H0 H2 J N2 N1 S1 S2 hb hb1
  go_enter Try.func8, Try.ntmps8
  go_wp2_with fail
  obtain ⟨W1, hW1⟩ : ∃ W1, w.alloc (.cells #[.int .i64 1, .bool true, .int .i64 0, .int .i64 0, .slice none 0 0, .slice none 0 0, .int .i64 2, .bool true, .int .i64 0, .int .i64 0, .slice none 0 0, .slice none 0 0] 39) = W1 := ⟨_, rfl⟩
  obtain ⟨W2, hW2⟩ : ∃ W2, W1.alloc (.cells #[.int .i64 3, .bool true, .int .i64 0, .int .i64 0, .slice none 0 0, .slice none 0 0] 39) = W2 := ⟨_, rfl⟩
  have E1 : EntsX Any W1 (.slice (some ⟨w.heap.size, 0, none⟩) 2 2) [sealE 1, sealE 2] := seals_lit (ts := [1, 2]) rfl (by decide) hW1
  have E3 : EntsX Any W2 (.slice (some ⟨W1.heap.size, 0, none⟩) 1 1) [sealE 3] := seals_lit (ts := [3]) rfl (by decide) hW2
  have g1 : Gr w W1 := by rw [← hW1]; exact (Gr.refl _).alloc _
  have g2 : Gr W1 W2 := by rw [← hW2]; exact (Gr.refl _).alloc _
  have hs1 : w.heap.size + 1 = W1.heap.size := by rw [← hW1]; simp
  rw [hW1, hW2, hs1]
  have HG := hide (g1.trans g2)
  have HE1 := hide (E1.gr g2)
  clear hW1 hW2 g1 g2 E1
  refine (CJ.out W2 _ _ HE1.out E3).mono ?_
  rintro e w3 ⟨r, rfl, ho, hg3⟩
  rw [HJ.out] at ho
  have HE3 := hide ho.entsX
  replace HE1 := hide (HE1.out.gr hg3)
  replace HG := hide (HG.out.trans hg3)
  clear ho hg3 E3 CJ HJ
  obtain ⟨ad, c, p, e1, _, a0, _⟩ := HE3.out.ent (k := 1) (by decide)
  have e1' : r = .slice (some ad) 2 c := e1
  subst e1'
  clear e1
  have CA := CL.out _ _ HE1.out
  obtain ⟨k1, k2, k3, k4, k5, k6, k7⟩ := CA
  have K1 := hide k1
  have K2 := hide k2
  have K3 := hide k3
  have K4 := hide k4
  have K5 := hide k5
  have K6 := hide k6
  have K7 := hide k7
  clear k1 k2 k3 k4 k5 k6 k7 CL
  replace a0 : w3.cell? ⟨ad.block, ad.off + 6, none⟩ = some (.int .i64 3) := a0
  go_wp2_with fail
  refine K1.out.mono ?_
  rintro e w4 ⟨rfl, rfl⟩
  go_wp2_with fail
  refine K2.out.mono ?_
  rintro e w4 ⟨rfl, rfl⟩
  go_wp2_with fail
  refine K3.out.mono ?_
  rintro e w4 ⟨rfl, rfl⟩
  go_wp2_with fail
  refine K4.out.mono ?_
  rintro e w4 ⟨rfl, rfl⟩
  go_wp2_with fail
  refine K5.out.mono ?_
  rintro e w4 ⟨rfl, rfl⟩
  go_wp2_with fail
  refine K6.out.mono ?_
  rintro e w4 ⟨rfl, rfl⟩
  go_wp2_with fail
  refine K7.out.mono ?_
  rintro e w4 ⟨rfl, rfl⟩
  go_wp2_with fail
  refine (CS.out _ _ HE1.out).mono ?_
  rintro e w5 ⟨rfl, hg5⟩
  have HE1' := hide (HE1.out.gr hg5)
  have HE3' := hide (HE3.out.gr hg5)
  clear a0
  go_wp2_with fail
  refine (CS2.out _ _ _ HE1'.out HE3'.out).mono ?_
  rintro e w6 ⟨rfl, hg6⟩
  go_wp2_with fail
  go_ret
  exact ⟨rfl, (HG.out.trans hg5).trans hg6⟩

end Go.Proofs.Ythgpeegnedocfaa
