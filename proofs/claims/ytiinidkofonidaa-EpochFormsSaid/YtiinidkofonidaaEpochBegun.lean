/-
  The statements on epoch ask first whether it does anything: it does.
-/
import Derived.Test.YtiinidkofonidaaEpCut
import Derived.Test.YtiinidkofonidaaEpSealed
import Derived.Test.YtiinidkofonidaaEpRef
import Derived.Test.YtiinidkofonidaaEpLit
import Derived.Test.YtiinidkofonidaaPlayLog
import Derived.Test.YtiinidkofonidaaPlayMade
namespace Go.Proofs.Ytiinidkofonidaa
open Go Go.RowKit TxnMath KeyMath MsgMath EpMath
set_option maxRecDepth 100000

set_option maxHeartbeats 1000000 in
theorem begun_ok (w : World) : Calls Try.prog 7 #[] w fun e w' => e = .returned (.bool true) ∧ Gr w w' := by
  have C3 : cutL (shuts ([(1, true), (1, false), (1, true)].map plE)) = [[], [2], []] := by decide
  have S3 : sealN (shuts ([(1, true), (1, false), (1, true)].map plE)) ([(1, true), (1, false), (1, true)].map plE).length = 2 := by decide
  have C0 : cutL (shuts []) = [[]] := by decide
  have HC := hide (fun W v (h : EntsX Any W v ([(1, true), (1, false), (1, true)].map plE)) => C3 ▸ Cut_ok v _ W h (by decide))
  have HS := hide (fun W v (h : EntsX Any W v ([(1, true), (1, false), (1, true)].map plE)) => S3 ▸ Sealed_ok v _ W h (by decide))
  have HN := hide (fun W => C0 ▸ Cut_ok (.slice none 0 0) [] W (EntsX.nil _ _) (by decide))
  clear C3 S3 C0
  go_enter Try.func7, Try.ntmps7
  go_wp2_with fail
  obtain ⟨W1, hW1⟩ : ∃ W1, w.alloc (.cells #[.int .i64 1, .bool true, .int .i64 0, .int .i64 0, .slice none 0 0, .slice none 0 0, .int .i64 1, .bool false, .int .i64 0, .int .i64 0, .slice none 0 0, .slice none 0 0, .int .i64 1, .bool true, .int .i64 0, .int .i64 0, .slice none 0 0, .slice none 0 0] 39) = W1 := ⟨_, rfl⟩
  have E1 : EntsX Any W1 (.slice (some ⟨w.heap.size, 0, none⟩) 3 3) ([(1, true), (1, false), (1, true)].map plE) := ents_lit (ts := [(1, true), (1, false), (1, true)]) rfl (by decide) hW1
  have g1 : Gr w W1 := by rw [← hW1]; exact (Gr.refl _).alloc _
  rw [hW1]
  have HE := hide E1
  have HG := hide g1
  clear hW1 E1 g1
  refine (HC.out W1 _ HE.out).mono ?_
  rintro e w2 ⟨v, rfl, hr, hg⟩
  replace HE := hide (HE.out.gr hg)
  replace HG := hide (HG.out.trans hg)
  clear hg HC
  obtain ⟨g, c, rfl, hc⟩ := hr.at_ (by decide)
  obtain ⟨A0, k0, a0, _, _⟩ := hc 0 (by decide)
  obtain ⟨A1, k1, a1, _, b1⟩ := hc 1 (by decide)
  obtain ⟨A2, k2, a2, _, _⟩ := hc 2 (by decide)
  obtain ⟨q1, rfl, a3⟩ := b1 0 (by decide)
  simp only [List.getElem_cons_zero, List.getElem_cons_succ, List.length_nil, List.length_cons, Nat.zero_add] at a0 a1 a2 a3
  have HS1 := hide (HS.out w2 _ HE.out)
  clear hc b1 hr HS
  go_wp2_with fail
  refine HS1.out.mono ?_
  rintro e w3 ⟨rfl, hg3⟩
  replace HG := hide (HG.out.trans hg3)
  clear hg3 a0 a1 a2 a3 HE HS1
  go_wp2_with fail
  refine (HN.out w3).mono ?_
  rintro e w4 ⟨v4, rfl, hr4, hg4⟩
  replace HG := hide (HG.out.trans hg4)
  obtain ⟨A4, c4, hv4⟩ := hr4.is
  simp only [List.length_cons, List.length_nil, Nat.zero_add] at hv4
  subst hv4
  clear hr4 hg4 HN
  go_wp2_with fail
  go_ret
  exact ⟨rfl, HG.out⟩

end Go.Proofs.Ytiinidkofonidaa
