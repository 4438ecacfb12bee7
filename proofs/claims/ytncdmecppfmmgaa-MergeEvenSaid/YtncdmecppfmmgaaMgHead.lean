/-
  merge's small functions by their contracts: which of two heads is ahead, whether one is the last, which one follows.
-/
import Derived.Test.YtncdmecppfmmgaaProg
import Derived.Test.YtncdmecppfmmgaaBaseM
import Derived.Test.YtncdmecppfmmgaaIntRows
import Derived.Test.YtncdmecppfmmgaaQuietIf
import Derived.Test.YtncdmecppfmmgaaPlayTxn
import Derived.Test.YtncdmecppfmmgaaTxnRows
namespace Go.Proofs.Ytncdmecppfmmgaa
open Go Go.RowKit
set_option maxRecDepth 100000

/-- a head's cells: its log, how many batches are ahead, what is left of its batches -/
def hdV (p b : Int) (A : Option Addr) (n c : Nat) : Value := .agg #[.int .i64 p, .int .i64 b, .slice A n c]

theorem ahead_ok (p b p' b' : Int) (A A' : Option Addr) (n c n' c' : Nat) (w : World) :
    Calls Try.prog 60 #[hdV p b A n c, hdV p' b' A' n' c'] w fun e w' => e = .returned (.bool (decide (b = b' ∧ p < p' ∨ b < b'))) ∧ Gr w w' := by
  have HG := hide (fun (W : World) (h : Gr w W) => h)
  unfold hdV
  by_cases h : b = b'
  · subst h
    go_enter Try.func60, Try.ntmps60
    go_wp2_with fail
    go_ret
    exact ⟨by simp, HG.out _ (((Gr.refl w).alloc _).alloc _)⟩
  · have h1 : decide (b = b') = false := by simpa using h
    have h2 : (b == b') = false := by simpa using h
    go_enter Try.func60, Try.ntmps60
    go_wp2_with fail
    go_ret
    exact ⟨by simp [h], HG.out _ (((Gr.refl w).alloc _).alloc _)⟩

theorem last_ok (p b : Int) (A : Option Addr) (n c : Nat) (w : World) :
    Calls Try.prog 27 #[hdV p b A n c] w fun e w' => e = .returned (.bool (decide (n = 1))) ∧ Gr w w' := by
  have HG := hide (fun (W : World) (h : Gr w W) => h)
  unfold hdV
  go_enter Try.func27, Try.ntmps27
  go_wp2_with fail
  go_ret
  refine ⟨?_, HG.out _ ((Gr.refl w).alloc _)⟩
  by_cases h : n = 1
  · subst h; simp
  · have h2 : ((n : Int) == 1) = false := by rw [beq_eq_false_iff_ne]; omega
    simp [h]
    omega

theorem following_ok (p : Int) (b : Nat) (g k : Nat) (n c : Nat) (hb : b ≤ 1000000) (hn : 2 ≤ n) (hc : n ≤ c) (hm : c ≤ maxLen) (w : World) :
    Calls Try.prog 28 #[hdV p b (some ⟨g, k, none⟩) n c] w fun e w' => e = .returned (hdV p ((b + 1 : Nat) : Int) (some ⟨g, k + 1, none⟩) (n - 1) (c - 1)) ∧ Gr w w' := by
  have HG := hide (fun (W : World) (h : Gr w W) => h)
  unfold hdV
  obtain ⟨m, rfl⟩ : ∃ m, n = m + 1 := ⟨n - 1, by omega⟩
  obtain ⟨d, rfl⟩ : ∃ d, c = d + 1 := ⟨c - 1, by omega⟩
  have h1 : (1 : Int) ≤ ((m + 1 : Nat) : Int) := by omega
  have h2 : (((m + 1 : Nat) : Int)) ≤ ((d + 1 : Nat) : Int) := by omega
  have h3 : ((d + 1 : Nat) : Int) ≤ 9223372036854775807 := by unfold maxLen at hm; omega
  have h4 : ¬ d = 0 := by omega
  have h5 : IntKind.i64.wrap ((b : Int) + 1) = ((b : Int) + 1) := by simp [IntKind.wrap, IntKind.bits, IntKind.signed]; omega
  go_enter Try.func28, Try.ntmps28
  go_wp2_with fail
  obtain ⟨W, hW⟩ : ∃ W, (w.alloc (.cells #[.int .i64 p, .int .i64 b, .slice (some ⟨g, k, none⟩) (m + 1) (d + 1)] 59)).alloc (.cells #[.int .i64 0, .int .i64 0, .slice none 0 0] 59) = W := ⟨_, rfl⟩
  have hg0 : Gr w W := by rw [← hW]; exact ((Gr.refl _).alloc _).alloc _
  have hb0 : Bl W w.heap.size 59 #[.int .i64 p, .int .i64 b, .slice (some ⟨g, k, none⟩) (m + 1) (d + 1)] := by
    rw [← hW]; exact (Bl.new w _ _).gr ((Gr.refl _).alloc _)
  have hb1 : Bl W (w.heap.size + 1) 59 #[.int .i64 0, .int .i64 0, .slice none 0 0] := by
    rw [← hW]
    have := Bl.new (w.alloc (.cells #[.int .i64 p, .int .i64 b, .slice (some ⟨g, k, none⟩) (m + 1) (d + 1)] 59)) 59 #[.int .i64 0, .int .i64 0, .slice none 0 0]
    simpa using this
  have c0 : W.cell? ⟨w.heap.size, 0, none⟩ = some (.int .i64 p) := hb0.cell 0
  have c1 : W.cell? ⟨w.heap.size, 1, none⟩ = some (.int .i64 b) := hb0.cell 1
  have c2 : W.cell? ⟨w.heap.size, 2, none⟩ = some (.slice (some ⟨g, k, none⟩) (m + 1) (d + 1)) := hb0.cell 2
  have HG0 := hide hg0
  rw [hW]
  clear hW hb0 hg0
  go_still_tail 9, (by kernel_rfl)
  refine still_any (by rfl) (u := .slice (some ⟨g, k + 1, none⟩) m d) ?_ ?_
  · have hr : ∀ w, (Instr.slice 46 (.slice (some ⟨g, k, none⟩) (m + 1) (d + 1)) (some (.int .i64 1)) none none).run Try.prog w = .ok (.slice (some ⟨g, k + 1, none⟩) m d) w := fun w => by
      have h1' : (1 : Int) ≤ (m : Int) + 1 := by omega
      simp [Instr.slice, run_underlying Try.underlying46, Instr.sliceBounds, Instr.sliceBound, asIntOf, Result.andThen, h4, h1', Addr.add]
    simp [execOp, Act.eval, run_sliceAt_slice _ _ _ _ _ _ Try.underlying46, hr, Result.andThen]
  simp only [Act.put, List.setIfInBounds_toArray, List.set_cons_zero, List.set_cons_succ]
  repeat still_step
  refine wpStill_nil ?_
  change wpList _ _ _ _ _ W.drew
  clear h1 h2 h3 h5 c0 c1 c2 hm
  refine wpList_store_row rfl 59 (.tmp 2) (.tmp 11) rfl (w.heap.size + 1) #[.int .i64 p, .int .i64 (b + 1), .slice (some ⟨g, k + 1, none⟩) m d] rfl rfl 59 _ hb1 (by kernel_rfl) rfl (by simp [Value.oneCell']) ?_
  go_wp2
  have hp := (hb1.drewN 1).row #[.int .i64 p, .int .i64 ((b : Int) + 1), .slice (some ⟨g, k + 1, none⟩) m d]
  have hsz := HG0.out.size
  have hgr : Gr w (W.drew.setRow (w.heap.size + 1) #[.int .i64 p, .int .i64 ((b : Int) + 1), .slice (some ⟨g, k + 1, none⟩) m d]) := HG0.out.drew.fresh (But.row _ _ _) (by omega)
  refine bodyPost_ret (results_cell_row rfl _ _ (w.heap.size + 1) 59 #[.int .i64 p, .int .i64 ((b : Int) + 1), .slice (some ⟨g, k + 1, none⟩) m d] (0, 0) _ rfl hp Try.underlying59 rfl (by kernel_rfl)) rfl ?_
  exact ⟨rfl, hgr⟩

end Go.Proofs.Ytncdmecppfmmgaa
