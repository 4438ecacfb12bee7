/-
  epoch's rising by its contract.
-/
import Derived.Test.YtncdmecppfmmgaaEpMath
import Derived.Test.YtncdmecppfmmgaaIntMem
namespace Go.Proofs.Ytncdmecppfmmgaa
open Go Go.RowKit EpMath
set_option maxRecDepth 100000

theorem make_ints (w : World) (n : Nat) (hn : n ≤ 1000000) :
    (Instr.makeSlice 49 (.int .i64 0) (.int .i64 (n : Int))).run Try.prog w = .ok (.slice (some ⟨w.heap.size, 0, none⟩) 0 n) (w.alloc (.cells (madeCells #[.int .i64 0] n) 3)) := by
  obtain ⟨i0, hi, hz0, hz1, hz2⟩ := info_i
  have h := run_make (P := Try.prog) w 49 3 i0 (.int .i64 0) Try.underlying49 hi hz0 .i64 .i64 0 (n : Int) (by omega) (by omega) (by rw [hz2]; omega) (by omega)
  rw [h, hz1]
  simp [Value.cells]

set_option maxHeartbeats 1000000 in
theorem rising_ok (b e : Nat) (hbe : b ≤ e) (he : e ≤ 1000) (w : World) :
    Calls Try.prog 35 #[.int .i64 b, .int .i64 e] w fun en w' => ∃ v, en = .returned v ∧ OwnI w' w.heap.size v (risL b e) ∧ Gr w w' := by
  have hmk := make_ints w (e - b) (by omega)
  have ec : ((e - b : Nat) : Int) = (e : Int) - b := by omega
  rw [ec] at hmk
  have HO := hide (show OwnI (w.alloc (.cells (madeCells #[.int .i64 0] (e - b)) 3)) w.heap.size (.slice (some ⟨w.heap.size, 0, none⟩) 0 (e - b)) (risL b b) from by
    rw [risL_nil (Nat.le_refl b)]
    exact World.ownsRow_made (size := 1) w _ (e - b) (Nat.le_refl _) (by unfold maxLen; omega) (by rw [size_madeCells]; simp))
  have HG := hide ((Gr.refl w).alloc (.cells (madeCells #[.int .i64 0] (e - b)) 3))
  clear ec
  go_enter Try.func35, Try.ntmps35
  go_wp2_with fail
  generalize w.alloc (.cells (madeCells #[.int .i64 0] (e - b)) 3) = w1 at HO HG ⊢
  clear hmk
  go_loopw [5, 6] (fun v i wr => ∃ k : Nat, i = .int .i64 k ∧ b ≤ k ∧ k ≤ e ∧ Hid (OwnI wr w.heap.size v (risL b k)) ∧ Hid (Gr w wr)) (fun _ i _ => e - (intOf i).toNat)
  case atStart => exact ⟨b, rfl, Nat.le_refl _, hbe, HO, HG⟩
  case round =>
    obtain ⟨k, rfl, hbk, hk, HV, HR⟩ := hrel
    obtain ⟨A, c, hv, _⟩ := HV.out.is
    rw [risL_len] at hv
    subst hv
    by_cases hlt : k < e
    · have hlt' : (k : Int) < (e : Int) := by omega
      go_wp2_with (at_builtin; refine wpList_pushI rfl (.tmp 17) (.tmp 19) rfl (k : Int) rfl HV.out HR.out (congrArg (fun z => Value.slice (some ⟨z, 0, none⟩) 1 1) (by simp)) (by rw [risL_len]; omega) ?_; intro v3 w4 ho3 hg3; obtain ⟨A3, c3, hv3, _⟩ := ho3.is; generalize hm3 : List.length _ = m3 at hv3; subst hv3; clear hm3; have HO3 := hide ho3; have HG3 := hide hg3; clear ho3 hg3)
      go_roundw
      case rel => exact ⟨k + 1, by go_num, by omega, by omega, by unfold Hid; rw [risL_more hbk]; exact HO3.out, HG3⟩
      case measure => simp [intOf]; omega
    · obtain rfl : k = e := by omega
      go_wp2_with fail
      go_ret
      exact ⟨_, rfl, HV.out, HR.out⟩

end Go.Proofs.Ytncdmecppfmmgaa
