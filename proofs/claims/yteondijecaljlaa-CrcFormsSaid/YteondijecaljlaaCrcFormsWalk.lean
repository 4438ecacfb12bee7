/-
  The walk of 'CrcForms'.
-/
import Derived.Test.YteondijecaljlaaCrcBegun
import Derived.Test.YteondijecaljlaaLent
namespace Go.Proofs.Yteondijecaljlaa
open Go.RowKit CrcMath

theorem sum_zero : wv (sum [0]) = .int .u32 3523407757 := by rw [forms.1]; rfl
theorem sum_a : wv (sum [97]) = .int .u32 3904355907 := by rw [forms.2.1]; rfl
theorem sum_abc : wv (sum [97, 98, 99]) = .int .u32 891568578 := by rw [forms.2.2.1]; rfl
theorem sum_zeros : wv (sum [0, 0, 0, 0]) = .int .u32 558161692 := by rw [forms.2.2.2.1]; rfl
theorem sum_ones : wv (sum [255, 255, 255, 255]) = .int .u32 4294967295 := by rw [forms.2.2.2.2.1]; rfl

set_option maxRecDepth 100000 in
set_option maxHeartbeats 400000 in
theorem walk_CrcForms (w : World) : Calls Try.prog 6 #[] w fun e w' => e = .returned (.bool true) ∧ Gr w w' := by
  have kc := fun (w : World) (C : Array Value) (n c : Nat) => Lib.run_convert_bytes_const (P := Try.prog) w 22 5 C n c Try.underlying22 Try.underlying5
  have m4 : ∀ w : World, (Instr.makeSlice 22 (.int .i64 4) (.int .i64 4)).run Try.prog w = .ok (.slice (some ⟨w.heap.size, 0, none⟩) 4 4) (w.alloc (.cells (madeCells #[.int .u8 0] 4) 5)) := fun w => make_bytes w 4 (by decide)
  have e4 : madeCells #[.int .u8 0] 4 = (bvs [0, 0, 0, 0]).toArray := made_zeros 4
  rw [e4] at m4
  clear e4
  go_enter Try.func6, Try.ntmps6
  go_wp2_with fail
  refine (begun_ok _).mono ?_
  rintro e w1 ⟨rfl, hg1⟩
  go_wp2_with fail
  refine (Sum_ok _ _ 1 [0] rfl _ (by_new w1 5 [0] (by decide)) (by decide)).mono ?_
  rintro e w2 ⟨rfl, hg2⟩
  rw [sum_zero]
  have hgw2 : Gr w w2 := hg1.trans (((Gr.refl w1).alloc _).trans hg2)
  clear hg1 hg2
  go_wp2_with fail
  refine (Sum_ok _ _ 1 [97] rfl _ (by_lit w2 5 [97] _ (by decide)) (by decide)).mono ?_
  rintro e w3 ⟨rfl, hg3⟩
  rw [sum_a]
  have hgw3 : Gr w w3 := hgw2.trans (((Gr.refl w2).alloc _).trans hg3)
  clear hgw2 hg3
  go_wp2_with fail
  refine (Sum_ok _ _ 3 [97, 98, 99] rfl _ (by_lit w3 5 [97, 98, 99] _ (by decide)) (by decide)).mono ?_
  rintro e w4 ⟨rfl, hg4⟩
  rw [sum_abc]
  have hgw4 : Gr w w4 := hgw3.trans (((Gr.refl w3).alloc _).trans hg4)
  clear hgw3 hg4
  go_wp2_with fail
  refine (Sum_ok _ _ 4 [0, 0, 0, 0] rfl _ (by_new w4 5 [0, 0, 0, 0] (by decide)) (by decide)).mono ?_
  rintro e w5 ⟨rfl, hg5⟩
  rw [sum_zeros]
  have hgw5 : Gr w w5 := hgw4.trans (((Gr.refl w4).alloc _).trans hg5)
  clear hgw4 hg5
  go_wp2_with fail
  refine (Sum_ok _ _ 4 [255, 255, 255, 255] rfl _ (by_new w5 5 [255, 255, 255, 255] (by decide)) (by decide)).mono ?_
  rintro e w6 ⟨rfl, hg6⟩
  rw [sum_ones]
  have hgw6 : Gr w w6 := hgw5.trans (((Gr.refl w5).alloc _).trans hg6)
  clear hgw5 hg6
  go_wp2_with fail
  go_ret
  exact ⟨rfl, hgw6⟩

end Go.Proofs.Yteondijecaljlaa
