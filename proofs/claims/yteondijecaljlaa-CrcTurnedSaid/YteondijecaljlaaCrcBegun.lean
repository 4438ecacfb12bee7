/-
  'begun' of the statements on crc: true.
-/
import Derived.Test.YteondijecaljlaaCrcSum
import Derived.Lib.SlBytesConst
namespace Go.Proofs.Yteondijecaljlaa
open Go.RowKit CrcMath

theorem sum_digits : wv (sum [49, 50, 51, 52, 53, 54, 55, 56, 57]) = .int .u32 3421780262 := by rw [forms.2.2.2.2.2.1]; rfl
theorem sum_none : wv (sum []) = .int .u32 0 := by rw [forms.2.2.2.2.2.2]; rfl

set_option maxRecDepth 100000 in
set_option maxHeartbeats 400000 in
theorem begun_ok (w : World) : Calls Try.prog 8 #[] w fun e w' => e = .returned (.bool true) ∧ Gr w w' := by
  have kc := fun (w : World) (C : Array Value) (n c : Nat) => Lib.run_convert_bytes_const (P := Try.prog) w 22 5 C n c Try.underlying22 Try.underlying5
  go_enter Try.func8, Try.ntmps8
  go_wp2_with fail
  refine (Sum_ok _ _ 9 [49, 50, 51, 52, 53, 54, 55, 56, 57] rfl _ (by_lit w 5 [49, 50, 51, 52, 53, 54, 55, 56, 57] _ (by decide)) (by decide)).mono ?_
  rintro e w1 ⟨rfl, hg1⟩
  rw [sum_digits]
  have hgw : Gr w w1 := ((Gr.refl w).alloc _).trans hg1
  clear hg1
  go_wp2_with fail
  refine (Sum_ok none 0 0 [] rfl _ ⟨Rd.nil _ _, by simp, by simp [maxLen], fun _ => rfl⟩ (by decide)).mono ?_
  rintro e w2 ⟨rfl, hg2⟩
  rw [sum_none]
  go_wp2_with fail
  go_ret
  exact ⟨rfl, hgw.trans hg2⟩

end Go.Proofs.Yteondijecaljlaa
