/-
  ballot's Next, by its contract.
-/
import Derived.Test.YthpaoeiackbdoaaBalUp
import Derived.Test.YthpaoeiackbdoaaUlHas
namespace Go.Proofs.Ythpaoeiackbdoaa
open Go Go.RowKit BalMath TxnMath KeyMath MsgMath
set_option maxRecDepth 100000

/-- up to where it is committed -/
def nextL (mt : List Int) (es : List EntT) (t c : Int) : Int := if c < mostL mt ∧ hasL es (mostL mt) t = true then mostL mt else c

theorem Next_ok (v u : Value) (mt : List Int) (es : List EntT) (t c : Int) (w : World) (hv : IntsX w v mt) (hu : EntsX Any w u es) (hl : mt.length ≤ 100000) (h0 : ∀ x ∈ mt, 0 ≤ x) (he : es.length ≤ 1000000000) (hc : 0 ≤ c) :
    Calls Try.prog 86 #[v, u, .int .i64 t, .int .i64 c] w fun e w' => e = .returned (.int .i64 (nextL mt es t c)) ∧ Gr w w' ∧ MostP mt (mostL mt) := by
  have HM := hide (Most_ok v mt w hv hl h0)
  have HU := hide hu
  obtain ⟨A, cp, rfl, _⟩ := hv.is
  obtain ⟨B, cq, rfl⟩ := hu.is
  have emax : max c 0 = c := by omega
  clear hv hu
  go_enter Try.func86, Try.ntmps86
  go_wp2_with fail
  refine HM.out.mono ?_
  rintro e w1 ⟨x, rfl, hm, hg⟩
  have HMP : Hid (MostP mt (mostL mt)) := by unfold Hid; rw [← hm.1]; exact hm
  have HH := hide (Has_ok _ es x t w1 (HU.out.gr hg) he)
  have HN : Hid (nextL mt es t c = if c < x ∧ hasL es x t = true then x else c) := by unfold Hid nextL; rw [← hm.1]
  clear hm HM
  by_cases h1 : c < x
  · generalize hasL es x t = b at HH HN
    cases b
    · go_wp2_with fail
      refine HH.out.mono ?_
      rintro e w2 ⟨rfl, rfl⟩
      go_wp2_with fail
      go_ret
      exact ⟨by rw [HN.out]; simp, hg, HMP.out⟩
    · go_wp2_with fail
      refine HH.out.mono ?_
      rintro e w2 ⟨rfl, rfl⟩
      go_wp2_with fail
      go_ret
      exact ⟨by rw [HN.out]; simp [h1], hg, HMP.out⟩
  · go_wp2_with fail
    go_ret
    exact ⟨by rw [HN.out, if_neg (fun h => absurd h.1 (by omega))]; rfl, hg, HMP.out⟩

end Go.Proofs.Ythpaoeiackbdoaa
