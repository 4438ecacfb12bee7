/-
  key's Within and the document's, by their contracts.
-/
import Derived.Test.YtbfbghfaeejicaaKeyEach
import Derived.Test.YtbfbghfaeejicaaKeyRef
namespace Go.Proofs.Ytbfbghfaeejicaa
open Go.RowKit KeyMath
set_option maxRecDepth 100000

set_option maxHeartbeats 400000 in
theorem Within_ok (k f t : ByteArray) (w : World) : Calls Try.prog 44 #[.string k, .string f, .string t] w fun e w' => e = .returned (.bool (withinK k f t)) ∧ Gr w w' := by
  have hb : leK f k = !ltK k f := by rw [← not_le, Bool.not_not]
  have hw : withinK k f t = (!ltK k f && (t.toList.isEmpty || ltK k t)) := by unfold withinK; rw [hb]
  rw [hw]
  have H1 := hide (NameBelow_ok k f)
  have H2 := hide (NameBelow_ok k t)
  clear hb hw
  cases h1 : ltK k f
  · rw [h1] at H1
    clear h1
    cases h2 : t.toList.isEmpty
    · have h2' : ¬ t.toList = [] := by
        intro h
        rw [h] at h2
        cases h2
      go_enter Try.func44, Try.ntmps44
      go_wp2_with fail
      refine (H1.out _).mono ?_
      rintro e w1 ⟨rfl, rfl⟩
      go_wp2_with fail
      refine (H2.out _).mono ?_
      rintro e w2 ⟨rfl, rfl⟩
      go_wp2_with fail
      go_ret
      exact ⟨rfl, Gr.refl _⟩
    · have h2' : t.toList = [] := by simpa using h2
      go_enter Try.func44, Try.ntmps44
      go_wp2_with fail
      refine (H1.out _).mono ?_
      rintro e w1 ⟨rfl, rfl⟩
      go_wp2_with fail
      go_ret
      exact ⟨rfl, Gr.refl _⟩
  · rw [h1] at H1
    clear h1
    go_enter Try.func44, Try.ntmps44
    go_wp2_with fail
    refine (H1.out _).mono ?_
    rintro e w1 ⟨rfl, rfl⟩
    go_wp2_with fail
    go_ret
    exact ⟨rfl, Gr.refl _⟩

set_option maxHeartbeats 400000 in
theorem RefWithin_ok (k f t : ByteArray) (w : World) : Calls Try.prog 45 #[.string k, .string f, .string t] w fun e w' => e = .returned (.bool (withinK k f t)) ∧ w' = w := by
  go_enter Try.func45, Try.ntmps45
  go_wp2_with fail
  all_goals
    go_ret
    refine ⟨congrArg (fun b => Ending.returned (Value.bool b)) ?_, rfl⟩
    simp_all [withinK, leK, ltK]

end Go.Proofs.Ytbfbghfaeejicaa
