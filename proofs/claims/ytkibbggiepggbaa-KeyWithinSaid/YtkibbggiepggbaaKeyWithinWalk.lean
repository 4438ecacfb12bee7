/-
  The walk of 'KeyWithin'.
-/
import Derived.Test.YtkibbggiepggbaaKeyBegun
namespace Go.Proofs.Ytkibbggiepggbaa
open Go.RowKit KeyMath

def YesWithin (w : World) (e : Ending) (w' : World) : Prop := e = .returned (.bool true) ∧ Gr w w'

set_option maxRecDepth 100000 in
set_option maxHeartbeats 1000000 in
theorem walk_KeyWithin (w : World) (a : ByteArray) (_ : a.size ≤ maxLen) (b : ByteArray) (_ : b.size ≤ maxLen) (c : ByteArray) (_ : c.size ≤ maxLen) (f : ByteArray) (_ : f.size ≤ maxLen) (t : ByteArray) (_ : t.size ≤ maxLen) :
    Calls Try.prog 6 #[.string a, .string b, .string c, .string f, .string t] w (YesWithin w) := by
  have hmid := hide (fun h1 h2 h3 h4 => within_mid (a := a) (b := b) (c := c) (f := f) (t := t) h1 h2 h3 h4)
  have hself := hide (within_self a)
  have hnone := hide (fun h => within_none (a := a) (f := f) h)
  go_enter Try.func6, Try.ntmps6
  go_wp2_with fail
  refine (begun_ok _).mono ?_
  rintro e w1 ⟨rfl, hg1⟩
  cases hab : leK a b
  · unfold leK at hab
    go_wp2_with fail
    · go_ret
      exact ⟨rfl, hg1⟩
    · refine (Within_ok a a nothing _).mono ?_
      rintro e w8 ⟨rfl, hg8⟩
      rw [hself.out]
      cases hf : f.toList.isEmpty
      · have hn := hnone.out hf
        go_wp2_with fail
        refine (Within_ok a f f _).mono ?_
        rintro e w9 ⟨rfl, hg9⟩
        rw [hn]
        go_wp2_with fail
        go_ret
        exact ⟨rfl, (hg1).trans (hg8.trans hg9)⟩
      · go_wp2_with fail
        go_ret
        exact ⟨rfl, (hg1).trans hg8⟩
  · have HA := hide hab
    unfold leK at hab
    cases hbc : leK b c
    · unfold leK at hbc
      go_wp2_with fail
      · go_ret
        exact ⟨rfl, hg1⟩
      · refine (Within_ok a a nothing _).mono ?_
        rintro e w8 ⟨rfl, hg8⟩
        rw [hself.out]
        cases hf : f.toList.isEmpty
        · have hn := hnone.out hf
          go_wp2_with fail
          refine (Within_ok a f f _).mono ?_
          rintro e w9 ⟨rfl, hg9⟩
          rw [hn]
          go_wp2_with fail
          go_ret
          exact ⟨rfl, (hg1).trans (hg8.trans hg9)⟩
        · go_wp2_with fail
          go_ret
          exact ⟨rfl, (hg1).trans hg8⟩
    · have HB := hide hbc
      unfold leK at hbc
      go_wp2_with fail
      · go_ret
        exact ⟨rfl, hg1⟩
      · refine (Within_ok a f t _).mono ?_
        rintro e w2 ⟨rfl, hg2⟩
        cases h1 : withinK a f t
        · go_wp2_with fail
          refine (Within_ok a a nothing _).mono ?_
          rintro e w8 ⟨rfl, hg8⟩
          rw [hself.out]
          cases hf : f.toList.isEmpty
          · have hn := hnone.out hf
            go_wp2_with fail
            refine (Within_ok a f f _).mono ?_
            rintro e w9 ⟨rfl, hg9⟩
            rw [hn]
            go_wp2_with fail
            go_ret
            exact ⟨rfl, (hg1.trans hg2).trans (hg8.trans hg9)⟩
          · go_wp2_with fail
            go_ret
            exact ⟨rfl, (hg1.trans hg2).trans hg8⟩
        · go_wp2_with fail
          refine (Within_ok c f t _).mono ?_
          rintro e w3 ⟨rfl, hg3⟩
          cases h2 : withinK c f t
          · go_wp2_with fail
            refine (Within_ok a a nothing _).mono ?_
            rintro e w8 ⟨rfl, hg8⟩
            rw [hself.out]
            cases hf : f.toList.isEmpty
            · have hn := hnone.out hf
              go_wp2_with fail
              refine (Within_ok a f f _).mono ?_
              rintro e w9 ⟨rfl, hg9⟩
              rw [hn]
              go_wp2_with fail
              go_ret
              exact ⟨rfl, (hg1.trans (hg2.trans hg3)).trans (hg8.trans hg9)⟩
            · go_wp2_with fail
              go_ret
              exact ⟨rfl, (hg1.trans (hg2.trans hg3)).trans hg8⟩
          · go_wp2_with fail
            refine (Within_ok b f t _).mono ?_
            rintro e w4 ⟨rfl, hg4⟩
            rw [hmid.out HA.out HB.out h1 h2]
            go_wp2_with fail
            refine (Within_ok a a nothing _).mono ?_
            rintro e w8 ⟨rfl, hg8⟩
            rw [hself.out]
            cases hf : f.toList.isEmpty
            · have hn := hnone.out hf
              go_wp2_with fail
              refine (Within_ok a f f _).mono ?_
              rintro e w9 ⟨rfl, hg9⟩
              rw [hn]
              go_wp2_with fail
              go_ret
              exact ⟨rfl, (hg1.trans (hg2.trans (hg3.trans hg4))).trans (hg8.trans hg9)⟩
            · go_wp2_with fail
              go_ret
              exact ⟨rfl, (hg1.trans (hg2.trans (hg3.trans hg4))).trans hg8⟩

end Go.Proofs.Ytkibbggiepggbaa
