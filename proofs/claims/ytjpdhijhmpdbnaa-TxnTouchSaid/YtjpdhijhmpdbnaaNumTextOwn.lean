/-
  num.PutText by its contract.
-/
import Derived.Test.YtjpdhijhmpdbnaaNumPutOwn
namespace Go.Proofs.Ytjpdhijhmpdbnaa
open Go.RowKit NumPlain
set_option maxRecDepth 100000

set_option maxHeartbeats 400000 in
theorem PutText_ok (s : ByteArray) (hs : (s.size : Int) ≤ 9223372036854775807) (w : World) :
    Calls Try.prog 78 #[.string s] w fun e w' => ∃ v, e = .returned v ∧ Own w' w.heap.size v (putT s.data.toList) ∧ Gr w w' := by
  obtain ⟨i0, hi, hz0, hz1, hz2⟩ := info_parts info_u8
  have hsz : s.data.toList.length = s.size := by rw [Array.length_toList]; rfl
  by_cases hlt : 255 < (s.size : Int)
  · have e : putT s.data.toList = [] := by unfold putT; rw [if_pos (by omega)]
    rw [e]
    clear e hsz
    go_enter Try.func78, Try.ntmps78
    go_wp2_with fail
    go_ret
    exact ⟨_, rfl, OwnE.none_ _ _, Gr.refl w⟩
  · have e : putT s.data.toList = putN s.size ++ s.data.toList := by unfold putT; rw [if_neg (by omega), hsz]
    rw [e]
    have hl := putN_len s.size
    clear e hsz
    go_enter Try.func78, Try.ntmps78
    go_wp2_with fail
    refine (put_any s.size (by omega) _).mono ?_
    rintro e w1 ⟨v, rfl, ho, hg⟩
    go_wp2_with (at_builtin; go_must (refine wpList_app_str rfl (.tmp 8) (.tmp 9) _ _ rfl 5 i0 Try.underlying22 Try.underlying9 hi hz0 hz1 hz2 s rfl ho hg rfl (by omega) ?_); intro v1 w1 hown1 hgr1)
    go_ret
    exact ⟨_, rfl, hown1, hgr1⟩

end Go.Proofs.Ytjpdhijhmpdbnaa
