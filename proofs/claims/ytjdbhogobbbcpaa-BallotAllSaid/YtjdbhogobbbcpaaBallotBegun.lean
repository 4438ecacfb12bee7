/-
  The statements on ballot ask first whether it does anything: it does.
-/
import Derived.Test.YtjdbhogobbbcpaaBalRef
import Derived.Test.YtjdbhogobbbcpaaUlSeal
namespace Go.Proofs.Ytjdbhogobbbcpaa
open Go Go.RowKit BalMath TxnMath KeyMath MsgMath
set_option maxRecDepth 100000

/-- values that are written down -/
theorem vals_lit {W : World} {t : TypeId} {w : World} {cs : Array Value} {xs : List Value} (hcs : cs = xs.toArray) (hn : xs.length ≤ 1000) (hW : w.alloc (.cells cs t) = W) : ValX W (.slice (some ⟨w.heap.size, 0, none⟩) xs.length xs.length) xs := by
  subst hcs
  have hb : Bl W w.heap.size t xs.toArray := hW ▸ Bl.new w t _
  refine ⟨_, _, rfl, fun j hj => ⟨_, rfl, ?_⟩, Nat.le_refl _, by unfold maxLen; omega, fun e => by cases e⟩
  rw [addr_at, hb.cell]
  simp [hj]
theorem ints_nil (w : World) : IntsX w (.slice none 0 0) [] := ⟨none, 0, rfl, fun j hj => absurd hj (by simp [ivs]), by simp [ivs], by simp [maxLen], fun _ => rfl⟩
theorem bools_nil (w : World) : BoolsX w (.slice none 0 0) [] := ⟨none, 0, rfl, fun j hj => absurd hj (by simp [bvals]), by simp [bvals], by simp [maxLen], fun _ => rfl⟩

theorem lMaj (n : Nat) {a b : Int} (w : World) (ha : a = (n : Int)) (hb : b = (majN n : Int)) (hn : n ≤ 1000000000) : Calls Try.prog 13 #[.int .i64 a] w fun e w' => e = .returned (.int .i64 b) ∧ w' = w := by
  subst ha hb
  exact Majority_ok n w hn
theorem lMany (l : List Bool) {W : World} {n : Nat} {cs : Array Value} {b : Int} (hcs : cs = (bvals l).toArray) (hn : n = l.length) (hb : b = (manyL l : Int)) (hl : l.length ≤ 1000) :
    Calls Try.prog 14 #[.slice (some ⟨W.heap.size, 0, none⟩) n n] (W.alloc (.cells cs 4)) fun e w' => e = .returned (.int .i64 b) ∧ Gr W w' := by
  subst hn hb
  have h : BoolsX (W.alloc (.cells cs 4)) (.slice (some ⟨W.heap.size, 0, none⟩) l.length l.length) l := by
    have := vals_lit (xs := bvals l) hcs (by rw [bvals_len]; exact hl) (rfl : W.alloc (.cells cs 4) = _)
    rw [bvals_len] at this
    exact this
  exact (Many_ok _ l _ h (by omega)).mono fun e w' ⟨he, hg⟩ => ⟨he, hg ▸ (Gr.refl W).alloc _⟩
theorem ints_lit (l : List Int) {W : World} {n : Nat} {cs : Array Value} (hcs : cs = (ivs l).toArray) (hn : n = l.length) (hl : l.length ≤ 1000) : IntsX (W.alloc (.cells cs 3)) (.slice (some ⟨W.heap.size, 0, none⟩) n n) l := by
  subst hn
  have := vals_lit (xs := ivs l) hcs (by rw [ivs_len]; exact hl) (rfl : W.alloc (.cells cs 3) = _)
  rw [ivs_len] at this
  exact this
theorem lMost (l : List Int) {W : World} {n : Nat} {cs : Array Value} {b : Int} (hcs : cs = (ivs l).toArray) (hn : n = l.length) (hb : b = mostL l) (hl : l.length ≤ 1000) (h0 : ∀ x ∈ l, 0 ≤ x) :
    Calls Try.prog 16 #[.slice (some ⟨W.heap.size, 0, none⟩) n n] (W.alloc (.cells cs 3)) fun e w' => e = .returned (.int .i64 b) ∧ Gr W w' := by
  subst hb
  exact (Most_ok _ l _ (ints_lit l hcs hn hl) (by omega) h0).mono fun e w' ⟨x, he, hm, hg⟩ => ⟨by rw [he, hm.1], ((Gr.refl W).alloc _).trans hg⟩
theorem lNext (l : List Int) {W : World} {n : Nat} {cs : Array Value} {u : Value} {es : List EntT} {t c b : Int} (hcs : cs = (ivs l).toArray) (hn : n = l.length) (hb : b = nextL l es t c) (hl : l.length ≤ 1000) (h0 : ∀ x ∈ l, 0 ≤ x) (hu : EntsX Any W u es) (he : es.length ≤ 1000000000) (hc : 0 ≤ c) :
    Calls Try.prog 11 #[.slice (some ⟨W.heap.size, 0, none⟩) n n, u, .int .i64 t, .int .i64 c] (W.alloc (.cells cs 3)) fun e w' => e = .returned (.int .i64 b) ∧ Gr W w' := by
  subst hb
  exact (Next_ok _ u l es t c _ (ints_lit l hcs hn hl) (hu.gr ((Gr.refl W).alloc _)) (by omega) h0 he hc).mono fun e w' ⟨he, hg, _⟩ => ⟨he, ((Gr.refl W).alloc _).trans hg⟩

set_option maxHeartbeats 1000000 in
theorem begun_ok (w : World) : Calls Try.prog 8 #[] w fun e w' => e = .returned (.bool true) ∧ Gr w w' := by
  have EO : Hid (mostL [1, 2, 2] = 2) := hide (by decide)
  have EN1 : Hid (nextL [2, 2, 0] [sealE 1, sealE 2] 2 1 = 2) := hide (by decide)
  have EN2 : Hid (nextL [1, 1, 0] [sealE 1, sealE 2] 2 0 = 0) := hide (by decide)
  go_enter Try.func8, Try.ntmps8
  go_wp2_with fail
  obtain ⟨W1, hW1⟩ : ∃ W1, w.alloc (.cells #[.int .i64 1, .bool true, .int .i64 0, .int .i64 0, .slice none 0 0, .slice none 0 0, .int .i64 2, .bool true, .int .i64 0, .int .i64 0, .slice none 0 0, .slice none 0 0] 44) = W1 := ⟨_, rfl⟩
  have E1 : EntsX Any W1 (.slice (some ⟨w.heap.size, 0, none⟩) 2 2) [sealE 1, sealE 2] := seals_lit (ts := [1, 2]) rfl (by decide) hW1
  have g1 : Gr w W1 := by rw [← hW1]; exact (Gr.refl _).alloc _
  rw [hW1]
  have HE := hide E1
  have HG := hide g1
  clear hW1 E1 g1
  refine (lMaj 5 (b := 3) W1 rfl rfl (by decide)).mono ?_
  rintro e w1 ⟨rfl, hw⟩
  subst hw
  go_wp2_with fail
  refine (lMaj 4 (b := 3) _ rfl rfl (by decide)).mono ?_
  rintro e w1 ⟨rfl, hw⟩
  subst hw
  go_wp2_with fail
  refine (lMany [true, false, true] (b := 2) rfl rfl rfl (by decide)).mono ?_
  rintro e w2 ⟨rfl, hg2⟩
  have H2 := hide (HG.out.trans hg2)
  have HE2 := hide (HE.out.gr hg2)
  clear hg2 HG HE
  go_wp2_with fail
  refine (lMost [1, 2, 2] (b := 2) rfl rfl EO.out.symm (by decide) (by decide)).mono ?_
  rintro e w3 ⟨rfl, hg3⟩
  have H3 := hide (H2.out.trans hg3)
  have HE3 := hide (HE2.out.gr hg3)
  clear hg3 H2 HE2
  go_wp2_with fail
  refine (lNext [2, 2, 0] (b := 2) rfl rfl EN1.out.symm (by decide) (by decide) HE3.out (by decide) (by decide)).mono ?_
  rintro e w4 ⟨rfl, hg4⟩
  have H4 := hide (H3.out.trans hg4)
  have HE4 := hide (HE3.out.gr hg4)
  clear hg4 H3 HE3
  go_wp2_with fail
  refine (lNext [1, 1, 0] (b := 0) rfl rfl EN2.out.symm (by decide) (by decide) HE4.out (by decide) (by decide)).mono ?_
  rintro e w5 ⟨rfl, hg5⟩
  have H5 := hide (H4.out.trans hg5)
  clear hg5 H4 HE4
  go_wp2_with fail
  go_ret
  exact ⟨rfl, H5.out⟩

end Go.Proofs.Ytjdbhogobbbcpaa
