/-
  key's May, Shard, Within, Rising by their contracts.
-/
import Derived.Test.YtkibbggiepggbaaKeyEach
namespace Go.Proofs.Ytkibbggiepggbaa
open Go.RowKit KeyMath

set_option maxHeartbeats 400000 in
theorem May_ok (s : ByteArray) (hs : (s.size : Int) ≤ 281474976710656) (w : World) : Calls Try.prog 8 #[.string s] w fun e w' => e = .returned (.bool (mayK s)) ∧ Gr w w' := by
  go_enter Try.func8, Try.ntmps8
  go_wp2_with fail
  refine (NameMay_ok s hs _).mono ?_
  rintro e w1 ⟨rfl, hg1⟩
  go_wp2_with fail
  go_ret
  exact ⟨rfl, hg1⟩

set_option maxHeartbeats 400000 in
theorem Shard_ok (s : ByteArray) (hs : (s.size : Int) ≤ 1000000) (n : Int) (h0 : -9223372036854775808 ≤ n) (h1 : n ≤ 9223372036854775807) (w : World) : Calls Try.prog 10 #[.string s, .int .i64 n] w fun e w' => e = .returned (.int .i64 (shardK s n)) ∧ Gr w w' := by
  by_cases hn : n < 1
  · have d1 : decide (n < 1) = true := by rw [decide_eq_true_eq]; exact hn
    have hz : shardK s n = 0 := by unfold shardK; rw [if_pos hn]
    rw [hz]
    go_enter Try.func10, Try.ntmps10
    go_wp2_with fail
    go_ret
    exact ⟨rfl, Gr.refl _⟩
  · have d1 : decide (n < 1) = false := by rw [decide_eq_false_iff_not]; exact hn
    obtain ⟨m, rfl⟩ := Int.eq_ofNat_of_zero_le (show 0 ≤ n by omega)
    have hz : shardK s m = ((sumB s.data.toList % m : Nat) : Int) := by unfold shardK; rw [if_neg hn, Int.natCast_emod]
    have hle := sumB_le s.data.toList
    rw [list_size] at hle
    rw [hz]
    have hm0 : ¬ ((m : Int) = 0) := by omega
    have hS := hide (NameSum_ok s hs)
    generalize sumB s.data.toList = y at hS hle ⊢
    clear hz
    go_enter Try.func10, Try.ntmps10
    go_wp2_with fail
    refine (hS.out _).mono ?_
    rintro e w1 ⟨rfl, hg1⟩
    go_wp2_with fail
    go_ret
    exact ⟨rfl, hg1⟩

set_option maxHeartbeats 400000 in
theorem Within_ok (k f t : ByteArray) (w : World) : Calls Try.prog 12 #[.string k, .string f, .string t] w fun e w' => e = .returned (.bool (withinK k f t)) ∧ Gr w w' := by
  have hb : leK f k = !ltK k f := by rw [← not_le, Bool.not_not]
  have hw : withinK k f t = (!ltK k f && (t.toList.isEmpty || ltK k t)) := by unfold withinK; rw [hb]
  rw [hw]
  have H1 := hide (NameBelow_ok k f)
  have H2 := hide (NameBelow_ok k t)
  clear hb hw
  cases h1 : ltK k f
  · rw [h1] at H1
    clear h1
    cases h2 : t.toList.isEmpty
    · have h2' : ¬ t.toList = [] := by
        intro h
        rw [h] at h2
        cases h2
      go_enter Try.func12, Try.ntmps12
      go_wp2_with fail
      refine (H1.out _).mono ?_
      rintro e w1 ⟨rfl, rfl⟩
      go_wp2_with fail
      refine (H2.out _).mono ?_
      rintro e w2 ⟨rfl, rfl⟩
      go_wp2_with fail
      go_ret
      exact ⟨rfl, Gr.refl _⟩
    · have h2' : t.toList = [] := by simpa using h2
      go_enter Try.func12, Try.ntmps12
      go_wp2_with fail
      refine (H1.out _).mono ?_
      rintro e w1 ⟨rfl, rfl⟩
      go_wp2_with fail
      go_ret
      exact ⟨rfl, Gr.refl _⟩
  · rw [h1] at H1
    clear h1
    go_enter Try.func12, Try.ntmps12
    go_wp2_with fail
    refine (H1.out _).mono ?_
    rintro e w1 ⟨rfl, rfl⟩
    go_wp2_with fail
    go_ret
    exact ⟨rfl, Gr.refl _⟩

set_option maxHeartbeats 400000 in
theorem Rising_ok (A : Option Addr) (n c : Nat) (ss : List ByteArray) (hn : n = ss.length) (w : World) (hss : Strs w A c ss) (hm : ∀ s ∈ ss, (s.size : Int) ≤ 1000000) (hmax : (ss.length : Int) ≤ 1000000) :
    Calls Try.prog 14 #[.slice A n c] w fun e w' => e = .returned (.bool (risingK ss)) ∧ Gr w w' := by
  subst hn
  rw [rising_split]
  have H1 := hide (EachMay_ok A _ c ss rfl w hss hm hmax)
  cases h1 : ss.all mayK
  · rw [h1] at H1
    go_enter Try.func14, Try.ntmps14
    go_wp2_with fail
    refine H1.out.mono ?_
    rintro e w1 ⟨rfl, hg1⟩
    go_wp2_with fail
    go_ret
    exact ⟨rfl, hg1⟩
  · rw [h1] at H1
    go_enter Try.func14, Try.ntmps14
    go_wp2_with fail
    refine H1.out.mono ?_
    rintro e w1 ⟨rfl, hg1⟩
    go_wp2_with fail
    refine (EachTwoBelow_ok A _ c ss rfl _ (hss.gr hg1) hmax).mono ?_
    rintro e w2 ⟨rfl, hg2⟩
    go_wp2_with fail
    go_ret
    exact ⟨rfl, hg1.trans hg2⟩

end Go.Proofs.Ytkibbggiepggbaa
