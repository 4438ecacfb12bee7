/-
  The walk of 'KeyAll'.
-/
import Derived.Test.YtkibbggiepggbaaKeyBegun
namespace Go.Proofs.Ytkibbggiepggbaa
open Go.RowKit KeyMath

def YesAll (w : World) (e : Ending) (w' : World) : Prop := e = .returned (.bool true) ∧ Gr w w'
theorem take_more {ss : List ByteArray} {k : Nat} (hlt : k < ss.length) : ∀ s, s ∈ ss.take (k + 1) → s ∈ ss.take k ∨ s = ss.getD k nothing := by
  intro s h
  rw [List.take_succ_eq_append_getElem hlt, List.mem_append, List.mem_singleton] at h
  rw [List.getD_eq_getElem?_getD, List.getElem?_eq_getElem hlt]
  exact h

set_option maxRecDepth 100000 in
set_option maxHeartbeats 400000 in
theorem walk_KeyAll (w : World) (k : ByteArray) (_ : k.size ≤ maxLen) (f : ByteArray) (_ : f.size ≤ maxLen) (t : ByteArray) (_ : t.size ≤ maxLen) (n : Int) (hn : (Lit.int .i64 n).wf = true) (A : Option Addr) (m c : Nat) (ss : List ByteArray) (hm : m = ss.length) (hss : Strs w A c ss) :
    Calls Try.prog 3 #[.string k, .string f, .string t, .int .i64 n, .slice A m c] w (YesAll w) := by
  have hn2 : -9223372036854775808 ≤ n ∧ n ≤ 9223372036854775807 := by simpa [Lit.wf, IntKind.min, IntKind.max, IntKind.signed, IntKind.bits] using hn
  subst hm
  have HN := hide hn2
  clear hn hn2
  by_cases h1 : (20 : Int) < (k.size : Int)
  · have d1 : decide ((20 : Int) < (k.size : Int)) = true := by rw [decide_eq_true_eq]; exact h1
    clear h1
    go_enter Try.func3, Try.ntmps3
    go_wp2_with fail
    refine (begun_ok _).mono ?_
    rintro e w1 ⟨rfl, hg1⟩
    go_wp2_with fail
    go_ret
    exact ⟨rfl, hg1⟩
  · have d1 : decide ((20 : Int) < (k.size : Int)) = false := by rw [decide_eq_false_iff_not]; exact h1
    by_cases h2 : (20 : Int) < (f.size : Int)
    · have d2 : decide ((20 : Int) < (f.size : Int)) = true := by rw [decide_eq_true_eq]; exact h2
      clear h1 h2
      go_enter Try.func3, Try.ntmps3
      go_wp2_with fail
      refine (begun_ok _).mono ?_
      rintro e w1 ⟨rfl, hg1⟩
      go_wp2_with fail
      go_ret
      exact ⟨rfl, hg1⟩
    · have d2 : decide ((20 : Int) < (f.size : Int)) = false := by rw [decide_eq_false_iff_not]; exact h2
      by_cases h3 : (20 : Int) < (t.size : Int)
      · have d3 : decide ((20 : Int) < (t.size : Int)) = true := by rw [decide_eq_true_eq]; exact h3
        clear h1 h2 h3
        go_enter Try.func3, Try.ntmps3
        go_wp2_with fail
        refine (begun_ok _).mono ?_
        rintro e w1 ⟨rfl, hg1⟩
        go_wp2_with fail
        go_ret
        exact ⟨rfl, hg1⟩
      · have d3 : decide ((20 : Int) < (t.size : Int)) = false := by rw [decide_eq_false_iff_not]; exact h3
        by_cases h4 : (8 : Int) < (ss.length : Int)
        · have d4 : decide ((8 : Int) < (ss.length : Int)) = true := by rw [decide_eq_true_eq]; exact h4
          clear h1 h2 h3 h4
          go_enter Try.func3, Try.ntmps3
          go_wp2_with fail
          refine (begun_ok _).mono ?_
          rintro e w1 ⟨rfl, hg1⟩
          go_wp2_with fail
          go_ret
          exact ⟨rfl, hg1⟩
        · have d4 : decide ((8 : Int) < (ss.length : Int)) = false := by rw [decide_eq_false_iff_not]; exact h4
          go_enter Try.func3, Try.ntmps3
          go_wp2_with fail
          refine (begun_ok _).mono ?_
          rintro e w1 ⟨rfl, hg1⟩
          replace hss := hss.gr hg1
          go_wp2_with fail
          go_loop [11] (fun i => ∃ j : Nat, i = .int .i64 j ∧ j ≤ ss.length ∧ Hid (∀ s ∈ ss.take j, (s.size : Int) ≤ 20)) (fun i => ss.length - (intOf i).toNat)
          case atStart => exact ⟨0, rfl, by omega, fun _ h => by simp at h⟩
          case round =>
            obtain ⟨j, rfl, hj, h20⟩ := hrel
            by_cases hlt : j < ss.length
            · have hlt' : (j : Int) < (ss.length : Int) := by omega
              obtain ⟨ad, rfl, hcell⟩ := hss.at_ j hlt
              have hmo := hide (take_more hlt)
              obtain ⟨x, hx⟩ : ∃ x, ss.getD j nothing = x := ⟨_, rfl⟩
              rw [hx] at hcell hmo
              clear hx
              by_cases hb : (20 : Int) < (x.size : Int)
              · have dx : decide ((20 : Int) < (x.size : Int)) = true := by rw [decide_eq_true_eq]; exact hb
                go_wp2_with fail
                go_ret
                exact ⟨rfl, hg1⟩
              · have dx : decide ((20 : Int) < (x.size : Int)) = false := by rw [decide_eq_false_iff_not]; exact hb
                go_wp2_with fail
                go_round
                case rel => exact ⟨j + 1, by go_num, by omega, fun s h => by rcases hmo.out s h with h | rfl; exact h20.out s h; omega⟩
                case measure => simp [intOf]; omega
            · obtain rfl : j = ss.length := by omega
              have hall := h20.out
              rw [List.take_length] at hall
              have H2 := hide (fun s hs => show ((s : ByteArray).size : Int) ≤ 1000000 from by have := hall s hs; omega)
              clear h20 hlt hj hall
              go_wp2_with fail
              refine (May_ok k (by omega) _).mono ?_
              rintro e w2 ⟨rfl, hg2⟩
              go_wp2_with fail
              refine (RefMay_ok k (by omega) _).mono ?_
              rintro e w3 ⟨rfl, rfl⟩
              generalize mayK k = b1
              go_wp2_with fail
              refine (Shard_ok k (by omega) n HN.out.1 HN.out.2 _).mono ?_
              rintro e w4 ⟨rfl, hg4⟩
              go_wp2_with fail
              refine (RefShard_ok k (by omega) n HN.out.1 HN.out.2 _).mono ?_
              rintro e w5 ⟨rfl, rfl⟩
              generalize shardK k n = z1
              go_wp2_with fail
              refine (Within_ok k f t _).mono ?_
              rintro e w6 ⟨rfl, hg6⟩
              go_wp2_with fail
              refine (RefWithin_ok k f t _).mono ?_
              rintro e w7 ⟨rfl, rfl⟩
              generalize withinK k f t = b2
              go_wp2_with fail
              refine (Rising_ok A _ c ss rfl _ (hss.gr (hg2.trans (hg4.trans hg6))) H2.out (by omega)).mono ?_
              rintro e w8 ⟨rfl, hg8⟩
              go_wp2_with fail
              refine (RefRising_ok A _ c ss rfl _ (hss.gr (hg2.trans (hg4.trans (hg6.trans hg8)))) H2.out (by omega)).mono ?_
              rintro e w9 ⟨rfl, hg9⟩
              generalize risingK ss = b3
              have hgw := hide (hg1.trans (hg2.trans (hg4.trans (hg6.trans (hg8.trans hg9)))))
              go_wp2_with fail
              go_ret
              exact ⟨rfl, hgw.out⟩

end Go.Proofs.Ytkibbggiepggbaa
