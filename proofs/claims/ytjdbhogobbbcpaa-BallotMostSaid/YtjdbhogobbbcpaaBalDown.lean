/-
  container/heap's down, Push, Pop, by their contracts.
-/
import Derived.Test.YtjdbhogobbbcpaaBalUp
namespace Go.Proofs.Ytjdbhogobbbcpaa
open Go Go.RowKit BalMath
set_option maxRecDepth 100000

def DownPost (w0 : World) (g : Nat) (l : List Int) (n : Nat) (e : Ending) (w' : World) : Prop :=
  ∃ b, e = .returned (.bool b) ∧ ∃ l', HP w0 w' g l' ∧ Alike l l' ∧ Heap n l' ∧ ∀ q, n ≤ q → at_ l' q = at_ l q

set_option maxHeartbeats 2000000 in
theorem down_ok (w0 w : World) (g : Nat) (l : List Int) (n : Nat) (h : HP w0 w g l) (hn : n ≤ l.length) (hd : Down n l 0) (hl : l.length ≤ 1000000) :
    Calls Try.prog 31 #[hpV g, .int .i64 0, .int .i64 n] w (DownPost w0 g l n) := by
  have HH := hide h
  have HD0 := hide hd
  have hn6 : (n : Int) ≤ 1000000 := by omega
  clear h hd
  go_enter Try.func31, Try.ntmps31
  go_wp2_with fail
  go_loopw [7] (fun v wr => ∃ (k : Nat) (l' : List Int), v = .int .i64 k ∧ k ≤ 1000000 ∧ Hid (HP w0 wr g l') ∧ Hid (Down n l' k) ∧ Hid (Alike l l') ∧ Hid (∀ q, n ≤ q → at_ l' q = at_ l q)) (fun v _ => n - (intOf v).toNat)
  case atStart => exact ⟨0, l, rfl, by omega, HH, HD0, fun _ => rfl, fun _ _ => rfl⟩
  case round =>
    obtain ⟨k, l', rfl, hk6, HP', HD, HA, HT⟩ := hrel
    have hll := HA.out.len
    clear HD0
    by_cases h1 : n ≤ 2 * k + 1
    · have h1' : (n : Int) ≤ 2 * (k : Int) + 1 := by omega
      go_wp2_with fail
      go_ret
      exact ⟨_, rfl, l', HP'.out, HA.out, HD.out.none_ h1, HT.out⟩
    · have hkl : k < l'.length := by omega
      have h1' : 2 * (k : Int) + 1 < (n : Int) := by omega
      have hk0 : (0 : Int) ≤ (k : Int) := by omega
      have hj1 : 2 * k + 1 < l'.length := by omega
      by_cases h2 : n ≤ 2 * k + 2
      · have h2' : (n : Int) ≤ 2 * (k : Int) + 1 + 1 := by omega
        go_wp2_with fail
        obtain ⟨v, c0, hc⟩ := hLess_ok w0 wr g l' (2 * k + 1) k HP'.out hj1 hkl
        rw [← at_of hj1, ← at_of hkl] at hc
        have HC := hide hc
        rw [meth_less c0]
        clear hc c0
        go_wp2_with fail
        refine HC.out.mono ?_
        rintro e w4 ⟨rfl, hw4⟩
        have HW := hide hw4
        clear hw4 HC v HP'
        by_cases hlt : at_ l' (2 * k + 1) < at_ l' k
        · rw [decide_eq_true hlt]
          go_wp2_with fail
          obtain ⟨v, c0, hc⟩ := hSwap_ok w0 w4 g l' k (2 * k + 1) HW.out hkl hj1
          have HC := hide hc
          rw [meth_swap c0]
          clear hc c0
          go_wp2_with fail
          refine HC.out.mono ?_
          rintro e w5 ⟨rfl, hw5⟩
          rw [swap_eq hkl hj1] at hw5
          have H2 := hide hw5
          clear hw5 HC v HW
          go_wp2_with fail
          go_roundw
          case rel =>
            exact ⟨(2 * k + 1), swapI l' k (2 * k + 1), by go_num, by omega, H2, HD.out.step (by omega) (by omega) (by omega) (by omega) (fun q hq hqn hqk => by rw [show q = 2 * k + 1 by omega]; exact Int.le_refl _) hlt, fun p => by rw [cnt_swap p hkl hj1]; exact HA.out p, fun q hq => by rw [swapI_o (by omega) (by omega)]; exact HT.out q hq⟩
          case measure => simp [intOf]; omega
        · rw [decide_eq_false hlt]
          go_wp2_with fail
          go_ret
          exact ⟨_, rfl, l', HW.out, HA.out, HD.out.done (fun q hq hqn hqk => by rw [show q = 2 * k + 1 by omega]; omega), HT.out⟩
      · have h2' : 2 * (k : Int) + 1 + 1 < (n : Int) := by omega
        have hj2 : 2 * k + 1 + 1 < l'.length := by omega
        go_wp2_with fail
        obtain ⟨v, c0, hc⟩ := hLess_ok w0 wr g l' (2 * k + 1 + 1) (2 * k + 1) HP'.out hj2 hj1
        rw [← at_of hj1, ← at_of hj2] at hc
        have HC := hide hc
        rw [meth_less c0]
        clear hc c0
        go_wp2_with fail
        refine HC.out.mono ?_
        rintro e w3 ⟨rfl, hw3⟩
        have H3 := hide hw3
        clear hw3 HC v HP'
        by_cases hlr : at_ l' (2 * k + 1 + 1) < at_ l' (2 * k + 1)
        · rw [decide_eq_true hlr]
          go_wp2_with fail
          obtain ⟨v, c0, hc⟩ := hLess_ok w0 w3 g l' (2 * k + 1 + 1) k H3.out hj2 hkl
          rw [← at_of hj2, ← at_of hkl] at hc
          have HC := hide hc
          rw [meth_less c0]
          clear hc c0
          go_wp2_with fail
          refine HC.out.mono ?_
          rintro e w4 ⟨rfl, hw4⟩
          have HW := hide hw4
          clear hw4 HC v H3
          by_cases hlt : at_ l' (2 * k + 1 + 1) < at_ l' k
          · rw [decide_eq_true hlt]
            go_wp2_with fail
            obtain ⟨v, c0, hc⟩ := hSwap_ok w0 w4 g l' k (2 * k + 1 + 1) HW.out hkl hj2
            have HC := hide hc
            rw [meth_swap c0]
            clear hc c0
            go_wp2_with fail
            refine HC.out.mono ?_
            rintro e w5 ⟨rfl, hw5⟩
            rw [swap_eq hkl hj2] at hw5
            have H2 := hide hw5
            clear hw5 HC v HW
            go_wp2_with fail
            go_roundw
            case rel =>
              exact ⟨(2 * k + 1 + 1), swapI l' k (2 * k + 1 + 1), by go_num, by omega, H2, HD.out.step (by omega) (by omega) (by omega) (by omega) (fun q hq hqn hqk => by rcases (by omega : q = 2 * k + 1 ∨ q = 2 * k + 1 + 1) with e | e <;> rw [e] <;> omega) hlt, fun p => by rw [cnt_swap p hkl hj2]; exact HA.out p, fun q hq => by rw [swapI_o (by omega) (by omega)]; exact HT.out q hq⟩
            case measure => simp [intOf]; omega
          · rw [decide_eq_false hlt]
            go_wp2_with fail
            go_ret
            exact ⟨_, rfl, l', HW.out, HA.out, HD.out.done (fun q hq hqn hqk => by rcases (by omega : q = 2 * k + 1 ∨ q = 2 * k + 1 + 1) with e | e <;> rw [e] <;> omega), HT.out⟩
        · rw [decide_eq_false hlr]
          go_wp2_with fail
          obtain ⟨v, c0, hc⟩ := hLess_ok w0 w3 g l' (2 * k + 1) k H3.out hj1 hkl
          rw [← at_of hj1, ← at_of hkl] at hc
          have HC := hide hc
          rw [meth_less c0]
          clear hc c0
          go_wp2_with fail
          refine HC.out.mono ?_
          rintro e w4 ⟨rfl, hw4⟩
          have HW := hide hw4
          clear hw4 HC v H3
          by_cases hlt : at_ l' (2 * k + 1) < at_ l' k
          · rw [decide_eq_true hlt]
            go_wp2_with fail
            obtain ⟨v, c0, hc⟩ := hSwap_ok w0 w4 g l' k (2 * k + 1) HW.out hkl hj1
            have HC := hide hc
            rw [meth_swap c0]
            clear hc c0
            go_wp2_with fail
            refine HC.out.mono ?_
            rintro e w5 ⟨rfl, hw5⟩
            rw [swap_eq hkl hj1] at hw5
            have H2 := hide hw5
            clear hw5 HC v HW
            go_wp2_with fail
            go_roundw
            case rel =>
              exact ⟨(2 * k + 1), swapI l' k (2 * k + 1), by go_num, by omega, H2, HD.out.step (by omega) (by omega) (by omega) (by omega) (fun q hq hqn hqk => by rcases (by omega : q = 2 * k + 1 ∨ q = 2 * k + 1 + 1) with e | e <;> rw [e] <;> omega) hlt, fun p => by rw [cnt_swap p hkl hj1]; exact HA.out p, fun q hq => by rw [swapI_o (by omega) (by omega)]; exact HT.out q hq⟩
            case measure => simp [intOf]; omega
          · rw [decide_eq_false hlt]
            go_wp2_with fail
            go_ret
            exact ⟨_, rfl, l', HW.out, HA.out, HD.out.done (fun q hq hqn hqk => by rcases (by omega : q = 2 * k + 1 ∨ q = 2 * k + 1 + 1) with e | e <;> rw [e] <;> omega), HT.out⟩

def PushPost (w0 : World) (g : Nat) (l : List Int) (x : Int) (e : Ending) (w' : World) : Prop :=
  e = .returned (.tuple #[]) ∧ ∃ l', HP w0 w' g l' ∧ Heap l'.length l' ∧ ∀ p, cnt p l' = cnt p l + one p x

set_option maxHeartbeats 1000000 in
theorem HeapPush_ok (w0 w : World) (g : Nat) (l : List Int) (x : Int) (h : HP w0 w g l) (hh : Heap l.length l) (hl : l.length ≤ 900000) :
    Calls Try.prog 22 #[hpV g, .iface 3 (iv x)] w (PushPost w0 g l x) := by
  have HU := hide (Up.start hh x)
  have HC := hide (hPush_ok w0 w g l x h (by omega))
  have hlen : (l ++ [x]).length = l.length + 1 := by simp
  clear h hh
  go_enter Try.func22, Try.ntmps22
  go_wp2_with fail
  rw [meth_push]
  go_wp2_with fail
  refine HC.out.mono ?_
  rintro e w1 ⟨rfl, hw1⟩
  have H1 := hide hw1
  clear hw1 HC
  go_wp2_with fail
  obtain ⟨v, c0, hc⟩ := hLen_ok w0 w1 g _ H1.out
  have HC := hide hc
  rw [meth_len c0]
  clear hc c0
  go_wp2_with fail
  refine HC.out.mono ?_
  rintro e w2 ⟨rfl, rfl⟩
  clear HC v
  have e1 : ((l.length : Int) + 1) - 1 = (l.length : Int) := by omega
  have HC2 := hide (up_ok w0 w2 g (l ++ [x]) l.length H1.out (by omega) HU.out (by omega))
  rw [hlen]
  clear H1 hlen
  go_wp2_with fail
  refine HC2.out.mono ?_
  rintro e w3 ⟨rfl, l', h1, h2, h3⟩
  have HE : Hid (PushPost w0 g l x (.returned (.tuple #[])) w3) := ⟨rfl, l', h1, h3, fun p => by rw [h2 p, cnt_push]⟩
  clear h1 h2 h3 HC2 HU
  go_wp2_with fail
  go_end0
  exact HE.out

def PopPost (w0 : World) (g : Nat) (l : List Int) (e : Ending) (w' : World) : Prop :=
  ∃ u, e = .returned u ∧ ∃ l', HP w0 w' g l' ∧ Heap l'.length l' ∧ ∀ p, cnt p l = cnt p l' + one p (at_ l 0)

set_option maxHeartbeats 1000000 in
theorem HeapPop_ok (w0 w : World) (g : Nat) (l : List Int) (k : Nat) (h : HP w0 w g l) (hh : Heap l.length l) (hk : l.length = k + 1) (hl : l.length ≤ 900000) :
    Calls Try.prog 24 #[hpV g] w (PopPost w0 g l) := by
  have HD := hide (Down.start hh hk)
  have hk0 : 0 < l.length := by omega
  have hkl : k < l.length := by omega
  have H0 := hide h
  have e1 : ((k + 1 : Nat) : Int) - 1 = (k : Int) := by omega
  clear h hh
  go_enter Try.func24, Try.ntmps24
  go_wp2_with fail
  obtain ⟨v, c0, hc⟩ := hLen_ok w0 w g _ H0.out
  rw [hk] at hc
  have HC := hide hc
  rw [meth_len c0]
  clear hc c0
  go_wp2_with fail
  refine HC.out.mono ?_
  rintro e w1 ⟨rfl, rfl⟩
  clear HC v
  go_wp2_with fail
  obtain ⟨v, c0, hc⟩ := hSwap_ok w0 w1 g l 0 k H0.out hk0 hkl
  have HC := hide hc
  rw [meth_swap c0]
  clear hc c0
  go_wp2_with fail
  refine HC.out.mono ?_
  rintro e w2 ⟨rfl, hw2⟩
  rw [swap_eq hk0 hkl] at hw2
  have HC2 := hide (down_ok w0 w2 g (swapI l 0 k) k hw2 (by rw [swapI_len]; omega) HD.out (by rw [swapI_len]; omega))
  clear HC v hw2
  go_wp2_with fail
  refine HC2.out.mono ?_
  rintro e w3 ⟨b, rfl, l', h1, h2, h3, h4⟩
  have hl' : l'.length = k + 1 := by rw [h2.len, swapI_len, hk]
  have HC3 := hide (hPop_ok w0 w3 g l' k h1 hl')
  have HR : Hid (Heap (l'.take k).length (l'.take k) ∧ ∀ p, cnt p l = cnt p (l'.take k) + one p (at_ l 0)) := by
    refine ⟨by rw [List.length_take, hl', Nat.min_eq_left (by omega)]; exact h3.front, fun p => ?_⟩
    rw [← cnt_swap p hk0 hkl, ← h2 p, cnt_front p hl', h4 k (Nat.le_refl _), swapI_r hkl]
  clear h1 h2 h3 h4 HC2 HD
  generalize l'[k]'(by omega) = y at HC3
  go_wp2_with fail
  rw [meth_pop]
  go_wp2_with fail
  refine HC3.out.mono ?_
  rintro e w4 ⟨rfl, hw4⟩
  have HE : Hid (PopPost w0 g l (.returned (.iface 3 (iv y))) w4) := ⟨_, rfl, _, hw4, HR.out.1, HR.out.2⟩
  clear hw4 HC3
  unfold iv at *
  go_wp2_with fail
  go_ret
  exact HE.out

end Go.Proofs.Ytjdbhogobbbcpaa
