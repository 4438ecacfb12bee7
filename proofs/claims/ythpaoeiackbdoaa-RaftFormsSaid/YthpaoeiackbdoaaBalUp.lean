/-
  container/heap's up, by its contract.
-/
import Derived.Test.YthpaoeiackbdoaaBalDisp
import Derived.Test.YthpaoeiackbdoaaBalMath
namespace Go.Proofs.Ythpaoeiackbdoaa
open Go Go.RowKit BalMath
set_option maxRecDepth 100000

theorem swap_eq {l : List Int} {i j : Nat} (hi : i < l.length) (hj : j < l.length) : swapL l i j = swapI l i j := by
  rw [swapL_eq hi hj]
  unfold swapI
  rw [at_of hi, at_of hj]

/-- as many of each kind -/
def Alike (l l' : List Int) : Prop := ∀ p, cnt p l' = cnt p l
theorem Alike.len {l l' : List Int} (h : Alike l l') : l'.length = l.length := by rw [len_cnt, h, ← len_cnt]

def UpPost (w0 : World) (g : Nat) (l : List Int) (e : Ending) (w' : World) : Prop := e = .returned (.tuple #[]) ∧ ∃ l', HP w0 w' g l' ∧ Alike l l' ∧ Heap l'.length l'

set_option maxHeartbeats 1000000 in
theorem up_ok (w0 w : World) (g : Nat) (l : List Int) (j : Nat) (h : HP w0 w g l) (hj : j < l.length) (hu : Up l j) (hl : l.length ≤ 1000000) :
    Calls Try.prog 95 #[hpV g, .int .i64 j] w (UpPost w0 g l) := by
  have HH := hide h
  have HU := hide hu
  clear h hu
  go_enter Try.func95, Try.ntmps95
  go_wp2_with fail
  go_loopw [1] (fun v wr => ∃ (k : Nat) (l' : List Int), v = .int .i64 k ∧ k < l'.length ∧ Hid (HP w0 wr g l') ∧ Hid (Up l' k) ∧ Hid (Alike l l')) (fun v _ => (intOf v).toNat)
  case atStart => exact ⟨j, l, rfl, hj, HH, HU, fun _ => rfl⟩
  case round =>
    obtain ⟨k, l', rfl, hk, HP', HU', HA⟩ := hrel
    rcases Nat.eq_zero_or_pos k with rfl | h0
    · go_wp2_with fail
      go_end0
      exact ⟨rfl, l', HP'.out, HA.out, HU'.out.done (.inl rfl)⟩
    · obtain ⟨i, hi⟩ : ∃ i, (k - 1) / 2 = i := ⟨_, rfl⟩
      have hil : i < l'.length := by omega
      have e1 : ((k : Int) - 1).tdiv 2 = (i : Int) := by rw [Int.tdiv_eq_ediv_of_nonneg (by omega)]; omega
      have e2 : ((i : Int) == (k : Int)) = false := by rw [beq_eq_false_iff_ne]; omega
      have hk6 : (k : Int) ≤ 1000000 := by have := HA.out.len; omega
      go_wp2_with fail
      obtain ⟨v, c0, hc⟩ := hLess_ok w0 wr g l' k i HP'.out hk hil
      rw [← at_of hk, ← at_of hil] at hc
      have HC := hide hc
      rw [meth_less c0]
      clear hc c0
      go_wp2_with fail
      refine HC.out.mono ?_
      rintro e w1 ⟨rfl, hw1⟩
      have HW := hide hw1
      clear hw1 HC HP' v
      by_cases hlt : at_ l' k < at_ l' i
      · rw [decide_eq_true hlt]
        go_wp2_with fail
        obtain ⟨v, c0, hc⟩ := hSwap_ok w0 w1 g l' i k HW.out hil hk
        have HC := hide hc
        rw [meth_swap c0]
        clear hc c0
        go_wp2_with fail
        refine HC.out.mono ?_
        rintro e w2 ⟨rfl, hw2⟩
        rw [swap_eq hil hk] at hw2
        have H2 := hide hw2
        clear hw2
        go_wp2_with fail
        go_roundw
        case rel =>
          exact ⟨i, swapI l' i k, rfl, by rw [swapI_len]; exact hil, H2, HU'.out.step hk h0 hi.symm hlt, fun p => by rw [cnt_swap p hil hk]; exact HA.out p⟩
        case measure => simp [intOf]; omega
      · rw [decide_eq_false hlt]
        go_wp2_with fail
        go_end0
        exact ⟨rfl, l', HW.out, HA.out, HU'.out.done (.inr (by rw [hi]; omega))⟩

end Go.Proofs.Ythpaoeiackbdoaa

/-
  container/heap's down, Push, Pop, by their contracts.
-/
namespace Go.Proofs.Ythpaoeiackbdoaa
open Go Go.RowKit BalMath
set_option maxRecDepth 100000

def DownPost (w0 : World) (g : Nat) (l : List Int) (n : Nat) (e : Ending) (w' : World) : Prop :=
  ∃ b, e = .returned (.bool b) ∧ ∃ l', HP w0 w' g l' ∧ Alike l l' ∧ Heap n l' ∧ ∀ q, n ≤ q → at_ l' q = at_ l q

set_option maxHeartbeats 2000000 in
theorem down_ok (w0 w : World) (g : Nat) (l : List Int) (n : Nat) (h : HP w0 w g l) (hn : n ≤ l.length) (hd : Down n l 0) (hl : l.length ≤ 1000000) :
    Calls Try.prog 96 #[hpV g, .int .i64 0, .int .i64 n] w (DownPost w0 g l n) := by
  have HH := hide h
  have HD0 := hide hd
  have hn6 : (n : Int) ≤ 1000000 := by omega
  clear h hd
  go_enter Try.func96, Try.ntmps96
  go_wp2_with fail
  go_loopw [7] (fun v wr => ∃ (k : Nat) (l' : List Int), v = .int .i64 k ∧ k ≤ 1000000 ∧ Hid (HP w0 wr g l') ∧ Hid (Down n l' k) ∧ Hid (Alike l l') ∧ Hid (∀ q, n ≤ q → at_ l' q = at_ l q)) (fun v _ => n - (intOf v).toNat)
  case atStart => exact ⟨0, l, rfl, by omega, HH, HD0, fun _ => rfl, fun _ _ => rfl⟩
  case round =>
    obtain ⟨k, l', rfl, hk6, HP', HD, HA, HT⟩ := hrel
    have hll := HA.out.len
    clear HD0
    by_cases h1 : n ≤ 2 * k + 1
    · have h1' : (n : Int) ≤ 2 * (k : Int) + 1 := by omega
      go_wp2_with fail
      go_ret
      exact ⟨_, rfl, l', HP'.out, HA.out, HD.out.none_ h1, HT.out⟩
    · have hkl : k < l'.length := by omega
      have h1' : 2 * (k : Int) + 1 < (n : Int) := by omega
      have hk0 : (0 : Int) ≤ (k : Int) := by omega
      have hj1 : 2 * k + 1 < l'.length := by omega
      by_cases h2 : n ≤ 2 * k + 2
      · have h2' : (n : Int) ≤ 2 * (k : Int) + 1 + 1 := by omega
        go_wp2_with fail
        obtain ⟨v, c0, hc⟩ := hLess_ok w0 wr g l' (2 * k + 1) k HP'.out hj1 hkl
        rw [← at_of hj1, ← at_of hkl] at hc
        have HC := hide hc
        rw [meth_less c0]
        clear hc c0
        go_wp2_with fail
        refine HC.out.mono ?_
        rintro e w4 ⟨rfl, hw4⟩
        have HW := hide hw4
        clear hw4 HC v HP'
        by_cases hlt : at_ l' (2 * k + 1) < at_ l' k
        · rw [decide_eq_true hlt]
          go_wp2_with fail
          obtain ⟨v, c0, hc⟩ := hSwap_ok w0 w4 g l' k (2 * k + 1) HW.out hkl hj1
          have HC := hide hc
          rw [meth_swap c0]
          clear hc c0
          go_wp2_with fail
          refine HC.out.mono ?_
          rintro e w5 ⟨rfl, hw5⟩
          rw [swap_eq hkl hj1] at hw5
          have H2 := hide hw5
          clear hw5 HC v HW
          go_wp2_with fail
          go_roundw
          case rel =>
            exact ⟨(2 * k + 1), swapI l' k (2 * k + 1), by go_num, by omega, H2, HD.out.step (by omega) (by omega) (by omega) (by omega) (fun q hq hqn hqk => by rw [show q = 2 * k + 1 by omega]; exact Int.le_refl _) hlt, fun p => by rw [cnt_swap p hkl hj1]; exact HA.out p, fun q hq => by rw [swapI_o (by omega) (by omega)]; exact HT.out q hq⟩
          case measure => simp [intOf]; omega
        · rw [decide_eq_false hlt]
          go_wp2_with fail
          go_ret
          exact ⟨_, rfl, l', HW.out, HA.out, HD.out.done (fun q hq hqn hqk => by rw [show q = 2 * k + 1 by omega]; omega), HT.out⟩
      · have h2' : 2 * (k : Int) + 1 + 1 < (n : Int) := by omega
        have hj2 : 2 * k + 1 + 1 < l'.length := by omega
        go_wp2_with fail
        obtain ⟨v, c0, hc⟩ := hLess_ok w0 wr g l' (2 * k + 1 + 1) (2 * k + 1) HP'.out hj2 hj1
        rw [← at_of hj1, ← at_of hj2] at hc
        have HC := hide hc
        rw [meth_less c0]
        clear hc c0
        go_wp2_with fail
        refine HC.out.mono ?_
        rintro e w3 ⟨rfl, hw3⟩
        have H3 := hide hw3
        clear hw3 HC v HP'
        by_cases hlr : at_ l' (2 * k + 1 + 1) < at_ l' (2 * k + 1)
        · rw [decide_eq_true hlr]
          go_wp2_with fail
          obtain ⟨v, c0, hc⟩ := hLess_ok w0 w3 g l' (2 * k + 1 + 1) k H3.out hj2 hkl
          rw [← at_of hj2, ← at_of hkl] at hc
          have HC := hide hc
          rw [meth_less c0]
          clear hc c0
          go_wp2_with fail
          refine HC.out.mono ?_
          rintro e w4 ⟨rfl, hw4⟩
          have HW := hide hw4
          clear hw4 HC v H3
          by_cases hlt : at_ l' (2 * k + 1 + 1) < at_ l' k
          · rw [decide_eq_true hlt]
            go_wp2_with fail
            obtain ⟨v, c0, hc⟩ := hSwap_ok w0 w4 g l' k (2 * k + 1 + 1) HW.out hkl hj2
            have HC := hide hc
            rw [meth_swap c0]
            clear hc c0
            go_wp2_with fail
            refine HC.out.mono ?_
            rintro e w5 ⟨rfl, hw5⟩
            rw [swap_eq hkl hj2] at hw5
            have H2 := hide hw5
            clear hw5 HC v HW
            go_wp2_with fail
            go_roundw
            case rel =>
              exact ⟨(2 * k + 1 + 1), swapI l' k (2 * k + 1 + 1), by go_num, by omega, H2, HD.out.step (by omega) (by omega) (by omega) (by omega) (fun q hq hqn hqk => by rcases (by omega : q = 2 * k + 1 ∨ q = 2 * k + 1 + 1) with e | e <;> rw [e] <;> omega) hlt, fun p => by rw [cnt_swap p hkl hj2]; exact HA.out p, fun q hq => by rw [swapI_o (by omega) (by omega)]; exact HT.out q hq⟩
            case measure => simp [intOf]; omega
          · rw [decide_eq_false hlt]
            go_wp2_with fail
            go_ret
            exact ⟨_, rfl, l', HW.out, HA.out, HD.out.done (fun q hq hqn hqk => by rcases (by omega : q = 2 * k + 1 ∨ q = 2 * k + 1 + 1) with e | e <;> rw [e] <;> omega), HT.out⟩
        · rw [decide_eq_false hlr]
          go_wp2_with fail
          obtain ⟨v, c0, hc⟩ := hLess_ok w0 w3 g l' (2 * k + 1) k H3.out hj1 hkl
          rw [← at_of hj1, ← at_of hkl] at hc
          have HC := hide hc
          rw [meth_less c0]
          clear hc c0
          go_wp2_with fail
          refine HC.out.mono ?_
          rintro e w4 ⟨rfl, hw4⟩
          have HW := hide hw4
          clear hw4 HC v H3
          by_cases hlt : at_ l' (2 * k + 1) < at_ l' k
          · rw [decide_eq_true hlt]
            go_wp2_with fail
            obtain ⟨v, c0, hc⟩ := hSwap_ok w0 w4 g l' k (2 * k + 1) HW.out hkl hj1
            have HC := hide hc
            rw [meth_swap c0]
            clear hc c0
            go_wp2_with fail
            refine HC.out.mono ?_
            rintro e w5 ⟨rfl, hw5⟩
            rw [swap_eq hkl hj1] at hw5
            have H2 := hide hw5
            clear hw5 HC v HW
            go_wp2_with fail
            go_roundw
            case rel =>
              exact ⟨(2 * k + 1), swapI l' k (2 * k + 1), by go_num, by omega, H2, HD.out.step (by omega) (by omega) (by omega) (by omega) (fun q hq hqn hqk => by rcases (by omega : q = 2 * k + 1 ∨ q = 2 * k + 1 + 1) with e | e <;> rw [e] <;> omega) hlt, fun p => by rw [cnt_swap p hkl hj1]; exact HA.out p, fun q hq => by rw [swapI_o (by omega) (by omega)]; exact HT.out q hq⟩
            case measure => simp [intOf]; omega
          · rw [decide_eq_false hlt]
            go_wp2_with fail
            go_ret
            exact ⟨_, rfl, l', HW.out, HA.out, HD.out.done (fun q hq hqn hqk => by rcases (by omega : q = 2 * k + 1 ∨ q = 2 * k + 1 + 1) with e | e <;> rw [e] <;> omega), HT.out⟩

def PushPost (w0 : World) (g : Nat) (l : List Int) (x : Int) (e : Ending) (w' : World) : Prop :=
  e = .returned (.tuple #[]) ∧ ∃ l', HP w0 w' g l' ∧ Heap l'.length l' ∧ ∀ p, cnt p l' = cnt p l + one p x

set_option maxHeartbeats 1000000 in
theorem HeapPush_ok (w0 w : World) (g : Nat) (l : List Int) (x : Int) (h : HP w0 w g l) (hh : Heap l.length l) (hl : l.length ≤ 900000) :
    Calls Try.prog 92 #[hpV g, .iface 3 (iv x)] w (PushPost w0 g l x) := by
  have HU := hide (Up.start hh x)
  have HC := hide (hPush_ok w0 w g l x h (by omega))
  have hlen : (l ++ [x]).length = l.length + 1 := by simp
  clear h hh
  go_enter Try.func92, Try.ntmps92
  go_wp2_with fail
  rw [meth_push]
  go_wp2_with fail
  refine HC.out.mono ?_
  rintro e w1 ⟨rfl, hw1⟩
  have H1 := hide hw1
  clear hw1 HC
  go_wp2_with fail
  obtain ⟨v, c0, hc⟩ := hLen_ok w0 w1 g _ H1.out
  have HC := hide hc
  rw [meth_len c0]
  clear hc c0
  go_wp2_with fail
  refine HC.out.mono ?_
  rintro e w2 ⟨rfl, rfl⟩
  clear HC v
  have e1 : ((l.length : Int) + 1) - 1 = (l.length : Int) := by omega
  have HC2 := hide (up_ok w0 w2 g (l ++ [x]) l.length H1.out (by omega) HU.out (by omega))
  rw [hlen]
  clear H1 hlen
  go_wp2_with fail
  refine HC2.out.mono ?_
  rintro e w3 ⟨rfl, l', h1, h2, h3⟩
  have HE : Hid (PushPost w0 g l x (.returned (.tuple #[])) w3) := ⟨rfl, l', h1, h3, fun p => by rw [h2 p, cnt_push]⟩
  clear h1 h2 h3 HC2 HU
  go_wp2_with fail
  go_end0
  exact HE.out

def PopPost (w0 : World) (g : Nat) (l : List Int) (e : Ending) (w' : World) : Prop :=
  ∃ u, e = .returned u ∧ ∃ l', HP w0 w' g l' ∧ Heap l'.length l' ∧ ∀ p, cnt p l = cnt p l' + one p (at_ l 0)

set_option maxHeartbeats 1000000 in
theorem HeapPop_ok (w0 w : World) (g : Nat) (l : List Int) (k : Nat) (h : HP w0 w g l) (hh : Heap l.length l) (hk : l.length = k + 1) (hl : l.length ≤ 900000) :
    Calls Try.prog 94 #[hpV g] w (PopPost w0 g l) := by
  have HD := hide (Down.start hh hk)
  have hk0 : 0 < l.length := by omega
  have hkl : k < l.length := by omega
  have H0 := hide h
  have e1 : ((k + 1 : Nat) : Int) - 1 = (k : Int) := by omega
  clear h hh
  go_enter Try.func94, Try.ntmps94
  go_wp2_with fail
  obtain ⟨v, c0, hc⟩ := hLen_ok w0 w g _ H0.out
  rw [hk] at hc
  have HC := hide hc
  rw [meth_len c0]
  clear hc c0
  go_wp2_with fail
  refine HC.out.mono ?_
  rintro e w1 ⟨rfl, rfl⟩
  clear HC v
  go_wp2_with fail
  obtain ⟨v, c0, hc⟩ := hSwap_ok w0 w1 g l 0 k H0.out hk0 hkl
  have HC := hide hc
  rw [meth_swap c0]
  clear hc c0
  go_wp2_with fail
  refine HC.out.mono ?_
  rintro e w2 ⟨rfl, hw2⟩
  rw [swap_eq hk0 hkl] at hw2
  have HC2 := hide (down_ok w0 w2 g (swapI l 0 k) k hw2 (by rw [swapI_len]; omega) HD.out (by rw [swapI_len]; omega))
  clear HC v hw2
  go_wp2_with fail
  refine HC2.out.mono ?_
  rintro e w3 ⟨b, rfl, l', h1, h2, h3, h4⟩
  have hl' : l'.length = k + 1 := by rw [h2.len, swapI_len, hk]
  have HC3 := hide (hPop_ok w0 w3 g l' k h1 hl')
  have HR : Hid (Heap (l'.take k).length (l'.take k) ∧ ∀ p, cnt p l = cnt p (l'.take k) + one p (at_ l 0)) := by
    refine ⟨by rw [List.length_take, hl', Nat.min_eq_left (by omega)]; exact h3.front, fun p => ?_⟩
    rw [← cnt_swap p hk0 hkl, ← h2 p, cnt_front p hl', h4 k (Nat.le_refl _), swapI_r hkl]
  clear h1 h2 h3 h4 HC2 HD
  generalize l'[k]'(by omega) = y at HC3
  go_wp2_with fail
  rw [meth_pop]
  go_wp2_with fail
  refine HC3.out.mono ?_
  rintro e w4 ⟨rfl, hw4⟩
  have HE : Hid (PopPost w0 g l (.returned (.iface 3 (iv y))) w4) := ⟨_, rfl, _, hw4, HR.out.1, HR.out.2⟩
  clear hw4 HC3
  unfold iv at *
  go_wp2_with fail
  go_ret
  exact HE.out

end Go.Proofs.Ythpaoeiackbdoaa

/-
  ballot's Majority, Many, Most, by their contracts.
-/
namespace Go.Proofs.Ythpaoeiackbdoaa
open Go Go.RowKit BalMath
set_option maxRecDepth 100000

theorem Majority_ok (n : Nat) (w : World) (hn : n ≤ 1000000000) : Calls Try.prog 28 #[.int .i64 n] w fun e w' => e = .returned (.int .i64 (majN n)) ∧ w' = w := by
  go_enter Try.func28, Try.ntmps28
  go_wp2_with fail
  go_ret
  exact ⟨by congr 2, rfl⟩

theorem many_more {l : List Bool} {k : Nat} (hk : k < l.length) : manyL (l.take (k + 1)) = manyL (l.take k) + (if l[k] then 1 else 0) := by
  unfold manyL
  rw [List.take_succ_eq_append_getElem hk, List.countP_append]
  simp [List.countP_cons]
theorem many_le (l : List Bool) : manyL l ≤ l.length := List.countP_le_length

theorem Many_ok (v : Value) (l : List Bool) (w : World) (hv : BoolsX w v l) (hl : l.length ≤ 1000000000) : Calls Try.prog 88 #[v] w fun e w' => e = .returned (.int .i64 (manyL l)) ∧ w' = w := by
  have HV := hide hv
  obtain ⟨A, c, rfl, _⟩ := hv.is
  clear hv
  go_enter Try.func88, Try.ntmps88
  go_wp2_with fail
  go_loopw [3, 8] (fun u v wr => ∃ k : Nat, v = .int .i64 k ∧ k ≤ l.length ∧ u = .int .i64 (manyL (l.take k)) ∧ wr = w) (fun _ v _ => l.length - (intOf v).toNat)
  case atStart => exact ⟨0, rfl, by omega, rfl, rfl⟩
  case round =>
    obtain ⟨k, rfl, hk, rfl, rfl⟩ := hrel
    have hml : manyL (l.take k) ≤ 1000000000 := Nat.le_trans (many_le _) (by simp; omega)
    by_cases hlt : k < l.length
    · have hlt' : (k : Int) < (l.length : Int) := by omega
      obtain ⟨A', c', e1, hc⟩ := HV.out.is
      injection e1 with e1 _ e2
      subst e1 e2
      obtain ⟨ad, rfl, c0⟩ := hc k hlt
      have hm := many_more hlt
      have HM := hide hm
      clear hm hc
      generalize manyL (l.take k) = q at *
      cases hb : l[k]
      · rw [hb] at c0
        go_wp2_with fail
        go_roundw
        case rel => exact ⟨k + 1, by go_num, by omega, by rw [HM.out, hb]; simp, trivial⟩
        case measure => simp [intOf]; omega
      · rw [hb] at c0
        go_wp2_with fail
        go_roundw
        case rel => exact ⟨k + 1, by go_num, by omega, by rw [HM.out, hb]; simp, trivial⟩
        case measure => simp [intOf]; omega
    · obtain rfl : k = l.length := by omega
      have hm : manyL (l.take l.length) = manyL l := by rw [List.take_length]
      rw [hm]
      clear hml hm
      go_wp2_with fail
      go_ret
      exact ⟨rfl, rfl⟩

/-- the empty heap -/
theorem HP.start (w : World) : HP w (w.alloc (.cells #[.slice none 0 0] 119)) w.heap.size [] :=
  ⟨⟨.slice none 0 0, Bl.new w _ _, OwnI.none_ _ _⟩, (Gr.refl w).alloc _, Nat.le_refl _⟩

theorem MostP.mem {l : List Int} {x : Int} (h : MostP l x) (hl : 0 < l.length) : x ∈ l := (h.2 hl).1

set_option maxHeartbeats 2000000 in
theorem Most_ok (v : Value) (l : List Int) (w : World) (hv : IntsX w v l) (hl : l.length ≤ 100000) (h0 : ∀ x ∈ l, 0 ≤ x) :
    Calls Try.prog 91 #[v] w fun e w' => ∃ x, e = .returned (.int .i64 x) ∧ MostP l x ∧ Gr w w' := by
  have HV := hide hv
  obtain ⟨A, c, rfl, hlc, _⟩ := hv.is
  clear hv
  rcases Nat.eq_zero_or_pos l.length with hz | hz
  · have hnil := List.eq_nil_of_length_eq_zero hz
    subst hnil
    clear hz hlc
    go_enter Try.func91, Try.ntmps91
    go_wp2_with fail
    go_ret
    exact ⟨0, rfl, ⟨rfl, fun h => by simp at h⟩, Gr.refl _⟩
  have hz' : ((l.length : Int) == 0) = false := by rw [beq_eq_false_iff_ne]; omega
  have HS := hide (HP.start w)
  have HSel := hide (Sel.nil (majN l.length))
  have HMJ := hide (show majN l.length = l.length / 2 + 1 from rfl)
  generalize majN l.length = mj at HSel HMJ
  go_enter Try.func91, Try.ntmps91
  go_wp2_with fail
  generalize w.alloc (.cells #[.slice none 0 0] 119) = wA at HS ⊢
  generalize w.heap.size = g at HS ⊢
  go_loopw [11] (fun v wr => ∃ (k : Nat) (h : List Int), v = .int .i64 k ∧ k ≤ l.length ∧ Hid (HP w wr g h) ∧ Hid (Sel (l.take k) h mj)) (fun v _ => l.length - (intOf v).toNat)
  case atStart => exact ⟨0, [], rfl, by omega, HS, by rw [List.take_zero]; exact HSel⟩
  case round =>
    obtain ⟨k, h, rfl, hk, HH, HL⟩ := hrel
    have hhl : h.length ≤ 100000 := by have := HL.out.len; simp at this; omega
    by_cases hlt : k < l.length
    · have hlt' : (k : Int) < (l.length : Int) := by omega
      obtain ⟨A', c', e1, _, hc⟩ := (HV.out.gr HH.out.gr).is
      injection e1 with e1 _ e2
      subst e1 e2
      obtain ⟨ad, rfl, c0⟩ := hc k hlt
      have HT := hide (List.take_succ_eq_append_getElem hlt)
      have HP1 := hide (HeapPush_ok w wr g h l[k] HH.out HL.out.heap (by omega))
      generalize l[k] = x at c0 HT HP1
      clear hc
      unfold iv at c0 HP1
      go_wp2_with fail
      refine HP1.out.mono ?_
      rintro e w1 ⟨rfl, h1, hp1, hh1, hc1⟩
      have H1 := hide hp1
      have HH1 := hide hh1
      have HC1 := hide hc1
      have hl1 : h1.length ≤ 100001 := by rw [len_cnt, hc1, ← len_cnt]; simp [one]; omega
      clear hp1 hh1 hc1 HP1 c0 HS
      obtain ⟨v1, hb1, ho1⟩ := H1.out.own
      have cv : w1.cell? ⟨g, 0, none⟩ = some v1 := by rw [hb1.cell]; rfl
      have HLen := hide (Len_ok w1 _ v1 h1 ho1)
      have HMaj := hide (Majority_ok l.length w1 (by omega))
      obtain ⟨A1, c1, rfl, _⟩ := ho1.is
      clear hb1 ho1
      unfold majN at HMaj
      rw [← HMJ.out] at HMaj
      go_wp2_with fail
      refine HLen.out.mono ?_
      rintro e w2 ⟨rfl, hw2⟩
      subst hw2
      go_wp2_with fail
      refine HMaj.out.mono ?_
      rintro e w3 ⟨rfl, hw3⟩
      subst hw3
      clear HLen HMaj
      by_cases hgt : mj < h1.length
      · have hgt' : (mj : Int) < (h1.length : Int) := by omega
        obtain ⟨q, hq⟩ : ∃ q, h1.length = q + 1 := ⟨h1.length - 1, by omega⟩
        have HP2 := hide (HeapPop_ok w w3 g h1 q H1.out HH1.out hq (by omega))
        have HQ := hide hq
        clear hq cv
        go_wp2_with fail
        refine HP2.out.mono ?_
        rintro e w4 ⟨u, rfl, h2, hp2, hh2, hc2⟩
        have H2 := hide hp2
        have HF := hide (HL.out.pop HH1.out HC1.out hgt hh2 hc2)
        clear hp2 hh2 hc2 HP2
        go_wp2_with fail
        go_roundw
        case rel => exact ⟨k + 1, h2, by go_num, by omega, H2, by rw [HT.out]; exact HF⟩
        case measure => simp [intOf]; omega
      · have hgt' : ¬ (mj : Int) < (h1.length : Int) := by omega
        clear cv
        go_wp2_with fail
        go_roundw
        case rel => exact ⟨k + 1, h1, by go_num, by omega, H1, by rw [HT.out]; exact HL.out.push HH1.out HC1.out (by omega)⟩
        case measure => simp [intOf]; omega
    · obtain rfl : k = l.length := by omega
      have hfin := HL.out
      rw [List.take_length, HMJ.out] at hfin
      obtain ⟨m1, m2, m3, m4, m5⟩ := hfin.most hz h0
      have HR : Hid (MostP l (at_ h 0)) := ⟨m1.symm, fun _ => ⟨m3, m4, m5⟩⟩
      obtain ⟨v1, hb1, ho1⟩ := HH.out.own
      have cv : wr.cell? ⟨g, 0, none⟩ = some v1 := by rw [hb1.cell]; rfl
      obtain ⟨b, cap, rfl, _, _, hcap, _, hrow⟩ := ho1.block_ m2
      have cr : wr.cell? ⟨b, 0, none⟩ = some (.int .i64 (at_ h 0)) := by rw [hrow.cellAt 0 (by omega), ivs_at m2, at_of m2]; rfl
      clear m1 m3 m4 m5 hfin hb1 ho1 hrow HS HSel HL
      generalize at_ h 0 = x at cr HR
      have m2' : (0 : Int) < (h.length : Int) := by omega
      go_wp2_with fail
      go_ret
      exact ⟨x, rfl, HR.out, HH.out.gr⟩

end Go.Proofs.Ythpaoeiackbdoaa
