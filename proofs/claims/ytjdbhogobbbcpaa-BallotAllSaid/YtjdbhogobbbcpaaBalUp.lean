/-
  container/heap's up, by its contract.
-/
import Derived.Test.YtjdbhogobbbcpaaBalPop
import Derived.Test.YtjdbhogobbbcpaaBalMath
namespace Go.Proofs.Ytjdbhogobbbcpaa
open Go Go.RowKit BalMath
set_option maxRecDepth 100000

theorem swap_eq {l : List Int} {i j : Nat} (hi : i < l.length) (hj : j < l.length) : swapL l i j = swapI l i j := by
  rw [swapL_eq hi hj]
  unfold swapI
  rw [at_of hi, at_of hj]

/-- as many of each kind -/
def Alike (l l' : List Int) : Prop := ∀ p, cnt p l' = cnt p l
theorem Alike.len {l l' : List Int} (h : Alike l l') : l'.length = l.length := by rw [len_cnt, h, ← len_cnt]

def UpPost (w0 : World) (g : Nat) (l : List Int) (e : Ending) (w' : World) : Prop := e = .returned (.tuple #[]) ∧ ∃ l', HP w0 w' g l' ∧ Alike l l' ∧ Heap l'.length l'

set_option maxHeartbeats 1000000 in
theorem up_ok (w0 w : World) (g : Nat) (l : List Int) (j : Nat) (h : HP w0 w g l) (hj : j < l.length) (hu : Up l j) (hl : l.length ≤ 1000000) :
    Calls Try.prog 30 #[hpV g, .int .i64 j] w (UpPost w0 g l) := by
  have HH := hide h
  have HU := hide hu
  clear h hu
  go_enter Try.func30, Try.ntmps30
  go_wp2_with fail
  go_loopw [1] (fun v wr => ∃ (k : Nat) (l' : List Int), v = .int .i64 k ∧ k < l'.length ∧ Hid (HP w0 wr g l') ∧ Hid (Up l' k) ∧ Hid (Alike l l')) (fun v _ => (intOf v).toNat)
  case atStart => exact ⟨j, l, rfl, hj, HH, HU, fun _ => rfl⟩
  case round =>
    obtain ⟨k, l', rfl, hk, HP', HU', HA⟩ := hrel
    rcases Nat.eq_zero_or_pos k with rfl | h0
    · go_wp2_with fail
      go_end0
      exact ⟨rfl, l', HP'.out, HA.out, HU'.out.done (.inl rfl)⟩
    · obtain ⟨i, hi⟩ : ∃ i, (k - 1) / 2 = i := ⟨_, rfl⟩
      have hil : i < l'.length := by omega
      have e1 : ((k : Int) - 1).tdiv 2 = (i : Int) := by rw [Int.tdiv_eq_ediv_of_nonneg (by omega)]; omega
      have e2 : ((i : Int) == (k : Int)) = false := by rw [beq_eq_false_iff_ne]; omega
      have hk6 : (k : Int) ≤ 1000000 := by have := HA.out.len; omega
      go_wp2_with fail
      obtain ⟨v, c0, hc⟩ := hLess_ok w0 wr g l' k i HP'.out hk hil
      rw [← at_of hk, ← at_of hil] at hc
      have HC := hide hc
      rw [meth_less c0]
      clear hc c0
      go_wp2_with fail
      refine HC.out.mono ?_
      rintro e w1 ⟨rfl, hw1⟩
      have HW := hide hw1
      clear hw1 HC HP' v
      by_cases hlt : at_ l' k < at_ l' i
      · rw [decide_eq_true hlt]
        go_wp2_with fail
        obtain ⟨v, c0, hc⟩ := hSwap_ok w0 w1 g l' i k HW.out hil hk
        have HC := hide hc
        rw [meth_swap c0]
        clear hc c0
        go_wp2_with fail
        refine HC.out.mono ?_
        rintro e w2 ⟨rfl, hw2⟩
        rw [swap_eq hil hk] at hw2
        have H2 := hide hw2
        clear hw2
        go_wp2_with fail
        go_roundw
        case rel =>
          exact ⟨i, swapI l' i k, rfl, by rw [swapI_len]; exact hil, H2, HU'.out.step hk h0 hi.symm hlt, fun p => by rw [cnt_swap p hil hk]; exact HA.out p⟩
        case measure => simp [intOf]; omega
      · rw [decide_eq_false hlt]
        go_wp2_with fail
        go_end0
        exact ⟨rfl, l', HW.out, HA.out, HU'.out.done (.inr (by rw [hi]; omega))⟩

end Go.Proofs.Ytjdbhogobbbcpaa
