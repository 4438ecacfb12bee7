/-
  slices.Grow of no bytes, and slices.Concat of byte slices, by their contracts: bytes of the call's own, one lot behind the other.
-/
import Derived.Test.YtkcfieoflkhdpaaDoorLent
import Derived.Test.YtkcfieoflkhdpaaDoorBaseW
import Derived.Lib.AppendZeros
import Derived.Deep.QuietTactic
import Derived.BigQuiet
namespace Go.Proofs.YtkcfieoflkhdpaaDoor
open Go.RowKit
set_option maxRecDepth 100000

/-- how many bytes the first k of these have -/
def catLen (ls : List (List UInt8)) (k : Nat) : Nat := (ls.take k).flatten.length
theorem catLen_more {ls : List (List UInt8)} {k : Nat} (h : k < ls.length) : catLen ls (k + 1) = catLen ls k + ls[k].length := by
  unfold catLen
  rw [List.take_succ_eq_append_getElem h, List.flatten_append, List.length_append]
  simp
theorem cat_more {ls : List (List UInt8)} {k : Nat} (h : k < ls.length) : (ls.take (k + 1)).flatten = (ls.take k).flatten ++ ls[k] := by
  rw [List.take_succ_eq_append_getElem h, List.flatten_append]
  simp
theorem catLen_le (ls : List (List UInt8)) (k : Nat) : catLen ls k ≤ ls.flatten.length := by
  unfold catLen
  conv => rhs; rw [← List.take_append_drop k ls, List.flatten_append, List.length_append]
  omega
theorem catLen_all (ls : List (List UInt8)) (k : Nat) (h : ls.length ≤ k) : catLen ls k = ls.flatten.length := by
  unfold catLen
  rw [List.take_of_length_le h]

def GrowPost (w : World) (e : Ending) (w' : World) : Prop := ∃ v, e = .returned v ∧ OwnE 5 w' w.heap.size v [] ∧ Gr w w'

/-- 'make's row of zeros, of which nothing is in use yet -/
theorem own_room (w : World) (e : TypeId) (n : Nat) (hn : n ≤ 1000000000) :
    OwnE e (w.drew.alloc (.cells (Builtin.zeroCells (Value.int .u8 0).cells n ++ Builtin.zeroCells (Value.int .u8 0).cells (grownCap w n 0 e - n)) e)) w.heap.size (.slice (some ⟨w.heap.size, 0, none⟩) 0 (grownCap w n 0 e)) [] := by
  have h := World.ownsRow_made (base := w.heap.size) (size := 1) w.drew (e := e) (Builtin.zeroCells (Value.int .u8 0).cells n ++ Builtin.zeroCells (Value.int .u8 0).cells (grownCap w n 0 e - n)) (grownCap w n 0 e) (Nat.le_refl _) (grownCap_le_maxLen w n 0 e (by unfold maxLen; omega)) (by
    have := grownCap_ge w n 0 e
    simp [size_zeroCells, Value.cells]
    omega)
  exact h

set_option maxHeartbeats 400000 in
theorem Grow_none (n : Nat) (hn : (n : Int) ≤ 1000000000) (w : World) : Calls Tryd.prog 53 #[.slice none 0 0, .int .i64 (n : Int)] w (GrowPost w) := by
  obtain ⟨i0, hi, hz0, hz1, hz2⟩ := info_parts info_u8'
  have d0 : decide ((n : Int) < 0) = false := by rw [decide_eq_false_iff_not]; omega
  by_cases h0 : 0 < n
  · have d1 : decide ((0 : Int) < (n : Int)) = true := by rw [decide_eq_true_eq]; omega
    have hrun := hide (Lib.run_append_nil_zeros (P := Tryd.prog) w 33 3 33 5 i0 (.int .u8 0) .i64 .i64 Tryd.underlying33 Tryd.underlying3 hi hz0 n h0 (by rw [hz1]; decide) (by omega) (by rw [hz2]; omega))
    have hown := hide (own_room w 5 n (by omega))
    have hcm := grownCap_le_maxLen w n 0 5 (by unfold maxLen; omega)
    have hcg := grownCap_ge w n 0 5
    go_enter Tryd.func53, Tryd.ntmps53
    go_wp2_with (at_builtin; refine Lib.wpList_append_run _ rfl _ _ _ _ rfl _ _ rfl rfl _ _ hrun.out ?_)
    generalize hC : grownCap w n 0 5 = C at *
    clear hC hrun
    go_ret
    exact ⟨_, rfl, hown.out, ((Gr.refl w).drew).alloc _⟩
  · have e0 : n = 0 := by omega
    subst e0
    go_enter Tryd.func53, Tryd.ntmps53
    go_wp2_with fail
    go_ret
    exact ⟨_, rfl, OwnE.none_ _ _, Gr.refl _⟩

/-- what Concat comes to: bytes of its own -/
def CatPost (w : World) (ls : List (List UInt8)) (e : Ending) (w' : World) : Prop := ∃ v, e = .returned v ∧ OwnE 5 w' w.heap.size v ls.flatten ∧ Gr w w'

set_option maxHeartbeats 400000 in
theorem Concat_ok (A : Option Addr) (n c : Nat) (ls : List (List UInt8)) (hn : n = ls.length) (w : World) (h : Rws w A c ls) (hmax : (ls.length : Int) ≤ 1000000000) (hall : (ls.flatten.length : Int) ≤ 1000000000) :
    Calls Tryd.prog 38 #[.slice A n c] w (CatPost w ls) := by
  subst hn
  obtain ⟨i0, hi, hz0, hz1, hz2⟩ := info_parts info_u8'
  go_enter Tryd.func38, Tryd.ntmps38
  go_wp2_with fail
  go_loop [3, 11] (fun s i => ∃ (k y : Nat), i = .int .i64 k ∧ k ≤ ls.length ∧ s = .int .i64 y ∧ Hid (y = catLen ls k)) (fun _ i => ls.length - (intOf i).toNat)
  case atStart => exact ⟨0, 0, rfl, by omega, rfl, rfl⟩
  case round =>
    obtain ⟨k, y, rfl, hk, rfl, HY⟩ := hrel
    by_cases hlt : k < ls.length
    · have hlt' : (k : Int) < (ls.length : Int) := by omega
      obtain ⟨ad, hA, B, d, hcell, hby⟩ := h.rd k hlt
      subst hA
      have hM : y + ls[k].length = catLen ls (k + 1) := by rw [catLen_more hlt, HY.out]
      obtain ⟨x, hx⟩ : ∃ x, ls[k] = x := ⟨_, rfl⟩
      rw [hx] at hcell hM
      have hle := catLen_le ls (k + 1)
      have hyx : (y : Int) + (x.length : Int) ≤ 1000000000 := by omega
      have HM := hide hM
      clear hle hM hby hx
      go_wp2_with fail
      go_round
      case rel => exact ⟨k + 1, y + x.length, by go_num, by omega, by go_num, HM⟩
      case measure => simp [intOf]; omega
    · have e : k = ls.length := by omega
      subst e
      have hall0 : y = ls.flatten.length := by rw [HY.out, catLen_all ls _ (Nat.le_refl _)]
      clear HY
      have hy : (y : Int) ≤ 1000000000 := by omega
      have HA := hide hall0
      clear hall0
      go_wp2_with fail
      refine (Grow_none y hy w).mono ?_
      rintro e w1 ⟨v1, rfl, ho1, hg1⟩
      go_wp2_with fail
      go_loopw [6, 27] (fun v i wr2 => ∃ (k : Nat), i = .int .i64 k ∧ k ≤ ls.length ∧ OwnE 5 wr2 w.heap.size v (ls.take k).flatten ∧ Gr w wr2) (fun _ i _ => ls.length - (intOf i).toNat)
      case atStart => exact ⟨0, rfl, by omega, ho1, hg1⟩
      case round =>
        clear ho1 hg1
        obtain ⟨k, rfl, hk, ho, hg⟩ := hrel
        by_cases hlt : k < ls.length
        · have hlt' : (k : Int) < (ls.length : Int) := by omega
          obtain ⟨ad, hA, B, d, hcell, hby⟩ := (h.gr hg).rd k hlt
          subst hA
          have hcat := cat_more hlt
          obtain ⟨x, hx⟩ : ∃ x, ls[k] = x := ⟨_, rfl⟩
          rw [hx] at hcell hcat hby
          have hle := catLen_le ls (k + 1)
          have hyx : (ls.take k).flatten.length + x.length ≤ 1000000000 := by
            unfold catLen at hle
            rw [hcat, List.length_append] at hle
            omega
          have HC := hide hcat
          have HL := hide hyx
          have HB := hide hby
          have HO := hide ho
          have HG := hide hg
          clear hle hx hyx hcat hby ho hg
          go_wp2_with (at_builtin; refine wpList_app (w0 := w) rfl (.tmp 31) (.tmp 32) _ rfl 5 i0 Tryd.underlying33 hi hz0 hz1 hz2 (r := x) rfl rfl HO.out HG.out rfl HB.out.rd HB.out.nil HL.out ?_; intro v3 w3 ho3 hg3)
          go_roundw
          case rel => exact ⟨k + 1, by go_num, by omega, by rw [HC.out]; exact ho3, hg3⟩
          case measure => simp [intOf]; omega
        · have e : k = ls.length := by omega
          subst e
          rw [List.take_length] at ho
          have HO := hide ho
          have HG := hide hg
          clear ho hg
          go_wp2_with fail
          go_ret
          exact ⟨_, rfl, HO.out, HG.out⟩

end Go.Proofs.YtkcfieoflkhdpaaDoor
