/-
  The document's TakeText by its contract.
-/
import Derived.Test.YtjpdhijhmpdbnaaGreatNumRef
namespace Go.Proofs.YtjpdhijhmpdbnaaGreat
open Go.RowKit NumPlain
set_option maxRecDepth 100000

def RefTPost (w : World) (l : List UInt8) (e : Ending) (w' : World) : Prop := e = .returned (.tuple #[.string (textV l), .int .i64 (textK l), .bool (textB l)]) ∧ Gr w w'
theorem RefTPost.no {w w' : World} {l : List UInt8} (h : takeT l = none) (hg : Gr w w') : RefTPost w l (.returned (.tuple #[.string ⟨#[]⟩, .int .i64 0, .bool false])) w' := ⟨by simp [textV, textK, textB, h]; rfl, hg⟩
theorem RefTPost.yes {w w' : World} {l t : List UInt8} {k : Nat} {k' : Int} (h : takeT l = some (t, k)) (hk : k' = k) (hg : Gr w w') : RefTPost w l (.returned (.tuple #[.string (bs t), .int .i64 k', .bool true])) w' := ⟨by simp [textV, textK, textB, h, hk], hg⟩

theorem takeNum_no (A : Option Addr) (c : Nat) (l : List UInt8) (w : World) (hby : By w A c l) (hmax : (l.length : Int) ≤ 140737488351232) (h : takeF 9 l = none) :
    Calls Tryz.prog 69 #[.slice A l.length c] w fun e w' => e = .returned (.tuple #[.int .i64 0, .int .i64 0, .bool false]) ∧ Gr w w' :=
  (TakeNum_ok A _ c l rfl w hby hmax).mono fun e w' ⟨he, hg⟩ => ⟨by rw [he]; simp [takeV, takeK, takeB, h], hg⟩
theorem takeNum_yes (A : Option Addr) (c : Nat) (l : List UInt8) (v k : Nat) (w : World) (hby : By w A c l) (hmax : (l.length : Int) ≤ 140737488351232) (h : takeF 9 l = some (v, k)) :
    Calls Tryz.prog 69 #[.slice A l.length c] w fun e w' => e = .returned (.tuple #[.int .i64 v, .int .i64 k, .bool true]) ∧ Gr w w' :=
  (TakeNum_ok A _ c l rfl w hby hmax).mono fun e w' ⟨he, hg⟩ => ⟨by rw [he]; simp [takeV, takeK, takeB, h], hg⟩

set_option maxHeartbeats 400000 in
theorem RefTakeText_ok (A : Option Addr) (n c : Nat) (l : List UInt8) (hn : n = l.length) (w : World) (hby : By w A c l) (hmax : (l.length : Int) ≤ 140737488351232) :
    Calls Tryz.prog 70 #[.slice A n c] w (RefTPost w l) := by
  subst hn
  cases ht : takeF 9 l with
  | none =>
    have hN : takeT l = none := by unfold takeT; rw [ht]
    have HN := hide hN
    have Ht := hide ht
    clear ht hN
    go_enter Tryz.func70, Tryz.ntmps70
    go_wp2_with fail
    refine (takeNum_no A c l _ hby hmax Ht.out).mono ?_
    rintro e w1 ⟨rfl, hg1⟩
    go_wp2_with fail
    go_ret3
    exact RefTPost.no HN.out hg1
  | some vk =>
    obtain ⟨v, k⟩ := vk
    obtain ⟨hv, hkl, hk1, hk9, _⟩ := takeF_some9 l v k ht
    have Ht := hide ht
    clear ht
    by_cases h255 : 255 < v ∨ l.length - k < v
    · have hN : takeT l = none := by unfold takeT; rw [Ht.out]; simp only []; rw [if_pos h255]
      have HN := hide hN
      clear hN
      by_cases hv2 : 255 < v
      · have d1 : decide ((255 : Int) < (v : Int)) = true := by rw [decide_eq_true_eq]; omega
        clear h255 hv2
        go_enter Tryz.func70, Tryz.ntmps70
        go_wp2_with fail
        refine (takeNum_yes A c l v k _ hby hmax Ht.out).mono ?_
        rintro e w1 ⟨rfl, hg1⟩
        go_wp2_with fail
        go_ret3
        exact RefTPost.no HN.out hg1
      · have d1 : decide ((255 : Int) < (v : Int)) = false := by rw [decide_eq_false_iff_not]; omega
        have d2 : decide ((l.length : Int) - (k : Int) < (v : Int)) = true := by rw [decide_eq_true_eq]; omega
        clear h255 hv2
        go_enter Tryz.func70, Tryz.ntmps70
        go_wp2_with fail
        refine (takeNum_yes A c l v k _ hby hmax Ht.out).mono ?_
        rintro e w1 ⟨rfl, hg1⟩
        go_wp2_with fail
        go_ret3
        exact RefTPost.no HN.out hg1
    · have hY : takeT l = some ((l.drop k).take v, k + v) := by unfold takeT; rw [Ht.out]; simp only []; rw [if_neg h255]
      have HY := hide hY
      have d1 : decide ((255 : Int) < (v : Int)) = false := by rw [decide_eq_false_iff_not]; omega
      have d2 : decide ((l.length : Int) - (k : Int) < (v : Int)) = false := by rw [decide_eq_false_iff_not]; omega
      have hlv : (k : Int) + (v : Int) ≤ (l.length : Int) := by omega
      have hlc : (l.length : Int) ≤ (c : Int) := by have := hby.le; omega
      clear hY h255
      go_enter Tryz.func70, Tryz.ntmps70
      go_wp2_with fail
      refine (takeNum_yes A c l v k _ hby hmax Ht.out).mono ?_
      rintro e w1 ⟨rfl, hg1⟩
      have hrd := (hby.gr hg1).rd
      have hcut := Rd.cut hrd k (k + v) c (by omega) (by omega) (by have := hby.le; omega)
      have hlen : ((l.drop k).take (k + v - k)).length = v := by rw [List.length_take, List.length_drop]; omega
      rw [show k + v - k = v from by omega] at hcut hlen
      by_cases hck : c = k
      · rw [if_pos hck] at hcut
        have hconv := run_conv (P := Tryz.prog) w1 22 9 5 Tryz.underlying22 Tryz.underlying5 Tryz.underlying9 v 0 hlen hcut
        subst hck
        clear hcut hlen hrd
        go_wp2_with fail
        go_ret3
        exact RefTPost.yes HY.out (by omega) hg1
      · rw [if_neg hck] at hcut
        have hconv := run_conv (P := Tryz.prog) w1 22 9 5 Tryz.underlying22 Tryz.underlying5 Tryz.underlying9 v (c - k) hlen hcut
        clear hcut hlen hrd
        go_wp2_with fail
        go_ret3
        exact RefTPost.yes HY.out (by omega) hg1

end Go.Proofs.YtjpdhijhmpdbnaaGreat
