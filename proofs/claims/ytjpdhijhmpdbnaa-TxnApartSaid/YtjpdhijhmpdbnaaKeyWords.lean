/-
  Words for keys in memory.
-/
import Derived.Test.YtjpdhijhmpdbnaaKeyMath
import Derived.Test.YtjpdhijhmpdbnaaBaseW
import Derived.Test.YtjpdhijhmpdbnaaProg
import Derived.Deep.QuietTactic
import Derived.BigQuiet
namespace Go.Proofs.Ytjpdhijhmpdbnaa
open Go.RowKit KeyMath

theorem list_size (s : ByteArray) : s.data.toList.length = s.size := by rw [Array.length_toList]; rfl
theorem byte_at {s : ByteArray} {k : Nat} (h : k < s.size) : s[k] = s.data.toList[k]'(by rw [list_size]; exact h) := by
  rw [Array.getElem_toList]
  rfl
theorem okB_eq (b : UInt8) : okB b = (!decide ((b.toNat : Int) < 33) && !decide ((126 : Int) < (b.toNat : Int))) := by
  unfold okB
  rw [Bool.eq_iff_iff]
  simp
  omega
theorem mayK_all {s : ByteArray} (h : (s.data.toList.take s.size).all okB = true) : mayK s = (decide (1 ≤ s.size) && decide (s.size ≤ 8)) := by
  rw [List.take_of_length_le (by rw [list_size]; exact Nat.le_refl _)] at h
  unfold mayK
  rw [h, Bool.and_true]
theorem mayK_not {s : ByteArray} (h : s.data.toList.all okB = false) : mayK s = false := by
  unfold mayK
  rw [h, Bool.and_false]

theorem riseAt_no {l : List ByteArray} {k : Nat} (h : mayK (l.getD k nothing) = false) : riseAt l k = false := by unfold riseAt; rw [h, Bool.false_and]
theorem riseAt_first {l : List ByteArray} (h : mayK (l.getD 0 nothing) = true) : riseAt l 0 = true := by unfold riseAt; rw [h]; rfl
theorem riseAt_next {l : List ByteArray} {j k : Nat} (hj : j + 1 = k) (h : mayK (l.getD k nothing) = true) : riseAt l k = !leK (l.getD k nothing) (l.getD j nothing) := by subst hj; unfold riseAt; rw [h]; simp
theorem Strs.at_ {w : World} {A : Option Addr} {c : Nat} {ss : List ByteArray} (h : Strs w A c ss) (j : Nat) (hj : j < ss.length) : ∃ ad, A = some ad ∧ w.cell? (ad.add j) = some (.string (ss.getD j nothing)) := by
  obtain ⟨ad, h1, h2⟩ := h.rd j hj
  exact ⟨ad, h1, by rw [h2, List.getD_eq_getElem?_getD, List.getElem?_eq_getElem hj]; rfl⟩
theorem size_at {ss : List ByteArray} (hm : ∀ s ∈ ss, (s.size : Int) ≤ 1000000) (j : Nat) (hj : j < ss.length) : ((ss.getD j nothing).size : Int) ≤ 1000000 := by
  rw [List.getD_eq_getElem?_getD, List.getElem?_eq_getElem hj]
  exact hm _ (List.getElem_mem hj)

end Go.Proofs.Ytjpdhijhmpdbnaa
