/-
  Words for keys in memory.
-/
import Derived.Test.YtbfbghfaeejicaaKeyMath
import Derived.Test.YtbfbghfaeejicaaBaseW
import Derived.Test.YtbfbghfaeejicaaProg
import Derived.Deep.QuietTactic
import Derived.BigQuiet
import Derived.Lib.ConvBytes
namespace Go.Proofs.Ytbfbghfaeejicaa
open Go.RowKit KeyMath

theorem list_size (s : ByteArray) : s.data.toList.length = s.size := by rw [Array.length_toList]; rfl
theorem byte_at {s : ByteArray} {k : Nat} (h : k < s.size) : s[k] = s.data.toList[k]'(by rw [list_size]; exact h) := by
  rw [Array.getElem_toList]
  rfl
theorem okB_eq (b : UInt8) : okB b = (!decide ((b.toNat : Int) < 33) && !decide ((126 : Int) < (b.toNat : Int))) := by
  unfold okB
  rw [Bool.eq_iff_iff]
  simp
  omega
theorem mayK_all {s : ByteArray} (h : (s.data.toList.take s.size).all okB = true) : mayK s = (decide (1 ≤ s.size) && decide (s.size ≤ 8)) := by
  rw [List.take_of_length_le (by rw [list_size]; exact Nat.le_refl _)] at h
  unfold mayK
  rw [h, Bool.and_true]
theorem mayK_not {s : ByteArray} (h : s.data.toList.all okB = false) : mayK s = false := by
  unfold mayK
  rw [h, Bool.and_false]

theorem riseAt_no {l : List ByteArray} {k : Nat} (h : mayK (l.getD k nothing) = false) : riseAt l k = false := by unfold riseAt; rw [h, Bool.false_and]
theorem riseAt_first {l : List ByteArray} (h : mayK (l.getD 0 nothing) = true) : riseAt l 0 = true := by unfold riseAt; rw [h]; rfl
theorem riseAt_next {l : List ByteArray} {j k : Nat} (hj : j + 1 = k) (h : mayK (l.getD k nothing) = true) : riseAt l k = !leK (l.getD k nothing) (l.getD j nothing) := by subst hj; unfold riseAt; rw [h]; simp
theorem Strs.at_ {w : World} {A : Option Addr} {c : Nat} {ss : List ByteArray} (h : Strs w A c ss) (j : Nat) (hj : j < ss.length) : ∃ ad, A = some ad ∧ w.cell? (ad.add j) = some (.string (ss.getD j nothing)) := by
  obtain ⟨ad, h1, h2⟩ := h.rd j hj
  exact ⟨ad, h1, by rw [h2, List.getD_eq_getElem?_getD, List.getElem?_eq_getElem hj]; rfl⟩
theorem size_at {ss : List ByteArray} {M : Int} (hm : ∀ s ∈ ss, (s.size : Int) ≤ M) (j : Nat) (hj : j < ss.length) : ((ss.getD j nothing).size : Int) ≤ M := by
  rw [List.getD_eq_getElem?_getD, List.getElem?_eq_getElem hj]
  exact hm _ (List.getElem_mem hj)

end Go.Proofs.Ytbfbghfaeejicaa

/-
  '[]byte(s)': a new block of the string's bytes. No program.
-/
namespace Go.Proofs.Ytbfbghfaeejicaa
open Go.RowKit

theorem gr_bytes (w : World) (e : TypeId) (s : ByteArray) : Gr w (Lib.bytesWorld w e s) :=
  ⟨rfl, rfl, rfl, by rw [Lib.bytesWorld_size]; omega, fun k hk => Lib.bytesWorld_at_old w e s k hk⟩
theorem by_bytes (w : World) (e : TypeId) (s : ByteArray) (h : s.size ≤ 1000000) : By (Lib.bytesWorld w e s) (some ⟨w.heap.size, 0, none⟩) (grownCap w s.size 0 e) s.data.toList := by
  have hl : s.data.toList.length = s.size := by rw [Array.length_toList]; rfl
  refine ⟨fun j hj => ⟨_, rfl, ?_⟩, by rw [hl]; exact grownCap_ge w s.size 0 e, grownCap_le_maxLen w s.size 0 e (by unfold maxLen; omega), fun h => by cases h⟩
  have e2 : (⟨w.heap.size, 0, none⟩ : Addr).add j = ⟨w.heap.size, j, none⟩ := by unfold Addr.add; split <;> simp_all
  rw [e2, Lib.bytesWorld_cell w e s j (by omega)]
  rw [show s.data.toList.getD j 0 = s.data.toList[j] from by rw [List.getD_eq_getElem?_getD, List.getElem?_eq_getElem hj]; rfl]
  rfl
/-- a cell of what '[]byte(s)' has made, in whatever world comes behind -/
theorem bytes_cell {w w' : World} {e : TypeId} {s : ByteArray} (hg : Gr (Lib.bytesWorld w e s) w') (h : s.size ≤ 1000000) (j : Nat) (hj : j < s.data.toList.length) :
    w'.cell? ⟨w.heap.size, j, none⟩ = some (.int .u8 (s.data.toList[j].toNat : Int)) := by
  obtain ⟨ad, e1, h2⟩ := ((by_bytes w e s h).gr hg).rd j hj
  injection e1 with e1
  subst e1
  have e2 : (⟨w.heap.size, 0, none⟩ : Addr).add j = ⟨w.heap.size, j, none⟩ := by unfold Addr.add; split <;> simp_all
  rw [← e2, h2]
  rfl

end Go.Proofs.Ytbfbghfaeejicaa
