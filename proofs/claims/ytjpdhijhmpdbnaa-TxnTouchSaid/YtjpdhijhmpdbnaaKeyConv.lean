/-
  '[]byte(s)': a new block of the string's bytes. No program.
-/
import Derived.Test.YtjpdhijhmpdbnaaBaseW
import Derived.Lib.ConvBytes
namespace Go.Proofs.Ytjpdhijhmpdbnaa
open Go.RowKit

theorem gr_bytes (w : World) (e : TypeId) (s : ByteArray) : Gr w (Lib.bytesWorld w e s) :=
  ⟨rfl, rfl, rfl, by rw [Lib.bytesWorld_size]; omega, fun k hk => Lib.bytesWorld_at_old w e s k hk⟩
theorem by_bytes (w : World) (e : TypeId) (s : ByteArray) (h : s.size ≤ 1000000) : By (Lib.bytesWorld w e s) (some ⟨w.heap.size, 0, none⟩) (grownCap w s.size 0 e) s.data.toList := by
  have hl : s.data.toList.length = s.size := by rw [Array.length_toList]; rfl
  refine ⟨fun j hj => ⟨_, rfl, ?_⟩, by rw [hl]; exact grownCap_ge w s.size 0 e, grownCap_le_maxLen w s.size 0 e (by unfold maxLen; omega), fun h => by cases h⟩
  have e2 : (⟨w.heap.size, 0, none⟩ : Addr).add j = ⟨w.heap.size, j, none⟩ := by unfold Addr.add; split <;> simp_all
  rw [e2, Lib.bytesWorld_cell w e s j (by omega)]
  rw [show s.data.toList.getD j 0 = s.data.toList[j] from by rw [List.getD_eq_getElem?_getD, List.getElem?_eq_getElem hj]; rfl]
  rfl
/-- a cell of what '[]byte(s)' has made, in whatever world comes behind -/
theorem bytes_cell {w w' : World} {e : TypeId} {s : ByteArray} (hg : Gr (Lib.bytesWorld w e s) w') (h : s.size ≤ 1000000) (j : Nat) (hj : j < s.data.toList.length) :
    w'.cell? ⟨w.heap.size, j, none⟩ = some (.int .u8 (s.data.toList[j].toNat : Int)) := by
  obtain ⟨ad, e1, h2⟩ := ((by_bytes w e s h).gr hg).rd j hj
  injection e1 with e1
  subst e1
  have e2 : (⟨w.heap.size, 0, none⟩ : Addr).add j = ⟨w.heap.size, j, none⟩ := by unfold Addr.add; split <;> simp_all
  rw [← e2, h2]
  rfl

end Go.Proofs.Ytjpdhijhmpdbnaa
