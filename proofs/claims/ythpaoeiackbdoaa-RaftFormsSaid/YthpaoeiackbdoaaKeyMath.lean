/-
  The keys of layer 4: what May, Shard, Within and Rising come to, and what follows. No program.
-/
import Derived.WalkKit
import Derived.Laws.Cover1
namespace Go.Proofs.Ythpaoeiackbdoaa.KeyMath
open Go

/-- a byte that a key may have -/
def okB (b : UInt8) : Bool := decide (33 ≤ b.toNat) && decide (b.toNat ≤ 126)
def mayK (s : ByteArray) : Bool := decide (1 ≤ s.size) && decide (s.size ≤ 8) && s.data.toList.all okB
def sumB (l : List UInt8) : Nat := (l.map UInt8.toNat).sum
def shardK (s : ByteArray) (n : Int) : Int := if n < 1 then 0 else (sumB s.data.toList : Int) % n
def ltK (a b : ByteArray) : Bool := Op.bytesLess a.toList b.toList
def leK (a b : ByteArray) : Bool := Op.bytesLess a.toList b.toList || a.toList == b.toList
def nothing : ByteArray := ⟨#[]⟩
def withinK (k f t : ByteArray) : Bool := leK f k && (t.toList.isEmpty || ltK k t)
/-- the one at place i may be, and is above the one ahead -/
def riseAt (l : List ByteArray) (i : Nat) : Bool := mayK (l.getD i nothing) && (i == 0 || !leK (l.getD i nothing) (l.getD (i - 1) nothing))
def risesTo (l : List ByteArray) (k : Nat) : Bool := (List.range k).all (riseAt l)
def risingK (l : List ByteArray) : Bool := risesTo l l.length

theorem risesTo_zero (l : List ByteArray) : risesTo l 0 = true := rfl
theorem risesTo_succ (l : List ByteArray) (k : Nat) : risesTo l (k + 1) = (risesTo l k && riseAt l k) := by
  unfold risesTo
  rw [List.range_succ, List.all_append]
  simp
/-- one that does not rise -/
theorem rising_not {l : List ByteArray} {k : Nat} (hk : k < l.length) (h : riseAt l k = false) : risingK l = false := by
  unfold risingK risesTo
  rw [List.all_eq_false]
  exact ⟨k, by simpa using hk, by rw [h]; simp⟩

theorem sumB_take {l : List UInt8} {k : Nat} (h : k < l.length) : sumB (l.take (k + 1)) = sumB (l.take k) + l[k].toNat := by
  unfold sumB
  rw [List.take_succ_eq_append_getElem h, List.map_append, List.sum_append]
  simp
theorem sumB_le (l : List UInt8) : sumB l ≤ 255 * l.length := by
  induction l with
  | nil => simp [sumB]
  | cons b r ih =>
    have := b.toNat_lt
    have e : sumB (b :: r) = b.toNat + sumB r := by simp [sumB]
    rw [e, List.length_cons]
    omega
theorem all_take {l : List UInt8} {k : Nat} (h : k < l.length) : (l.take (k + 1)).all okB = ((l.take k).all okB && okB l[k]) := by
  rw [List.take_succ_eq_append_getElem h, List.all_append]
  simp
theorem all_not {l : List UInt8} {k : Nat} (h : k < l.length) (hb : okB l[k] = false) : l.all okB = false := by
  rw [List.all_eq_false]
  exact ⟨l[k], List.getElem_mem h, by rw [hb]; simp⟩

/-! The order of bytes. -/
theorem bl_irrefl : ∀ x : List UInt8, Op.bytesLess x x = false
  | [] => rfl
  | a :: x => by
    unfold Op.bytesLess
    rw [bl_irrefl x]
    simp
theorem bl_trans : ∀ x y z : List UInt8, Op.bytesLess x y = true → Op.bytesLess y z = true → Op.bytesLess x z = true
  | [], _, [], _, h => by
    cases ‹List UInt8› <;> simp [Op.bytesLess] at h
  | [], _, _ :: _, _, _ => rfl
  | _ :: _, [], _, h, _ => by simp [Op.bytesLess] at h
  | _ :: _, _ :: _, [], _, h => by simp [Op.bytesLess] at h
  | a :: x, b :: y, c :: z, h1, h2 => by
    simp only [Op.bytesLess, Bool.or_eq_true, Bool.and_eq_true, decide_eq_true_eq, beq_iff_eq] at h1 h2 ⊢
    rcases h1 with h1 | ⟨rfl, h1⟩
    · rcases h2 with h2 | ⟨rfl, _⟩
      · exact .inl (UInt8.lt_trans h1 h2)
      · exact .inl h1
    · rcases h2 with h2 | ⟨rfl, h2⟩
      · exact .inl h2
      · exact .inr ⟨rfl, bl_trans x y z h1 h2⟩
theorem le_lt {a b c : ByteArray} (h1 : leK a b = true) (h2 : ltK b c = true) : ltK a c = true := by
  unfold leK at h1
  rw [Bool.or_eq_true] at h1
  rcases h1 with h1 | h1
  · exact bl_trans _ _ _ h1 h2
  · unfold ltK at h2 ⊢
    rw [eq_of_beq h1]
    exact h2
theorem le_trans {a b c : ByteArray} (h1 : leK a b = true) (h2 : leK b c = true) : leK a c = true := by
  have h2' := h2
  unfold leK at h2
  rw [Bool.or_eq_true] at h2
  rcases h2 with h2 | h2
  · unfold leK
    rw [Bool.or_eq_true]
    exact .inl (le_lt h1 h2)
  · unfold leK at h1 ⊢
    rw [← eq_of_beq h2]
    exact h1
theorem le_refl (a : ByteArray) : leK a a = true := by unfold leK; simp
theorem lt_not_le {a b : ByteArray} (h1 : ltK a b = true) : leK b a = false := by
  rw [Bool.eq_false_iff]
  intro h
  have := le_lt h h1
  unfold ltK at this
  rw [bl_irrefl] at this
  cases this

/-- what lies within is in one piece -/
theorem within_mid {a b c f t : ByteArray} (h1 : leK a b = true) (h2 : leK b c = true) (ha : withinK a f t = true) (hc : withinK c f t = true) : withinK b f t = true := by
  unfold withinK at *
  rw [Bool.and_eq_true, Bool.or_eq_true] at *
  refine ⟨le_trans ha.1 h1, ?_⟩
  rcases hc.2 with h | h
  · exact .inl h
  · exact .inr (le_lt h2 h)
theorem within_self (a : ByteArray) : withinK a a nothing = true := by
  unfold withinK
  rw [le_refl, ByteArray.toList_eq]
  rfl
theorem within_none {a f : ByteArray} (h : f.toList.isEmpty = false) : withinK a f f = false := by
  unfold withinK
  rw [h, Bool.false_or, Bool.and_eq_false_iff]
  cases hl : ltK a f
  · exact .inr rfl
  · exact .inl (lt_not_le hl)

end Go.Proofs.Ythpaoeiackbdoaa.KeyMath
