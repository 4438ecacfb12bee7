/-
  Words about what is new in memory, and how far a reader is; the frame's own. No document.
-/
import Derived.Test.YtkcfieoflkhdpaaDoorFrameWords
import Derived.Test.YtkcfieoflkhdpaaDoorChecked
import Derived.Test.YtkcfieoflkhdpaaDoorBaseG
import Derived.Test.YtkcfieoflkhdpaaDoorBaseW
import Derived.Deep.QuietTactic
import Derived.BigQuiet
import Derived.Test.YtkcfieoflkhdpaaDoorFrameRead
namespace Go.Proofs.YtkcfieoflkhdpaaDoor
open Go.RowKit CrcMath FrameMath
set_option maxRecDepth 100000

theorem head_length (l : List UInt8) : (head l).length = 2 := rfl
theorem be4_length (s : BitVec 32) : (be4 s).length = 4 := rfl

/-- what stands here is new -/
def New (w : World) (A : Option Addr) (l : List UInt8) : Prop := 0 < l.length → ∀ ad, A = some ad → w.heap.size ≤ ad.block
theorem OwnE.by_new {e : TypeId} {w0 w : World} {v : Value} {l : List UInt8} (h : OwnE e w w0.heap.size v l) : ∃ A c, v = .slice A l.length c ∧ By w A c l ∧ New w0 A l := by
  obtain ⟨A, c, rfl, hb⟩ := h.by_
  refine ⟨A, c, rfl, hb, fun hl ad hA => ?_⟩
  subst hA
  exact (World.ownsRow.lt h ad.block rfl).1
theorem bs_ne {a b : List UInt8} (h : a ≠ b) : ((bs a).toList == (bs b).toList) = false := by
  rw [Grow.str_eq, decide_eq_false_iff_not]
  exact fun e => h (bs_inj e)
theorem New.apart {w : World} {A : Option Addr} {l : List UInt8} (h : New w A l) {o : Option Nat} (ho : ∀ k, o = some k → k < w.heap.size) : Apart o A l := fun hl ad hA e => by
  have h1 := h hl ad hA
  have h2 := ho _ e.symm
  omega
/-- the first so many are read -/
def Read (l : List UInt8) (at_ : Nat) (ls : List (List UInt8)) : Prop := at_ ≤ l.length ∧ all l = ls ++ all (l.drop at_) ∧ at_ = fspan ls
theorem Read.nil (l : List UInt8) : Read l 0 [] := ⟨Nat.zero_le _, rfl, rfl⟩
theorem Read.more {l : List UInt8} {at_ : Nat} {ls : List (List UInt8)} (h : Read l at_ ls) (hi : Is (l.drop at_)) : Read l (at_ + (flen (l.drop at_) + 6)) (ls ++ [ftext (l.drop at_)]) := by
  obtain ⟨h1, h2, h3⟩ := h
  have h4 := hi.2.2.1
  rw [List.length_drop] at h4
  refine ⟨by omega, ?_, ?_⟩
  · rw [h2, all_is hi, List.append_assoc, List.drop_drop]
    rfl
  · have h5 : fspan [ftext (l.drop at_)] = flen (l.drop at_) + 6 := by rw [size_cons, load_length hi.2.2.1]; simp [fspan]
    rw [size_append, h5, ← h3]
theorem Read.stop {l : List UInt8} {at_ : Nat} {ls : List (List UInt8)} (h : Read l at_ ls) (hi : ¬ Is (l.drop at_)) : all l = ls ∧ allK l = (at_ : Int) := by
  obtain ⟨_, h2, h3⟩ := h
  rw [all_not hi, List.append_nil] at h2
  refine ⟨h2, ?_⟩
  unfold allK
  rw [h2, h3]

theorem Read.many {l : List UInt8} {at_ : Nat} {ls : List (List UInt8)} (h : Read l at_ ls) : ls.length ≤ l.length := by
  obtain ⟨h1, _, h3⟩ := h
  have : ∀ ls : List (List UInt8), ls.length ≤ fspan ls := by
    intro ls
    induction ls with
    | nil => exact Nat.le_refl _
    | cons x r ih => rw [size_cons, List.length_cons]; omega
  have := this ls
  omega

theorem info_slice : (Tryd.prog.info? 33).map (fun i => (i.zero, i.size, i.bytes)) = some (some (.slice none 0 0), 1, 24) := by kernel_rfl

end Go.Proofs.YtkcfieoflkhdpaaDoor

/-
  frame's reader by its contracts: 'frame'.
-/
namespace Go.Proofs.YtkcfieoflkhdpaaDoor
open Go.RowKit CrcMath FrameMath

/-- a literal row of byte slices -/
theorem rws_lit (w : World) (t : TypeId) (m : Nat × Nat) (vs : List (Option Addr × Nat × List UInt8)) (h : ∀ x ∈ vs, By w x.1 x.2.1 x.2.2) (hm : vs.length ≤ maxLen) :
    Rws (w.alloc (.cells (vs.map fun x => Value.slice x.1 x.2.2.length x.2.1).toArray t m)) (some ⟨w.heap.size, 0, none⟩) vs.length (vs.map fun x => x.2.2) := by
  refine ⟨fun j hj => ?_, by simp, hm, fun h => by cases h⟩
  have hj' : j < vs.length := by simpa using hj
  refine ⟨_, rfl, vs[j].1, vs[j].2.1, ?_, ?_⟩
  · have : (⟨w.heap.size, 0, none⟩ : Addr).add j = ⟨w.heap.size, j, none⟩ := by unfold Addr.add; split <;> simp_all
    rw [this, cell_of_row _ w.heap.size j _ t m (heap_alloc_new w _)]
    simp [hj']
  · have := (h vs[j] (List.getElem_mem hj')).gr ((Gr.refl w).alloc (.cells (vs.map fun x => Value.slice x.1 x.2.2.length x.2.1).toArray t m))
    simpa using this
theorem But.grow {a w w' : World} {g : Nat} (h : But a w g) (hg : Gr w w') : But a w' g :=
  ⟨hg.os.trans h.os, hg.tape.trans h.tape, hg.output.trans h.output, Nat.le_trans h.size hg.size, fun k hk hne => (hg.block k (Nat.lt_of_lt_of_le hk h.size)).trans (h.block k hk hne)⟩

/-- the sum's four bytes as a number -/
theorem beVal_be4 (s : BitVec 32) : beVal (be4 s) = s.toNat := by
  have e : ∀ k, (byteAt s k).toNat = s.toNat / 2 ^ (8 * k) % 256 := fun k => by
    unfold byteAt
    rw [UInt8.toNat_ofNat', Nat.shiftRight_eq_div_pow, Nat.mod_mod]
  have := s.isLt
  simp only [be4, beVal, List.foldl_cons, List.foldl_nil, e]
  omega
theorem beVal_inj {a b : List UInt8} (ha : a.length = 4) (hb : b.length = 4) (h : beVal a = beVal b) : a = b := by
  obtain ⟨a0, a1, a2, a3, rfl⟩ : ∃ x y z t, a = [x, y, z, t] := by
    rcases a with _ | ⟨x, _ | ⟨y, _ | ⟨z, _ | ⟨t, _ | ⟨u, r⟩⟩⟩⟩⟩ <;> simp at ha
    exact ⟨_, _, _, _, rfl⟩
  obtain ⟨b0, b1, b2, b3, rfl⟩ : ∃ x y z t, b = [x, y, z, t] := by
    rcases b with _ | ⟨x, _ | ⟨y, _ | ⟨z, _ | ⟨t, _ | ⟨u, r⟩⟩⟩⟩⟩ <;> simp at hb
    exact ⟨_, _, _, _, rfl⟩
  have := a0.toNat_lt
  have := a1.toNat_lt
  have := a2.toNat_lt
  have := a3.toNat_lt
  have := b0.toNat_lt
  have := b1.toNat_lt
  have := b2.toNat_lt
  have := b3.toNat_lt
  simp only [beVal, List.foldl_cons, List.foldl_nil] at h
  have h0 : a0 = b0 := UInt8.toNat_inj.1 (by omega)
  have h1 : a1 = b1 := UInt8.toNat_inj.1 (by omega)
  have h2 : a2 = b2 := UInt8.toNat_inj.1 (by omega)
  have h3 : a3 = b3 := UInt8.toNat_inj.1 (by omega)
  rw [h0, h1, h2, h3]
theorem flen_be {b : List UInt8} (h : 6 ≤ b.length) : beVal (b.take 2) = flen b := by
  rcases b with _ | ⟨x, _ | ⟨y, r⟩⟩
  · simp at h
  · simp at h
  · simp [beVal, flen]
theorem head_is {b : List UInt8} (h6 : 6 ≤ b.length) (h : flen b + 6 ≤ b.length) : head (ftext b) = b.take 2 := by
  unfold head
  rw [load_length h]
  rcases b with _ | ⟨x, _ | ⟨y, r⟩⟩
  · simp at h6
  · simp at h6
  · have := x.toNat_lt
    have := y.toNat_lt
    have e : flen (x :: y :: r) = x.toNat * 256 + y.toNat := by simp [flen]
    rw [e]
    have h1 : (x.toNat * 256 + y.toNat) / 256 = x.toNat := by omega
    have h2 : (x.toNat * 256 + y.toNat) % 256 = y.toNat := by omega
    rw [h1, h2]
    simp
theorem is_iff {b : List UInt8} (h6 : 6 ≤ b.length) (hn : flen b ≤ 60000) (h : flen b + 6 ≤ b.length) : Is b ↔ (sum (b.take 2 ++ ftext b)).toNat = beVal ((b.drop 2).take 4) := by
  have e1 : b.take (flen b + 6) = b.take 2 ++ (b.drop 2).take 4 ++ ftext b := by
    have h2 : (b.drop 2).drop 4 = b.drop 6 := by rw [List.drop_drop]
    unfold ftext
    rw [show flen b + 6 = 2 + (4 + flen b) from by omega, List.take_add, List.take_add, h2, List.append_assoc]
  have e2 : enc (ftext b) = b.take 2 ++ be4 (sum (b.take 2 ++ ftext b)) ++ ftext b := by
    unfold enc
    rw [head_is h6 h]
  constructor
  · intro hi
    have h4 := hi.2.2.2
    rw [e1, e2] at h4
    have h5 := List.append_cancel_left (List.append_cancel_right h4)
    rw [h5, beVal_be4]
  · intro hs
    refine ⟨h6, hn, h, ?_⟩
    rw [e1, e2]
    congr 2
    exact beVal_inj (by rw [List.length_take, List.length_drop]; omega) rfl (by rw [beVal_be4, hs])

end Go.Proofs.YtkcfieoflkhdpaaDoor
