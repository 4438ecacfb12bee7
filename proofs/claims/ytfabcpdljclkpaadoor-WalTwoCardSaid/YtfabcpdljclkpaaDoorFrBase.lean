/-
  Words about what is new in memory, and how far a reader is; the frame's own. No document.
-/
import Derived.Test.YtfabcpdljclkpaaDoorFrameWords
import Derived.Test.YtfabcpdljclkpaaDoorChecked
import Derived.Test.YtfabcpdljclkpaaDoorBaseG
import Derived.Test.YtfabcpdljclkpaaDoorBaseW
import Derived.Deep.QuietTactic
import Derived.BigQuiet
namespace Go.Proofs.YtfabcpdljclkpaaDoor
open Go.RowKit CrcMath FrameMath
set_option maxRecDepth 100000

theorem head_length (l : List UInt8) : (head l).length = 2 := rfl
theorem be4_length (s : BitVec 32) : (be4 s).length = 4 := rfl

/-- what stands here is new -/
def New (w : World) (A : Option Addr) (l : List UInt8) : Prop := 0 < l.length → ∀ ad, A = some ad → w.heap.size ≤ ad.block
theorem OwnE.by_new {e : TypeId} {w0 w : World} {v : Value} {l : List UInt8} (h : OwnE e w w0.heap.size v l) : ∃ A c, v = .slice A l.length c ∧ By w A c l ∧ New w0 A l := by
  obtain ⟨A, c, rfl, hb⟩ := h.by_
  refine ⟨A, c, rfl, hb, fun hl ad hA => ?_⟩
  subst hA
  exact (World.ownsRow.lt h ad.block rfl).1
theorem bs_ne {a b : List UInt8} (h : a ≠ b) : ((bs a).toList == (bs b).toList) = false := by
  rw [Grow.str_eq, decide_eq_false_iff_not]
  exact fun e => h (bs_inj e)
theorem New.apart {w : World} {A : Option Addr} {l : List UInt8} (h : New w A l) {o : Option Nat} (ho : ∀ k, o = some k → k < w.heap.size) : Apart o A l := fun hl ad hA e => by
  have h1 := h hl ad hA
  have h2 := ho _ e.symm
  omega
/-- the first so many are read -/
def Read (l : List UInt8) (at_ : Nat) (ls : List (List UInt8)) : Prop := at_ ≤ l.length ∧ all l = ls ++ all (l.drop at_) ∧ at_ = fspan ls
theorem Read.nil (l : List UInt8) : Read l 0 [] := ⟨Nat.zero_le _, rfl, rfl⟩
theorem Read.more {l : List UInt8} {at_ : Nat} {ls : List (List UInt8)} (h : Read l at_ ls) (hi : Is (l.drop at_)) : Read l (at_ + (flen (l.drop at_) + 6)) (ls ++ [ftext (l.drop at_)]) := by
  obtain ⟨h1, h2, h3⟩ := h
  have h4 := hi.2.2.1
  rw [List.length_drop] at h4
  refine ⟨by omega, ?_, ?_⟩
  · rw [h2, all_is hi, List.append_assoc, List.drop_drop]
    rfl
  · have h5 : fspan [ftext (l.drop at_)] = flen (l.drop at_) + 6 := by rw [size_cons, load_length hi.2.2.1]; simp [fspan]
    rw [size_append, h5, ← h3]
theorem Read.stop {l : List UInt8} {at_ : Nat} {ls : List (List UInt8)} (h : Read l at_ ls) (hi : ¬ Is (l.drop at_)) : all l = ls ∧ allK l = (at_ : Int) := by
  obtain ⟨_, h2, h3⟩ := h
  rw [all_not hi, List.append_nil] at h2
  refine ⟨h2, ?_⟩
  unfold allK
  rw [h2, h3]

theorem Read.many {l : List UInt8} {at_ : Nat} {ls : List (List UInt8)} (h : Read l at_ ls) : ls.length ≤ l.length := by
  obtain ⟨h1, _, h3⟩ := h
  have : ∀ ls : List (List UInt8), ls.length ≤ fspan ls := by
    intro ls
    induction ls with
    | nil => exact Nat.le_refl _
    | cons x r ih => rw [size_cons, List.length_cons]; omega
  have := this ls
  omega

theorem info_slice : (Tryd.prog.info? 33).map (fun i => (i.zero, i.size, i.bytes)) = some (some (.slice none 0 0), 1, 24) := by kernel_rfl

end Go.Proofs.YtfabcpdljclkpaaDoor
