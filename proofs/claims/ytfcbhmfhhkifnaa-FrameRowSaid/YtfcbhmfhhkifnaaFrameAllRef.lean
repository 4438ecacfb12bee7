/-
  The document's Frames by its contract.
-/
import Derived.Test.YtfcbhmfhhkifnaaFrameTakeRef
namespace Go.Proofs.Ytfcbhmfhhkifnaa
open Go.RowKit CrcMath FrameMath

theorem New.apart {w : World} {A : Option Addr} {l : List UInt8} (h : New w A l) {o : Option Nat} (ho : ∀ k, o = some k → k < w.heap.size) : Apart o A l := fun hl ad hA e => by
  have h1 := h hl ad hA
  have h2 := ho _ e.symm
  omega
/-- the first so many are read -/
def Read (l : List UInt8) (at_ : Nat) (ls : List (List UInt8)) : Prop := at_ ≤ l.length ∧ all l = ls ++ all (l.drop at_) ∧ at_ = fspan ls
theorem Read.nil (l : List UInt8) : Read l 0 [] := ⟨Nat.zero_le _, rfl, rfl⟩
theorem Read.more {l : List UInt8} {at_ : Nat} {ls : List (List UInt8)} (h : Read l at_ ls) (hi : Is (l.drop at_)) : Read l (at_ + (flen (l.drop at_) + 6)) (ls ++ [ftext (l.drop at_)]) := by
  obtain ⟨h1, h2, h3⟩ := h
  have h4 := hi.2.2.1
  rw [List.length_drop] at h4
  refine ⟨by omega, ?_, ?_⟩
  · rw [h2, all_is hi, List.append_assoc, List.drop_drop]
    rfl
  · have h5 : fspan [ftext (l.drop at_)] = flen (l.drop at_) + 6 := by rw [size_cons, load_length hi.2.2.1]; simp [fspan]
    rw [size_append, h5, ← h3]
theorem Read.stop {l : List UInt8} {at_ : Nat} {ls : List (List UInt8)} (h : Read l at_ ls) (hi : ¬ Is (l.drop at_)) : all l = ls ∧ allK l = (at_ : Int) := by
  obtain ⟨_, h2, h3⟩ := h
  rw [all_not hi, List.append_nil] at h2
  refine ⟨h2, ?_⟩
  unfold allK
  rw [h2, h3]

theorem Read.many {l : List UInt8} {at_ : Nat} {ls : List (List UInt8)} (h : Read l at_ ls) : ls.length ≤ l.length := by
  obtain ⟨h1, _, h3⟩ := h
  have : ∀ ls : List (List UInt8), ls.length ≤ fspan ls := by
    intro ls
    induction ls with
    | nil => exact Nat.le_refl _
    | cons x r ih => rw [size_cons, List.length_cons]; omega
  have := this ls
  omega

theorem info_slice : (Try.prog.info? 22).map (fun i => (i.zero, i.size, i.bytes)) = some (some (.slice none 0 0), 1, 24) := by kernel_rfl

set_option maxRecDepth 100000 in
set_option maxHeartbeats 400000 in
theorem RefAll_ok (A : Option Addr) (n c : Nat) (l : List UInt8) (hn : n = l.length) (w : World) (hby : By w A c l) (hmax : (l.length : Int) ≤ 1000000000) :
    Calls Try.prog 15 #[.slice A n c] w (AllPost w l) := by
  subst hn
  obtain ⟨i0, hi, hz0, hz1, hz2⟩ := info_parts info_slice
  go_enter Try.func15, Try.ntmps15
  go_wp2_with fail
  go_loopw [4, 5] (fun v i wr => ∃ (k : Nat) (ls : List (List UInt8)), i = .int .i64 k ∧ Hid (Read l k ls) ∧ Held 22 wr w.heap.size v ls ∧ Gr w wr) (fun _ i _ => l.length - (intOf i).toNat)
  case atStart => exact ⟨0, [], rfl, Read.nil l, Held.none_ _ _, Gr.refl _⟩
  case round =>
    obtain ⟨k, ls, rfl, hr, hh, hg⟩ := hrel
    have hk : (k : Int) ≤ (l.length : Int) := by have := hr.out.1; omega
    have hlen := hide hr.out.many
    have hlc := hby.le
    have hcI : (l.length : Int) ≤ (c : Int) := by omega
    have hcut := (hby.gr hg).cut k l.length (by omega) (Nat.le_refl _)
    have hdl := hide (p := l.length - k = (l.drop k).length) (by rw [List.length_drop])
    rw [List.take_of_length_le (by rw [List.length_drop]; exact Nat.le_refl _)] at hcut
    have e3 : decide (l.length < k) = false := by rw [decide_eq_false_iff_not]; omega
    have HY := hide hby
    clear hby hlc
    by_cases his : Is (l.drop k)
    · have h6 : 6 ≤ l.length - k := by have := his.1; rwa [List.length_drop] at this
      have hck : ¬ c = k := by omega
      rw [if_neg hck] at hcut
      go_wp2_with fail
      refine (RefTake_ok _ _ _ (l.drop k) hdl.out wr hcut (by rw [List.length_drop]; omega)).mono ?_
      rintro e w2 ⟨A2, c2, rfl, hb2, hn2, hg2⟩
      obtain ⟨p1, p2, p3⟩ := take_yes his
      rw [p1] at hb2 hn2 ⊢
      rw [p2, p3]
      have hap := hn2.apart (o := u4.ownBlock) fun j hj => (hh.lt j hj).2
      have HM := hide (hr.out.more his)
      obtain ⟨T, hT⟩ : ∃ T, ftext (l.drop k) = T := ⟨_, rfl⟩
      obtain ⟨N, hN⟩ : ∃ N, flen (l.drop k) = N := ⟨_, rfl⟩
      have hm := HM.out.1
      rw [hN] at HM hm ⊢
      rw [hT] at hb2 hap HM ⊢
      clear hcut hdl p1 p2 p3 his hn2 hT hN e3
      go_wp2_with (at_builtin; refine wpList_pushS rfl (.tmp 21) (.tmp 23) _ rfl 22 i0 Try.underlying29 hi hz0 hz1 hz2 (w0 := w) rfl hb2 rfl (hh.gr hg2) (hg.trans hg2) hap rfl (by have := hlen.out; omega) ?_; intro v3 w3 ho3 hg3)
      go_roundw
      case rel => exact ⟨k + (N + 6), _, by go_num, HM, ho3, hg3⟩
      case measure => simp [intOf]; omega
    · by_cases hck : c = k
      case' pos => rw [if_pos hck, show c - k = 0 from by omega] at hcut
      case' neg => rw [if_neg hck] at hcut
      all_goals
        go_wp2_with fail
        refine (RefTake_ok _ _ _ (l.drop k) hdl.out wr hcut (by rw [List.length_drop]; omega)).mono ?_
        rintro e w2 ⟨A2, c2, rfl, hb2, hn2, hg2⟩
        obtain ⟨p1, p2, p3⟩ := take_no his
        obtain ⟨q1, q2⟩ := hr.out.stop his
        rw [p1, p2, p3]
        clear hcut hdl p1 p2 p3 his hb2 hn2 e3
        go_wp2_with fail
        go_ret2
        obtain ⟨A3, c3, rfl, hrw⟩ := (hh.gr hg2).rws
        exact ⟨A3, c3, by rw [q1, q2]; rfl, by rw [q1]; exact hrw, hg.trans hg2⟩

end Go.Proofs.Ytfcbhmfhhkifnaa
