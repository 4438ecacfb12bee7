/-
  The document's 'high': a number's bytes, the highest first.
-/
import Derived.Test.YtfcbhmfhhkifnaaFrameWords
import Derived.Test.YtfcbhmfhhkifnaaCrcBits
import Derived.Test.YtfcbhmfhhkifnaaLent
namespace Go.Proofs.Ytfcbhmfhhkifnaa
open Go.RowKit CrcMath FrameMath

/-- the byte at place j of n -/
def highAt (v n j : Nat) : UInt8 := UInt8.ofNat (v / 256 ^ (n - 1 - j) % 256)
def highL (v n : Nat) : List UInt8 := (List.range n).map (highAt v n)
theorem highL_length (v n : Nat) : (highL v n).length = n := by simp [highL]

/-- the places from k on are reckoned -/
def Highs (v n k : Nat) (cur : Array Value) : Prop := cur.size = n ∧ ∀ j, k ≤ j → j < n → cur[j]? = some (bv (highAt v n j))
theorem Highs.more {v n m x : Nat} {cur : Array Value} (h : Highs v n (m + 1) cur) (hm : m < n) (hx : x = v / 256 ^ (n - 1 - m)) (z : Int) (hz : z = ((x % 256 : Nat) : Int)) : Highs v n m (cur.setIfInBounds m (.int .u8 z)) := by
  obtain ⟨h1, h2⟩ := h
  refine ⟨by simpa using h1, fun j hj hjn => ?_⟩
  by_cases he : j = m
  · subst he
    have hs : j < cur.size := by omega
    have e : bv (highAt v n j) = .int .u8 z := by
      subst hz hx
      unfold bv highAt
      rw [UInt8.toNat_ofNat']
      congr 1
      omega
    rw [e]
    simp [hs]
  · rw [Array.getElem?_setIfInBounds_ne (by omega)]
    exact h2 j (by omega) hjn
theorem Highs.cells {v n : Nat} {cur : Array Value} (h : Highs v n 0 cur) : cur = (bvs (highL v n)).toArray := by
  obtain ⟨h1, h2⟩ := h
  apply Array.ext_getElem?
  intro j
  by_cases hj : j < n
  · rw [h2 j (by omega) hj]
    simp [bvs, highL, hj]
  · rw [Array.getElem?_eq_none (by omega), Array.getElem?_eq_none (by simp [bvs, highL]; omega)]
theorem Highs.own {v n : Nat} {cur : Array Value} {w : World} {g B : Nat} {e : TypeId} (h : Highs v n 0 cur) (hb : Bl w g e cur) (hB : B ≤ g) (hn : n ≤ 8) : OwnE e w B (.slice (some ⟨g, 0, none⟩) n n) (highL v n) := by
  have hc := h.cells
  subst hc
  refine ⟨by simp [bvs], .inr ⟨g, n, _, by rw [highL_length], hB, hb, by rw [highL_length]; exact Nat.le_refl _, by unfold maxLen; omega, by simp [bvs, highL], by rw [List.take_of_length_le (by simp [bvs, highL])]⟩⟩

def HighPost (w : World) (v n : Nat) (e : Ending) (w' : World) : Prop := ∃ x, e = .returned x ∧ OwnE 5 w' w.heap.size x (highL v n) ∧ Gr w w'

set_option maxHeartbeats 400000 in
theorem high_ok (v n : Nat) (hv : (v : Int) ≤ 4294967295) (h1 : 1 ≤ n) (hn : n ≤ 8) (w : World) : Calls Try.prog 19 #[.int .u64 (v : Int), .int .i64 (n : Int)] w (HighPost w v n) := by
  have hmk := make_bytes w n (by omega)
  go_enter Try.func19, Try.ntmps19
  go_wp2_with fail
  have hb0 := Bl.new w 5 (madeCells #[.int .u8 0] n)
  have hbut0 := But.refl (w.alloc (.cells (madeCells #[.int .u8 0] n) 5)) w.heap.size
  have hp0 : Highs v n n (madeCells #[.int .u8 0] n) := ⟨size_madeCells _ _, fun j hj hjn => absurd hjn (by omega)⟩
  obtain ⟨g, hg⟩ : ∃ g, w.heap.size = g := ⟨_, rfl⟩
  obtain ⟨W0, hW0⟩ : ∃ W0, w.alloc (.cells (madeCells #[.int .u8 0] n) 5) = W0 := ⟨_, rfl⟩
  have hgrW : ∀ w', But W0 w' g → Gr w w' := fun w' h => by subst hW0; subst hg; exact h.gr
  rw [hW0, hg] at hb0 hbut0
  have HgrW := hide hgrW
  rw [hW0, hg]
  have HG : Hid (w.heap.size = g) := hide hg
  clear hW0 hg hmk hgrW
  go_loopw [0, 6] (fun x i wr => (∃ (m y : Nat) (cur : Array Value), i = .int .i64 m ∧ m < n ∧ x = .int .u64 y ∧ (y : Int) ≤ 4294967295 ∧ Hid (y = v / 256 ^ (n - 1 - m)) ∧ Highs v n (m + 1) cur ∧ Bl wr g 5 cur ∧ But W0 wr g) ∨ (∃ (y : Nat) (cur : Array Value), i = .int .i64 (-1) ∧ x = .int .u64 y ∧ Highs v n 0 cur ∧ Bl wr g 5 cur ∧ But W0 wr g)) (fun _ i _ => (intOf i + 1).toNat)
  case atStart => exact .inl ⟨n - 1, v, _, by congr 1; omega, by omega, rfl, hv, by rw [show n - 1 - (n - 1) = 0 from by omega]; simp [Hid], by rw [show n - 1 + 1 = n from by omega]; exact hp0, hb0, hbut0⟩
  case round =>
    clear hb0 hbut0 hp0
    rcases hrel with ⟨m, y, cur, rfl, hm, rfl, hy, HY, hh, hb, hbut⟩ | ⟨y, cur, rfl, rfl, hh, hb, hbut⟩
    · have hm' : (m : Int) < (n : Int) := by omega
      obtain ⟨u, hu⟩ := cur_some hh.1 hm
      have hc : wr.cell? ⟨g, m, none⟩ = some u := by rw [hb.cell]; exact hu
      have hf : wr.frozen? ⟨g, m, none⟩ = false := hb.frozen m
      have HU := hide hu
      clear hu
      go_wp2_with fail
      refine ⟨?_, by simp [intOf]⟩
      have HM := hh.more hm HY.out ((y : Int) % 256) (by omega)
      rcases m with _ | m
      · exact .inr ⟨y / 256, _, rfl, by congr 1, HM, hb.put _ _, hbut.set _ _⟩
      · refine .inl ⟨m, y / 256, _, by go_num, by omega, by congr 1, by omega, ?_, HM, hb.put _ _, hbut.set _ _⟩
        show y / 256 = _
        rw [HY.out, Nat.div_div_eq_div_mul, ← Nat.pow_succ]
        congr 2
        omega
    · go_wp2_with fail
      go_ret
      exact ⟨_, rfl, hh.own hb (by rw [HG.out]; exact Nat.le_refl _) hn, HgrW.out _ hbut⟩

theorem high_head (l : List UInt8) (h : l.length ≤ 60000) : highL l.length 2 = head l := by
  unfold highL head highAt
  simp only [List.range_succ, List.range_zero, List.nil_append, List.map_cons, List.map_nil, List.cons_append]
  have e : l.length / 256 ^ (2 - 1 - 0) % 256 = l.length / 256 := by
    rw [Nat.mod_eq_of_lt]
    omega
  rw [e, show l.length / 256 ^ (2 - 1 - 1) = l.length from Nat.div_one _]
theorem high_be4 (s : BitVec 32) : highL s.toNat 4 = be4 s := by
  unfold highL be4 highAt byteAt
  simp only [List.range_succ, List.range_zero, List.nil_append, List.map_cons, List.map_nil, List.cons_append, Nat.shiftRight_eq_div_pow]

end Go.Proofs.Ytfcbhmfhhkifnaa
