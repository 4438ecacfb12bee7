/-
  frame.Put by its contract.
-/
import Derived.Test.YtkcfieoflkhdpaaDoorFrBase
namespace Go.Proofs.YtkcfieoflkhdpaaDoor
open Go.RowKit CrcMath FrameMath
set_option maxRecDepth 100000

theorem head_cells (l : List UInt8) (h : l.length ≤ 60000) : (bvs (head l)).toArray = #[.int .u8 ((l.length : Int) / 256), .int .u8 ((l.length : Int) % 256)] := by
  unfold head bvs bv
  simp only [List.map_cons, List.map_nil, UInt8.toNat_ofNat']
  have h1 : ((l.length / 256 % 2 ^ 8 : Nat) : Int) = (l.length : Int) / 256 := by omega
  have h2 : ((l.length % 256 % 2 ^ 8 : Nat) : Int) = (l.length : Int) % 256 := by omega
  rw [h1, h2]

theorem be4_cells (s : BitVec 32) : (bvs (be4 s)).toArray = #[.int .u8 ((s.toNat : Int) / 16777216), .int .u8 ((s.toNat : Int) / 65536 % 256), .int .u8 ((s.toNat : Int) / 256 % 256), .int .u8 ((s.toNat : Int) % 256)] := by
  have := s.isLt
  have e : ∀ k, (byteAt s k).toNat = s.toNat / 2 ^ (8 * k) % 256 := fun k => by
    unfold byteAt
    rw [UInt8.toNat_ofNat', Nat.shiftRight_eq_div_pow, Nat.mod_mod]
  unfold be4 bvs bv
  simp only [List.map_cons, List.map_nil, e]
  have h0 : ((s.toNat / 2 ^ (8 * 3) % 256 : Nat) : Int) = (s.toNat : Int) / 16777216 := by omega
  have h1 : ((s.toNat / 2 ^ (8 * 2) % 256 : Nat) : Int) = (s.toNat : Int) / 65536 % 256 := by omega
  have h2 : ((s.toNat / 2 ^ (8 * 1) % 256 : Nat) : Int) = (s.toNat : Int) / 256 % 256 := by omega
  have h3 : ((s.toNat / 2 ^ (8 * 0) % 256 : Nat) : Int) = (s.toNat : Int) % 256 := by omega
  rw [h0, h1, h2, h3]

set_option maxHeartbeats 400000 in
theorem Put_ok (A : Option Addr) (n c : Nat) (l : List UInt8) (hn : n = l.length) (w : World) (hby : By w A c l) (hmax : (l.length : Int) ≤ 140737488351232) :
    Calls Tryd.prog 22 #[.slice A n c] w (PutPost w l) := by
  subst hn
  by_cases h1 : (60000 : Int) < (l.length : Int)
  · have d1 : decide ((60000 : Int) < (l.length : Int)) = true := by rw [decide_eq_true_eq]; exact h1
    obtain ⟨p1, p2⟩ := putL_no (l := l) (by omega)
    unfold PutPost
    rw [p1, p2]
    go_enter Tryd.func22, Tryd.ntmps22
    go_wp2_with fail
    go_ret2
    exact ⟨_, 5, rfl, OwnE.none_ _ _, Gr.refl _⟩
  · have d1 : decide ((60000 : Int) < (l.length : Int)) = false := by rw [decide_eq_false_iff_not]; exact h1
    have hle : l.length ≤ 60000 := by omega
    go_enter Tryd.func22, Tryd.ntmps22
    go_wp2_with fail
    rw [← head_cells l hle]
    obtain ⟨W0, hW0⟩ : ∃ W0, w.alloc (.cells (bvs (head l)).toArray 5) = W0 := ⟨_, rfl⟩
    have hb0 : By W0 (some ⟨w.heap.size, 0, none⟩) 2 (head l) := by rw [← hW0]; exact by_lit w 5 (head l) (0, 0) (by rw [head_length]; simp [maxLen])
    have hg0 : Gr w W0 := by rw [← hW0]; exact (Gr.refl w).alloc _
    have hs0 : w.heap.size + 1 = W0.heap.size := by rw [← hW0]; simp
    rw [hW0, hs0]
    have hrw : Rws (W0.alloc (.cells #[.slice (some ⟨w.heap.size, 0, none⟩) 2 2, .slice A l.length c] 33)) (some ⟨W0.heap.size, 0, none⟩) 2 [head l, l] :=
      rws_lit W0 33 (0, 0) [(some ⟨w.heap.size, 0, none⟩, 2, head l), (A, c, l)] (by
        intro x hx
        simp only [List.mem_cons, List.not_mem_nil, or_false] at hx
        rcases hx with rfl | rfl
        · exact hb0
        · exact hby.gr hg0) (by simp [maxLen])
    refine (Concat_ok _ 2 2 _ rfl _ hrw (by simp) (by simp only [List.flatten_cons, List.flatten_nil, List.length_append, List.append_nil, head_length]; omega)).mono ?_
    rintro e w1 ⟨v1, rfl, ho1, hg1⟩
    replace hg1 := ((Gr.refl W0).alloc _).trans hg1
    simp only [List.flatten_cons, List.flatten_nil, List.append_nil] at ho1
    obtain ⟨A1, c1, rfl, hb1⟩ := ho1.by_
    obtain ⟨N1, hN1⟩ : ∃ N1, (head l ++ l).length = N1 := ⟨_, rfl⟩
    have hN1' : N1 ≤ 60002 := by rw [← hN1, List.length_append, head_length]; omega
    have HN1 := hide hN1
    rw [hN1]
    clear hN1
    have G1 := hide (hg0.trans hg1)
    have HB0 := hide (hb0.gr hg1)
    clear hb0 hg0 hs0 hrw ho1 hg1 hW0
    go_wp2_with fail
    refine (Sum_ok A1 _ c1 _ HN1.out.symm _ hb1 (by rw [HN1.out]; omega)).mono ?_
    rintro e w2 ⟨rfl, hg2⟩
    have G2 := hide (G1.out.trans hg2)
    replace HB0 := hide (HB0.out.gr hg2)
    clear hb1 hg2 G1
    obtain ⟨s, hs⟩ : ∃ s, sum (head l ++ l) = s := ⟨_, rfl⟩
    have henc : enc l = head l ++ be4 s ++ l := by unfold enc; rw [hs]
    have HE := hide henc
    rw [hs]
    have hsl := s.isLt
    clear hs henc
    unfold wv
    go_wp2_with fail
    rw [← be4_cells s]
    obtain ⟨W3, hW3⟩ : ∃ W3, w2.alloc (.cells (bvs (be4 s)).toArray 5) = W3 := ⟨_, rfl⟩
    have hb3 : By W3 (some ⟨w2.heap.size, 0, none⟩) 4 (be4 s) := by rw [← hW3]; exact by_lit w2 5 (be4 s) (0, 0) (by rw [be4_length]; simp [maxLen])
    have hg3 : Gr w2 W3 := by rw [← hW3]; exact (Gr.refl w2).alloc _
    have hs3 : w2.heap.size + 1 = W3.heap.size := by rw [← hW3]; simp
    rw [hW3, hs3]
    have hrw : Rws (W3.alloc (.cells #[.slice (some ⟨w.heap.size, 0, none⟩) 2 2, .slice (some ⟨w2.heap.size, 0, none⟩) 4 4, .slice A l.length c] 33)) (some ⟨W3.heap.size, 0, none⟩) 3 [head l, be4 s, l] :=
      rws_lit W3 33 (0, 0) [(some ⟨w.heap.size, 0, none⟩, 2, head l), (some ⟨w2.heap.size, 0, none⟩, 4, be4 s), (A, c, l)] (by
        intro x hx
        simp only [List.mem_cons, List.not_mem_nil, or_false] at hx
        rcases hx with rfl | rfl | rfl
        · exact HB0.out.gr hg3
        · exact hb3
        · exact hby.gr (G2.out.trans hg3)) (by simp [maxLen])
    refine (Concat_ok _ 3 3 _ rfl _ hrw (by simp) (by simp only [List.flatten_cons, List.flatten_nil, List.length_append, List.append_nil, head_length, be4_length]; omega)).mono ?_
    rintro e w4 ⟨v4, rfl, ho4, hg4⟩
    have hgs : Gr w (W3.alloc (.cells #[.slice (some ⟨w.heap.size, 0, none⟩) 2 2, .slice (some ⟨w2.heap.size, 0, none⟩) 4 4, .slice A l.length c] 33)) := (G2.out.trans hg3).alloc _
    have ho5 := hide (ho4.base hgs.size)
    have G4 := hide (hgs.trans hg4)
    clear ho4 hgs hg4 hrw hb3 hg3 hs3 hW3 HB0 G2
    go_wp2_with fail
    go_ret2
    obtain ⟨p1, p2⟩ := putL_yes hle
    have h5 := ho5.out
    simp only [List.flatten_cons, List.flatten_nil, List.append_nil] at h5
    rw [← List.append_assoc, ← HE.out] at h5
    exact ⟨v4, 5, by rw [p2]; rfl, by rw [p1]; exact h5, G4.out⟩

end Go.Proofs.YtkcfieoflkhdpaaDoor
