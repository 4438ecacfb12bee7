/-
  The walk of 'FrameTurned'.
-/
import Derived.Test.YtfcbhmfhhkifnaaFrameBegun
import Derived.StillTailTactics
namespace Go.Proofs.Ytfcbhmfhhkifnaa
open Go.RowKit FrameMath

def YesTurned (w : World) (e : Ending) (w' : World) : Prop := e = .returned (.bool true) ∧ Gr w w'

theorem shl_int (r : Nat) (hr : r < 8) : (2 : Int) ^ r % (256 : Int) = ((1 <<< UInt8.ofNat r : UInt8).toNat : Int) := by
  match r, hr with
  | 0, _ => rfl
  | 1, _ => rfl
  | 2, _ => rfl
  | 3, _ => rfl
  | 4, _ => rfl
  | 5, _ => rfl
  | 6, _ => rfl
  | 7, _ => rfl
theorem Front.turn {cap : Nat} {l : List UInt8} {cur : Array Value} (h : Front cap l cur) (j : Nat) (hj : j < l.length) (m : UInt8) : Front cap (l.set j (l[j] ^^^ m)) (cur.setIfInBounds j (.int .u8 (bits .xor .u8 (l[j].toNat : Int) (m.toNat : Int)))) := by
  obtain ⟨h1, h2, h3⟩ := h
  refine ⟨by simpa using h1, by rw [List.length_set]; exact h2, fun i hi => ?_⟩
  rw [List.length_set] at hi
  rw [u8_xor_nat _ _ l[j].toNat_lt m.toNat_lt, ← UInt8.toNat_xor]
  by_cases he : i = j
  · subst he
    have : i < cur.size := by omega
    simp [this, bv]
  · rw [Array.getElem?_setIfInBounds_ne (by omega), h3 i hi, List.getElem_set_ne (by omega)]

set_option maxRecDepth 100000 in
set_option maxHeartbeats 400000 in
theorem turned_in (w : World) (A : Option Addr) (c : Nat) (l : List UInt8) (hby : By w A c l) (a z : Nat) (ha : (a : Int) < 65536) (hz : (z : Int) < 256) (h1 : (l.length : Int) ≤ 100) :
    Calls Try.prog 5 #[.slice A l.length c, .int .u16 (a : Int), .int .u8 (z : Int)] w (YesTurned w) := by
  have d1 : decide ((100 : Int) < (l.length : Int)) = false := by rw [decide_eq_false_iff_not]; omega
  go_enter Try.func5, Try.ntmps5
  go_wp2_with fail
  refine (begun_ok _).mono ?_
  rintro e w1 ⟨rfl, hg1⟩
  go_wp2_with fail
  refine (Put_ok A _ c l rfl _ (hby.gr hg1) (by omega)).mono ?_
  rintro e w2 ⟨v2, t2, rfl, ho2, hg2⟩
  obtain ⟨p1, p2⟩ := putL_yes (l := l) (by omega)
  rw [p1] at ho2
  rw [p2]
  have hel := enc_length l
  obtain ⟨g, cap, cur, rfl, hbl, hf, hgB, hcap⟩ := ho2.block_ (by omega)
  have hj2 : 2 + a % (l.length + 4) < (enc l).length := by have := Nat.mod_lt a (show 0 < l.length + 4 by omega); omega
  have HS := hide (not_is_turned l (by omega) (2 + a % (l.length + 4)) (z % 8) (by omega) hj2 (by omega))
  obtain ⟨j, hj⟩ : ∃ j, 2 + a % (l.length + 4) = j := ⟨_, rfl⟩
  obtain ⟨r, hr⟩ : ∃ r, z % 8 = r := ⟨_, rfl⟩
  have hr8 : r < 8 := by omega
  have e4 := shl_int r hr8
  obtain ⟨m, hm⟩ : ∃ m : UInt8, 1 <<< UInt8.ofNat r = m := ⟨_, rfl⟩
  simp only [hj, hr, hm] at HS hj2
  rw [hm] at e4
  have HF := hide (hf.turn j hj2 m)
  have hc : w2.cell? ⟨g, j, none⟩ = some (bv ((enc l)[j])) := by rw [hbl.cell]; exact hf.2.2 _ _
  have hfz : w2.frozen? ⟨g, j, none⟩ = false := hbl.frozen _
  unfold bv at hc
  obtain ⟨b, hb⟩ : ∃ b, (enc l)[j] = b := ⟨_, rfl⟩
  rw [hb] at hc HF HS
  obtain ⟨N, hN⟩ : ∃ N, (enc l).length = N := ⟨_, rfl⟩
  have HN := hide hN
  have hNI : (N : Int) = 6 + (l.length : Int) := by omega
  have hjI : (2 : Int) + (a : Int) % ((N : Int) - 2) = (j : Int) := by
    rw [show (a : Int) % ((N : Int) - 2) = ((a % (l.length + 4) : Nat) : Int) from by rw [Int.natCast_emod]; congr 1; omega]
    omega
  have dN : ((N : Int) != 6 + (l.length : Int)) = false := by rw [hNI, bne_self_eq_false]
  have hN0 : ¬ ((N : Int) - 2 = 0) := by omega
  have hNb : (N : Int) ≤ 106 := by omega
  rw [hN]
  have hrI : (z : Int) % 8 = (r : Int) := by omega
  have hjl : (j : Int) < (N : Int) := by omega
  have H2 := hide hj2
  have E4 := hide e4
  clear e4 hj2 hj hr hm hb hf p1 p2 hel hN hNI
  go_wp2_with fail
  rw [E4.out]
  have hb3 := by_front (hbl.put j (.int .u8 (bits .xor .u8 (b.toNat : Int) (m.toNat : Int)))) HF.out hcap
  have hgr : Gr w1 (w2.setCell ⟨g, j, none⟩ (.int .u8 (bits .xor .u8 (b.toNat : Int) (m.toNat : Int)))) := hg2.below.grown ((But.refl w2 g).set j _) hg2.size fun k hk => by injection hk with hk; omega
  refine (Take_ok _ _ _ _ (by rw [List.length_set, HN.out]) _ hb3 (by rw [List.length_set, HN.out]; omega)).mono ?_
  rintro e w4 ⟨A4, c4, rfl, hb4, hg4⟩
  obtain ⟨q1, q2, q3⟩ := take_no HS.out
  rw [q1, q2, q3]
  have HG := hide (hg1.trans (hgr.trans hg4))
  clear hb4 hb3 hgr hg4 hg2 hg1 HF q1 q2 q3
  go_wp2_with fail
  go_ret
  exact ⟨rfl, HG.out⟩

set_option maxRecDepth 100000 in
set_option maxHeartbeats 400000 in
theorem turned_out (w : World) (A : Option Addr) (n c : Nat) (a z : Int) (h : (100 : Int) < (n : Int)) :
    Calls Try.prog 5 #[.slice A n c, .int .u16 a, .int .u8 z] w (YesTurned w) := by
  have d1 : decide ((100 : Int) < (n : Int)) = true := by rw [decide_eq_true_eq]; exact h
  clear h
  go_enter Try.func5, Try.ntmps5
  go_wp2_with fail
  refine (begun_ok _).mono ?_
  rintro e w1 ⟨rfl, hg1⟩
  go_wp2_with fail
  go_ret
  exact ⟨rfl, hg1⟩

theorem walk_FrameTurned (w : World) (A : Option Addr) (n c : Nat) (l : List UInt8) (hn : n = l.length) (hby : By w A c l) (a0 : Int) (w0 : (Lit.int .u16 a0).wf = true) (a1 : Int) (w1 : (Lit.int .u8 a1).wf = true) :
    Calls Try.prog 5 #[.slice A n c, .int .u16 a0, .int .u8 a1] w (YesTurned w) := by
  have h0 : 0 ≤ a0 ∧ a0 ≤ 65535 := by simpa [Lit.wf, IntKind.min, IntKind.max, IntKind.signed, IntKind.bits] using w0
  have h1 : 0 ≤ a1 ∧ a1 ≤ 255 := by simpa [Lit.wf, IntKind.min, IntKind.max, IntKind.signed, IntKind.bits] using w1
  obtain ⟨a, rfl⟩ := Int.eq_ofNat_of_zero_le h0.1
  obtain ⟨z, rfl⟩ := Int.eq_ofNat_of_zero_le h1.1
  by_cases h : (100 : Int) < (n : Int)
  · exact turned_out w A n c a z h
  · subst hn
    exact turned_in w A c l hby a z (by omega) (by omega) (by omega)

end Go.Proofs.Ytfcbhmfhhkifnaa
