/-
  The walk of 'CrcTurned'.
-/
import Derived.Test.YteondijecaljlaaCrcBegun
import Derived.Test.YteondijecaljlaaLent
import Derived.StillTailTactics
namespace Go.Proofs.Yteondijecaljlaa
open Go.RowKit CrcMath

def YesTurned (w : World) (e : Ending) (w' : World) : Prop := e = .returned (.bool true) ∧ Gr w w'

theorem bit_test (x : BitVec 32) (k : Nat) : (bits .and .u32 ((x.toNat : Int) / 2 ^ k) 1 == 1) = x.getLsbD k := by
  have e : (x.toNat : Int) / 2 ^ k = ((x.toNat / 2 ^ k : Nat) : Int) := by simp
  have hlt : x.toNat / 2 ^ k < 4294967296 := Nat.lt_of_le_of_lt (Nat.div_le_self _ _) x.isLt
  have h := u32_and_nat (x.toNat / 2 ^ k) 1 hlt (by decide)
  have h1 : x.getLsbD k = x.toNat.testBit k := rfl
  rw [e, show bits .and .u32 ((x.toNat / 2 ^ k : Nat) : Int) 1 = _ from h, nat_mask1, h1, Nat.testBit_eq_decide_div_mod_eq]
  by_cases hb : x.toNat / 2 ^ k % 2 = 1
  · rw [hb]; rfl
  · have hb0 : x.toNat / 2 ^ k % 2 = 0 := by omega
    rw [hb0]; rfl

theorem shl_run {P : Program} (r : Nat) (hr : r < 8) (u : World) : (Op.shift .shl .u8 1 .i64 (r : Int)).run P u = .ok (.int .u8 ((1 <<< UInt8.ofNat r : UInt8).toNat : Int)) u := by
  match r, hr with
  | 0, _ => rfl
  | 1, _ => rfl
  | 2, _ => rfl
  | 3, _ => rfl
  | 4, _ => rfl
  | 5, _ => rfl
  | 6, _ => rfl
  | 7, _ => rfl
theorem shl_bit {P : Program} (p k : Nat) (u : World) : (Op.shift .shl .u8 1 .i64 (((p : Int) + (k : Int)).tmod 8)).run P u = .ok (.int .u8 ((1 <<< UInt8.ofNat ((p + k) % 8) : UInt8).toNat : Int)) u := by
  rw [show ((p : Int) + (k : Int)).tmod 8 = (((p + k) % 8 : Nat) : Int) from by rw [Int.tmod_eq_emod_of_nonneg (by omega)]; omega]
  exact shl_run _ (by omega) u

theorem Front.turn {cap : Nat} {l : List UInt8} {cur : Array Value} (h : Front cap l cur) (j : Nat) (hj : j < l.length) (m : UInt8) : Front cap (l.set j (l.getD j 0 ^^^ m)) (cur.setIfInBounds j (.int .u8 (bits .xor .u8 (l[j].toNat : Int) (m.toNat : Int)))) := by
  obtain ⟨h1, h2, h3⟩ := h
  refine ⟨by simpa using h1, by rw [List.length_set]; exact h2, fun i hi => ?_⟩
  rw [List.length_set] at hi
  rw [u8_xor_nat _ _ l[j].toNat_lt m.toNat_lt, ← UInt8.toNat_xor]
  simp only [List.getD_eq_getElem?_getD, List.getElem?_eq_getElem hj, Option.getD_some]
  by_cases he : i = j
  · subst he
    have : i < cur.size := by omega
    simp [this, bv]
  · rw [Array.getElem?_setIfInBounds_ne (by omega), h3 i hi, List.getElem_set_ne (by omega)]
theorem mash_more {l : List UInt8} {p k : Nat} {x : BitVec 32} {m : UInt8} (hb : x.getLsbD k = true) (hm : 1 <<< UInt8.ofNat ((p + k) % 8) = m) : mash l p x (k + 1) = (mash l p x k).set ((p + k) / 8) ((mash l p x k).getD ((p + k) / 8) 0 ^^^ m) := by
  rw [mash, if_pos hb, hm]

theorem bit_mod (a n : Nat) (h : 5 ≤ n) : (a : Int) % (8 * (n : Int) - 31) = ((a % (8 * n - 31) : Nat) : Int) := by
  rw [Int.natCast_emod, show ((8 * n - 31 : Nat) : Int) = 8 * (n : Int) - 31 from by omega]

set_option maxRecDepth 100000 in
set_option maxHeartbeats 400000 in
theorem turned_out (w : World) (A : Option Addr) (n c : Nat) (l : List UInt8) (hn : n = l.length) (a : Nat) (x : BitVec 32) (h : l.length < 5 ∨ 300 < l.length ∨ x = 0#32) :
    Calls Try.prog 4 #[.slice A n c, .int .u16 (a : Int), .int .u32 (x.toNat : Int)] w (YesTurned w) := by
  subst hn
  by_cases h1 : (l.length : Int) < 5
  · have d1 : decide ((l.length : Int) < 5) = true := by rw [decide_eq_true_eq]; exact h1
    clear h h1
    go_enter Try.func4, Try.ntmps4
    go_wp2_with fail
    refine (begun_ok _).mono ?_
    rintro e w1 ⟨rfl, hg1⟩
    go_wp2_with fail
    go_ret
    exact ⟨rfl, hg1⟩
  · have d1 : decide ((l.length : Int) < 5) = false := by rw [decide_eq_false_iff_not]; exact h1
    by_cases h2 : (300 : Int) < (l.length : Int)
    · have d2 : decide ((300 : Int) < (l.length : Int)) = true := by rw [decide_eq_true_eq]; exact h2
      clear h h1 h2
      go_enter Try.func4, Try.ntmps4
      go_wp2_with fail
      refine (begun_ok _).mono ?_
      rintro e w1 ⟨rfl, hg1⟩
      go_wp2_with fail
      go_ret
      exact ⟨rfl, hg1⟩
    · have d2 : decide ((300 : Int) < (l.length : Int)) = false := by rw [decide_eq_false_iff_not]; exact h2
      obtain rfl : x = 0#32 := by rcases h with h | h | h <;> first | omega | exact h
      have d1 := d1
      clear h h1 h2
      show Calls _ _ #[_, _, .int .u32 0] _ _
      go_enter Try.func4, Try.ntmps4
      go_wp2_with fail
      refine (begun_ok _).mono ?_
      rintro e w1 ⟨rfl, hg1⟩
      go_wp2_with fail
      go_ret
      exact ⟨rfl, hg1⟩

set_option maxRecDepth 100000 in
set_option maxHeartbeats 400000 in
theorem turned_in (w : World) (A : Option Addr) (n c : Nat) (l : List UInt8) (hn : n = l.length) (hby : By w A c l) (a : Nat) (ha : a < 65536) (x : BitVec 32) (h5 : ¬ (l.length : Int) < 5) (h300 : ¬ (300 : Int) < (l.length : Int)) (hx : x ≠ 0#32) :
    Calls Try.prog 4 #[.slice A n c, .int .u16 (a : Int), .int .u32 (x.toNat : Int)] w (YesTurned w) := by
  subst hn
  obtain ⟨i0, hi, hz0, hz1, hz2⟩ := info_parts info_u8'
  have d1 : decide ((l.length : Int) < 5) = false := by rw [decide_eq_false_iff_not]; exact h5
  have d2 : decide ((300 : Int) < (l.length : Int)) = false := by rw [decide_eq_false_iff_not]; exact h300
  have ha16 : (a : Int) < 65536 := by omega
  have d3 : ((x.toNat : Int) == 0) = false := by
    rw [beq_eq_false_iff_ne]
    intro h
    exact hx (BitVec.eq_of_toNat_eq (by rw [show x.toNat = 0 from by omega]; rfl))
  go_enter Try.func4, Try.ntmps4
  go_wp2_with fail
  refine (begun_ok _).mono ?_
  rintro e w1 ⟨rfl, hg1⟩
  go_wp2_with (at_builtin; first | (refine wpList_app rfl (.tmp 31) (.tmp 32) _ rfl 5 i0 Try.underlying22 hi hz0 hz1 hz2 (r := l) rfl rfl (own_empty w1 5 (Gr.refl w1)) ((Gr.refl w1).alloc _) rfl ((hby.gr hg1).gr ((Gr.refl w1).alloc _)).rd hby.nil (by simp; omega) ?_; intro v3 w3 ho3 hg3))
  rw [bit_mod a l.length (by omega)]
  have hp : a % (8 * l.length - 31) + 32 ≤ 8 * l.length := by have := Nat.mod_lt a (show 0 < 8 * l.length - 31 from by omega); omega
  have HS := hide (fun h => sum_turned l (a % (8 * l.length - 31)) x hp h)
  generalize a % (8 * l.length - 31) = p at hp HS ⊢
  obtain ⟨g, cap, cur0, rfl, hbl0, hf0, hgB, hcap⟩ := ho3.block_ (by simp; omega)
  rw [List.nil_append] at hf0 ⊢
  have hoff : ∀ w', But w3 w' g → Gr w1 w' := fun w' h => hg3.below.grown h hg3.size fun k hk => by injection hk with hk; omega
  have HO := hide hoff
  clear ho3 hoff
  go_loopw [9] (fun i wr => ∃ (k : Nat) (cur : Array Value), i = .int .i64 k ∧ k ≤ 32 ∧ Front cap (mash l p x k) cur ∧ Bl wr g 5 cur ∧ But w3 wr g) (fun i _ => 32 - (intOf i).toNat)
  case atStart => exact ⟨0, cur0, rfl, by omega, hf0, hbl0, But.refl _ _⟩
  case round =>
    clear hf0 hbl0
    obtain ⟨k, cur, rfl, hk, hf, hbl, hbut⟩ := hrel
    by_cases hlt : k < 32
    · have hlt' : (k : Int) < 32 := by omega
      cases hb : x.getLsbD k
      · have t := (bit_test x k).trans hb
        go_wp2_with fail
        go_roundw
        case rel => exact ⟨k + 1, cur, by go_num, by omega, by unfold mash; rw [hb]; exact hf, hbl, hbut⟩
        case measure => simp [intOf]; omega
      · have t := (bit_test x k).trans hb
        have hj : (p + k) / 8 < l.length := by omega
        have hml := mash_length l p x k
        have hc : wr.cell? ⟨g, (p + k) / 8, none⟩ = some (bv ((mash l p x k)[(p + k) / 8])) := by rw [hbl.cell]; exact hf.2.2 _ _
        have e4 := shl_bit (P := Try.prog) p k
        obtain ⟨m, hm⟩ : ∃ m : UInt8, 1 <<< UInt8.ofNat ((p + k) % 8) = m := ⟨_, rfl⟩
        rw [hm] at e4
        have hmt := hf.turn ((p + k) / 8) (by omega) m
        rw [← mash_more hb hm] at hmt
        have HF := hide hmt
        clear hmt hm
        obtain ⟨b, hb0⟩ : ∃ b, (mash l p x k)[(p + k) / 8] = b := ⟨_, rfl⟩
        rw [hb0] at hc HF
        clear hb0
        unfold bv at hc
        have hfz : wr.frozen? ⟨g, (p + k) / 8, none⟩ = false := hbl.frozen _
        have e1 : IntKind.i64.wrap ((p : Int) + (k : Int)) = (p : Int) + (k : Int) := by rw [IntKind.wrap_i64]; omega
        have e2 : IntKind.i64.wrap (((p : Int) + (k : Int)).tdiv 8) = ((p : Int) + (k : Int)) / 8 := by
          rw [Int.tdiv_eq_ediv_of_nonneg (by omega), IntKind.wrap_i64]; omega
        have e3 : (((p : Int) + (k : Int)) / 8).toNat = (p + k) / 8 := by omega
        have hj' : ((p : Int) + k) / 8 < (l.length : Int) := by omega
        have hj0 : (0 : Int) ≤ ((p : Int) + k) / 8 := by omega
        go_wp2_with fail
        go_still_tail 14, (by kernel_rfl)
        change wpList _ _ _ _ _ wr.drew
        go_wp2_with fail
        go_roundw
        case rel => exact ⟨k + 1, _, by go_num, by omega, HF.out, (hbl.drewN 1).put _ _, (hbut.drewN 1).set _ _⟩
        case measure => simp [intOf]; omega
    · obtain rfl : k = 32 := by omega
      have hb2 := by_front hbl hf hcap
      have hgr : Gr w1 wr := HO.out _ hbut
      have hlen := mash_length l p x 32
      go_wp2_with fail
      refine (Sum_ok _ _ cap _ hlen.symm _ hb2 (by omega)).mono ?_
      rintro e w5 ⟨rfl, hg5⟩
      go_wp2_with fail
      refine (Sum_ok A _ c l rfl _ (((hby.gr hg1).gr hgr).gr hg5) (by omega)).mono ?_
      rintro e w6 ⟨rfl, hg6⟩
      have hne : ((sum (mash l p x 32)).toNat : Int) ≠ ((sum l).toNat : Int) := fun h => HS.out hx (BitVec.eq_of_toNat_eq (by omega))
      have hgw : Gr w w6 := hg1.trans (hgr.trans (hg5.trans hg6))
      unfold wv
      generalize ((sum (mash l p x 32)).toNat : Int) = s1 at hne ⊢
      generalize ((sum l).toNat : Int) = s2 at hne ⊢
      go_wp2_with fail
      have ht : (s1 != s2) = true := by rw [bne_iff_ne]; exact hne
      rw [ht]
      go_ret
      exact ⟨rfl, hgw⟩

theorem walk_CrcTurned (w : World) (A : Option Addr) (n c : Nat) (l : List UInt8) (hn : n = l.length) (hby : By w A c l) (a0 : Int) (w0 : (Lit.int .u16 a0).wf = true) (a1 : Int) (w1 : (Lit.int .u32 a1).wf = true) :
    Calls Try.prog 4 #[.slice A n c, .int .u16 a0, .int .u32 a1] w (YesTurned w) := by
  have h0 : 0 ≤ a0 ∧ a0 ≤ 65535 := by simpa [Lit.wf, IntKind.min, IntKind.max, IntKind.signed, IntKind.bits] using w0
  have h1 : 0 ≤ a1 ∧ a1 ≤ 4294967295 := by simpa [Lit.wf, IntKind.min, IntKind.max, IntKind.signed, IntKind.bits] using w1
  obtain ⟨a, rfl⟩ := Int.eq_ofNat_of_zero_le h0.1
  obtain ⟨x, hx⟩ : ∃ x : BitVec 32, a1 = (x.toNat : Int) := ⟨BitVec.ofNat 32 a1.toNat, by rw [BitVec.toNat_ofNat]; omega⟩
  subst hx
  by_cases h : l.length < 5 ∨ 300 < l.length ∨ x = 0#32
  · exact turned_out w A n c l hn a x h
  · exact turned_in w A n c l hn hby a (by omega) x (by omega) (by omega) (fun h' => h (.inr (.inr h')))

end Go.Proofs.Yteondijecaljlaa
