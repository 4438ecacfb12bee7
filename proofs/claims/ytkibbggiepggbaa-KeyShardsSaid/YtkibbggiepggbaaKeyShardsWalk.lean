/-
  The walk of 'KeyShards'.
-/
import Derived.Test.YtkibbggiepggbaaKeyBegun
import Derived.StillTailTactics
namespace Go.Proofs.Ytkibbggiepggbaa
open Go.RowKit KeyMath

def YesShards (w : World) (e : Ending) (w' : World) : Prop := e = .returned (.bool true) ∧ Gr w w'

/-- eight bytes, turned -/
def turn (l : List UInt8) (t : Nat) : List UInt8 := (List.range 8).map fun i => l.getD ((i + t) % 8) 0
theorem turn_length (l : List UInt8) (t : Nat) : (turn l t).length = 8 := by simp [turn]
theorem turn_mod (l : List UInt8) (t : Nat) : turn l t = turn l (t % 8) := by
  unfold turn
  refine List.map_congr_left fun i _ => ?_
  rw [Nat.add_mod_mod]
theorem turn_sum (l : List UInt8) (h : l.length = 8) (t : Nat) : sumB (turn l t) = sumB l := by
  rw [turn_mod]
  have ht : t % 8 < 8 := Nat.mod_lt _ (by decide)
  match l, h with
  | [a, b, c, d, e, f, g, i], _ =>
    generalize t % 8 = s at ht
    match s, ht with
    | 0, _ => simp [turn, sumB, List.range_succ]
    | 1, _ => simp [turn, sumB, List.range_succ]; omega
    | 2, _ => simp [turn, sumB, List.range_succ]; omega
    | 3, _ => simp [turn, sumB, List.range_succ]; omega
    | 4, _ => simp [turn, sumB, List.range_succ]; omega
    | 5, _ => simp [turn, sumB, List.range_succ]; omega
    | 6, _ => simp [turn, sumB, List.range_succ]; omega
    | 7, _ => simp [turn, sumB, List.range_succ]; omega

/-- the first k are there -/
def Done (l : List UInt8) (k : Nat) (cur : Array Value) : Prop := cur.size = l.length ∧ ∀ j (h : j < l.length), j < k → cur[j]? = some (bv l[j])
theorem Done.more {l : List UInt8} {k : Nat} {cur : Array Value} (h : Done l k cur) (hk : k < l.length) {x : UInt8} (hx : x = l[k]) : Done l (k + 1) (cur.setIfInBounds k (.int .u8 (x.toNat : Int))) := by
  obtain ⟨h1, h2⟩ := h
  refine ⟨by simpa using h1, fun j hj hjk => ?_⟩
  by_cases he : j = k
  · subst he
    have hs : j < cur.size := by rw [h1]; exact hj
    subst hx
    simp [hs, bv]
  · rw [Array.getElem?_setIfInBounds_ne (by omega)]
    exact h2 j hj (by omega)
theorem Done.rd {l : List UInt8} {k : Nat} {cur : Array Value} (h : Done l k cur) (hk : l.length ≤ k) {w : World} {g : Nat} {e : TypeId} (hb : Bl w g e cur) : Rd w (some ⟨g, 0, none⟩) l := fun j hj => by
  refine ⟨_, rfl, ?_⟩
  have : (⟨g, 0, none⟩ : Addr).add j = ⟨g, j, none⟩ := by unfold Addr.add; split <;> simp_all
  rw [this, hb.cell j]
  exact h.2 j hj (by omega)
theorem turn_at (l : List UInt8) (t k : Nat) (hk : k < (turn l t).length) : l.getD ((k + t) % 8) 0 = (turn l t)[k] := by simp [turn]
theorem conv_ (w : World) {A : Option Addr} {l : List UInt8} (n c : Nat) (hn : l.length = n) (h : Rd w A l) : (convert 30 9 (.slice A n c)).run Try.prog w = .ok (.string (bs l)) w :=
  run_conv w 30 9 5 Try.underlying30 Try.underlying5 Try.underlying9 n c hn h
theorem arr_run (g : Nat) (w : World) : (Instr.sliceAt 29 (.pointer (some ⟨g, 0, none⟩)) none none none).run Try.prog w = .ok (.slice (some ⟨g, 0, none⟩) 8 8) w := by kernel_rfl
theorem shardK_bs (l : List UInt8) (m : Nat) (hm : 1 ≤ m) : shardK (bs l) m = ((sumB l % m : Nat) : Int) := by
  unfold shardK
  rw [if_neg (by omega), Int.natCast_emod, bs_list]

set_option maxRecDepth 100000 in
set_option maxHeartbeats 1000000 in
theorem shards_in (w : World) (b0 b1 b2 b3 b4 b5 b6 b7 : UInt8) (t z : Nat) (ht : (t : Int) < 256) (hz : (z : Int) < 256) :
    Calls Try.prog 4 #[.agg (bvs [b0, b1, b2, b3, b4, b5, b6, b7]).toArray, .int .u8 (t : Int), .int .u8 (z : Int)] w (YesShards w) := by
  have hb := Bl.new w 29 (bvs [b0, b1, b2, b3, b4, b5, b6, b7]).toArray
  have hgW := (Gr.refl w).alloc (.cells (bvs [b0, b1, b2, b3, b4, b5, b6, b7]).toArray 29)
  go_enter Try.func4, Try.ntmps4
  go_wp2_with fail
  obtain ⟨W, hW⟩ : ∃ W, w.alloc (.cells (bvs [b0, b1, b2, b3, b4, b5, b6, b7]).toArray 29) = W := ⟨_, rfl⟩
  obtain ⟨g, hg⟩ : ∃ g, w.heap.size = g := ⟨_, rfl⟩
  rw [hW] at hb hgW ⊢
  rw [hg] at hb ⊢
  clear hW hg
  refine (begun_ok _).mono ?_
  rintro e w1 ⟨rfl, hg1⟩
  replace hb := hb.gr hg1
  have HB := hide hb
  have hglt := hb.lt
  have hcell : ∀ j (x : UInt8), [b0, b1, b2, b3, b4, b5, b6, b7][j]? = some x → w1.cell? ⟨g, j, none⟩ = some (.int .u8 (x.toNat : Int)) := fun j x hx => by
    rw [hb.cell, List.getElem?_toArray]
    unfold bvs
    rw [List.getElem?_map, hx]
    rfl
  have c0 := hcell 0 b0 rfl
  have c1 := hcell 1 b1 rfl
  have c2 := hcell 2 b2 rfl
  have c3 := hcell 3 b3 rfl
  have c4 := hcell 4 b4 rfl
  have c5 := hcell 5 b5 rfl
  have c6 := hcell 6 b6 rfl
  have c7 := hcell 7 b7 rfl
  have HC := hide hcell
  have HG := hide (hgW.trans hg1)
  clear hb hcell hg1 hgW
  go_wp2_with fail
  have hbn := Bl.new w1 29 #[.int .u8 (b0.toNat : Int), .int .u8 (b1.toNat : Int), .int .u8 (b2.toNat : Int), .int .u8 (b3.toNat : Int), .int .u8 (b4.toNat : Int), .int .u8 (b5.toNat : Int), .int .u8 (b6.toNat : Int), .int .u8 (b7.toNat : Int)]
  have hbut : ∀ w', But (w1.alloc (.cells #[.int .u8 (b0.toNat : Int), .int .u8 (b1.toNat : Int), .int .u8 (b2.toNat : Int), .int .u8 (b3.toNat : Int), .int .u8 (b4.toNat : Int), .int .u8 (b5.toNat : Int), .int .u8 (b6.toNat : Int), .int .u8 (b7.toNat : Int)] 29)) w' w1.heap.size → Gr w1 w' := fun w' h => h.gr
  have hgW1 := (Gr.refl w1).alloc (.cells #[.int .u8 (b0.toNat : Int), .int .u8 (b1.toNat : Int), .int .u8 (b2.toNat : Int), .int .u8 (b3.toNat : Int), .int .u8 (b4.toNat : Int), .int .u8 (b5.toNat : Int), .int .u8 (b6.toNat : Int), .int .u8 (b7.toNat : Int)] 29)
  obtain ⟨W1, hW1⟩ : ∃ W1, w1.alloc (.cells #[.int .u8 (b0.toNat : Int), .int .u8 (b1.toNat : Int), .int .u8 (b2.toNat : Int), .int .u8 (b3.toNat : Int), .int .u8 (b4.toNat : Int), .int .u8 (b5.toNat : Int), .int .u8 (b6.toNat : Int), .int .u8 (b7.toNat : Int)] 29) = W1 := ⟨_, rfl⟩
  obtain ⟨h, hh⟩ : ∃ h, w1.heap.size = h := ⟨_, rfl⟩
  rw [hW1, hh] at hbn hbut
  rw [hW1] at hgW1
  rw [hW1, hh]
  have hgh : g ≠ h := by omega
  have HBut := hide hbut
  have HB1 := hide (HB.out.gr hgW1)
  have hd0 : Done (turn [b0, b1, b2, b3, b4, b5, b6, b7] t) 0 #[.int .u8 (b0.toNat : Int), .int .u8 (b1.toNat : Int), .int .u8 (b2.toNat : Int), .int .u8 (b3.toNat : Int), .int .u8 (b4.toNat : Int), .int .u8 (b5.toNat : Int), .int .u8 (b6.toNat : Int), .int .u8 (b7.toNat : Int)] := ⟨rfl, fun j _ hj => absurd hj (by omega)⟩
  have hcW : ∀ j, j < 8 → ∃ x, x = [b0, b1, b2, b3, b4, b5, b6, b7].getD j 0 ∧ W1.cell? ⟨g, j, none⟩ = some (.int .u8 ((x : UInt8).toNat : Int)) := fun j hj => by
    refine ⟨_, rfl, gr_cell hgW1 _ _ (HC.out j _ ?_)⟩
    rw [List.getD_eq_getElem?_getD, List.getElem?_eq_getElem (by simpa using hj)]
    rfl
  have HCW := hide hcW
  have HG2 := hide (HG.out)
  clear hW1 hh hbut hcW c0 c1 c2 c3 c4 c5 c6 c7 hglt
  go_loopw [9] (fun i wr => ∃ (k : Nat) (cur : Array Value), i = .int .i64 k ∧ k ≤ 8 ∧ Hid (Done (turn [b0, b1, b2, b3, b4, b5, b6, b7] t) k cur) ∧ Bl wr h 29 cur ∧ But W1 wr h) (fun i _ => 8 - (intOf i).toNat)
  case atStart => exact ⟨0, _, rfl, by omega, hd0, hbn, But.refl _ _⟩
  case round =>
    clear hbn hd0
    obtain ⟨k, cur, rfl, hk, hd, hbl, hbut⟩ := hrel
    by_cases hlt : k < 8
    · have hlt' : (k : Int) < 8 := by omega
      obtain ⟨m, hm⟩ : ∃ m, (k + t) % 8 = m := ⟨_, rfl⟩
      have hm8 : m < 8 := by omega
      have hmI : ((k : Int) + (t : Int)) % 8 = (m : Int) := by omega
      have hmI8 : (m : Int) < 8 := by omega
      obtain ⟨x, hx, hc⟩ := HCW.out m hm8
      have hcell : wr.cell? ⟨g, m, none⟩ = some (.int .u8 (x.toNat : Int)) := hbut.cell hc hgh
      have hkl : k < (turn [b0, b1, b2, b3, b4, b5, b6, b7] t).length := by rw [turn_length]; exact hlt
      have hD := hide (hd.out.more hkl (x := x) (by rw [hx, ← hm]; exact turn_at _ t k hkl))
      have hu : ∃ u, cur[k]? = some u := ⟨cur[k]'(by have := hd.out.1; rw [turn_length] at this; omega), by simp⟩
      obtain ⟨u, hu⟩ := hu
      have hcu : wr.cell? ⟨h, k, none⟩ = some u := by rw [hbl.cell]; exact hu
      have hfz : wr.frozen? ⟨h, k, none⟩ = false := hbl.frozen k
      have HU := hide hu
      clear hu hm hm8 hc hx hkl
      go_wp2_with (rw [hmI])
      go_roundw
      case rel => exact ⟨k + 1, _, by go_num, by omega, hD, hbl.put _ _, hbut.set _ _⟩
      case measure => simp [intOf]; omega
    · obtain rfl : k = 8 := by omega
      have hbg := (hbut.block g HB1.out.lt (by simpa using hgh)).trans HB1.out
      obtain ⟨L, hL⟩ : ∃ L, [b0, b1, b2, b3, b4, b5, b6, b7] = L := ⟨_, rfl⟩
      have hL8 : L.length = 8 := by rw [← hL]; rfl
      rw [hL] at hd hbg ⊢
      have rdg : Rd wr (some ⟨g, 0, none⟩) L := Done.rd (k := 8) (l := L) (cur := (bvs L).toArray) ⟨by simp [bvs], fun j hj _ => by simp [bvs, hj]⟩ (by omega) hbg
      have rdh := hd.out.rd (by rw [turn_length]; omega) hbl
      have hts := turn_sum L hL8 t
      have htl := turn_length L t
      have hM : ∃ M : Nat, (1 : Int) + (z : Int) % 3 = (M : Int) ∧ 1 ≤ M ∧ M ≤ 3 := ⟨1 + z % 3, by omega, by omega, by omega⟩
      obtain ⟨M, hMI, hM1, hM3⟩ := hM
      rw [hMI]
      have hs1 := shardK_bs L M hM1
      have hs2 := shardK_bs (turn L t) M hM1
      rw [hts] at hs2
      have hs3 := shardK_bs [] M hM1
      have hs4 : shardK (bs L) 0 = 0 := rfl
      have hlt := Nat.mod_lt (sumB L) (show 0 < M by omega)
      have hz0 : sumB [] % M = 0 := Nat.zero_mod M
      rw [hz0] at hs3
      obtain ⟨S, hS⟩ : ∃ S, sumB L % M = S := ⟨_, rfl⟩
      rw [hS] at hs1 hs2 hlt
      have e1 : decide ((0 : Int) ≤ (S : Int)) = true := by rw [decide_eq_true_eq]; omega
      have e2 : decide ((S : Int) < (M : Int)) = true := by rw [decide_eq_true_eq]; omega
      have hSM : S < M := hlt
      have ag := arr_run g
      have ah := arr_run h
      have hsz1 : ((bs L).size : Int) ≤ 1000000 := by rw [bs_size]; omega
      have hsz2 : ((bs (turn L t)).size : Int) ≤ 1000000 := by rw [bs_size]; omega
      have HZ := hide (And.intro hsz1 hsz2)
      have q1 := conv_ wr 8 8 hL8 rdg
      have hgw := hide (HG2.out.trans (HBut.out _ hbut))
      have RG := hide rdg
      have RH := hide rdh
      have TL := hide htl
      have L8 := hide hL8
      clear hbg hL hL8 rdg rdh hts htl hMI hS hz0 hsz1 hsz2 hbl hbut hd HCW HBut HB1 HB HC
      go_wp2_with fail
      refine (Shard_ok _ HZ.out.1 (M : Int) (by omega) (by omega) _).mono ?_
      rintro e w2 ⟨rfl, g2⟩
      rw [hs1]
      have q2 := conv_ w2 8 8 TL.out (RH.out.gr g2)
      clear q1
      go_wp2_with fail
      refine (Shard_ok _ HZ.out.2 (M : Int) (by omega) (by omega) _).mono ?_
      rintro e w3 ⟨rfl, g3⟩
      rw [hs2]
      clear q2
      go_wp2_with fail
      refine (Shard_ok _ (by decide) (M : Int) (by omega) (by omega) _).mono ?_
      rintro e w4 ⟨rfl, g4⟩
      rw [show shardK (ByteArray.mk #[]) (M : Int) = ((0 : Nat) : Int) from hs3]
      have g24 := g2.trans (g3.trans g4)
      have q3 := conv_ w4 8 8 L8.out (RG.out.gr g24)
      go_wp2_with fail
      refine (Shard_ok _ HZ.out.1 0 (by decide) (by decide) _).mono ?_
      rintro e w5 ⟨rfl, g5⟩
      rw [hs4]
      go_wp2_with fail
      go_ret
      exact ⟨rfl, hgw.out.trans (g24.trans g5)⟩

theorem walk_KeyShards (w : World) (l : List UInt8) (hl : l.length = 8) (a0 : Int) (w0 : (Lit.int .u8 a0).wf = true) (a1 : Int) (w1 : (Lit.int .u8 a1).wf = true) :
    Calls Try.prog 4 #[.agg (bvs l).toArray, .int .u8 a0, .int .u8 a1] w (YesShards w) := by
  have h0 : 0 ≤ a0 ∧ a0 ≤ 255 := by simpa [Lit.wf, IntKind.min, IntKind.max, IntKind.signed, IntKind.bits] using w0
  have h1 : 0 ≤ a1 ∧ a1 ≤ 255 := by simpa [Lit.wf, IntKind.min, IntKind.max, IntKind.signed, IntKind.bits] using w1
  obtain ⟨t, rfl⟩ := Int.eq_ofNat_of_zero_le h0.1
  obtain ⟨z, rfl⟩ := Int.eq_ofNat_of_zero_le h1.1
  match l, hl with
  | [b0, b1, b2, b3, b4, b5, b6, b7], _ => exact shards_in w b0 b1 b2 b3 b4 b5 b6 b7 t z (by omega) (by omega)

end Go.Proofs.Ytkibbggiepggbaa
