/-
  The walk of 'CrcLine'.
-/
import Derived.Test.YteondijecaljlaaCrcBegun
import Derived.Test.YteondijecaljlaaGrowSteps2
import Derived.StillTailTactics
namespace Go.Proofs.Yteondijecaljlaa
open Go.RowKit CrcMath

def YesLine (w : World) (e : Ending) (w' : World) : Prop := e = .returned (.bool true) ∧ Gr w w'

/-- what three texts differ in -/
def xor3 (l0 l1 l2 : List UInt8) : List UInt8 := List.zipWith (· ^^^ ·) (List.zipWith (· ^^^ ·) l0 l1) l2
theorem xor3_length {l0 l1 l2 : List UInt8} {n : Nat} (h0 : l0.length = n) (h1 : l1.length = n) (h2 : l2.length = n) : (xor3 l0 l1 l2).length = n := by
  unfold xor3
  rw [List.length_zipWith, List.length_zipWith]
  omega
/-- the first k places are reckoned -/
def Done (l : List UInt8) (k : Nat) (cur : Array Value) : Prop := cur.size = l.length ∧ ∀ j (h : j < l.length), j < k → cur[j]? = some (bv l[j])
theorem Done.more {l0 l1 l2 : List UInt8} {k : Nat} {cur : Array Value} (h : Done (xor3 l0 l1 l2) k cur) (k0 : k < l0.length) (k1 : k < l1.length) (k2 : k < l2.length) :
    Done (xor3 l0 l1 l2) (k + 1) (cur.setIfInBounds k (.int .u8 (bits .xor .u8 (bits .xor .u8 (l0[k].toNat : Int) (l1[k].toNat : Int)) (l2[k].toNat : Int)))) := by
  obtain ⟨h1, h2⟩ := h
  refine ⟨by simpa using h1, fun j hj hjk => ?_⟩
  by_cases he : j = k
  · subst he
    have hs : j < cur.size := by rw [h1]; exact hj
    rw [u8_xor_nat _ _ l0[j].toNat_lt l1[j].toNat_lt, ← UInt8.toNat_xor, u8_xor_nat _ _ (l0[j] ^^^ l1[j]).toNat_lt l2[j].toNat_lt, ← UInt8.toNat_xor]
    simp [hs, xor3, bv]
  · rw [Array.getElem?_setIfInBounds_ne (by omega)]
    exact h2 j hj (by omega)
theorem Done.cells {l : List UInt8} {k : Nat} {cur : Array Value} (h : Done l k cur) (hk : l.length ≤ k) : cur = (bvs l).toArray := by
  obtain ⟨h1, h2⟩ := h
  apply Array.ext_getElem?
  intro j
  by_cases hj : j < l.length
  · rw [h2 j hj (by omega)]
    simp [bvs, hj]
  · rw [Array.getElem?_eq_none (by omega), Array.getElem?_eq_none (by simp only [bvs, List.size_toArray, List.length_map]; omega)]

/-- the three arrays in memory, and the world behind -/
theorem three_blocks (w : World) (e : TypeId) (c0 c1 c2 : Array Value) : ∃ W0 g0, ((w.alloc (.cells c0 e)).alloc (.cells c1 e)).alloc (.cells c2 e) = W0 ∧ w.heap.size = g0 ∧ Bl W0 g0 e c0 ∧ Bl W0 (g0 + 1) e c1 ∧ Bl W0 (g0 + 1 + 1) e c2 ∧ Gr w W0 := by
  refine ⟨_, _, rfl, rfl, ?_, ?_, ?_, (((Gr.refl w).alloc _).alloc _).alloc _⟩
  · exact (Bl.new w e c0).gr (((Gr.refl _).alloc _).alloc _)
  · have h := (Bl.new (w.alloc (.cells c0 e)) e c1).gr ((Gr.refl _).alloc (.cells c2 e))
    simpa using h
  · have h := Bl.new ((w.alloc (.cells c0 e)).alloc (.cells c1 e)) e c2
    simpa using h
/-- a fourth, that is written from here on -/
theorem fourth (w : World) (e : TypeId) (c : Array Value) : ∃ W g, w.alloc (.cells c e) = W ∧ w.heap.size = g ∧ Bl W g e c ∧ Gr w W ∧ ∀ w', But W w' g → Gr w w' := by
  refine ⟨_, _, rfl, rfl, Bl.new w e c, (Gr.refl w).alloc _, fun w' h => (((Gr.refl w).alloc _).below.grown h (by simp) fun k hk => by injection hk with hk; omega)⟩

theorem xor_op (xt : TypeId) (a b : BitVec 32) : binOp .xor xt (.int .u32 (a.toNat : Int)) (.int .u32 (b.toNat : Int)) = pure (wv (a ^^^ b)) := by
  refine Eq.trans (b := (pure (.int .u32 (bits .xor .u32 (a.toNat : Int) (b.toNat : Int))) : Sem Value)) (by simp [binOp, Op.intBits, bits]) ?_
  exact congrArg (fun z => (pure (.int .u32 z) : Sem Value)) (xor_w a b)
theorem arr_run (g : Nat) (w : World) : (Instr.sliceAt 31 (.pointer (some ⟨g, 0, none⟩)) none none none).run Try.prog w = .ok (.slice (some ⟨g, 0, none⟩) 20 20) w := by kernel_rfl

set_option maxRecDepth 100000 in
set_option maxHeartbeats 1000000 in
theorem walk_CrcLine (w : World) (l0 : List UInt8) (h0 : l0.length = 20) (l1 : List UInt8) (h1 : l1.length = 20) (l2 : List UInt8) (h2 : l2.length = 20) :
    Calls Try.prog 5 #[.agg (bvs l0).toArray, .agg (bvs l1).toArray, .agg (bvs l2).toArray] w (YesLine w) := by
  obtain ⟨W0, g0, eW, e0, hb0, hb1, hb2, hgW⟩ := three_blocks w 31 (bvs l0).toArray (bvs l1).toArray (bvs l2).toArray
  go_enter Try.func5, Try.ntmps5
  go_wp2_with fail
  clear eW e0
  generalize g0 + 1 = g1 at hb1 hb2 ⊢
  generalize g1 + 1 = g2 at hb2 ⊢
  refine (begun_ok _).mono ?_
  rintro e w1 ⟨rfl, hg1⟩
  replace hb0 := hb0.gr hg1
  replace hb1 := hb1.gr hg1
  replace hb2 := hb2.gr hg1
  have l0' := hb0.lt
  have l1' := hb1.lt
  have l2' := hb2.lt
  replace hgW := hgW.trans hg1
  clear hg1
  go_wp2_with fail
  obtain ⟨W1, g3, eW, e3, hb3, hg3, hback⟩ := fourth w1 31 (List.replicate 20 (.int .u8 0)).toArray
  rw [show w1.alloc (Obj.cells #[Value.int IntKind.u8 0, Value.int IntKind.u8 0, Value.int IntKind.u8 0, Value.int IntKind.u8 0, Value.int IntKind.u8 0, Value.int IntKind.u8 0, Value.int IntKind.u8 0, Value.int IntKind.u8 0, Value.int IntKind.u8 0, Value.int IntKind.u8 0, Value.int IntKind.u8 0, Value.int IntKind.u8 0, Value.int IntKind.u8 0, Value.int IntKind.u8 0, Value.int IntKind.u8 0, Value.int IntKind.u8 0, Value.int IntKind.u8 0, Value.int IntKind.u8 0, Value.int IntKind.u8 0, Value.int IntKind.u8 0] 31) = W1 from eW, e3]
  have n0 : g0 ≠ g3 := by omega
  have n1 : g1 ≠ g3 := by omega
  have n2 : g2 ≠ g3 := by omega
  have hd0 : Done (xor3 l0 l1 l2) 0 (List.replicate 20 (Value.int .u8 0)).toArray := ⟨by rw [xor3_length h0 h1 h2]; rfl, fun j _ hj => absurd hj (by omega)⟩
  have HB := hide hback
  replace hb0 := hb0.gr hg3
  replace hb1 := hb1.gr hg3
  replace hb2 := hb2.gr hg3
  clear eW e3 hg3 hback l0' l1' l2'
  go_loopw [8] (fun i wr => ∃ (k : Nat) (cur : Array Value), i = .int .i64 k ∧ k ≤ 20 ∧ Done (xor3 l0 l1 l2) k cur ∧ Bl wr g3 31 cur ∧ But W1 wr g3) (fun i _ => 20 - (intOf i).toNat)
  case atStart => exact ⟨0, _, rfl, by omega, hd0, hb3, But.refl _ _⟩
  case round =>
    clear hd0 hb3
    obtain ⟨k, cur, rfl, hk, hd, hbl, hbut⟩ := hrel
    by_cases hlt : k < 20
    · have hlt' : (k : Int) < 20 := by omega
      have hm := hd.more (by omega : k < l0.length) (by omega : k < l1.length) (by omega : k < l2.length)
      have c0 : wr.cell? ⟨g0, k, none⟩ = some (bv (l0[k]'(by omega))) := hbut.cell (by rw [hb0.cell]; simp [bvs, show k < l0.length from by omega]) n0
      have c1 : wr.cell? ⟨g1, k, none⟩ = some (bv (l1[k]'(by omega))) := hbut.cell (by rw [hb1.cell]; simp [bvs, show k < l1.length from by omega]) n1
      have c2 : wr.cell? ⟨g2, k, none⟩ = some (bv (l2[k]'(by omega))) := hbut.cell (by rw [hb2.cell]; simp [bvs, show k < l2.length from by omega]) n2
      have hu : ∃ u, cur[k]? = some u := ⟨cur[k]'(by have := hd.1; rw [xor3_length h0 h1 h2] at this; omega), by simp⟩
      obtain ⟨u, hu⟩ := hu
      have c3 : wr.cell? ⟨g3, k, none⟩ = some u := by rw [hbl.cell]; exact hu
      have hfz : wr.frozen? ⟨g3, k, none⟩ = false := hbl.frozen k
      obtain ⟨x0, ex0⟩ : ∃ x, l0[k]'(by omega) = x := ⟨_, rfl⟩
      obtain ⟨x1, ex1⟩ : ∃ x, l1[k]'(by omega) = x := ⟨_, rfl⟩
      obtain ⟨x2, ex2⟩ : ∃ x, l2[k]'(by omega) = x := ⟨_, rfl⟩
      rw [ex0] at c0 hm
      rw [ex1] at c1 hm
      rw [ex2] at c2 hm
      unfold bv at c0 c1 c2
      have HM := hide hm
      have HU := hide hu
      clear ex0 ex1 ex2 hm hd hu
      go_wp2_with fail
      go_still_tail 13, (by kernel_rfl)
      change wpList _ _ _ _ _ wr.drew
      go_wp2_with fail
      go_roundw
      case rel => exact ⟨k + 1, _, by go_num, by omega, HM.out, (hbl.drewN 1).put _ _, (hbut.drewN 1).set _ _⟩
      case measure => simp [intOf]; omega
    · obtain rfl : k = 20 := by omega
      have h3 := xor3_length h0 h1 h2
      obtain rfl := hd.cells (by omega)
      have hs := sum_line l0 l1 l2 (by omega) (by omega)
      have hgr : Gr w1 wr := HB.out _ hbut
      have b0 : Bl wr g0 31 (bvs l0).toArray := (hbut.block g0 hb0.lt (by simpa using n0)).trans hb0
      have b1 : Bl wr g1 31 (bvs l1).toArray := (hbut.block g1 hb1.lt (by simpa using n1)).trans hb1
      have b2 : Bl wr g2 31 (bvs l2).toArray := (hbut.block g2 hb2.lt (by simpa using n2)).trans hb2
      go_wp2_with fail
      refine Grow.wp_region_grown 39 rfl (by kernel_rfl) (by kernel_rfl) (Grow.Ahead.more (Grow.Ahead.more (Grow.Ahead.more (Grow.Ahead.more (Grow.Ahead.none_ _ _)
        3 (Grow.Pb.stays g0 31 l0) ⟨rfl, b0.gr ((Gr.refl wr).drew)⟩) 4 (Grow.Pb.stays g1 31 l1) ⟨rfl, b1.gr ((Gr.refl wr).drew)⟩) 5 (Grow.Pb.stays g2 31 l2) ⟨rfl, b2.gr ((Gr.refl wr).drew)⟩)
        7 (Grow.Pb.stays g3 31 (xor3 l0 l1 l2)) ⟨rfl, hbl.gr ((Gr.refl wr).drew)⟩) ?_
      have cSum : ∀ (l : List UInt8), l.length = 20 → ∀ x u, Gr wr.drew u → Grow.Sl l x u → Calls Try.prog 10 #[x] u fun e w' => ∃ y, e = .returned y ∧ Gr u w' ∧ Grow.Is (wv (sum l)) y w' := fun l hl x u _ ⟨A, c, hx, hby⟩ => by
        subst hx
        exact (Sum_ok A _ c l rfl u hby (by omega)).mono fun e w1 ⟨he, hg⟩ => ⟨_, he, hg, rfl⟩
      refine Grow.grow_arr rfl (.inl ⟨rfl, rfl⟩) h3.symm (by decide) (arr_run g3) rfl ?_
      refine Grow.grow_call1 rfl (.inl ⟨rfl, rfl⟩) Try.func10 (by kernel_rfl) (by kernel_rfl) rfl (Grow.Is.stays _) (cSum _ h3) ?_
      refine Grow.grow_arr rfl (.inl ⟨rfl, rfl⟩) h0.symm (by decide) (arr_run g0) rfl ?_
      refine Grow.grow_call1 rfl (.inl ⟨rfl, rfl⟩) Try.func10 (by kernel_rfl) (by kernel_rfl) rfl (Grow.Is.stays _) (cSum _ h0) ?_
      refine Grow.grow_arr rfl (.inl ⟨rfl, rfl⟩) h1.symm (by decide) (arr_run g1) rfl ?_
      refine Grow.grow_call1 rfl (.inl ⟨rfl, rfl⟩) Try.func10 (by kernel_rfl) (by kernel_rfl) rfl (Grow.Is.stays _) (cSum _ h1) ?_
      refine Grow.grow_int rfl (.inl ⟨rfl, rfl⟩) rfl rfl (xor_op _ _ _) ?_
      refine Grow.grow_arr rfl (.inl ⟨rfl, rfl⟩) h2.symm (by decide) (arr_run g2) rfl ?_
      refine Grow.grow_call1 rfl (.inl ⟨rfl, rfl⟩) Try.func10 (by kernel_rfl) (by kernel_rfl) rfl (Grow.Is.stays _) (cSum _ h2) ?_
      refine Grow.grow_int rfl (.inl ⟨rfl, rfl⟩) rfl rfl (xor_op _ _ _) ?_
      refine Grow.grow_int_same (congrArg (fun z : BitVec 32 => (z.toNat : Int)) hs) rfl (.inl ⟨rfl, rfl⟩) rfl rfl ?_
      refine Grow.grow_mv (.inr rfl) (.inl ⟨rfl, rfl⟩) rfl ?_
      intro a1 u1 hg7 hs7 hd7 hk7
      have s6 : a1.tmps.getD 6 undef = .bool true := hk7 6
      go_wp2_with fail
      refine bodyPost_ret (v := .bool true) (by simp [results, Try.results5, go_sem]; simpa using s6) hd7 ⟨rfl, hgW.trans (hgr.trans (Gr.trans ((Gr.refl wr).drew) hg7))⟩

end Go.Proofs.Yteondijecaljlaa
