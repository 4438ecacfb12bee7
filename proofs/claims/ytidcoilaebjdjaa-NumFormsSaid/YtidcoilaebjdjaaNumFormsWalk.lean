/-
  The walk of 'NumForms'.
-/
import Derived.Test.YtidcoilaebjdjaaNumBegun
import Derived.Test.YtidcoilaebjdjaaGrowSteps2
import Derived.Test.YtidcoilaebjdjaaLent
import Derived.Lib.ConvBytes
import Derived.Lib.AppendZerosOnto
import Derived.Lib.SlBytesConst
namespace Go.Proofs.Ytidcoilaebjdjaa
open Go.RowKit NumPlain

theorem by_block {w : World} {g : Nat} {e : TypeId} {cur : Array Value} {l : List UInt8} (hb : Bl w g e cur) (h : ∀ j (hj : j < l.length), cur[j]? = some (bv l[j])) (c : Nat) (hc : l.length ≤ c) (hm : c ≤ maxLen) : By w (some ⟨g, 0, none⟩) c l := by
  refine ⟨fun j hj => ⟨_, rfl, ?_⟩, hc, hm, fun h => by cases h⟩
  have : (⟨g, 0, none⟩ : Addr).add j = ⟨g, j, none⟩ := by unfold Addr.add; split <;> simp_all
  rw [this, hb.cell j]
  exact h j hj

/-- '[]byte(s)' -/
theorem gr_conv (w : World) (e : TypeId) (s : ByteArray) : Gr w (Lib.bytesWorld w e s) :=
  ⟨rfl, rfl, rfl, by rw [Lib.bytesWorld_size]; omega, fun k hk => Lib.bytesWorld_at_old w e s k hk⟩
theorem by_conv (w : World) (e : TypeId) (s : ByteArray) (h : s.size ≤ 1000000) : By (Lib.bytesWorld w e s) (some ⟨w.heap.size, 0, none⟩) (grownCap w s.size 0 e) s.data.toList := by
  have hl : s.data.toList.length = s.size := by rw [Array.length_toList]; rfl
  refine ⟨fun j hj => ⟨_, rfl, ?_⟩, by rw [hl]; exact grownCap_ge w s.size 0 e, grownCap_le_maxLen w s.size 0 e (by unfold maxLen; omega), fun h => by cases h⟩
  have e2 : (⟨w.heap.size, 0, none⟩ : Addr).add j = ⟨w.heap.size, j, none⟩ := by unfold Addr.add; split <;> simp_all
  rw [e2, Lib.bytesWorld_cell w e s j (by omega)]
  rw [show s.data.toList.getD j 0 = s.data.toList[j] from by rw [List.getD_eq_getElem?_getD, List.getElem?_eq_getElem hj]; rfl]
  rfl

def formZ : List Int := [0, 127, 128, 16383, 16384, 9223372036854775807]
def formS : List ByteArray := [⟨#[0]⟩, ⟨#[127]⟩, ⟨#[128, 1]⟩, ⟨#[255, 127]⟩, ⟨#[128, 128, 1]⟩, ⟨#[255, 255, 255, 255, 255, 255, 255, 255, 127]⟩]
def formN : List ByteArray := [⟨#[]⟩, ⟨#[128]⟩, ⟨#[128, 0]⟩, ⟨#[255, 255, 255, 255, 255, 255, 255, 255, 255, 1]⟩]
theorem form_put : ∀ k (h : k < 6), bs (putZ (formZ[k]'h)) = formS[k]'h := by
  intro k h
  match k, h with
  | 0, _ => show bs (putZ 0) = ⟨#[0]⟩; decide
  | 1, _ => show bs (putZ 127) = ⟨#[127]⟩; decide
  | 2, _ => show bs (putZ 128) = ⟨#[128, 1]⟩; decide
  | 3, _ => show bs (putZ 16383) = ⟨#[255, 127]⟩; decide
  | 4, _ => show bs (putZ 16384) = ⟨#[128, 128, 1]⟩; decide
  | 5, _ => show bs (putZ 9223372036854775807) = ⟨#[255, 255, 255, 255, 255, 255, 255, 255, 127]⟩; decide
theorem form_le : ∀ z ∈ formZ, z ≤ 9223372036854775807 := by decide
theorem form_none : ∀ s ∈ formN, takeV s.data.toList = 0 ∧ takeK s.data.toList = 0 ∧ takeB s.data.toList = false ∧ s.size ≤ 10 := by decide
theorem form_min : putZ (-9223372036854775808) = [] := by decide

def YesForms (w : World) (e : Ending) (w' : World) : Prop := e = .returned (.bool true) ∧ Gr w w'

/-- a new block's cells, for what a growing region knows -/
theorem cl_new (w : World) (e : TypeId) (xs : List Value) {w' : World} (hg : Gr (w.alloc (.cells xs.toArray e)) w') : Grow.Cl ⟨w.heap.size, 0, none⟩ xs.length xs.length xs (.slice (some ⟨w.heap.size, 0, none⟩) xs.length xs.length) w' := by
  refine ⟨rfl, rfl, fun j u hu => gr_cell hg _ _ ?_⟩
  have e2 : (⟨w.heap.size, 0, none⟩ : Addr).add j = ⟨w.heap.size, j, none⟩ := by unfold Addr.add; split <;> simp_all
  rw [e2, (Bl.new w e xs.toArray).cell j]
  simpa using hu

theorem agg_int : ∀ w, (isAgg 3).run Try.prog w = .ok false w := fun w => by kernel_rfl
theorem agg_string : ∀ w, (isAgg 9).run Try.prog w = .ok false w := fun w => by kernel_rfl
theorem size_ints : ∀ w, (sizeOf (Try.prog.elem 35)).run Try.prog w = .ok 1 w := fun w => by kernel_rfl
theorem size_strings : ∀ w, (sizeOf (Try.prog.elem 36)).run Try.prog w = .ok 1 w := fun w => by kernel_rfl

/-- a new block of one string a cell -/
theorem str_cell (w : World) (e : TypeId) (xs : List ByteArray) {w' : World} (hg : Gr (w.alloc (.cells (xs.map Value.string).toArray e)) w') (k : Nat) (hk : k < xs.length) : w'.cell? ⟨w.heap.size, k, none⟩ = some (.string xs[k]) := by
  refine gr_cell hg _ _ ?_
  rw [(Bl.new w e _).cell k]
  simp [hk]

theorem zeros_conv (n : Nat) (hn : n ≤ 1000000) (u : World) : (convert 22 9 (.slice (some ⟨u.heap.size, 0, none⟩) n n)).run Try.prog (u.alloc (.cells (madeCells #[.int .u8 0] n) 5)) = .ok (.string (bs (List.replicate n 0))) (u.alloc (.cells (madeCells #[.int .u8 0] n) 5)) :=
  run_conv _ 22 9 5 Try.underlying22 Try.underlying5 Try.underlying9 (l := List.replicate n 0) n n (by simp) (by_block (Bl.new u _ _) (fun j hj => by
    rw [List.length_replicate] at hj
    simp [madeCells, hj, bv, Nat.mod_one]) n (by simp) (by unfold maxLen; omega)).rd
theorem putT_256 : putT (List.replicate 256 0) = [] := by unfold putT; rw [if_pos (by rw [List.length_replicate]; omega)]
theorem putT_255 : (putT (List.replicate 255 0)).length = 257 := by
  unfold putT
  rw [if_neg (by rw [List.length_replicate]; omega), List.length_append, List.length_replicate, show (putN 255).length = 2 from by decide]
theorem textB_long : textB ([128, 2] ++ List.replicate 256 0) = false := by decide +kernel

/-- what appending 256 zero bytes to the two comes to -/
def LongPost (w : World) (v : Value) (w' : World) : Prop :=
  ∃ c, v = .slice (some ⟨w.heap.size + 1, 0, none⟩) 258 c ∧ By w' (some ⟨w.heap.size + 1, 0, none⟩) c ([128, 2] ++ List.replicate 256 0) ∧ Gr w w'

theorem long_cells (m n : Nat) : ∀ j (hj : j < ([128, 2] ++ List.replicate m (0 : UInt8)).length), ([Value.int .u8 128, Value.int .u8 2].toArray ++ Builtin.zeroCells #[.int .u8 0] m ++ Builtin.zeroCells #[.int .u8 0] n)[j]? = some (bv ([128, 2] ++ List.replicate m (0 : UInt8))[j]) := by
  intro j hj
  have hj' : j < m + 2 := by simpa using hj
  match j, hj' with
  | 0, _ => rw [Array.append_assoc, Array.getElem?_append_left (by simp)]; simp [bv]
  | 1, _ => rw [Array.append_assoc, Array.getElem?_append_left (by simp)]; simp [bv]
  | j + 2, hj' =>
    have e1 : ([128, 2] ++ List.replicate m (0 : UInt8))[j + 2] = 0 := by simp
    rw [e1, Array.getElem?_append_left (by simp [size_zeroCells]; omega), Array.getElem?_append_right (by simp)]
    have hlt : j < m := by omega
    simp [Builtin.zeroCells, hlt, Nat.mod_one, bv]

theorem app_long (w : World) : ∃ v w', (Builtin.append_ #[22, 3] 22 #[.slice (some ⟨w.heap.size, 0, none⟩) 2 2, .int .i64 256]).run Try.prog (w.alloc (.cells #[.int .u8 128, .int .u8 2] 5 (2, 3))) = .ok v w' ∧ LongPost w v w' := by
  obtain ⟨i0, hi, hz0, hz1, hz2⟩ := info_parts info_u8
  have hsz : (w.alloc (.cells #[.int .u8 128, .int .u8 2] 5 (2, 3))).heap.size = w.heap.size + 1 := by simp
  have h := Lib.run_append_grow_zeros (P := Try.prog) (w.alloc (.cells #[.int .u8 128, .int .u8 2] 5 (2, 3))) 22 3 22 5 i0 (.int .u8 0) .i64 .i64 Try.underlying22 Try.underlying3 hi hz0
    (some ⟨w.heap.size, 0, none⟩) 2 2 [.int .u8 128, .int .u8 2] (run_firstCells_some (size := i0.size) (n := 2) (len := 2) (cap := 2) (b := ⟨w.heap.size, 0, none⟩) (cs := [.int .u8 128, .int .u8 2]) (hl := by rw [hz1]; rfl) (h := fun j v hj => by
      have hc : ∀ j, (w.alloc (.cells #[.int .u8 128, .int .u8 2] 5 (2, 3))).drew.cell? ⟨w.heap.size, j, none⟩ = (#[Value.int .u8 128, .int .u8 2])[j]? := fun j => cell_of_row _ w.heap.size j _ 5 (2, 3) (heap_alloc_new w _)
      match j, hj with
      | 0, hj => simpa [Addr.add, hc] using hj
      | 1, hj => simpa [Addr.add, hc] using hj)) 256 (by decide) (by rw [hz1]; decide) (by decide) (by decide) (by rw [hz2]; decide) (by rw [hz2]; decide +kernel)
  refine ⟨_, _, h, ?_⟩
  rw [hsz]
  refine ⟨_, rfl, ?_, ?_⟩
  · refine by_block (g := w.heap.size + 1) (e := 5) (cur := [Value.int .u8 128, Value.int .u8 2].toArray ++ Builtin.zeroCells #[.int .u8 0] 256 ++ Builtin.zeroCells #[.int .u8 0] (grownCap (w.alloc (.cells #[.int .u8 128, .int .u8 2] 5 (2, 3))) 258 2 5 - 258)) ?_ (long_cells _ _) _ ?_ ?_
    · have := Bl.new (w.alloc (.cells #[.int .u8 128, .int .u8 2] 5 (2, 3))).drew 5 ([Value.int .u8 128, Value.int .u8 2].toArray ++ Builtin.zeroCells #[.int .u8 0] 256 ++ Builtin.zeroCells #[.int .u8 0] (grownCap (w.alloc (.cells #[.int .u8 128, .int .u8 2] 5 (2, 3))) 258 2 5 - 258))
      rw [show (w.alloc (.cells #[.int .u8 128, .int .u8 2] 5 (2, 3))).drew.heap.size = w.heap.size + 1 from hsz] at this
      exact this
    · exact Nat.le_trans (by rw [List.length_append, List.length_replicate]; decide) (grownCap_ge _ 258 2 _)
    · exact grownCap_le_maxLen _ 258 2 _ (by unfold maxLen; decide)
  · exact ((((Gr.refl w).alloc _).drew).alloc _)

/-- a call that gives a slice of n bytes -/
def SlicePost (w : World) (n : Nat) (e : Ending) (w' : World) : Prop := ∃ A c, e = .returned (.slice A n c) ∧ Gr w w'
theorem put_min (w : World) : Calls Try.prog 14 #[.int .i64 (-9223372036854775808)] w (SlicePost w 0) :=
  (Put_ok (-9223372036854775808) (by decide) w).mono fun e w1 ⟨v1, he, ho1, hg1⟩ => by
    obtain ⟨A, c, rfl, _⟩ := ho1.by_
    rw [form_min] at he
    exact ⟨A, c, he, hg1⟩
theorem text_zeros (n : Nat) (hn : n ≤ 1000000) (m : Nat) (hm : (putT (List.replicate n 0)).length = m) (w : World) : Calls Try.prog 16 #[.string (bs (List.replicate n 0))] w (SlicePost w m) :=
  (PutText_ok (bs (List.replicate n 0)) (by
    have e : (bs (List.replicate n 0)).size = n := by unfold bs; show (List.replicate n (0 : UInt8)).toArray.size = n; simp
    omega) w).mono fun e w1 ⟨v1, he, ho1, hg1⟩ => by
    obtain ⟨A, c, rfl, _⟩ := ho1.by_
    rw [show (bs (List.replicate n 0)).data.toList = List.replicate n 0 from by unfold bs; rfl, hm] at he
    exact ⟨A, c, he, hg1⟩

set_option maxRecDepth 100000 in
set_option maxHeartbeats 1000000 in
theorem walk_NumForms (w : World) : Calls Try.prog 5 #[] w (YesForms w) := by
  go_enter Try.func5, Try.ntmps5
  go_wp2_with fail
  refine (begun_ok _).mono ?_
  rintro e w1 ⟨rfl, hg1⟩
  go_wp2_with fail
  have hC1 : ∀ u, Gr ((w1.alloc (.cells (formZ.map (Value.int .i64)).toArray 3)).alloc (.cells (formS.map Value.string).toArray 9)) u → Grow.Cl ⟨w1.heap.size, 0, none⟩ 6 6 (formZ.map (Value.int .i64)) (.slice (some ⟨w1.heap.size, 0, none⟩) 6 6) u ∧ Grow.Cl ⟨w1.heap.size + 1, 0, none⟩ 6 6 (formS.map Value.string) (.slice (some ⟨w1.heap.size + 1, 0, none⟩) 6 6) u := fun u hu =>
    ⟨cl_new w1 _ (formZ.map (Value.int .i64)) (Gr.trans ((Gr.refl _).alloc _) hu), by
      have h := cl_new (w1.alloc (.cells (formZ.map (Value.int .i64)).toArray 3)) _ (formS.map Value.string) hu
      rw [show (w1.alloc (.cells (formZ.map (Value.int .i64)).toArray 3)).heap.size = w1.heap.size + 1 from by simp] at h
      exact h⟩
  have hg2 : Gr w1 ((w1.alloc (.cells (formZ.map (Value.int .i64)).toArray 3)).alloc (.cells (formS.map Value.string).toArray 9)) := ((Gr.refl w1).alloc _).alloc _
  generalize hW : ((w1.alloc (.cells (formZ.map (Value.int .i64)).toArray 3)).alloc (.cells (formS.map Value.string).toArray 9)) = W0 at hC1 hg2
  rw [show ((w1.alloc (Obj.cells #[Value.int IntKind.i64 0, Value.int IntKind.i64 127, Value.int IntKind.i64 128, Value.int IntKind.i64 16383, Value.int IntKind.i64 16384, Value.int IntKind.i64 9223372036854775807] 3)).alloc
    (Obj.cells #[Value.string ⟨#[0]⟩, Value.string ⟨#[127]⟩, Value.string ⟨#[128, 1]⟩, Value.string ⟨#[255, 127]⟩, Value.string ⟨#[128, 128, 1]⟩, Value.string ⟨#[255, 255, 255, 255, 255, 255, 255, 255, 127]⟩] 9)) = W0 from hW]
  have HC := hide hC1
  clear hW hC1
  generalize (⟨w1.heap.size, 0, none⟩ : Addr) = a1 at HC ⊢
  generalize (⟨w1.heap.size + 1, 0, none⟩ : Addr) = a2 at HC ⊢
  go_loopw [3] (fun i wr => ∃ k : Nat, i = .int .i64 k ∧ k ≤ 6 ∧ Gr W0 wr) (fun i _ => 6 - (intOf i).toNat)
  case atStart => exact ⟨0, rfl, by omega, Gr.refl _⟩
  case round =>
    obtain ⟨k, rfl, hk, hgr⟩ := hrel
    by_cases hlt : k < 6
    · have hlt' : (k : Int) < 6 := by omega
      obtain ⟨hc1, hc2⟩ := HC.out _ (hgr.drew)
      have hz : (formZ.map (Value.int .i64))[k]? = some (.int .i64 formZ[k]) := by rw [List.getElem?_map, List.getElem?_eq_getElem hlt]; rfl
      have hs : (formS.map Value.string)[k]? = some (.string formS[k]) := by rw [List.getElem?_map, List.getElem?_eq_getElem hlt]; rfl
      have heq := form_put k hlt
      have hzl : formZ[k] ≤ 9223372036854775807 := form_le _ (List.getElem_mem hlt)
      obtain ⟨z, ez⟩ : ∃ z, formZ[k] = z := ⟨_, rfl⟩
      obtain ⟨s, es⟩ : ∃ s, formS[k] = s := ⟨_, rfl⟩
      rw [ez] at hz heq hzl
      rw [es] at hs heq
      have HZ := hide hz
      have HS := hide hs
      have HE := hide heq
      have HC1 := hide hc1
      have HC2 := hide hc2
      clear ez es hz hs heq hc1 hc2
      go_wp2_with fail
      refine Grow.wp_region_kept 88 [22, 23, 24, 25, 26, 27, 28, 29, 30, 31, 32] rfl (by kernel_rfl) (by kernel_rfl) (by kernel_rfl) (Grow.Ahead.more (Grow.Ahead.more (Grow.Ahead.more (Grow.Ahead.none_ _ _) 1 (Grow.Cl.stays _ _ _ _) HC1.out) 2 (Grow.Cl.stays _ _ _ _) HC2.out) 3 (Grow.Is.stays (.int .i64 (k : Int))) rfl) ?_
      repeat (first | refine Grow.grow_mv (.inl rfl) (.inl ⟨rfl, rfl⟩) rfl ?_ | refine Grow.grow_mvc (.inl rfl) (.inl ⟨rfl, rfl⟩) rfl ?_)
      refine Grow.grow_index k rfl Try.underlying35 size_ints (.inl ⟨rfl, rfl⟩) rfl rfl rfl HZ.out ?_
      refine Grow.grow_load rfl agg_int (.inl ⟨rfl, rfl⟩) rfl ?_
      refine Grow.grow_call1 (Φ := Grow.Sl (putZ z)) (Ψ := Grow.Is (.int .i64 z)) rfl (.inl ⟨rfl, rfl⟩) Try.func14 (by kernel_rfl) (by kernel_rfl) rfl (Grow.Sl.stays _) (fun v u _ hv => by
        obtain rfl : v = _ := hv
        exact (Put_ok z hzl u).mono fun e w1 ⟨v1, he, ho1, hg1⟩ => ⟨v1, he, hg1, ho1.by_⟩) ?_
      refine Grow.grow_conv rfl (.inl ⟨rfl, rfl⟩) rfl Try.underlying22 Try.underlying5 Try.underlying9 ?_
      repeat (first | refine Grow.grow_mv (.inl rfl) (.inl ⟨rfl, rfl⟩) rfl ?_ | refine Grow.grow_mvc (.inl rfl) (.inl ⟨rfl, rfl⟩) rfl ?_)
      refine Grow.grow_index k rfl Try.underlying36 size_strings (.inl ⟨rfl, rfl⟩) rfl rfl rfl HS.out ?_
      refine Grow.grow_load rfl agg_string (.inl ⟨rfl, rfl⟩) rfl ?_
      refine Grow.grow_str_neq rfl (.inl ⟨rfl, rfl⟩) rfl rfl ?_
      intro b1 u1 hg3 hs3 hd3 hu3 hk3
      have s32 : b1.tmps.getD 32 undef = .bool (!decide (bs (putZ z) = s)) := hk3 32
      rw [HE.out, decide_eq_true (rfl : s = s)] at s32
      clear hk3
      have hgw : Gr W0 u1 := Gr.trans (hgr.drew) hg3
      obtain ⟨X, hX, hb1⟩ := Grow.lay_kept_by _ b1 88 _ hs3 hd3 hu3
      rw [hX] at s32
      clear hX hu3 hd3 hs3
      subst hb1
      simp only [List.range, List.range.loop, List.map_cons, List.map_nil, List.contains_cons, List.contains_nil, Nat.reduceBEq, Bool.or_false, Bool.or_true, cond_false, cond_true, Array.getD_eq_getD_getElem?, List.getElem?_toArray, List.getElem?_cons_zero, List.getElem?_cons_succ, Option.getD_some, s32]
      clear s32 hg3
      go_wp2_with fail
      go_roundw
      case rel => exact ⟨k + 1, by go_num, by omega, hgw⟩
      case measure => simp [intOf]; omega
    · have hgr0 := hgr
      clear hgr HC
      go_wp2_with fail
      have hN0 := hide (fun w' (h : Gr (wr.alloc (.cells (formN.map Value.string).toArray 9)) w') => str_cell wr _ formN h)
      have gN0 : Gr W0 (wr.alloc (.cells (formN.map Value.string).toArray 9)) := hgr0.alloc _
      have gN1 : Gr wr (wr.alloc (.cells (formN.map Value.string).toArray 9)) := (Gr.refl _).alloc _
      generalize hW1 : wr.alloc (.cells (formN.map Value.string).toArray 9) = W1 at hN0 gN0 gN1
      rw [show wr.alloc (Obj.cells #[Value.string ⟨#[]⟩, Value.string ⟨#[128]⟩, Value.string ⟨#[128, 0]⟩, Value.string ⟨#[255, 255, 255, 255, 255, 255, 255, 255, 255, 1]⟩] 9) = W1 from hW1]
      clear hW1
      generalize wr.heap.size = g4 at hN0 ⊢
      go_loopw [5] (fun i wr => ∃ k : Nat, i = .int .i64 k ∧ k ≤ 4 ∧ Gr W1 wr) (fun i _ => 4 - (intOf i).toNat)
      case atStart => exact ⟨0, rfl, by omega, Gr.refl _⟩
      case round =>
        obtain ⟨k, rfl, hk, hgr⟩ := hrel
        by_cases hlt : k < 4
        · have hlt' : (k : Int) < 4 := by omega
          have hc := hN0.out _ hgr k hlt
          have hf := form_none _ (List.getElem_mem hlt)
          obtain ⟨s, es⟩ : ∃ s, formN[k] = s := ⟨_, rfl⟩
          rw [es] at hc hf
          have HF := hide hf
          clear es hf
          have hconv : (convert 9 22 (.string s)).run Try.prog wr = .ok (.slice (some ⟨wr.heap.size, 0, none⟩) s.size (grownCap wr s.size 0 5)) (Lib.bytesWorld wr 5 s) :=
            Lib.run_convert_string_bytes wr 9 22 5 s Try.underlying9 Try.underlying22 Try.underlying5
          go_wp2_with fail
          refine (take_by _ s.size _ s.data.toList (by rw [Array.length_toList]; rfl) _ (by_conv wr _ s (by have := HF.out.2.2.2; omega)) (by have := HF.out.2.2.2; rw [Array.length_toList]; have e : s.data.size = s.size := rfl; omega)).mono ?_
          rintro e w5 ⟨rfl, hg5⟩
          rw [HF.out.1, HF.out.2.1, HF.out.2.2.1]
          have hgw : Gr W1 w5 := (hgr.trans (gr_conv wr _ s)).trans hg5
          clear hconv hc hg5
          go_wp2_with fail
          go_roundw
          case rel => exact ⟨k + 1, by go_num, by omega, hgw⟩
          case measure => simp [intOf]; omega
        · have hgw : Gr w wr := (((hg1.trans hg2).trans hgr0).trans (show Gr _ W1 from gN1)).trans hgr
          obtain ⟨v, w6, ha, c, rfl, hby, hgl⟩ := app_long wr
          have kc := fun (w : World) (C : Array Value) (n c : Nat) => Lib.run_convert_bytes_const (P := Try.prog) w 22 5 C n c Try.underlying22 Try.underlying5
          have HA := hide ha
          clear ha
          go_wp2_with (at_builtin; refine Lib.wpList_append_run _ rfl (.tmp 61) (.const (.int .i64 256)) 22 3 rfl _ _ rfl rfl _ _ HA.out ?_)
          refine (takeText_by _ 258 _ ([128, 2] ++ List.replicate 256 0) (by simp) _ hby (by rw [List.length_append, List.length_replicate]; decide)).mono ?_
          rintro e w7 ⟨rfl, hg7⟩
          rw [textB_long]
          generalize textV ([128, 2] ++ List.replicate 256 0) = q1
          generalize textK ([128, 2] ++ List.replicate 256 0) = q2
          have hgx : Gr w w7 := (hgw.trans hgl).trans hg7
          clear hgw hgl hg7 hby kc HA
          have m256 : ∀ w : World, (Instr.makeSlice 22 (.int .i64 256) (.int .i64 256)).run Try.prog w = .ok (.slice (some ⟨w.heap.size, 0, none⟩) 256 256) (w.alloc (.cells (madeCells #[.int .u8 0] 256) 5)) := fun w => make_bytes w 256 (by decide)
          have m255 : ∀ w : World, (Instr.makeSlice 22 (.int .i64 255) (.int .i64 255)).run Try.prog w = .ok (.slice (some ⟨w.heap.size, 0, none⟩) 255 255) (w.alloc (.cells (madeCells #[.int .u8 0] 255) 5)) := fun w => make_bytes w 255 (by decide)
          have z256 := fun (w : World) => zeros_conv 256 (by decide) w
          have z255 := fun (w : World) => zeros_conv 255 (by decide) w
          go_wp2_with fail
          refine (put_min _).mono ?_
          rintro e w8 ⟨A8, c8, rfl, hg8⟩
          go_wp2_with fail
          refine (text_zeros 256 (by decide) 0 (by rw [putT_256]; rfl) _).mono ?_
          rintro e w9 ⟨A9, c9, rfl, hg9⟩
          go_wp2_with fail
          refine (text_zeros 255 (by decide) 257 putT_255 _).mono ?_
          rintro e w10 ⟨A10, c10, rfl, hg10⟩
          have hgl : Gr w w10 := (((hgx.trans hg8).trans (((Gr.refl _).alloc _).trans hg9)).trans (((Gr.refl _).alloc _).trans hg10))
          go_wp2_with fail
          go_ret
          exact ⟨rfl, hgl⟩

end Go.Proofs.Ytidcoilaebjdjaa
