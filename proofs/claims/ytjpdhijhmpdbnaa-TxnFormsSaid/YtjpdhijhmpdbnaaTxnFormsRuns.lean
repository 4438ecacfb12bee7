/-
  What single operations of 'TxnForms' do.
-/
import Derived.Test.YtjpdhijhmpdbnaaTxnSix
import Derived.Deep.MidRow
namespace Go.Proofs.Ytjpdhijhmpdbnaa
open Go Go.RowKit TxnMath KeyMath
open Go.Proofs.Ytjpdhijhmpdbnaa.Flow (HitG Sees LaidG RowN)
set_option maxRecDepth 100000

theorem info3 {o : Option TypeInfo} {z : Value} {n b : Nat} (h : o.map (fun i => (i.zero, i.size, i.bytes)) = some (some z, n, b)) : ∃ i, o = some i ∧ i.zero = some z ∧ i.size = n ∧ i.bytes = b := by
  cases o with
  | none => cases h
  | some i =>
    simp only [Option.map_some, Option.some.injEq, Prod.mk.injEq] at h
    exact ⟨i, rfl, h.1, h.2.1, h.2.2⟩
theorem info_txn : (Try.prog.info? 28).map (fun i => (i.zero, i.size, i.bytes)) = some (some (.agg #[.int .i64 0, .int .i64 0, .slice none 0 0, .slice none 0 0]), 4, 64) := by kernel_rfl
theorem info_read : (Try.prog.info? 39).map (fun i => (i.zero, i.size, i.bytes)) = some (some (.agg #[.string ⟨#[]⟩, .int .i64 0, .string ⟨#[]⟩, .bool false]), 4, 48) := by kernel_rfl
theorem info_write : (Try.prog.info? 41).map (fun i => (i.zero, i.size, i.bytes)) = some (some (.agg #[.string ⟨#[]⟩, .string ⟨#[]⟩, .bool false]), 3, 40) := by kernel_rfl
theorem make_txns (w : World) : (Instr.makeSlice 42 (.int .i64 16) (.int .i64 16)).run Try.prog w = .ok (.slice (some ⟨w.heap.size, 0, none⟩) 16 16) (w.alloc (.cells (madeCells #[.int .i64 0, .int .i64 0, .slice none 0 0, .slice none 0 0] 64) 28)) := by
  obtain ⟨i0, hi, hz0, hz1, hz2⟩ := info3 info_txn
  have h := run_make (P := Try.prog) w 42 28 i0 _ Try.underlying42 hi hz0 .i64 .i64 16 16 (by omega) (Int.le_refl _) (by rw [hz2]; omega) (by omega)
  rw [hz1] at h
  exact h
theorem make_reads (w : World) : (Instr.makeSlice 25 (.int .i64 7) (.int .i64 7)).run Try.prog w = .ok (.slice (some ⟨w.heap.size, 0, none⟩) 7 7) (w.alloc (.cells (madeCells #[.string ⟨#[]⟩, .int .i64 0, .string ⟨#[]⟩, .bool false] 28) 39)) := by
  obtain ⟨i0, hi, hz0, hz1, hz2⟩ := info3 info_read
  have h := run_make (P := Try.prog) w 25 39 i0 _ Try.underlying25 hi hz0 .i64 .i64 7 7 (by omega) (Int.le_refl _) (by rw [hz2]; omega) (by omega)
  rw [hz1] at h
  exact h
theorem make_writes (w : World) : (Instr.makeSlice 26 (.int .i64 5) (.int .i64 5)).run Try.prog w = .ok (.slice (some ⟨w.heap.size, 0, none⟩) 5 5) (w.alloc (.cells (madeCells #[.string ⟨#[]⟩, .string ⟨#[]⟩, .bool false] 15) 41)) := by
  obtain ⟨i0, hi, hz0, hz1, hz2⟩ := info3 info_write
  have h := run_make (P := Try.prog) w 26 41 i0 _ Try.underlying26 hi hz0 .i64 .i64 5 5 (by omega) (Int.le_refl _) (by rw [hz2]; omega) (by omega)
  rw [hz1] at h
  exact h
theorem made28 : ∀ (i : Nat) (u : Value), ((List.replicate 7 (⟨⟨#[]⟩, 0, ⟨#[]⟩, false⟩ : RdT)).map rdC).flatten[i]? = some u → (madeCells #[.string ⟨#[]⟩, .int .i64 0, .string ⟨#[]⟩, .bool false] 28)[i]? = some u := by
  have e : (madeCells #[.string ⟨#[]⟩, .int .i64 0, .string ⟨#[]⟩, .bool false] 28) = ((List.replicate 7 (⟨⟨#[]⟩, 0, ⟨#[]⟩, false⟩ : RdT)).map rdC).flatten.toArray := by kernel_rfl
  intro i u h
  rw [e]
  simpa using h
theorem made15 : ∀ (i : Nat) (u : Value), ((List.replicate 5 (⟨⟨#[]⟩, ⟨#[]⟩, false⟩ : WrT)).map wrC).flatten[i]? = some u → (madeCells #[.string ⟨#[]⟩, .string ⟨#[]⟩, .bool false] 15)[i]? = some u := by
  have e : (madeCells #[.string ⟨#[]⟩, .string ⟨#[]⟩, .bool false] 15) = ((List.replicate 5 (⟨⟨#[]⟩, ⟨#[]⟩, false⟩ : WrT)).map wrC).flatten.toArray := by kernel_rfl
  intro i u h
  rw [e]
  simpa using h

theorem lit_reads (w : World) : (Instr.buildSlice 25 0 #[]).run Try.prog w = .ok (.slice (some ⟨w.heap.size, 0, none⟩) 0 0) (w.alloc (.cells #[] 39)) := by
  obtain ⟨i0, hi, _, _, _⟩ := info3 info_read
  simp [Instr.buildSlice, run_underlying Try.underlying25, sizeOf, typeInfo, hi, Instr.fill, newRow]
  rw [Array.eq_empty_of_size_eq_zero (xs := Array.map _ (Array.range 0)) (by simp)]
theorem lit_writes (w : World) : (Instr.buildSlice 26 0 #[]).run Try.prog w = .ok (.slice (some ⟨w.heap.size, 0, none⟩) 0 0) (w.alloc (.cells #[] 41)) := by
  obtain ⟨i0, hi, _, _, _⟩ := info3 info_write
  simp [Instr.buildSlice, run_underlying Try.underlying26, sizeOf, typeInfo, hi, Instr.fill, newRow]
  rw [Array.eq_empty_of_size_eq_zero (xs := Array.map _ (Array.range 0)) (by simp)]
theorem size_txns : ∀ w, (sizeOf (Try.prog.elem 42)).run Try.prog w = .ok 4 w := fun w => by kernel_rfl
theorem fld_reads (w : World) (g n : Nat) : (Instr.fieldAt 28 (.pointer (some ⟨g, n, none⟩)) 2).run Try.prog w = .ok (.pointer (some ⟨g, n + 2, none⟩)) w := by rfl
theorem fld_writes (w : World) (g n : Nat) : (Instr.fieldAt 28 (.pointer (some ⟨g, n, none⟩)) 3).run Try.prog w = .ok (.pointer (some ⟨g, n + 3, none⟩)) w := by rfl
/-- 'append([]T{}, row...)' -/
theorem app_reads {w : World} {b g : Nat} (ty : TypeId) {cs : Array Value} (hb : Bl w g 39 cs) (hcs : cs = goodR.toArray) : ∃ v' w', (Builtin.append_ #[25, 25] ty #[.slice (some ⟨b, 0, none⟩) 0 0, .slice (some ⟨g, 0, none⟩) 2 2]).run Try.prog w = .ok v' w' ∧ RowN w.heap.size 39 2 goodR v' w' ∧ Gr w w' := by
  obtain ⟨i0, hi, hz0, hz1, hz2⟩ := info3 info_read
  obtain ⟨v', w', h1, h2, h3⟩ := run_append_arg_grows (P := Try.prog) w 25 ty 39 i0 _ 4 48 Try.underlying25 hi hz0 hz1 hz2 rfl (by decide) ⟨b, 0, none⟩ 0 0 [] rfl (fun _ _ h => by simp at h) ⟨g, 0, none⟩ 2 2 goodR rfl
    (fun j u hj => by
      have := hb.cell j
      rw [hcs] at this
      rw [show (⟨g, 0, none⟩ : Addr).add j = ⟨g, j, none⟩ from by unfold Addr.add; split <;> simp_all]
      rw [this]
      simpa using hj) (by decide) (by decide) (by decide)
  exact ⟨v', w', h1, RowN.of_own h2 (by decide), h3.os, h3.tape, h3.output, h3.size, fun k hk => h3.block k hk (by simp)⟩
theorem app_writes {w : World} {b g : Nat} (ty : TypeId) {cs : Array Value} (hb : Bl w g 41 cs) (hcs : cs = goodW.toArray) : ∃ v' w', (Builtin.append_ #[26, 26] ty #[.slice (some ⟨b, 0, none⟩) 0 0, .slice (some ⟨g, 0, none⟩) 2 2]).run Try.prog w = .ok v' w' ∧ RowN w.heap.size 41 2 goodW v' w' ∧ Gr w w' := by
  obtain ⟨i0, hi, hz0, hz1, hz2⟩ := info3 info_write
  obtain ⟨v', w', h1, h2, h3⟩ := run_append_arg_grows (P := Try.prog) w 26 ty 41 i0 _ 3 40 Try.underlying26 hi hz0 hz1 hz2 rfl (by decide) ⟨b, 0, none⟩ 0 0 [] rfl (fun _ _ h => by simp at h) ⟨g, 0, none⟩ 2 2 goodW rfl
    (fun j u hj => by
      have := hb.cell j
      rw [hcs] at this
      rw [show (⟨g, 0, none⟩ : Addr).add j = ⟨g, j, none⟩ from by unfold Addr.add; split <;> simp_all]
      rw [this]
      simpa using hj) (by decide) (by decide) (by decide)
  exact ⟨v', w', h1, RowN.of_own h2 (by decide), h3.os, h3.tape, h3.output, h3.size, fun k hk => h3.block k hk (by simp)⟩

theorem rowN_base {B B' n : Nat} {t : TypeId} {xs : List Value} {v : Value} {w : World} (h : RowN B t n xs v w) (hB : B' ≤ B) : RowN B' t n xs v w := by
  obtain ⟨r, c, cs, h1, h2, h3, h4⟩ := h
  exact ⟨r, c, cs, h1, h2, by omega, h4⟩
/-- a whole transaction is stored in its place -/
theorem store_txn {w : World} {g n : Nat} {cs : Array Value} {a b c d : Value} (hb : Bl w g 28 cs) (hn : n + 4 ≤ cs.size) (h1 : (#[a, b, c, d].all (·.oneCell')) = true) :
    ∃ w' cs', (Instr.storeAt 28 (.pointer (some ⟨g, n, none⟩)) (.agg #[a, b, c, d])).run Try.prog w = .ok () w' ∧ But w w' g ∧ Bl w' g 28 cs' ∧ cs'.size = cs.size ∧ cs'[n]? = some a ∧ cs'[n + 1]? = some b ∧ cs'[n + 2]? = some c ∧ cs'[n + 3]? = some d ∧ ∀ i, i < n ∨ n + 4 ≤ i → cs'[i]? = cs[i]? := by
  have h := run_storeAt_mid (P := Try.prog) w g n 28 #[a, b, c, d] (fun j hj => by
    have hj' : j < 4 := hj
    rw [hb.cell, hb.frozen]
    exact ⟨by rw [Array.getElem?_eq_getElem (by omega)]; rfl, rfl⟩) (by kernel_rfl) h1
  refine ⟨_, (((cs.setIfInBounds n a).setIfInBounds (n + 1) b).setIfInBounds (n + 2) c).setIfInBounds (n + 3) d, h, ((((But.refl w g).set n a).set (n + 1) b).set (n + 2) c).set (n + 3) d, (((hb.put n a).put (n + 1) b).put (n + 2) c).put (n + 3) d, by simp, ?_, ?_, ?_, ?_, fun i hi => ?_⟩
  · rw [Array.getElem?_setIfInBounds_ne (by omega), Array.getElem?_setIfInBounds_ne (by omega), Array.getElem?_setIfInBounds_ne (by omega), Array.getElem?_setIfInBounds_self_of_lt (by omega)]
  · rw [Array.getElem?_setIfInBounds_ne (by omega), Array.getElem?_setIfInBounds_ne (by omega), Array.getElem?_setIfInBounds_self_of_lt (by simp; omega)]
  · rw [Array.getElem?_setIfInBounds_ne (by omega), Array.getElem?_setIfInBounds_self_of_lt (by simp; omega)]
  · rw [Array.getElem?_setIfInBounds_self_of_lt (by simp; omega)]
  · rw [Array.getElem?_setIfInBounds_ne (by omega), Array.getElem?_setIfInBounds_ne (by omega), Array.getElem?_setIfInBounds_ne (by omega), Array.getElem?_setIfInBounds_ne (by omega)]
/-- .. and is read -/
theorem load_txn {w : World} {g z : Nat} {a b c d : Value} (h0 : Sees w g (4 * z) 28 a) (h1 : Sees w g (4 * z + 1) 28 b) (h2 : Sees w g (4 * z + 2) 28 c) (h3 : Sees w g (4 * z + 3) 28 d) :
    (Instr.loadAt 28 (.pointer (some ⟨g, 4 * z, none⟩))).run Try.prog w = .ok (.agg #[a, b, c, d]) w := by
  refine run_loadAt_mid w g (4 * z) 28 [a, b, c, d] _ (fun j v hj => ?_) Try.underlying28 rfl (by kernel_rfl)
  match j, hj with
  | 0, hj => simp at hj; subst hj; exact h0.cell
  | 1, hj => simp at hj; subst hj; exact h1.cell
  | 2, hj => simp at hj; subst hj; exact h2.cell
  | 3, hj => simp at hj; subst hj; exact h3.cell
theorem at_txn (w : World) {g z : Nat} (hz : z < 16) : (Instr.indexAt 42 (.slice (some ⟨g, 0, none⟩) 16 16) (.int .i64 (z : Int))).run Try.prog w = .ok (.pointer (some ⟨g, 4 * z, none⟩)) w := by
  rw [run_indexAt_slice w 42 _ _ _ _ _ Try.underlying42, if_pos (by omega), size_txns w]
  simp only [Result.andThen_ok, Int.toNat_natCast]
  rw [Addr.add_mid, Nat.zero_add, Nat.mul_comm]
theorem build_txn (w : World) (r c q d : Nat) : (Instr.build 28 #[(0, .int .i64 9), (1, .int .i64 1000), (2, .slice (some ⟨r, 0, none⟩) 2 c), (3, .slice (some ⟨q, 0, none⟩) 2 d)]).run Try.prog w = .ok (.agg #[.int .i64 9, .int .i64 1000, .slice (some ⟨r, 0, none⟩) 2 c, .slice (some ⟨q, 0, none⟩) 2 d]) w := by kernel_rfl
/-- a transaction with rows of its own, as a value -/
def Tx8 (B : Nat) : Grow.Known := fun x w => ∃ u v, x = .agg #[.int .i64 9, .int .i64 1000, u, v] ∧ RowN B 39 2 goodR u w ∧ RowN B 41 2 goodW v w
theorem Tx8.stays {H : Nat → Prop} {G : Nat → Nat → Value → World → Prop} {B : Nat} (hH : ∀ k, H k → k < B) : Flow.Stays (HitG H G) (Tx8 B) := fun _ w w' ⟨u, v, h1, h2, h3⟩ hr => ⟨u, v, h1, RowN.stays hH u w w' h2 hr, RowN.stays hH v w w' h3 hr⟩
/-- .. laid in its place -/
def Laid8 (gb j B : Nat) : Grow.Known := fun x w => LaidG gb (4 * j) 28 (Grow.Is (.int .i64 9)) x w ∧ LaidG gb (4 * j + 1) 28 (Grow.Is (.int .i64 1000)) x w ∧ LaidG gb (4 * j + 2) 28 (RowN B 39 2 goodR) x w ∧ LaidG gb (4 * j + 3) 28 (RowN B 41 2 goodW) x w
theorem Laid8.stays {gb j B : Nat} (hB : gb < B) : Flow.Stays (HitG (fun k => k = gb) (G8 gb j B)) (Laid8 gb j B) := fun x w w' ⟨h0, h1, h2, h3⟩ hr => by
  refine ⟨LaidG.stays (fun _ _ _ h _ => h) (fun v w hg => ?_) x w w' h0 hr, LaidG.stays (fun _ _ _ h _ => h) (fun v w hg => ?_) x w w' h1 hr, LaidG.stays (RowN.stays (fun k hk => by omega)) (fun v w hg => ?_) x w w' h2 hr, LaidG.stays (RowN.stays (fun k hk => by omega)) (fun v w hg => ?_) x w w' h3 hr⟩
  all_goals rcases hg.2 with ⟨e, h⟩ | ⟨e, h⟩ | ⟨e, h⟩ | ⟨e, h⟩ <;> first | exact h | (exfalso; omega)
theorem rowN_one {B : Nat} {t : TypeId} {n : Nat} {xs : List Value} {v : Value} {w : World} (h : RowN B t n xs v w) : v.oneCell' = true := by
  obtain ⟨r, c, _, rfl, _⟩ := h
  rfl
theorem store8 {w : World} {gb j B : Nat} {cs : Array Value} {u v : Value} (hb : Bl w gb 28 cs) (hc : cs.size = 64) (hj : j < 16) (hu : RowN B 39 2 goodR u w) (hv : RowN B 41 2 goodW v w) (hB : gb < B) :
    ∃ w', (Instr.storeAt 28 (.pointer (some ⟨gb, 4 * j, none⟩)) (.agg #[.int .i64 9, .int .i64 1000, u, v])).run Try.prog w = .ok () w' ∧ HitG (fun k => k = gb) (G8 gb j B) w w' ∧ Laid8 gb j B undef w' := by
  obtain ⟨w', cs', h1, h2, h3, h4, a0, a1, a2, a3, hout⟩ := store_txn (a := .int .i64 9) (b := .int .i64 1000) (c := u) (d := v) hb (n := 4 * j) (by omega) (by simp [rowN_one hu, rowN_one hv, show (Value.int .i64 9).oneCell' = true from rfl, show (Value.int .i64 1000).oneCell' = true from rfl])
  have hbl : ∀ {g : Nat} {t : TypeId} {xs : Array Value}, gb < g → Bl w g t xs → Bl w' g t xs := fun hg hx => (h2.block _ hx.lt (fun e => by injection e with e; omega)).trans hx
  have hu' : RowN B 39 2 goodR u w' := by
    obtain ⟨r, c, xs, e, hc2, hr, hx, hf⟩ := hu
    exact ⟨r, c, xs, e, hc2, hr, hbl (by omega) hx, hf⟩
  have hv' : RowN B 41 2 goodW v w' := by
    obtain ⟨r, c, xs, e, hc2, hr, hx, hf⟩ := hv
    exact ⟨r, c, xs, e, hc2, hr, hbl (by omega) hx, hf⟩
  refine ⟨w', h1, HitG.of_but h2 hb h3 h4 rfl (fun i z hz => ?_), ⟨_, ⟨cs', h3, a0⟩, rfl⟩, ⟨_, ⟨cs', h3, a1⟩, rfl⟩, ⟨_, ⟨cs', h3, a2⟩, hu'⟩, ⟨_, ⟨cs', h3, a3⟩, hv'⟩⟩
  by_cases hi : i < 4 * j ∨ 4 * j + 4 ≤ i
  · rw [hout i hi] at hz
    exact .inl hz
  · refine .inr ⟨rfl, ?_⟩
    obtain rfl | rfl | rfl | rfl : i = 4 * j ∨ i = 4 * j + 1 ∨ i = 4 * j + 2 ∨ i = 4 * j + 3 := by omega
    · rw [a0] at hz
      injection hz with hz
      exact .inl ⟨rfl, hz.symm⟩
    · rw [a1] at hz
      injection hz with hz
      exact .inr (.inl ⟨rfl, hz.symm⟩)
    · rw [a2] at hz
      injection hz with hz
      exact .inr (.inr (.inl ⟨rfl, hz ▸ hu'⟩))
    · rw [a3] at hz
      injection hz with hz
      exact .inr (.inr (.inr ⟨rfl, hz ▸ hv'⟩))

/-! Stores into single cells. -/
theorem at_lit (w : World) (g : Nat) (z : Nat) (n : Int) (m : Nat) (hz : z < 16) (hn : n = (z : Int)) (hm : m = 4 * z) : (Instr.indexAt 42 (.slice (some ⟨g, 0, none⟩) 16 16) (.int .i64 n)).run Try.prog w = .ok (.pointer (some ⟨g, m, none⟩)) w := by
  subst hn hm
  exact at_txn w hz
theorem size_writes : ∀ w, (sizeOf (Try.prog.elem 26)).run Try.prog w = .ok 3 w := fun w => by kernel_rfl
theorem size_reads_ : ∀ w, (sizeOf (Try.prog.elem 25)).run Try.prog w = .ok 4 w := fun w => by kernel_rfl
theorem at_read (w : World) (g c z : Nat) (n : Int) (m : Nat) (hz : z < 2) (hn : n = (z : Int)) (hm : m = 4 * z) : (Instr.indexAt 25 (.slice (some ⟨g, 0, none⟩) 2 c) (.int .i64 n)).run Try.prog w = .ok (.pointer (some ⟨g, m, none⟩)) w := by
  subst hn hm
  rw [run_indexAt_slice w 25 _ _ _ _ _ Try.underlying25, if_pos (by omega), size_reads_ w]
  simp only [Result.andThen_ok, Int.toNat_natCast]
  rw [Addr.add_mid, Nat.zero_add, Nat.mul_comm]
theorem at_write (w : World) (g c z : Nat) (n : Int) (m : Nat) (hz : z < 2) (hn : n = (z : Int)) (hm : m = 3 * z) : (Instr.indexAt 26 (.slice (some ⟨g, 0, none⟩) 2 c) (.int .i64 n)).run Try.prog w = .ok (.pointer (some ⟨g, m, none⟩)) w := by
  subst hn hm
  rw [run_indexAt_slice w 26 _ _ _ _ _ Try.underlying26, if_pos (by omega), size_writes w]
  simp only [Result.andThen_ok, Int.toNat_natCast]
  rw [Addr.add_mid, Nat.zero_add, Nat.mul_comm]
def plainV : Value → Bool | .string _ => true | .int _ _ => true | .slice _ _ _ => true | _ => false
theorem put_cell {ty t : TypeId} {H : Nat → Prop} {G : Nat → Nat → Value → World → Prop} {Ψ : Grow.Known} {w : World} {g i : Nat} {u v : Value} (hsz : ∀ w, (sizeOf ty).run Try.prog w = .ok 1 w) (h : Sees w g i t u) (hv : plainV v = true) (hH : H g) (hG : G g i v (w.setCell ⟨g, i, none⟩ v)) (hΨ : Ψ v (w.setCell ⟨g, i, none⟩ v)) :
    ∃ w', (Instr.storeAt ty (.pointer (some ⟨g, i, none⟩)) v).run Try.prog w = .ok () w' ∧ HitG H G w w' ∧ LaidG g i t Ψ undef w' := by
  obtain ⟨cs, hb, hc⟩ := h
  have hi : i < cs.size := (Array.getElem?_eq_some_iff.1 hc).1
  have c1 : w.cell? ⟨g, i, none⟩ = some u := (hb.cell i).trans hc
  have c2 := hb.frozen i
  have hl : LaidG g i t Ψ undef (w.setCell ⟨g, i, none⟩ v) := ⟨v, ⟨_, hb.put i v, by rw [Array.getElem?_setIfInBounds_self_of_lt hi]⟩, hΨ⟩
  have hh : HitG H G w (w.setCell ⟨g, i, none⟩ v) := HitG.set hb hH hG
  refine ⟨w.setCell ⟨g, i, none⟩ v, ?_, hh, hl⟩
  clear hl hh hG hΨ
  cases v <;> first | (cases hv; done) | simp [Instr.storeAt, Instr.sureAddr, storeVar, hsz, c1, c2, go_sem]
/-- one store of a plan -/
theorem Mem.store_ {w w0 : World} {n gb : Nat} {R W : Nat → Nat} {val : Nat → Nat → Nat → Value} (h : Mem w0 n gb R W val) {L : Plan} (hh : HitG (HL gb R W L) (GL gb R W L) w0 w) {tt : TypeId} (hsz : ∀ w, (sizeOf tt).run Try.prog w = .ok 1 w) {κ z j : Nat} (h1 : κ < 3) (h2 : z < n) (h3 : j < wd κ) {v : Value} (hv : plainV v = true) {Ψ : Grow.Known} (hm : (κ, z, j, Ψ) ∈ L)
    (hΨ : Ψ v (w.setCell ⟨bk gb R W κ z, ix κ z j, none⟩ v)) : ∃ w', (Instr.storeAt tt (.pointer (some ⟨bk gb R W κ z, ix κ z j, none⟩)) v).run Try.prog w = .ok () w' ∧ HitG (HL gb R W L) (GL gb R W L) w w' ∧ LaidG (bk gb R W κ z) (ix κ z j) (ty κ) Ψ undef w' := by
  obtain ⟨u, hu⟩ := (h.sees κ z j h1 h2 h3).there hh
  exact put_cell hsz hu hv ⟨_, hm, rfl⟩ ⟨_, hm, rfl, rfl, hΨ⟩ hΨ

end Go.Proofs.Ytjpdhijhmpdbnaa
