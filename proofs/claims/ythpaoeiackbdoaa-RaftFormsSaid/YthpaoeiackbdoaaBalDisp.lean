/-
  The heap's methods, called through the interface.
-/
import Derived.Test.YthpaoeiackbdoaaBalMem
import Derived.Test.YthpaoeiackbdoaaMineV
import Derived.Test.YthpaoeiackbdoaaRowMine
namespace Go.Proofs.Ythpaoeiackbdoaa
open Go Go.RowKit
set_option maxRecDepth 100000

abbrev hpV (g : Nat) : Value := .iface 121 (.pointer (some ⟨g, 0, none⟩))
theorem agg_h : ∀ w, (isAgg 119).run Try.prog w = .ok false w := fun w => by kernel_rfl
theorem load_h {w : World} {g : Nat} {v : Value} (hc : w.cell? ⟨g, 0, none⟩ = some v) : (loadVar 119 ⟨g, 0, none⟩).run Try.prog w = .ok v w := by
  simp [loadVar, agg_h w, hc]
theorem meth_len {w : World} {g : Nat} {v : Value} (hc : w.cell? ⟨g, 0, none⟩ = some v) (n : Nat) : (method (n + 1) 121 (.pointer (some ⟨g, 0, none⟩)) "Len").run Try.prog w = .ok (93, v) w := by
  have h : (method (n + 1) 121 (.pointer (some ⟨g, 0, none⟩)) "Len").run Try.prog w = (loadVar 119 ⟨g, 0, none⟩ >>= fun r => pure (93, r)).run Try.prog w := by kernel_rfl
  rw [h, Sem.run_bind, load_h hc]
  simp only [Result.andThen_ok, Sem.run_pure]
theorem meth_less {w : World} {g : Nat} {v : Value} (hc : w.cell? ⟨g, 0, none⟩ = some v) (n : Nat) : (method (n + 1) 121 (.pointer (some ⟨g, 0, none⟩)) "Less").run Try.prog w = .ok (113, v) w := by
  have h : (method (n + 1) 121 (.pointer (some ⟨g, 0, none⟩)) "Less").run Try.prog w = (loadVar 119 ⟨g, 0, none⟩ >>= fun r => pure (113, r)).run Try.prog w := by kernel_rfl
  rw [h, Sem.run_bind, load_h hc]
  simp only [Result.andThen_ok, Sem.run_pure]
theorem meth_swap {w : World} {g : Nat} {v : Value} (hc : w.cell? ⟨g, 0, none⟩ = some v) (n : Nat) : (method (n + 1) 121 (.pointer (some ⟨g, 0, none⟩)) "Swap").run Try.prog w = .ok (114, v) w := by
  have h : (method (n + 1) 121 (.pointer (some ⟨g, 0, none⟩)) "Swap").run Try.prog w = (loadVar 119 ⟨g, 0, none⟩ >>= fun r => pure (114, r)).run Try.prog w := by kernel_rfl
  rw [h, Sem.run_bind, load_h hc]
  simp only [Result.andThen_ok, Sem.run_pure]
theorem meth_push {w : World} {g : Nat} (n : Nat) : (method (n + 1) 121 (.pointer (some ⟨g, 0, none⟩)) "Push").run Try.prog w = .ok (116, .pointer (some ⟨g, 0, none⟩)) w := by kernel_rfl
theorem meth_pop {w : World} {g : Nat} (n : Nat) : (method (n + 1) 121 (.pointer (some ⟨g, 0, none⟩)) "Pop").run Try.prog w = .ok (115, .pointer (some ⟨g, 0, none⟩)) w := by kernel_rfl

/-- numbers behind a pointer: the pointer's cell, the row, and that nothing below w0 has changed -/
structure HP (w0 w : World) (g : Nat) (l : List Int) : Prop where
  own : ∃ v, Bl w g 119 #[v] ∧ OwnI w (g + 1) v l
  gr : Gr w0 w
  at_ : w0.heap.size ≤ g
theorem HP.drewN {w0 w : World} {g : Nat} {l : List Int} (h : HP w0 w g l) (n : Nat) : HP w0 (w.drewN n) g l := ⟨h.own, h.gr.drewN n, h.at_⟩
/-- the row alone is written -/
theorem HP.row {w0 w w' : World} {g : Nat} {l l' : List Int} {v : Value} (h : HP w0 w g l) (hb : Bl w g 119 #[v]) (ho : OwnI w (g + 1) v l) (hg : w.grownBy w' v.ownBlock) (ho' : OwnI w' (g + 1) v l') : HP w0 w' g l' := by
  have hlt := World.ownsRow.lt ho
  have hgl := hb.lt
  have hne : v.ownBlock ≠ some g := fun e => by have := (hlt g e).1; omega
  refine ⟨⟨v, (hg.block g hgl (fun e => hne e.symm)).trans hb, ho'⟩, ?_, h.at_⟩
  have hat := h.at_
  exact ⟨hg.os.trans h.gr.os, hg.tape.trans h.gr.tape, hg.output.trans h.gr.output, Nat.le_trans h.gr.size hg.size, fun k hk => (hg.block k (Nat.lt_of_lt_of_le hk h.gr.size) (fun e => by have := (hlt k e.symm).1; omega)).trans (h.gr.block k hk)⟩

theorem hLen_ok (w0 w : World) (g : Nat) (l : List Int) (h : HP w0 w g l) : ∃ v, w.cell? ⟨g, 0, none⟩ = some v ∧ Calls Try.prog 93 #[v] w fun e w' => e = .returned (.int .i64 l.length) ∧ w' = w := by
  obtain ⟨v, hb, ho⟩ := h.own
  exact ⟨v, by rw [hb.cell]; rfl, Len_ok w _ v l ho⟩
theorem hLess_ok (w0 w : World) (g : Nat) (l : List Int) (i j : Nat) (h : HP w0 w g l) (hi : i < l.length) (hj : j < l.length) : ∃ v, w.cell? ⟨g, 0, none⟩ = some v ∧
    Calls Try.prog 113 #[v, .int .i64 i, .int .i64 j] w fun e w' => e = .returned (.bool (decide (l[i] < l[j]))) ∧ HP w0 w' g l := by
  obtain ⟨v, hb, ho⟩ := h.own
  exact ⟨v, by rw [hb.cell]; rfl, (Less_ok w _ v l i j ho hi hj).mono fun e w' ⟨he, n, hw⟩ => ⟨he, hw ▸ h.drewN n⟩⟩
theorem hSwap_ok (w0 w : World) (g : Nat) (l : List Int) (i j : Nat) (h : HP w0 w g l) (hi : i < l.length) (hj : j < l.length) : ∃ v, w.cell? ⟨g, 0, none⟩ = some v ∧
    Calls Try.prog 114 #[v, .int .i64 i, .int .i64 j] w fun e w' => e = .returned (.tuple #[]) ∧ HP w0 w' g (swapL l i j) := by
  obtain ⟨v, hb, ho⟩ := h.own
  exact ⟨v, by rw [hb.cell]; rfl, (Swap_ok w _ v l i j ho hi hj).mono fun e w' ⟨he, ho', hg⟩ => ⟨he, h.row hb ho hg ho'⟩⟩

end Go.Proofs.Ythpaoeiackbdoaa

namespace Go.Proofs.Ythpaoeiackbdoaa.Mine
open Go Go.RowKit Go.Proofs.Ythpaoeiackbdoaa
section
variable {P : Program} {ops : Array Oper} {w0 : World} {n0 : Nat} {Q : (Tmp → Known) → Tmp → Known → Prop} {o : Oper} {rest : List Oper} {K : Tmp → Known} {c : Tmp} {C : Known}
/-- the row lies in a cell -/
abbrev RowVOf (e : TypeId) (B : Nat) (row : Value) (xs : List Value) : Known := fun _ w o => OwnV e w B row xs ∧ row.ownBlock = o
theorem RowVOf.keeps (e : TypeId) (B : Nat) (row : Value) (xs : List Value) : Keeps (RowVOf e B row xs) := fun _ _ _ _ ⟨h1, h2⟩ hg => ⟨h1.gr hg, h2⟩
/-- the row is loaded from the cell in which it lies, a whole block -/
theorem chain_loadV {d : Tmp} {t : TypeId} {x : Operand} {e e' : TypeId} {B g : Nat} {row : Value} {xs : List Value} (ho : o.op = .load t x) (hd : o.dst = some d) (hg : o.guard = none) (hk : n0 ≤ c) (ha : ∀ w, (isAgg t).run P w = .ok false w) (hx : Kn K x (Bx g e' #[row]))
    (h : wpMine P ops w0 n0 Q rest (upd K (some d) top) d (RowV e B xs)) : wpMine P ops w0 n0 Q (o :: rest) K c (RowVOf e B row xs) := by
  refine chain hd hg (.inr hk) (RowV.keeps e B xs) (fun a w ob ob0 _ hwf hl hC => ?_) h
  obtain ⟨h1, h2, h3⟩ : Bx g e' #[row] (a.eval x) w ob := looks_op (Ψ := Bx g e' #[row]) (by simp [ho, Op.operands]) hx hl
  have hc : w.cell? ⟨g, 0, none⟩ = some row := by rw [h2.cell]; rfl
  have hr : (Instr.loadAt t (.pointer (some ⟨g, 0, none⟩))).run P w = .ok row w := by simp [Instr.loadAt, Instr.sureAddr, loadVar, ha w, hc]
  unfold doesC execOp
  simp only [ho, h1]
  rw [Sem.run_bind, hr]
  exact ⟨ob, RS.refl w ob, hwf, hC.1, hC.2⟩
end
end Go.Proofs.Ythpaoeiackbdoaa.Mine

namespace Go.Proofs.Ythpaoeiackbdoaa
open Go Go.RowKit


theorem wpList_nilc {P : Program} {ops : Array Oper} {rest : List Oper} {o : Oper} {a : Act} {w : World} {Q : Exit → Act → World → Prop} (hgd : o.guard = none) (x : Operand) (ho : o.op = .nilCheck x) {ad : Addr} (hx : a.eval x = .pointer (some ad))
    (h : wpList P ops Q rest (a.put o.dst (.pointer (some ad))) w) : wpList P ops Q (o :: rest) a w :=
  wpList_plain hgd fun _ hK => by
    unfold Oper.wp execOp
    simp only [ho, hx]
    exact hK _ _ h
theorem assert_i {n : Int} (a : Act) (w : World) (o : Oper) (ho : o.op = .typeAssert (.tmp 8) 20 3 false) (hx : a.eval (.tmp 8) = .iface 3 (iv n)) : (execOp a.eval o).run Try.prog w = .ok (.value (iv n)) w := by
  unfold execOp
  simp only [ho, hx]
  kernel_rfl

set_option maxHeartbeats 1000000 in
theorem hPush_ok (w0 w : World) (g : Nat) (l : List Int) (n : Int) (h : HP w0 w g l) (hl : l.length ≤ 1000000) :
    Calls Try.prog 116 #[.pointer (some ⟨g, 0, none⟩), .iface 3 (iv n)] w fun e w' => e = .returned (.tuple #[]) ∧ HP w0 w' g (l ++ [n]) := by
  obtain ⟨i0, hi, hz0, hz1, hz2⟩ := info_i
  obtain ⟨v, hb, ho⟩ := h.own
  have HB := hide hb
  have HO := hide ho
  have HH := hide h
  have hlt := World.ownsRow.lt ho
  have hne : some g ≠ v.ownBlock := fun e => by have := (hlt g e.symm).1; omega
  have hgl := hb.lt
  clear h hb ho
  go_enter Try.func116, Try.ntmps116
  go_wp2_with fail
  refine Mine.wp_region_mine_tail 8 13 [4, 5, 6, 7, 8, 9, 10, 11, 12] rfl (by kernel_rfl) (by kernel_rfl) (by kernel_rfl) (by kernel_rfl) (ob0 := v.ownBlock) (Mine.Ahead.more (Mine.Ahead.more (Mine.Ahead.none_ _ _ _) 0 (Mine.Bx.stays g 119 #[v]) ⟨rfl, HB.out.drewN 1, hne⟩) 1 (Mine.Is.stays (.iface 3 (iv n))) rfl) 14 (C0 := Mine.RowVOf 3 (g + 1) v (ivs l)) (Mine.RowVOf.keeps _ _ _ _) (fun k hk => (hlt k hk).2) ⟨HO.out.gr ((Gr.refl _).drewN 1), rfl⟩ ?_
  refine Mine.move _ (.inl rfl) rfl (by decide) rfl (Mine.Bx.stays _ _ _) ?_
  refine Mine.move _ (.inl rfl) rfl (by decide) rfl (Mine.Bx.stays _ _ _) ?_
  refine Mine.nil rfl rfl (by decide) rfl ?_
  refine Mine.chain_loadV rfl rfl rfl (by decide) agg_h rfl ?_
  refine Mine.move _ (.inl rfl) rfl (by decide) rfl (Mine.Is.stays _) ?_
  refine Mine.run1 (v := iv n) (x := .tmp 8) rfl (by decide) (by simp [Op.operands]) rfl (fun a w hx => assert_i a w _ rfl hx) ?_
  refine Mine.lit1V (e := 3) rfl rfl (by decide) rfl (fun w => by kernel_rfl) ?_
  refine Mine.chain_appV (xs := ivs l) (ys := [iv n]) rfl rfl rfl Try.underlying119 hi hz0 hz1 hz2 rfl rfl (by intro u hu; simp at hu; subst hu; rfl) (by rw [ivs_len]; simp; omega) (by rw [ivs_len]; simp; omega) (by have : (w.drew).heap.size = w.heap.size := rfl; omega) ?_
  intro a1 w1 ob hr hwf hsz hdf hun hk hat
  have h4 : a1.tmps.getD 4 undef = .pointer (some ⟨g, 0, none⟩) := (hk 4).1
  obtain ⟨hown, hob⟩ := hat
  change OwnV 3 w1 (g + 1) (a1.tmps.getD 11 undef) (ivs l ++ ivs [n]) at hown
  obtain ⟨X, hX, hlay⟩ := Grow.lay_kept_by _ a1 13 _ hsz hdf hun
  rw [hX] at h4 hown hob
  clear hX hun hdf hsz hk hwf
  subst hlay
  simp only [List.range, List.range.loop, List.map_cons, List.map_nil, List.contains_cons, List.contains_nil, Nat.reduceBEq, Bool.or_false, Bool.or_true, cond_false, cond_true, Array.getD_eq_getD_getElem?, List.getElem?_toArray, List.getElem?_cons_zero, List.getElem?_cons_succ, Option.getD_some, h4, List.drop_succ_cons, List.drop_zero]
  generalize X 11 = row at hown hob ⊢
  subst hob
  rw [← ivs_app] at hown
  replace hr := (Mine.RS.of_gr (o := v.ownBlock) (Gr.drew (Gr.refl w))).trans hr
  have hb1 : Bl w1 g 119 #[v] := (hr.gb.block g hgl hne).trans HB.out
  have hrl := World.ownsRow.lt hown
  have HE : Hid (HP w0 (w1.setCell ⟨g, 0, none⟩ row) g (l ++ [n])) := by
    have hbut : But w1 (w1.setCell ⟨g, 0, none⟩ row) g := (But.refl w1 g).set 0 row
    have hH := HH.out
    have hat := hH.at_
    refine ⟨⟨row, hb1.put 0 row, ?_⟩, ?_, hH.at_⟩
    · exact World.ownsRow.kept hown hbut (by
        cases hv : row.ownBlock with
        | none => exact .inl rfl
        | some j => exact .inr fun e2 => by injection e2 with e2; have := (hrl j hv).1; omega)
    · have hs := hH.gr.size
      have hb2 : Gr w0 w1 := ⟨hr.gb.os.trans hH.gr.os, hr.gb.tape.trans hH.gr.tape, hr.gb.output.trans hH.gr.output, Nat.le_trans hs hr.gb.size, fun k hk => (hr.gb.block k (Nat.lt_of_lt_of_le hk hs) (fun e => by have := (hlt k e.symm).1; omega)).trans (hH.gr.block k hk)⟩
      exact ⟨hbut.os.trans hb2.os, hbut.tape.trans hb2.tape, hbut.output.trans hb2.output, Nat.le_trans hb2.size hbut.size, fun k hk => (hbut.block k (Nat.lt_of_lt_of_le hk hb2.size) (by simp; omega)).trans (hb2.block k hk)⟩
  obtain ⟨A, c, rfl, _⟩ := OwnI.is hown
  clear hr hown hrl HH HO HB hlt hne
  refine wpList_nilc rfl (.tmp 4) rfl rfl ?_
  simp only [Act.put, List.setIfInBounds_toArray, List.set_cons_zero, List.set_cons_succ]
  refine wpList_store_slice rfl 119 (.tmp 12) (.tmp 11) rfl rfl (fun w => by kernel_rfl) (g := g) (i := 0) rfl rfl hb1 (by simp) ?_
  clear hb1
  generalize w1.setCell ⟨g, 0, none⟩ (.slice A (l ++ [n]).length c) = w2 at HE ⊢
  go_wp2_with fail
  go_end0
  exact ⟨rfl, HE.out⟩

end Go.Proofs.Ythpaoeiackbdoaa

/-
  The heap's Pop, by its contract.
-/
namespace Go.Proofs.Ythpaoeiackbdoaa
open Go Go.RowKit
set_option maxRecDepth 100000

theorem OwnI.front {w : World} {B g n c k : Nat} {l : List Int} (h : OwnI w B (.slice (some ⟨g, 0, none⟩) n c) l) (hk : k ≤ l.length) : OwnI w B (.slice (some ⟨g, 0, none⟩) k c) (l.take k) := by
  unfold OwnI OwnV at *
  rw [ivs_len] at *
  refine ⟨by simp [ivs_len], ?_⟩
  rcases h.2 with ⟨h', _⟩ | ⟨g', cap', cur, h', hb, hg, hnc, hcm, hcs, htake⟩
  · simp at h'
  · simp only [Value.slice.injEq, Option.some.injEq, Addr.mk.injEq, and_true] at h'
    obtain ⟨rfl, rfl, rfl⟩ := h'
    refine .inr ⟨g, c, cur, by rw [List.length_take, Nat.min_eq_left hk], hb, hg, by rw [List.length_take]; omega, hcm, hcs, ?_⟩
    rw [List.length_take, Nat.min_eq_left hk]
    have : cur.toList.take (k * 1) = (cur.toList.take (l.length * 1)).take k := by rw [List.take_take, Nat.mul_one, Nat.mul_one, Nat.min_eq_left hk]
    rw [this, htake]
    simp [ivs]

set_option maxHeartbeats 1000000 in
theorem hPop_ok (w0 w : World) (g : Nat) (l : List Int) (k : Nat) (h : HP w0 w g l) (hk : l.length = k + 1) :
    Calls Try.prog 115 #[.pointer (some ⟨g, 0, none⟩)] w fun e w' => e = .returned (.iface 3 (iv (l[k]'(by omega)))) ∧ HP w0 w' g (l.take k) := by
  obtain ⟨v, hb, ho⟩ := h.own
  obtain ⟨b, c, rfl, hB, hbw, hc, hm, hr⟩ := ho.block_ (by omega)
  have c0 : w.cell? ⟨g, 0, none⟩ = some (.slice (some ⟨b, 0, none⟩) l.length c) := by rw [hb.cell]; rfl
  have f0 := hb.frozen 0
  have c1 : w.cell? ⟨b, k, none⟩ = some (iv (l[k]'(by omega))) := by rw [hr.cellAt k (by omega), ivs_at (by omega)]
  have HE : Hid (HP w0 (w.setCell ⟨g, 0, none⟩ (.slice (some ⟨b, 0, none⟩) k c)) g (l.take k)) := by
    have hbut : But w (w.setCell ⟨g, 0, none⟩ (.slice (some ⟨b, 0, none⟩) k c)) g := (But.refl w g).set 0 _
    have hat := h.at_
    refine ⟨⟨_, hb.put 0 _, ?_⟩, ?_, h.at_⟩
    · exact World.ownsRow.kept (ho.front (k := k) (by omega)) hbut (.inr (fun e2 => by injection e2 with e2; simp at e2; omega))
    · have hs := h.gr.size
      exact ⟨hbut.os.trans h.gr.os, hbut.tape.trans h.gr.tape, hbut.output.trans h.gr.output, Nat.le_trans h.gr.size hbut.size, fun k hk => (hbut.block k (Nat.lt_of_lt_of_le hk h.gr.size) (by simp; omega)).trans (h.gr.block k hk)⟩
  have hc' : k + 1 ≤ c := by omega
  have hm' : (c : Int) ≤ 9223372036854775807 := by simp [maxLen] at hm; omega
  rw [hk] at c0
  obtain ⟨x, hx⟩ : ∃ x, l[k]'(by omega) = x := ⟨_, rfl⟩
  rw [hx] at c1 ⊢
  clear hx hb ho hr h hc hB hk
  have hcn : ¬ c = 0 := by omega
  have e1 : ((k + 1 : Nat) : Int) - 1 = k := by omega
  have hk1 : (k : Int) ≤ (c : Int) := by omega
  have hk2 : (k : Int) < ((k + 1 : Nat) : Int) := by omega
  unfold iv at *
  go_enter Try.func115, Try.ntmps115
  go_wp2_with fail
  go_ret
  exact ⟨rfl, HE.out⟩

end Go.Proofs.Ythpaoeiackbdoaa
