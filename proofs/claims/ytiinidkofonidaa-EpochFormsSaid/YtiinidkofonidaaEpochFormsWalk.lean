/-
  The walk of 'EpochForms'.
-/
import Derived.Test.YtiinidkofonidaaEpochAllWalk
import Derived.Test.YtiinidkofonidaaEntGrow
import Derived.Test.YtiinidkofonidaaEpGrow
namespace Go.Proofs.Ytiinidkofonidaa.Grow
open Go Go.RowKit TxnMath KeyMath MsgMath EpMath Go.Proofs.Ytiinidkofonidaa
set_option maxRecDepth 100000
/-- an entry as a value -/
def plV (t : Int × Bool) : Value := .agg #[.int .i64 t.1, .bool t.2, .int .i64 0, .int .i64 0, .slice none 0 0, .slice none 0 0]
def plC (t : Int × Bool) : Array Value := #[.int .i64 t.1, .bool t.2, .int .i64 0, .int .i64 0, .slice none 0 0, .slice none 0 0]
theorem lit_ent1 (w : World) (a : Int × Bool) : (Instr.buildSlice 24 1 #[(0, plV a)]).run Try.prog w = .ok (.slice (some ⟨w.heap.size, 0, none⟩) 1 1) (w.alloc (.cells #[.int .i64 a.1, .bool a.2, .int .i64 0, .int .i64 0, .slice none 0 0, .slice none 0 0] 39)) := by kernel_rfl
theorem lit_ent5 (w : World) (a b c d e : Int × Bool) : (Instr.buildSlice 24 5 #[(0, plV a), (1, plV b), (2, plV c), (3, plV d), (4, plV e)]).run Try.prog w = .ok (.slice (some ⟨w.heap.size, 0, none⟩) 5 5) (w.alloc (.cells #[.int .i64 a.1, .bool a.2, .int .i64 0, .int .i64 0, .slice none 0 0, .slice none 0 0, .int .i64 b.1, .bool b.2, .int .i64 0, .int .i64 0, .slice none 0 0, .slice none 0 0, .int .i64 c.1, .bool c.2, .int .i64 0, .int .i64 0, .slice none 0 0, .slice none 0 0, .int .i64 d.1, .bool d.2, .int .i64 0, .int .i64 0, .slice none 0 0, .slice none 0 0, .int .i64 e.1, .bool e.2, .int .i64 0, .int .i64 0, .slice none 0 0, .slice none 0 0] 39)) := by kernel_rfl
section
variable {ops : Array Oper} {w0 : World} {n0 : Nat} {Q : (Tmp → Known) → Prop} {o : Oper} {rest : List Oper} {K : Tmp → Known} {Φ : Known}
theorem grow_ents1 {x : Operand} {a : Int × Bool} (ho : o.op = .buildSlice 24 1 #[(0, x)]) (hw : Wanted ops K n0 o true) (hx : Kn K x (Is (plV a)))
    (h : wpGrow Try.prog ops w0 n0 Q rest (upd K o.dst (En ([a].map plE)))) : wpGrow Try.prog ops w0 n0 Q (o :: rest) K := by
  refine grow_step hw (fun _ => En.stays _) (fun ac w _ _ hk => ?_) h
  have h1 : ac.eval x = plV a := looks_op (Ψ := Is (plV a)) (by simp [ho, Op.operands]) hx hk
  unfold does execOp
  simp only [ho, List.map_toArray, List.map_cons, List.map_nil, h1]
  rw [Sem.run_bind, lit_ent1 w]
  exact ⟨(Gr.refl w).alloc _, ents_lit (ts := [a]) rfl (by simp) rfl⟩
theorem grow_ents5 {x y z s t : Operand} {a b c d e : Int × Bool} (ho : o.op = .buildSlice 24 5 #[(0, x), (1, y), (2, z), (3, s), (4, t)]) (hw : Wanted ops K n0 o true) (hx : Kn K x (Is (plV a))) (hy : Kn K y (Is (plV b))) (hz : Kn K z (Is (plV c))) (hs : Kn K s (Is (plV d))) (ht : Kn K t (Is (plV e)))
    (h : wpGrow Try.prog ops w0 n0 Q rest (upd K o.dst (En ([a, b, c, d, e].map plE)))) : wpGrow Try.prog ops w0 n0 Q (o :: rest) K := by
  refine grow_step hw (fun _ => En.stays _) (fun ac w _ _ hk => ?_) h
  have h1 : ac.eval x = plV a := looks_op (Ψ := Is (plV a)) (by simp [ho, Op.operands]) hx hk
  have h2 : ac.eval y = plV b := looks_op (Ψ := Is (plV b)) (by simp [ho, Op.operands]) hy hk
  have h3 : ac.eval z = plV c := looks_op (Ψ := Is (plV c)) (by simp [ho, Op.operands]) hz hk
  have h4 : ac.eval s = plV d := looks_op (Ψ := Is (plV d)) (by simp [ho, Op.operands]) hs hk
  have h5 : ac.eval t = plV e := looks_op (Ψ := Is (plV e)) (by simp [ho, Op.operands]) ht hk
  unfold does execOp
  simp only [ho, List.map_toArray, List.map_cons, List.map_nil, h1, h2, h3, h4, h5]
  rw [Sem.run_bind, lit_ent5 w]
  exact ⟨(Gr.refl w).alloc _, ents_lit (ts := [a, b, c, d, e]) rfl (by simp) rfl⟩
end
end Go.Proofs.Ytiinidkofonidaa.Grow
namespace Go.Proofs.Ytiinidkofonidaa
open Go Go.RowKit TxnMath KeyMath MsgMath EpMath
set_option maxRecDepth 100000

set_option maxHeartbeats 8000000 in
theorem walk_EpochForms (w : World) :
    Calls Try.prog 5 #[] w fun e w' => e = .returned (.bool true) ∧ Gr w w' := by
  have C1 : cutL (shuts ([(1, false), (1, false), (1, true), (1, true), (1, false)].map plE)) = [[1, 2], [], [5]] := by decide
  have C2 : cutL (shuts ([(1, true)].map plE)) = [[], []] := by decide
  have C3 : cutL (shuts ([(1, false)].map plE)) = [[1]] := by decide
  have S0 : sealN (shuts []) ([] : List EntT).length = 0 := by decide
  have KC1 := hide (fun (w0 : World) (v : Value) (W : World) (_ : Gr w0 W) (h : EntsX Any W v ([(1, false), (1, false), (1, true), (1, true), (1, false)].map plE)) => show Calls Try.prog 10 #[v] W fun e w' => ∃ u, e = .returned u ∧ Gr W w' ∧ Grow.Rw [[1, 2], [], [5]] u w' from
    (C1 ▸ Cut_ok v _ W h (by decide) : Calls Try.prog 10 #[v] W fun e w' => ∃ u, e = .returned u ∧ RowsI w' W.heap.size u [[1, 2], [], [5]] ∧ Gr W w').mono fun e w1 ⟨u, he, hr, hg⟩ => ⟨u, he, hg, _, hr⟩)
  have KC2 := hide (fun (w0 : World) (v : Value) (W : World) (_ : Gr w0 W) (h : EntsX Any W v ([(1, true)].map plE)) => show Calls Try.prog 10 #[v] W fun e w' => ∃ u, e = .returned u ∧ Gr W w' ∧ Grow.Rw [[], []] u w' from
    (C2 ▸ Cut_ok v _ W h (by decide) : Calls Try.prog 10 #[v] W fun e w' => ∃ u, e = .returned u ∧ RowsI w' W.heap.size u [[], []] ∧ Gr W w').mono fun e w1 ⟨u, he, hr, hg⟩ => ⟨u, he, hg, _, hr⟩)
  have KC3 := hide (fun (w0 : World) (v : Value) (W : World) (_ : Gr w0 W) (h : EntsX Any W v ([(1, false)].map plE)) => show Calls Try.prog 10 #[v] W fun e w' => ∃ u, e = .returned u ∧ Gr W w' ∧ Grow.Rw [[1]] u w' from
    (C3 ▸ Cut_ok v _ W h (by decide) : Calls Try.prog 10 #[v] W fun e w' => ∃ u, e = .returned u ∧ RowsI w' W.heap.size u [[1]] ∧ Gr W w').mono fun e w1 ⟨u, he, hr, hg⟩ => ⟨u, he, hg, _, hr⟩)
  have KS0 := hide (fun (w0 : World) (v : Value) (W : World) (_ : Gr w0 W) (h : EntsX Any W v []) => show Calls Try.prog 12 #[v] W fun e w' => ∃ u, e = .returned u ∧ Gr W w' ∧ Grow.Is (.int .i64 0) u w' from
    (Sealed_ok v [] W h (by decide)).mono fun e w1 ⟨he, hg⟩ => ⟨_, he, hg, by rw [S0]; rfl⟩)
  clear C1 C2 C3 S0
  go_enter Try.func5, Try.ntmps5
  go_wp2_with fail
  refine (begun_ok _).mono ?_
  rintro e w1 ⟨rfl, hg1⟩
  go_wp2_with fail
  obtain ⟨W2, hW2⟩ : ∃ W2, (w1.alloc (.cells #[.int .i64 1, .bool false, .int .i64 0, .int .i64 0, .slice none 0 0, .slice none 0 0] 39)).alloc (.cells #[.int .i64 1, .bool true, .int .i64 0, .int .i64 0, .slice none 0 0, .slice none 0 0] 39) = W2 := ⟨_, rfl⟩
  have b1 : Bl W2 w1.heap.size 39 (Grow.plC (1, false)) := by rw [← hW2]; exact (Bl.new w1 _ _).gr ((Gr.refl _).alloc _)
  have b2 : Bl W2 (w1.heap.size + 1) 39 (Grow.plC (1, true)) := by
    have := Bl.new (w1.alloc (.cells #[.int .i64 1, .bool false, .int .i64 0, .int .i64 0, .slice none 0 0, .slice none 0 0] 39)) 39 (Grow.plC (1, true))
    rw [World.size_alloc] at this
    rw [← hW2]; exact this
  have g2 : Gr w W2 := by rw [← hW2]; exact (hg1.alloc _).alloc _
  rw [hW2]
  have HG := hide g2
  clear hW2 g2 hg1
  refine Grow.wp_region_kept 96 [10, 11, 12, 13, 14, 15, 16, 17, 18, 19, 20, 21, 22, 3, 4, 5] rfl (by kernel_rfl) (by kernel_rfl) (by kernel_rfl) (Grow.Ahead.more (Grow.Ahead.more (Grow.Ahead.none_ _ _) 1 (Grow.Bx.stays w1.heap.size 39 (Grow.plC (1, false))) ⟨rfl, b1.drewN 1⟩) 2 (Grow.Bx.stays (w1.heap.size + 1) 39 (Grow.plC (1, true))) ⟨rfl, b2.drewN 1⟩) ?_
  refine Grow.grow_row rfl (.inl ⟨rfl, rfl⟩) rfl Try.underlying39 (by kernel_rfl) (by kernel_rfl) ?_
  refine Grow.grow_row rfl (.inl ⟨rfl, rfl⟩) rfl Try.underlying39 (by kernel_rfl) (by kernel_rfl) ?_
  refine Grow.grow_row rfl (.inl ⟨rfl, rfl⟩) rfl Try.underlying39 (by kernel_rfl) (by kernel_rfl) ?_
  refine Grow.grow_row rfl (.inl ⟨rfl, rfl⟩) rfl Try.underlying39 (by kernel_rfl) (by kernel_rfl) ?_
  refine Grow.grow_row rfl (.inl ⟨rfl, rfl⟩) rfl Try.underlying39 (by kernel_rfl) (by kernel_rfl) ?_
  refine Grow.grow_ents5 (a := (1, false)) (b := (1, false)) (c := (1, true)) (d := (1, true)) (e := (1, false)) rfl (.inl ⟨rfl, rfl⟩) rfl rfl rfl rfl rfl ?_
  refine Grow.grow_call1 (Φ := Grow.Rw [[1, 2], [], [5]]) rfl (.inl ⟨rfl, rfl⟩) Try.func10 (by kernel_rfl) (by kernel_rfl) rfl (Grow.Rw.stays _) (KC1.out _) ?_
  refine Grow.grow_row rfl (.inl ⟨rfl, rfl⟩) rfl Try.underlying39 (by kernel_rfl) (by kernel_rfl) ?_
  refine Grow.grow_ents1 (a := (1, true)) rfl (.inl ⟨rfl, rfl⟩) rfl ?_
  refine Grow.grow_call1 (Φ := Grow.Rw [[], []]) rfl (.inl ⟨rfl, rfl⟩) Try.func10 (by kernel_rfl) (by kernel_rfl) rfl (Grow.Rw.stays _) (KC2.out _) ?_
  refine Grow.grow_row rfl (.inl ⟨rfl, rfl⟩) rfl Try.underlying39 (by kernel_rfl) (by kernel_rfl) ?_
  refine Grow.grow_ents1 (a := (1, false)) rfl (.inl ⟨rfl, rfl⟩) rfl ?_
  refine Grow.grow_call1 (Φ := Grow.Rw [[1]]) rfl (.inl ⟨rfl, rfl⟩) Try.func10 (by kernel_rfl) (by kernel_rfl) rfl (Grow.Rw.stays _) (KC3.out _) ?_
  refine Grow.grow_move _ (Φ := Grow.Rw [[1, 2], [], [5]]) (.inr rfl) (.inl ⟨rfl, rfl⟩) rfl (Grow.Rw.stays _) ?_
  refine Grow.grow_move _ (Φ := Grow.Rw [[], []]) (.inr rfl) (.inl ⟨rfl, rfl⟩) rfl (Grow.Rw.stays _) ?_
  refine Grow.grow_move _ (Φ := Grow.Rw [[1]]) (.inr rfl) (.inl ⟨rfl, rfl⟩) rfl (Grow.Rw.stays _) ?_
  intro a1 w5 hg5 hs1 hd1 hu1 hk1
  have h3 : Grow.Rw [[1, 2], [], [5]] (a1.tmps.getD 3 undef) w5 := hk1 3
  have h4 : Grow.Rw [[], []] (a1.tmps.getD 4 undef) w5 := hk1 4
  have h5 : Grow.Rw [[1]] (a1.tmps.getD 5 undef) w5 := hk1 5
  obtain ⟨V, hV, hlay⟩ := Grow.lay_kept_by _ a1 96 _ hs1 hd1 hu1
  rw [hV] at h3 h4 h5
  clear hV hu1 hd1 hs1 hk1
  subst hlay
  simp only [List.range, List.range.loop, List.map_cons, List.map_nil, List.contains_cons, List.contains_nil, Nat.reduceBEq, Bool.or_false, Bool.or_true, cond_false, cond_true, Array.getD_eq_getD_getElem?, List.getElem?_toArray, List.getElem?_cons_zero, List.getElem?_cons_succ, Option.getD_some]
  replace HG := hide (HG.out.trans ((Gr.refl _).drew.trans hg5))
  have H3 := hide (Grow.Rw.stays _ _ _ _ h3 (Gr.refl w5).drew)
  have H4 := hide (Grow.Rw.stays _ _ _ _ h4 (Gr.refl w5).drew)
  have H5 := hide (Grow.Rw.stays _ _ _ _ h5 (Gr.refl w5).drew)
  clear hg5 h3 h4 h5 b1 b2
  generalize V 3 = v3 at H3 ⊢
  generalize V 4 = v4 at H4 ⊢
  generalize V 5 = v5 at H5 ⊢
  go_wp2_with fail
  refine Grow.wp_region_kept 96 [23, 24, 25, 26, 27, 28, 29, 30, 31, 32, 33, 34, 35, 36, 37, 38, 39, 40, 41, 42, 43, 44, 45, 46, 47, 48, 49, 50, 51, 52, 53, 54, 55, 56, 57, 58, 59, 60, 61, 62, 63, 64, 65, 66, 67, 68, 69, 70, 71, 72, 73, 74, 75, 76, 77, 78, 79, 80, 81, 82, 83, 84, 85, 86, 87, 88, 89, 90, 91, 92, 93, 94, 95, 0] rfl (by kernel_rfl) (by kernel_rfl) (by kernel_rfl) (Grow.Ahead.more (Grow.Ahead.more (Grow.Ahead.more (Grow.Ahead.none_ _ _) 3 (Grow.Rw.stays [[1, 2], [], [5]]) H3.out) 4 (Grow.Rw.stays [[], []]) H4.out) 5 (Grow.Rw.stays [[1]]) H5.out) ?_
  refine Grow.grow_move _ (Φ := (Grow.Rw ([[1, 2], [], [5]]))) (.inl rfl) (.inl ⟨rfl, rfl⟩) rfl (Grow.Rw.stays _) ?_
  refine Grow.grow_len_k (Ψ := (Grow.Rw ([[1, 2], [], [5]]))) (n := 3) rfl (by kernel_rfl) (.inl ⟨rfl, rfl⟩) rfl Grow.Rw.is ?_
  refine Grow.grow_int (c := .bool true) rfl (.inl ⟨rfl, rfl⟩) rfl (fun _ => rfl) rfl ?_
  refine Grow.grow_mv (c := .bool true) (.inl rfl) (.inl ⟨rfl, rfl⟩) rfl ?_
  refine Grow.grow_move _ (Φ := (Grow.Rw ([[1, 2], [], [5]]))) (.inl rfl) (.inr ⟨3, true, 26, rfl, rfl, rfl, by decide⟩) rfl (Grow.Rw.stays _) ?_
  refine Grow.grow_at_rw (ls := [[1, 2], [], [5]]) 0 rfl rfl rfl (.inr ⟨3, true, 26, rfl, rfl, rfl, by decide⟩) rfl (fun _ => rfl) ?_
  refine Grow.grow_load_k (Ψ := Grow.Ii ([1, 2])) rfl (fun _ => by kernel_rfl) (.inr ⟨3, true, 26, rfl, rfl, rfl, by decide⟩) rfl (Grow.Ii.stays _) ?_
  refine Grow.grow_len_k (Ψ := (Grow.Ii ([1, 2]))) (n := 2) rfl (by kernel_rfl) (.inr ⟨3, true, 26, rfl, rfl, rfl, by decide⟩) rfl Grow.Ii.is ?_
  refine Grow.grow_int (c := .bool true) rfl (.inr ⟨3, true, 26, rfl, rfl, rfl, by decide⟩) rfl (fun _ => rfl) rfl ?_
  refine Grow.grow_pick_yes (Φ := (Grow.Is (.bool true))) rfl (.inl ⟨rfl, rfl⟩) rfl rfl (Grow.Is.stays _) ?_
  refine Grow.grow_mv (c := .bool true) (.inl rfl) (.inl ⟨rfl, rfl⟩) rfl ?_
  refine Grow.grow_move _ (Φ := (Grow.Rw ([[1, 2], [], [5]]))) (.inl rfl) (.inr ⟨10, true, 33, rfl, rfl, rfl, by decide⟩) rfl (Grow.Rw.stays _) ?_
  refine Grow.grow_at_rw (ls := [[1, 2], [], [5]]) 0 rfl rfl rfl (.inr ⟨10, true, 33, rfl, rfl, rfl, by decide⟩) rfl (fun _ => rfl) ?_
  refine Grow.grow_load_k (Ψ := Grow.Ii ([1, 2])) rfl (fun _ => by kernel_rfl) (.inr ⟨10, true, 33, rfl, rfl, rfl, by decide⟩) rfl (Grow.Ii.stays _) ?_
  refine Grow.grow_at_ii (l := [1, 2]) 1 rfl rfl rfl (.inr ⟨10, true, 33, rfl, rfl, rfl, by decide⟩) rfl (fun _ => rfl) ?_
  refine Grow.grow_load rfl (fun _ => by kernel_rfl) (.inr ⟨10, true, 33, rfl, rfl, rfl, by decide⟩) rfl ?_
  refine Grow.grow_int (c := .bool true) rfl (.inr ⟨10, true, 33, rfl, rfl, rfl, by decide⟩) rfl (fun _ => rfl) rfl ?_
  refine Grow.grow_pick_yes (Φ := (Grow.Is (.bool true))) rfl (.inl ⟨rfl, rfl⟩) rfl rfl (Grow.Is.stays _) ?_
  refine Grow.grow_mv (c := .bool true) (.inl rfl) (.inl ⟨rfl, rfl⟩) rfl ?_
  refine Grow.grow_move _ (Φ := (Grow.Rw ([[1, 2], [], [5]]))) (.inl rfl) (.inr ⟨18, true, 41, rfl, rfl, rfl, by decide⟩) rfl (Grow.Rw.stays _) ?_
  refine Grow.grow_at_rw (ls := [[1, 2], [], [5]]) 1 rfl rfl rfl (.inr ⟨18, true, 41, rfl, rfl, rfl, by decide⟩) rfl (fun _ => rfl) ?_
  refine Grow.grow_load_k (Ψ := Grow.Ii ([])) rfl (fun _ => by kernel_rfl) (.inr ⟨18, true, 41, rfl, rfl, rfl, by decide⟩) rfl (Grow.Ii.stays _) ?_
  refine Grow.grow_len_k (Ψ := (Grow.Ii ([]))) (n := 0) rfl (by kernel_rfl) (.inr ⟨18, true, 41, rfl, rfl, rfl, by decide⟩) rfl Grow.Ii.is ?_
  refine Grow.grow_int (c := .bool true) rfl (.inr ⟨18, true, 41, rfl, rfl, rfl, by decide⟩) rfl (fun _ => rfl) rfl ?_
  refine Grow.grow_pick_yes (Φ := (Grow.Is (.bool true))) rfl (.inl ⟨rfl, rfl⟩) rfl rfl (Grow.Is.stays _) ?_
  refine Grow.grow_mv (c := .bool true) (.inl rfl) (.inl ⟨rfl, rfl⟩) rfl ?_
  refine Grow.grow_move _ (Φ := (Grow.Rw ([[1, 2], [], [5]]))) (.inl rfl) (.inr ⟨25, true, 48, rfl, rfl, rfl, by decide⟩) rfl (Grow.Rw.stays _) ?_
  refine Grow.grow_at_rw (ls := [[1, 2], [], [5]]) 2 rfl rfl rfl (.inr ⟨25, true, 48, rfl, rfl, rfl, by decide⟩) rfl (fun _ => rfl) ?_
  refine Grow.grow_load_k (Ψ := Grow.Ii ([5])) rfl (fun _ => by kernel_rfl) (.inr ⟨25, true, 48, rfl, rfl, rfl, by decide⟩) rfl (Grow.Ii.stays _) ?_
  refine Grow.grow_len_k (Ψ := (Grow.Ii ([5]))) (n := 1) rfl (by kernel_rfl) (.inr ⟨25, true, 48, rfl, rfl, rfl, by decide⟩) rfl Grow.Ii.is ?_
  refine Grow.grow_int (c := .bool true) rfl (.inr ⟨25, true, 48, rfl, rfl, rfl, by decide⟩) rfl (fun _ => rfl) rfl ?_
  refine Grow.grow_pick_yes (Φ := (Grow.Is (.bool true))) rfl (.inl ⟨rfl, rfl⟩) rfl rfl (Grow.Is.stays _) ?_
  refine Grow.grow_mv (c := .bool true) (.inl rfl) (.inl ⟨rfl, rfl⟩) rfl ?_
  refine Grow.grow_move _ (Φ := (Grow.Rw ([[1, 2], [], [5]]))) (.inl rfl) (.inr ⟨32, true, 55, rfl, rfl, rfl, by decide⟩) rfl (Grow.Rw.stays _) ?_
  refine Grow.grow_at_rw (ls := [[1, 2], [], [5]]) 2 rfl rfl rfl (.inr ⟨32, true, 55, rfl, rfl, rfl, by decide⟩) rfl (fun _ => rfl) ?_
  refine Grow.grow_load_k (Ψ := Grow.Ii ([5])) rfl (fun _ => by kernel_rfl) (.inr ⟨32, true, 55, rfl, rfl, rfl, by decide⟩) rfl (Grow.Ii.stays _) ?_
  refine Grow.grow_at_ii (l := [5]) 0 rfl rfl rfl (.inr ⟨32, true, 55, rfl, rfl, rfl, by decide⟩) rfl (fun _ => rfl) ?_
  refine Grow.grow_load rfl (fun _ => by kernel_rfl) (.inr ⟨32, true, 55, rfl, rfl, rfl, by decide⟩) rfl ?_
  refine Grow.grow_int (c := .bool true) rfl (.inr ⟨32, true, 55, rfl, rfl, rfl, by decide⟩) rfl (fun _ => rfl) rfl ?_
  refine Grow.grow_pick_yes (Φ := (Grow.Is (.bool true))) rfl (.inl ⟨rfl, rfl⟩) rfl rfl (Grow.Is.stays _) ?_
  refine Grow.grow_mv (c := .bool true) (.inl rfl) (.inl ⟨rfl, rfl⟩) rfl ?_
  refine Grow.grow_move _ (Φ := (Grow.Rw ([[], []]))) (.inl rfl) (.inr ⟨40, true, 63, rfl, rfl, rfl, by decide⟩) rfl (Grow.Rw.stays _) ?_
  refine Grow.grow_len_k (Ψ := (Grow.Rw ([[], []]))) (n := 2) rfl (by kernel_rfl) (.inr ⟨40, true, 63, rfl, rfl, rfl, by decide⟩) rfl Grow.Rw.is ?_
  refine Grow.grow_int (c := .bool true) rfl (.inr ⟨40, true, 63, rfl, rfl, rfl, by decide⟩) rfl (fun _ => rfl) rfl ?_
  refine Grow.grow_pick_yes (Φ := (Grow.Is (.bool true))) rfl (.inl ⟨rfl, rfl⟩) rfl rfl (Grow.Is.stays _) ?_
  refine Grow.grow_mv (c := .bool true) (.inl rfl) (.inl ⟨rfl, rfl⟩) rfl ?_
  refine Grow.grow_move _ (Φ := (Grow.Rw ([[], []]))) (.inl rfl) (.inr ⟨45, true, 68, rfl, rfl, rfl, by decide⟩) rfl (Grow.Rw.stays _) ?_
  refine Grow.grow_at_rw (ls := [[], []]) 0 rfl rfl rfl (.inr ⟨45, true, 68, rfl, rfl, rfl, by decide⟩) rfl (fun _ => rfl) ?_
  refine Grow.grow_load_k (Ψ := Grow.Ii ([])) rfl (fun _ => by kernel_rfl) (.inr ⟨45, true, 68, rfl, rfl, rfl, by decide⟩) rfl (Grow.Ii.stays _) ?_
  refine Grow.grow_len_k (Ψ := (Grow.Ii ([]))) (n := 0) rfl (by kernel_rfl) (.inr ⟨45, true, 68, rfl, rfl, rfl, by decide⟩) rfl Grow.Ii.is ?_
  refine Grow.grow_move _ (Φ := (Grow.Rw ([[], []]))) (.inl rfl) (.inr ⟨45, true, 68, rfl, rfl, rfl, by decide⟩) rfl (Grow.Rw.stays _) ?_
  refine Grow.grow_at_rw (ls := [[], []]) 1 rfl rfl rfl (.inr ⟨45, true, 68, rfl, rfl, rfl, by decide⟩) rfl (fun _ => rfl) ?_
  refine Grow.grow_load_k (Ψ := Grow.Ii ([])) rfl (fun _ => by kernel_rfl) (.inr ⟨45, true, 68, rfl, rfl, rfl, by decide⟩) rfl (Grow.Ii.stays _) ?_
  refine Grow.grow_len_k (Ψ := (Grow.Ii ([]))) (n := 0) rfl (by kernel_rfl) (.inr ⟨45, true, 68, rfl, rfl, rfl, by decide⟩) rfl Grow.Ii.is ?_
  refine Grow.grow_int (c := .int .i64 0) rfl (.inr ⟨45, true, 68, rfl, rfl, rfl, by decide⟩) rfl rfl rfl ?_
  refine Grow.grow_int (c := .bool true) rfl (.inr ⟨45, true, 68, rfl, rfl, rfl, by decide⟩) rfl (fun _ => rfl) rfl ?_
  refine Grow.grow_pick_yes (Φ := (Grow.Is (.bool true))) rfl (.inl ⟨rfl, rfl⟩) rfl rfl (Grow.Is.stays _) ?_
  refine Grow.grow_mv (c := .bool true) (.inl rfl) (.inl ⟨rfl, rfl⟩) rfl ?_
  refine Grow.grow_move _ (Φ := (Grow.Rw ([[1]]))) (.inl rfl) (.inr ⟨57, true, 80, rfl, rfl, rfl, by decide⟩) rfl (Grow.Rw.stays _) ?_
  refine Grow.grow_len_k (Ψ := (Grow.Rw ([[1]]))) (n := 1) rfl (by kernel_rfl) (.inr ⟨57, true, 80, rfl, rfl, rfl, by decide⟩) rfl Grow.Rw.is ?_
  refine Grow.grow_int (c := .bool true) rfl (.inr ⟨57, true, 80, rfl, rfl, rfl, by decide⟩) rfl (fun _ => rfl) rfl ?_
  refine Grow.grow_pick_yes (Φ := (Grow.Is (.bool true))) rfl (.inl ⟨rfl, rfl⟩) rfl rfl (Grow.Is.stays _) ?_
  refine Grow.grow_mv (c := .bool true) (.inl rfl) (.inl ⟨rfl, rfl⟩) rfl ?_
  refine Grow.grow_move _ (Φ := (Grow.Rw ([[1]]))) (.inl rfl) (.inr ⟨62, true, 85, rfl, rfl, rfl, by decide⟩) rfl (Grow.Rw.stays _) ?_
  refine Grow.grow_at_rw (ls := [[1]]) 0 rfl rfl rfl (.inr ⟨62, true, 85, rfl, rfl, rfl, by decide⟩) rfl (fun _ => rfl) ?_
  refine Grow.grow_load_k (Ψ := Grow.Ii ([1])) rfl (fun _ => by kernel_rfl) (.inr ⟨62, true, 85, rfl, rfl, rfl, by decide⟩) rfl (Grow.Ii.stays _) ?_
  refine Grow.grow_len_k (Ψ := (Grow.Ii ([1]))) (n := 1) rfl (by kernel_rfl) (.inr ⟨62, true, 85, rfl, rfl, rfl, by decide⟩) rfl Grow.Ii.is ?_
  refine Grow.grow_int (c := .bool true) rfl (.inr ⟨62, true, 85, rfl, rfl, rfl, by decide⟩) rfl (fun _ => rfl) rfl ?_
  refine Grow.grow_pick_yes (Φ := (Grow.Is (.bool true))) rfl (.inl ⟨rfl, rfl⟩) rfl rfl (Grow.Is.stays _) ?_
  refine Grow.grow_mv (c := .bool true) (.inl rfl) (.inl ⟨rfl, rfl⟩) rfl ?_
  refine Grow.grow_call1 (Φ := (Grow.Is (.int .i64 0))) rfl (.inr ⟨69, true, 92, rfl, rfl, rfl, by decide⟩) Try.func12 (by kernel_rfl) (by kernel_rfl) Grow.En.nil (Grow.Is.stays _) (KS0.out _) ?_
  refine Grow.grow_int (c := .bool true) rfl (.inr ⟨69, true, 92, rfl, rfl, rfl, by decide⟩) rfl (fun _ => rfl) rfl ?_
  refine Grow.grow_pick_yes (Φ := (Grow.Is (.bool true))) rfl (.inl ⟨rfl, rfl⟩) rfl rfl (Grow.Is.stays _) ?_
  refine Grow.grow_mv (c := .bool true) (.inr rfl) (.inl ⟨rfl, rfl⟩) rfl ?_
  intro a2 w6 hg6 hs1 hd1 hu1 hk1
  have h0 : a2.tmps.getD 0 undef = .bool true := hk1 0
  obtain ⟨V2, hV, hlay⟩ := Grow.lay_kept_by _ a2 96 _ hs1 hd1 hu1
  rw [hV] at h0
  clear hV hu1 hd1 hs1 hk1
  subst hlay
  simp only [List.range, List.range.loop, List.map_cons, List.map_nil, List.contains_cons, List.contains_nil, Nat.reduceBEq, Bool.or_false, Bool.or_true, cond_false, cond_true, Array.getD_eq_getD_getElem?, List.getElem?_toArray, List.getElem?_cons_zero, List.getElem?_cons_succ, Option.getD_some, h0]
  clear h0
  have HG6 := hide (HG.out.trans ((Gr.refl _).drew.trans hg6))
  clear hg6
  go_wp2_with fail
  go_ret
  exact ⟨rfl, HG6.out⟩

end Go.Proofs.Ytiinidkofonidaa
