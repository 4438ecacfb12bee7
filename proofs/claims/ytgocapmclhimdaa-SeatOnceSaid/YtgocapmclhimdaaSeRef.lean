/-
  The document's Turn by its contract.
-/
import Derived.Test.YtgocapmclhimdaaSeDo
namespace Go.Proofs.Ytgocapmclhimdaa
open Go Go.RowKit SeMath
set_option maxRecDepth 100000

theorem exec_seat {ev : Operand → Value} {o : Oper} {x y z : Operand} {a b c : Int} (ho : o.op = .build 30 #[(0, x), (1, y), (2, z)]) (hx : ev x = .int .i64 a) (hy : ev y = .int .i64 b) (hz : ev z = .int .i64 c) (w : World) :
    (execOp ev o).run Try.prog w = .ok (.value (.agg #[.int .i64 a, .int .i64 b, .int .i64 c])) w := by
  have e : (Instr.build 30 #[(0, .int .i64 a), (1, .int .i64 b), (2, .int .i64 c)]).run Try.prog w = .ok (.agg #[.int .i64 a, .int .i64 b, .int .i64 c]) w := by kernel_rfl
  unfold execOp
  simp only [ho, List.map_toArray, List.map_cons, List.map_nil, hx, hy, hz]
  rw [Sem.run_bind, e]
  rfl

/-- where the loop stands -/
theorem notB_at {x : Int} {l : List SeT} {k : Nat} (h : k < l.length) : firstI (notBelow x) (l.drop k) = if l[k].ses < x then firstI (notBelow x) (l.drop (k + 1)) + 1 else 0 := by
  rw [firstI_drop _ h]
  unfold notBelow
  by_cases h1 : l[k].ses < x <;> simp [h1]

set_option maxHeartbeats 2000000 in
theorem RefTurn_ok (v : Value) (l : List SeT) (x : SeT) (w : World) (hv : SeX w v l) (hl : l.length ≤ 1000000) :
    Calls Try.prog 8 #[v, .int .i64 x.ses, .int .i64 x.seq, .int .i64 x.pos] w (TurnPost x l w) := by
  obtain ⟨i0, hi0, hz0, hz1, hz2⟩ := info_se
  have HV := hide hv
  obtain ⟨xs, xq, xp⟩ := x
  have HRO := hide (fun h he => ref_own ⟨xs, xq, xp⟩ (l := l) h he)
  have HRN := hide (fun h => ref_none ⟨xs, xq, xp⟩ (l := l) h)
  simp only at HRO HRN
  obtain ⟨A, c, rfl, _⟩ := hv.is
  have hle := firstI_le (notBelow xs) l
  obtain ⟨i, hi⟩ : ∃ i, firstI (notBelow xs) l = i := ⟨_, rfl⟩
  rw [hi] at hle
  have HI := hide hi
  clear hv hi
  go_enter Try.func8, Try.ntmps8
  go_wp2_with (at_builtin; refine pause ?_)
  refine hide ?_
  refine wpList_appSe rfl _ (.tmp 13) rfl (w0 := w) (v := .slice (some ⟨w.heap.size, 0, none⟩) 0 0) (ls := []) (qs := l) rfl (ownR_empty w 30 3 (Nat.le_refl _)) ((Gr.refl _).alloc _) rfl (HV.out.gr ((Gr.refl _).alloc _)) (by simp; omega) ?_
  intro v1 w1 h1 h2
  rw [List.nil_append] at h1
  have HO := hide h1
  have HG := hide h2
  obtain ⟨A1, c1, rfl, _⟩ := h1.x.is
  clear h1 h2 HV
  go_wp2_with fail
  go_loopw [11] (fun i wr => ∃ k : Nat, i = .int .i64 k ∧ k ≤ l.length ∧ Hid (firstI (notBelow xs) l = k + firstI (notBelow xs) (l.drop k)) ∧ wr = w1) (fun i _ => l.length - (intOf i).toNat)
  case atStart => exact ⟨0, rfl, Nat.zero_le _, hide (by simp), rfl⟩
  case round =>
    obtain ⟨k, rfl, hk, HE, rfl⟩ := hrel
    by_cases hlt : k < l.length
    · have hlt' : (k : Int) < (l.length : Int) := by omega
      have HS := hide (notB_at (x := xs) hlt)
      by_cases hx : l[k].ses < xs
      · have HR := hide (show firstI (notBelow xs) l = (k + 1) + firstI (notBelow xs) (l.drop (k + 1)) by rw [HE.out, HS.out, if_pos hx]; omega)
        obtain ⟨ad, c', e1, a0, a1, a2⟩ := HO.out.x.at_ hlt
        simp only [Value.slice.injEq, true_and] at e1
        obtain ⟨rfl, rfl⟩ := e1
        generalize l[k] = y at a0 a1 a2 hx
        clear HS HE HI
        go_wp2_with fail
        go_roundw
        case rel => exact ⟨k + 1, by go_num, by omega, HR, trivial⟩
        case measure => simp [intOf]; omega
      · have HF := hide (show firstI (notBelow xs) l = k by rw [HE.out, HS.out, if_neg hx]; rfl)
        by_cases he : l[k].ses = xs
        · have HT : Hid (turnB ⟨xs, xq, xp⟩ l = decide (l[k].seq < xq) ∧ turnL ⟨xs, xq, xp⟩ l = if l[k].seq < xq then l.set k ⟨xs, xq, xp⟩ else l) := hide (by
            have h := HRO.out (by rw [HF.out]; exact hlt) (by simp only [HF.out]; exact he)
            simpa only [HF.out] using h)
          clear HRO HRN HE HS HI
          obtain ⟨g, d, e1, hBg, hgl, hcl, q0, q1, q2, qf⟩ := HO.out.cells hlt
          simp only [Value.slice.injEq, true_and] at e1
          obtain ⟨rfl, rfl⟩ := e1
          have qf0 := qf (k * 3)
          have qf1 := qf (k * 3 + 1)
          have qf2 := qf (k * 3 + 2)
          have HST := hide (HO.out.stored hlt ⟨xs, xq, xp⟩)
          clear qf
          by_cases hsq : l[k].seq < xq
          · rw [if_pos hsq, decide_eq_true hsq] at HT
            generalize l[k] = y at q0 q1 q2 hx he hsq
            obtain ⟨ys, yq, yp⟩ := y
            simp only at q0 q1 q2 hx he hsq
            have hsq' : ¬ xq ≤ yq := by omega
            subst he
            clear hx
            go_wp2_with fail
            go_ret2
            obtain ⟨s1, s2⟩ := HST.out
            refine ⟨_, by rw [HT.out.1]; rfl, ?_, ?_⟩
            · rw [HT.out.2]; exact s1
            · exact HG.out.fresh_ s2 hBg
          · rw [if_neg hsq, decide_eq_false hsq] at HT
            generalize l[k] = y at q0 q1 q2 hx he hsq
            obtain ⟨ys, yq, yp⟩ := y
            simp only at q0 q1 q2 hx he hsq
            have hsq' : xq ≤ yq := by omega
            subst he
            clear hx
            go_wp2_with fail
            go_ret2
            exact ⟨_, by rw [HT.out.1]; rfl, by rw [HT.out.2]; exact HO.out, HG.out⟩
        · have HT : Hid (l.take k ++ (⟨xs, xq, xp⟩ : SeT) :: l.drop k = turnL ⟨xs, xq, xp⟩ l ∧ turnB ⟨xs, xq, xp⟩ l = true) := hide (by
            have h := HRN.out (fun h => by simp only [HF.out]; exact he)
            rw [HF.out] at h
            exact h)
          clear HRO HRN HE HS HI
          obtain ⟨ad, c', e1, a0, a1, a2⟩ := HO.out.x.at_ hlt
          simp only [Value.slice.injEq, true_and] at e1
          obtain ⟨rfl, rfl⟩ := e1
          generalize l[k] = y at a0 a1 a2 hx he
          go_wp2_with fail
          refine Mine.wp_region_mine 74 [59, 60, 61, 62, 63, 64, 65, 66, 67, 68, 69, 70, 71, 72, 73, 8, 9] rfl (by kernel_rfl) (by kernel_rfl) (by kernel_rfl) (ob0 := none)
            (Mine.Ahead.more (Mine.Ahead.more (Mine.Ahead.more (Mine.Ahead.more (Mine.Ahead.more (Mine.Ahead.none_ _ _ _) 10 (Mine.SlR.stays 3 (l.map seC)) (by exact ⟨HO.out.x.gr ((Gr.refl _).drewN 1), fun r hr => by rw [seC_three l r hr]; decide, fun ad n c _ _ e => by cases e⟩)) 11 (Mine.Is.stays (.int .i64 (k : Int))) (by rfl)) 1 (Mine.Is.stays (.int .i64 xs)) (by rfl)) 2 (Mine.Is.stays (.int .i64 xq)) (by rfl)) 3 (Mine.Is.stays (.int .i64 xp)) (by rfl))
            74 (C0 := fun _ _ o => o = none) (fun _ _ _ _ h _ => h) (fun k hk => by cases hk) rfl ?_
          refine Mine.chain_lit0R (e := 30) 3 rfl rfl rfl (Nat.le_refl _) (fun W => by kernel_rfl) ?_
          refine Mine.move (.tmp 10) (.inl rfl) rfl (by decide) rfl (Mine.SlR.stays _ _) ?_
          refine Mine.move (.tmp 11) (.inl rfl) rfl (by decide) rfl (Mine.Is.stays _) ?_
          refine Mine.cutR (j := k) (qs := l.map seC) rfl rfl (by decide) rfl rfl (by rw [List.length_map]; omega) Try.underlying24 size_seE ?_
          refine Mine.chain_spreadR rfl rfl rfl Try.underlying24 hi0 hz0 hz1 hz2 rfl (by decide) rfl (fun q hq => seC_three l q (List.mem_of_mem_take hq)) (fun q hq => seC_one l q (List.mem_of_mem_take hq)) (by simp; (try unfold maxLen); omega) (by simp; omega) (Nat.le_refl _) ?_
          refine Mine.move (.tmp 1) (.inl rfl) rfl (by decide) rfl (Mine.Is.stays _) ?_
          refine Mine.move (.tmp 2) (.inl rfl) rfl (by decide) rfl (Mine.Is.stays _) ?_
          refine Mine.move (.tmp 3) (.inl rfl) rfl (by decide) rfl (Mine.Is.stays _) ?_
          refine Mine.run3 (x := .tmp 64) (y := .tmp 65) (z := .tmp 66) rfl (by decide) (by simp [Op.operands]) (by simp [Op.operands]) (by simp [Op.operands]) rfl rfl rfl (fun a W h1 h2 h3 => exec_seat rfl h1 h2 h3 W) ?_
          refine Mine.lit1R (e := 30) (cs := [.int .i64 xs, .int .i64 xq, .int .i64 xp]) rfl rfl (by decide) rfl (fun W => by kernel_rfl) ?_
          refine Mine.chain_appR rfl rfl rfl Try.underlying24 hi0 hz0 hz1 hz2 rfl (by decide) rfl rfl (fun u hu => ?_) (by simp; (try unfold maxLen); omega) (by simp; omega) (Nat.le_refl _) ?_
          · simp only [List.mem_cons, List.not_mem_nil, or_false] at hu
            rcases hu with rfl | rfl | rfl <;> rfl
          refine Mine.move (.tmp 10) (.inl rfl) rfl (by decide) rfl (Mine.SlR.stays _ _) ?_
          refine Mine.move (.tmp 11) (.inl rfl) rfl (by decide) rfl (Mine.Is.stays _) ?_
          refine Mine.dropR (j := k) (qs := l.map seC) rfl rfl (by decide) rfl rfl (by rw [List.length_map]; omega) Try.underlying24 size_seE ?_
          refine Mine.chain_spreadR rfl rfl rfl Try.underlying24 hi0 hz0 hz1 hz2 rfl (by decide) rfl (fun q hq => seC_three l q (List.mem_of_mem_drop hq)) (fun q hq => seC_one l q (List.mem_of_mem_drop hq)) (by simp; (try unfold maxLen); omega) (by simp; omega) (Nat.le_refl _) ?_
          refine Mine.chain_moveR (.inr rfl) rfl rfl ?_
          refine Mine.move (.const (.bool true)) (.inr rfl) rfl (by decide) (fun _ _ => rfl) (Mine.Is.stays (.bool true)) ?_
          intro a2 w2 ob hr hsz hdf hun hk2 hat
          have hgr : Gr wr w2 := (Gr.drew (Gr.refl wr)).trans (rs_grew hr)
          have h9 : a2.tmps.getD 9 undef = .bool true := hk2 9
          have h8 : SeO w2 wr.heap.size (a2.tmps.getD 8 undef) (turnL ⟨xs, xq, xp⟩ l) := by
            rw [← HT.out.1]
            unfold SeO
            rw [List.map_append, List.map_cons, List.map_take, List.map_drop]
            have h := hat.1
            simp only [List.nil_append, List.append_assoc, List.singleton_append] at h
            exact h
          obtain ⟨X, hX, hlay⟩ := Grow.lay_kept_by _ a2 74 _ hsz hdf hun
          rw [hX] at h8 h9
          clear hX hun hdf hsz hat hr hk2
          have HE := hide (show TurnPost ⟨xs, xq, xp⟩ l w (.returned (.tuple #[X 8, .bool true])) w2 from ⟨_, by rw [HT.out.2], h8.base HG.out.size, HG.out.trans hgr⟩)
          obtain ⟨A4, c4, h5, _⟩ := h8.x.is
          clear h8 hgr
          generalize (turnL (⟨xs, xq, xp⟩ : SeT) l).length = q at h5
          rw [h5] at HE
          subst hlay
          simp only [List.range, List.range.loop, List.map_cons, List.map_nil, List.contains_cons, List.contains_nil, Nat.reduceBEq, Bool.or_false, Bool.or_true, cond_false, cond_true, Array.getD_eq_getD_getElem?, List.getElem?_toArray, List.getElem?_cons_zero, List.getElem?_cons_succ, Option.getD_some, h5, h9]
          clear h5 h9
          go_wp2_with fail
          go_ret2
          exact HE.out
    · obtain rfl : k = l.length := by omega
      have HF := hide (show firstI (notBelow xs) l = l.length by rw [HE.out, List.drop_length]; rfl)
      have HT : Hid (l.take l.length ++ (⟨xs, xq, xp⟩ : SeT) :: l.drop l.length = turnL ⟨xs, xq, xp⟩ l ∧ turnB ⟨xs, xq, xp⟩ l = true) := hide (by
        have h := HRN.out (fun h => by rw [HF.out] at h; omega)
        rw [HF.out] at h
        exact h)
      clear HRO HRN HE HI
      go_wp2_with fail
      refine Mine.wp_region_mine 74 [59, 60, 61, 62, 63, 64, 65, 66, 67, 68, 69, 70, 71, 72, 73, 8, 9] rfl (by kernel_rfl) (by kernel_rfl) (by kernel_rfl) (ob0 := none)
        (Mine.Ahead.more (Mine.Ahead.more (Mine.Ahead.more (Mine.Ahead.more (Mine.Ahead.more (Mine.Ahead.none_ _ _ _) 10 (Mine.SlR.stays 3 (l.map seC)) (by exact ⟨HO.out.x.gr ((Gr.refl _).drewN 1), fun r hr => by rw [seC_three l r hr]; decide, fun ad n c _ _ e => by cases e⟩)) 11 (Mine.Is.stays (.int .i64 (l.length : Int))) (by rfl)) 1 (Mine.Is.stays (.int .i64 xs)) (by rfl)) 2 (Mine.Is.stays (.int .i64 xq)) (by rfl)) 3 (Mine.Is.stays (.int .i64 xp)) (by rfl))
        74 (C0 := fun _ _ o => o = none) (fun _ _ _ _ h _ => h) (fun k hk => by cases hk) rfl ?_
      refine Mine.chain_lit0R (e := 30) 3 rfl rfl rfl (Nat.le_refl _) (fun W => by kernel_rfl) ?_
      refine Mine.move (.tmp 10) (.inl rfl) rfl (by decide) rfl (Mine.SlR.stays _ _) ?_
      refine Mine.move (.tmp 11) (.inl rfl) rfl (by decide) rfl (Mine.Is.stays _) ?_
      refine Mine.cutR (j := l.length) (qs := l.map seC) rfl rfl (by decide) rfl rfl (by rw [List.length_map]; exact Nat.le_refl _) Try.underlying24 size_seE ?_
      refine Mine.chain_spreadR rfl rfl rfl Try.underlying24 hi0 hz0 hz1 hz2 rfl (by decide) rfl (fun q hq => seC_three l q (List.mem_of_mem_take hq)) (fun q hq => seC_one l q (List.mem_of_mem_take hq)) (by simp; (try unfold maxLen); omega) (by simp; omega) (Nat.le_refl _) ?_
      refine Mine.move (.tmp 1) (.inl rfl) rfl (by decide) rfl (Mine.Is.stays _) ?_
      refine Mine.move (.tmp 2) (.inl rfl) rfl (by decide) rfl (Mine.Is.stays _) ?_
      refine Mine.move (.tmp 3) (.inl rfl) rfl (by decide) rfl (Mine.Is.stays _) ?_
      refine Mine.run3 (x := .tmp 64) (y := .tmp 65) (z := .tmp 66) rfl (by decide) (by simp [Op.operands]) (by simp [Op.operands]) (by simp [Op.operands]) rfl rfl rfl (fun a W h1 h2 h3 => exec_seat rfl h1 h2 h3 W) ?_
      refine Mine.lit1R (e := 30) (cs := [.int .i64 xs, .int .i64 xq, .int .i64 xp]) rfl rfl (by decide) rfl (fun W => by kernel_rfl) ?_
      refine Mine.chain_appR rfl rfl rfl Try.underlying24 hi0 hz0 hz1 hz2 rfl (by decide) rfl rfl (fun u hu => ?_) (by simp; (try unfold maxLen); omega) (by simp; omega) (Nat.le_refl _) ?_
      · simp only [List.mem_cons, List.not_mem_nil, or_false] at hu
        rcases hu with rfl | rfl | rfl <;> rfl
      refine Mine.move (.tmp 10) (.inl rfl) rfl (by decide) rfl (Mine.SlR.stays _ _) ?_
      refine Mine.move (.tmp 11) (.inl rfl) rfl (by decide) rfl (Mine.Is.stays _) ?_
      refine Mine.dropR (j := l.length) (qs := l.map seC) rfl rfl (by decide) rfl rfl (by rw [List.length_map]; exact Nat.le_refl _) Try.underlying24 size_seE ?_
      refine Mine.chain_spreadR rfl rfl rfl Try.underlying24 hi0 hz0 hz1 hz2 rfl (by decide) rfl (fun q hq => seC_three l q (List.mem_of_mem_drop hq)) (fun q hq => seC_one l q (List.mem_of_mem_drop hq)) (by simp; (try unfold maxLen); omega) (by simp; omega) (Nat.le_refl _) ?_
      refine Mine.chain_moveR (.inr rfl) rfl rfl ?_
      refine Mine.move (.const (.bool true)) (.inr rfl) rfl (by decide) (fun _ _ => rfl) (Mine.Is.stays (.bool true)) ?_
      intro a2 w2 ob hr hsz hdf hun hk2 hat
      have hgr : Gr wr w2 := (Gr.drew (Gr.refl wr)).trans (rs_grew hr)
      have h9 : a2.tmps.getD 9 undef = .bool true := hk2 9
      have h8 : SeO w2 wr.heap.size (a2.tmps.getD 8 undef) (turnL ⟨xs, xq, xp⟩ l) := by
        rw [← HT.out.1]
        unfold SeO
        rw [List.map_append, List.map_cons, List.map_take, List.map_drop]
        have h := hat.1
        simp only [List.nil_append, List.append_assoc, List.singleton_append] at h
        exact h
      obtain ⟨X, hX, hlay⟩ := Grow.lay_kept_by _ a2 74 _ hsz hdf hun
      rw [hX] at h8 h9
      clear hX hun hdf hsz hat hr hk2
      have HE := hide (show TurnPost ⟨xs, xq, xp⟩ l w (.returned (.tuple #[X 8, .bool true])) w2 from ⟨_, by rw [HT.out.2], h8.base HG.out.size, HG.out.trans hgr⟩)
      obtain ⟨A4, c4, h5, _⟩ := h8.x.is
      clear h8 hgr
      generalize (turnL (⟨xs, xq, xp⟩ : SeT) l).length = q at h5
      rw [h5] at HE
      subst hlay
      simp only [List.range, List.range.loop, List.map_cons, List.map_nil, List.contains_cons, List.contains_nil, Nat.reduceBEq, Bool.or_false, Bool.or_true, cond_false, cond_true, Array.getD_eq_getD_getElem?, List.getElem?_toArray, List.getElem?_cons_zero, List.getElem?_cons_succ, Option.getD_some, h5, h9]
      clear h5 h9
      go_wp2_with fail
      go_ret2
      exact HE.out

end Go.Proofs.Ytgocapmclhimdaa
