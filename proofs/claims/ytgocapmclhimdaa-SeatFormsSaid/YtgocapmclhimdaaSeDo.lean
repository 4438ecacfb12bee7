/-
  seat's Turn by its contract.
-/
import Derived.Test.YtgocapmclhimdaaSeInsert
import Derived.Test.YtgocapmclhimdaaSeFns
namespace Go.Proofs.Ytgocapmclhimdaa
open Go Go.RowKit SeMath
set_option maxRecDepth 100000

def TurnPost (x : SeT) (l : List SeT) (w : World) (e : Ending) (w' : World) : Prop := ∃ u, e = .returned (.tuple #[u, .bool (turnB x l)]) ∧ SeO w' w.heap.size u (turnL x l) ∧ Gr w w'

theorem agg_se : ∀ w, (isAgg 30).run Try.prog w = .ok true w := fun w => by kernel_rfl
theorem size_seE : ∀ w, (sizeOf (Try.prog.elem 24)).run Try.prog w = .ok 3 w := fun w => by kernel_rfl

set_option maxHeartbeats 2000000 in
theorem Turn_ok (v : Value) (l : List SeT) (x : SeT) (w : World) (hv : SeX w v l) (hl : l.length ≤ 1000000) (hr : Rise l) :
    Calls Try.prog 7 #[v, .int .i64 x.ses, .int .i64 x.seq, .int .i64 x.pos] w (TurnPost x l w) := by
  obtain ⟨i0, hi0, hz0, hz1, hz2⟩ := info_se
  have HV := hide hv
  obtain ⟨xs, xq, xp⟩ := x
  have HOW := hide (turn_own ⟨xs, xq, xp⟩ hr)
  have HNO := hide (turn_none ⟨xs, xq, xp⟩ hr)
  have hle := firstI_le (ownB xs) l
  have hla := firstI_le (aheadB xs) l
  simp only at HOW HNO
  obtain ⟨i, hi⟩ : ∃ i, firstI (ownB xs) l = i := ⟨_, rfl⟩
  obtain ⟨j, hj⟩ : ∃ j, firstI (aheadB xs) l = j := ⟨_, rfl⟩
  have HFO := hide (fun v w h => firstOwn_ok ⟨xs, xq, xp⟩ v l w h (by omega))
  have HFA := hide (fun v w h => firstAhead_ok ⟨xs, xq, xp⟩ v l w h (by omega))
  have HLA := hide (fun s w => later_ok ⟨xs, xq, xp⟩ s w)
  simp only [seA, hi, hj] at HFO HFA HLA
  rw [hi] at hle
  rw [hj] at hla HNO
  have HI := hide hi
  obtain ⟨A, c, rfl, _⟩ := hv.is
  clear hv hi hj hr
  go_enter Try.func7, Try.ntmps7
  go_wp2_with (at_builtin; refine pause ?_)
  refine hide ?_
  refine wpList_appSe rfl _ (.tmp 12) rfl (w0 := w) (v := .slice none 0 0) (ls := []) (qs := l) rfl (SeO.none_ _ _) (Gr.refl _) rfl HV.out (by simp; omega) ?_
  intro v1 w1 h1 h2
  rw [List.nil_append] at h1
  have HO := hide h1
  have HG := hide h2
  obtain ⟨A1, c1, rfl, _⟩ := h1.x.is
  clear h1 h2 HV
  go_upto_region 3 with (fail)
  obtain ⟨W1, hW1⟩ : ∃ W1, w1.alloc (.cells #[.int .i64 xs, .int .i64 xq, .int .i64 xp] 36) = W1 := ⟨_, rfl⟩
  have hg1 : Gr w1 W1 := by rw [← hW1]; exact (Gr.refl _).alloc _
  have hb1 : Bl W1 w1.heap.size 36 #[.int .i64 xs, .int .i64 xq, .int .i64 xp] := by rw [← hW1]; exact Bl.new _ _ _
  rw [hW1]
  have HO1 := hide (HO.out.gr hg1)
  have HG1 := hide (HG.out.trans hg1)
  have HB1 := hide hb1
  have hlt1 := hb1.lt
  have k0 : W1.cell? ⟨w1.heap.size, 0, none⟩ = some (.int .i64 xs) := hb1.cell 0
  have k1 : W1.cell? ⟨w1.heap.size, 1, none⟩ = some (.int .i64 xq) := hb1.cell 1
  have k2 : W1.cell? ⟨w1.heap.size, 2, none⟩ = some (.int .i64 xp) := hb1.cell 2
  have hww := HG.out.size
  have hown1 : ∀ k, (Value.slice A1 l.length c1).ownBlock = some k → k < w1.heap.size := fun k hk => (HO.out.lt k hk).2
  obtain ⟨b1, hb1e⟩ : ∃ b1, w1.heap.size = b1 := ⟨_, rfl⟩
  rw [hb1e] at HB1 hlt1 k0 k1 k2 hww hown1 ⊢
  clear hW1 hg1 hb1 HO HG hb1e
  go_wp2_with fail
  refine (HFO.out _ _ HO1.out.x).mono ?_
  rintro e w2 ⟨rfl, hg2⟩
  have HO2 := hide (HO1.out.gr hg2)
  have HG2 := hide (HG1.out.trans hg2)
  have HB2 := hide (HB1.out.gr hg2)
  have hlt2 := HB2.out.lt
  clear hg2 k0 k1 k2 HO1 HG1 HB1 HFO hlt1
  by_cases hlt : i < l.length
  · have hne : ¬ (i : Int) = (l.length : Int) := by omega
    have HT : Hid (turnB ⟨xs, xq, xp⟩ l = decide (l[i].seq < xq) ∧ turnL ⟨xs, xq, xp⟩ l = if l[i].seq < xq then l.set i ⟨xs, xq, xp⟩ else l) := hide (by
      have h := HOW.out (by rw [HI.out]; exact hlt)
      simpa only [HI.out] using h)
    clear HOW HNO HI
    go_wp2_with fail
    refine Grow.wp_region_kept 47 [34, 35, 36, 37, 38, 39, 40] rfl (by kernel_rfl) (by kernel_rfl) (by kernel_rfl) (Grow.Ahead.more (Grow.Ahead.more (Grow.Ahead.more (Grow.Ahead.none_ _ _) 0 (Grow.Rr.stays 30 3 w.heap.size (l.map seC)) (by exact HO2.out.gr ((Gr.refl _).drewN 1))) 10 (Grow.Bx.stays b1 36 #[.int .i64 xs, .int .i64 xq, .int .i64 xp]) (by exact ⟨rfl, HB2.out.drewN 1⟩)) 11 (Grow.Is.stays (.int .i64 (i : Int))) (by rfl)) ?_
    refine Grow.grow_row rfl (.inl ⟨rfl, rfl⟩) rfl Try.underlying36 rfl (by kernel_rfl) ?_
    refine Grow.grow_move (.tmp 0) (.inl rfl) (.inl ⟨rfl, rfl⟩) rfl (Grow.Rr.stays _ _ _ _) ?_
    refine Grow.grow_move (.tmp 11) (.inl rfl) (.inl ⟨rfl, rfl⟩) rfl (Grow.Is.stays _) ?_
    refine Grow.grow_idx_r i rfl Try.underlying24 size_seE (.inl ⟨rfl, rfl⟩) rfl rfl rfl (cs := seC l[i]) (by rw [List.getElem?_map, List.getElem?_eq_getElem hlt]; rfl) ?_
    refine Grow.grow_load_r (cs := seC l[i]) rfl hi0 agg_se hz1.symm (.inl ⟨rfl, rfl⟩) rfl ?_
    refine Grow.grow_call2 (Φ := Grow.Is (.bool (decide (l[i].seq < xq)))) rfl (.inl ⟨rfl, rfl⟩) Try.func17 (by kernel_rfl) (by kernel_rfl) (Ψ := Grow.Is (.agg #[.int .i64 xs, .int .i64 xq, .int .i64 xp])) (Ψ' := Grow.Is (.agg (seC l[i]).toArray)) rfl rfl (Grow.Is.stays _) (fun v u W _ hv hu => by
      subst hv hu
      exact (HLA.out l[i] W).mono fun e w' ⟨he, hg⟩ => ⟨_, he, hg, rfl⟩) ?_
    refine Grow.grow_not rfl (.inl ⟨rfl, rfl⟩) rfl ?_
    intro a1 w3 hg3 hs1 hd1 hu1 hk1
    have h40 : a1.tmps.getD 40 undef = .bool (!decide (l[i].seq < xq)) := hk1 40
    obtain ⟨X, hX, hlay⟩ := Grow.lay_kept_by _ a1 47 _ hs1 hd1 hu1
    rw [hX] at h40
    clear hX hu1 hd1 hs1 hk1
    subst hlay
    simp only [List.range, List.range.loop, List.map_cons, List.map_nil, List.contains_cons, List.contains_nil, Nat.reduceBEq, Bool.or_false, Bool.or_true, cond_false, cond_true, Array.getD_eq_getD_getElem?, List.getElem?_toArray, List.getElem?_cons_zero, List.getElem?_cons_succ, Option.getD_some, h40]
    clear h40
    have hg3' : Gr w2 w3 := ((Gr.refl w2).drewN 1).trans hg3
    have HO3 := hide (HO2.out.gr hg3')
    have HG3 := hide (HG2.out.trans hg3')
    have HB3 := hide (HB2.out.gr hg3')
    clear hg3 hg3' HO2 HG2 HB2 HFA HLA
    by_cases hsq : l[i].seq < xq
    · rw [if_pos hsq, decide_eq_true hsq] at HT
      rw [decide_eq_true hsq]
      obtain ⟨g, d, e1, hBg, hgl, hcl, q0, q1, q2, qf⟩ := HO3.out.cells hlt
      simp only [Value.slice.injEq, true_and] at e1
      obtain ⟨rfl, rfl⟩ := e1
      have qf0 := qf (i * 3)
      have qf1 := qf (i * 3 + 1)
      have qf2 := qf (i * 3 + 2)
      have k0 : w3.cell? ⟨b1, 0, none⟩ = some (.int .i64 xs) := HB3.out.cell 0
      have k1 : w3.cell? ⟨b1, 1, none⟩ = some (.int .i64 xq) := HB3.out.cell 1
      have k2 : w3.cell? ⟨b1, 2, none⟩ = some (.int .i64 xp) := HB3.out.cell 2
      have hlt' : (i : Int) < (l.length : Int) := by omega
      have HST := hide (HO3.out.stored hlt ⟨xs, xq, xp⟩)
      clear qf hsq hne
      go_wp2_with fail
      go_ret2
      obtain ⟨s1, s2⟩ := HST.out
      refine ⟨_, by rw [HT.out.1]; rfl, ?_, ?_⟩
      · rw [HT.out.2]; exact s1
      · exact HG3.out.fresh_ s2 hBg
    · rw [if_neg hsq, decide_eq_false hsq] at HT
      rw [decide_eq_false hsq]
      clear hsq hne
      go_wp2_with fail
      go_ret2
      exact ⟨_, by rw [HT.out.1]; rfl, by rw [HT.out.2]; exact HO3.out, HG3.out⟩
  · obtain rfl : i = l.length := by omega
    have HT := hide (HNO.out HI.out)
    clear HOW HNO HI HLA hlt
    go_wp2_with fail
    refine Mine.wp_region_mine_tail 7 47 [26, 27, 28, 29, 30, 31, 32, 33, 8, 9] rfl (by kernel_rfl) (by kernel_rfl) (by kernel_rfl) (by kernel_rfl) (ob0 := none)
      (Mine.Ahead.more (Mine.Ahead.more (Mine.Ahead.none_ _ _ _) 0 (Mine.Sq.stays (.slice A1 l.length c1) l) (by exact ⟨rfl, (HO2.out.x.gr ((Gr.refl _).drewN 1)), fun r hr => by rw [seC_three l r hr]; decide, fun ad n c _ _ e => by cases e⟩)) 10 (Mine.Bx.stays b1 36 #[.int .i64 xs, .int .i64 xq, .int .i64 xp]) (by exact ⟨rfl, HB2.out.drewN 1, by simp⟩))
      47 (C0 := Mine.top) Mine.top_keeps (fun k hk => nomatch hk) trivial ?_
    refine Mine.move (.tmp 0) (.inl rfl) rfl (by decide) rfl (Mine.Sq.stays _ _) ?_
    refine Mine.move (.tmp 0) (.inl rfl) rfl (by decide) rfl (Mine.Sq.stays _ _) ?_
    refine Mine.load_box rfl rfl (by decide) rfl Try.underlying36 rfl (by kernel_rfl) ?_
    refine Mine.mkfn rfl rfl (by decide) rfl ?_
    refine Mine.callG2 (Ψ := Mine.Sq (.slice A1 l.length c1) l) (z := .int .i64 (j : Int)) rfl rfl (by decide) Try.func13 (by kernel_rfl) (by kernel_rfl) rfl rfl (fun v W ob h => by
      obtain ⟨rfl, h⟩ := h
      exact HFA.out _ W h.rd) ?_
    refine Mine.load_box rfl rfl (by decide) rfl Try.underlying36 rfl (by kernel_rfl) ?_
    refine Mine.lit1N (e := 30) (cs := [.int .i64 xs, .int .i64 xq, .int .i64 xp]) (B := w2.heap.size) (Nat.le_refl _) rfl rfl (by decide) rfl (fun W => by kernel_rfl) ?_
    intro a1 w3 ob hr hwf hsz hdf hun hk2 hat
    have h26 : Mine.Sq (.slice A1 l.length c1) l (a1.tmps.getD 26 undef) w3 ob := hk2 26
    have h30 : a1.tmps.getD 30 undef = .int .i64 (j : Int) := hk2 30
    have h32 : Mine.NrB w2.heap.size 30 [.int .i64 xs, .int .i64 xq, .int .i64 xp] (a1.tmps.getD 32 undef) w3 ob := hk2 32
    obtain ⟨X, hX, hlay⟩ := Grow.lay_kept_by _ a1 47 _ hsz hdf hun
    rw [hX] at h26 h30 h32
    clear hX hun hdf hsz hk2 hwf hat
    obtain ⟨h26, _⟩ := h26
    obtain ⟨vb, h32, hvb, hbv, _⟩ := h32
    subst hlay
    simp only [List.range, List.range.loop, List.map_cons, List.map_nil, List.contains_cons, List.contains_nil, Nat.reduceBEq, Bool.or_false, Bool.or_true, cond_false, cond_true, Array.getD_eq_getD_getElem?, List.getElem?_toArray, List.getElem?_cons_zero, List.getElem?_cons_succ, Option.getD_some, h26, h30, h32, List.drop_succ_cons, List.drop_zero]
    have hg3 : Gr w2 w3 := (Gr.drew (Gr.refl w2)).trans (rs_grew hr)
    have HO3 := hide (HO2.out.gr hg3)
    have HG3 := hide (HG2.out.trans hg3)
    have HIN := hide (Insert_ok w.heap.size j vb _ l ⟨xs, xq, xp⟩ w3 hla hl HO3.out hbv (fun e => by have := hown1 _ e; omega) HG3.out.size)
    clear h26 h30 h32 hr hbv hg3 HO2 HG2 HB2 HFA
    go_wp2_with fail
    refine HIN.out.mono ?_
    rintro e w4 ⟨u, rfl, ho4, hp4⟩
    have HE := hide (show TurnPost ⟨xs, xq, xp⟩ l w (.returned (.tuple #[u, .bool true])) w4 from ⟨u, by rw [HT.out.2], by rw [← HT.out.1]; exact ho4, hp4.below HO3.out HG3.out⟩)
    obtain ⟨A4, c4, hu4, _⟩ := ho4.x.is
    generalize (l.take j ++ (⟨xs, xq, xp⟩ : SeT) :: l.drop j).length = q at hu4
    subst hu4
    clear ho4 hp4
    go_wp2_with fail
    go_ret2
    exact HE.out

end Go.Proofs.Ytgocapmclhimdaa
