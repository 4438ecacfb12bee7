/-
  The document's Join, by its contract.
-/
import Derived.Test.YthgpeegnedocfaaUlMath
import Derived.Test.YthgpeegnedocfaaEntMine
import Derived.StillTailTactics
namespace Go.Proofs.Ythgpeegnedocfaa
open Go Go.RowKit TxnMath KeyMath MsgMath
set_option maxRecDepth 100000

/-- so far all that comes is there already -/
theorem ref_join_far {l m : List EntT} {i k : Nat} (hi : i ≤ l.length) (hk : k ≤ m.length) (hkl : i + k ≤ l.length) (h : ∀ j (h1 : j < (l.drop i).length) (h2 : j < m.length), j < k → sameTm (l.drop i)[j] m[j] = true)
    (hs : k = m.length ∨ i + k = l.length ∨ ∃ (h1 : k < (l.drop i).length) (h2 : k < m.length), sameTm (l.drop i)[k] m[k] = false) : joinL l i m = if k = m.length then l else l.take (i + k) ++ m.drop k := by
  have hf : frontL sameTm (l.drop i) m = k := front_is sameTm (l.drop i) m k h (by rw [List.length_drop]; omega) hk (by
    rcases hs with h | h | h
    · exact .inr (.inl h)
    · exact .inl (by rw [List.length_drop]; omega)
    · exact .inr (.inr h))
  unfold joinL
  rw [if_neg (by omega), Int.toNat_natCast, hf]

theorem ownEnt_empty (X : Nat → Prop) (w : World) {B : Nat} (hB : B ≤ w.heap.size) : OwnEnt X (w.alloc (.cells #[] 39)) B (.slice (some ⟨w.heap.size, 0, none⟩) 0 0) [] :=
  ⟨fun _ => (undef, undef), ownR_empty w _ 6 hB, fun j e hj => by simp at hj⟩
/-- what is there lies below the next block -/
theorem EntsX.below {w : World} {v : Value} {es : List EntT} (h : EntsX Any w v es) : EntsX (fun j => j < w.heap.size) w v es := h.move (Moves.same fun _ hj _ => hj)
/-- cut and put together -/
theorem ents_cut {w w' : World} {v : Value} {l m : List EntT} {f f' : Nat → Value × Value} {a b : Nat} (hg : Gr w w') (h1 : ∀ j e, l[j]? = some e → RowsX Any w e.t (f j)) (h2 : ∀ j e, m[j]? = some e → RowsX Any w e.t (f' j)) (ha : a ≤ l.length)
    (h : RowAt 6 w' v ((l.mapIdx fun j e => entC e (f j)).take a ++ (m.mapIdx fun j e => entC e (f' j)).drop b)) : EntsX Any w' v (l.take a ++ m.drop b) := by
  refine ⟨fun j => if j < a then f j else f' (b + (j - a)), ⟨?_, fun _ _ _ _ _ => trivial⟩, fun j e hj => ?_⟩
  · rw [mapIdx_take, mapIdx_drop, mapIdx_app, List.length_take, Nat.min_eq_left ha] at h
    have e2 : ((l.take a ++ m.drop b).mapIdx fun j y => if j < a then entC y (f j) else entC y (f' (b + (j - a)))) = (l.take a ++ m.drop b).mapIdx fun j e => entC e (if j < a then f j else f' (b + (j - a))) := by
      congr 1
      funext j y
      split <;> rfl
    rw [e2] at h
    exact h
  · rw [List.getElem?_append, List.length_take, Nat.min_eq_left ha] at hj
    split at hj
    · next h =>
      simp only [h, if_true]
      rw [List.getElem?_take, if_pos h] at hj
      exact (h1 j e hj).gr hg
    · next h =>
      simp only [h, if_false]
      rw [List.getElem?_drop] at hj
      exact (h2 _ e hj).gr hg
theorem lit_ents0 : ∀ w, (Instr.buildSlice 24 0 #[]).run Try.prog w = .ok (.slice (some ⟨w.heap.size, 0, none⟩) 0 0) (w.alloc (.cells #[] 39)) := fun w => by kernel_rfl
def RefJoinPost (l m : List EntT) (i : Int) (w : World) (e : Ending) (w' : World) : Prop := ∃ r, e = .returned r ∧ EntsX Any w' r (joinL l i m) ∧ Gr w w'

set_option maxHeartbeats 1000000 in
theorem RefJoin_ok (v u : Value) (l m : List EntT) (i : Int) (w : World) (hv : EntsX Any w v l) (hu : EntsX Any w u m) (hl : l.length ≤ 10000) (hm : m.length ≤ 10000) :
    Calls Try.prog 17 #[v, .int .i64 i, u] w (RefJoinPost l m i w) := by
  obtain ⟨i0, hi, hz0, hz1, hz2⟩ := info_parts info_ent
  have HV := hide hv
  have HU := hide hu
  obtain ⟨A, c, rfl⟩ := hv.is
  obtain ⟨B, d, rfl⟩ := hu.is
  clear hv hu
  go_enter Try.func17, Try.ntmps17
  go_wp2_with (at_builtin; refine pause ?_)
  refine hide ?_
  refine wpList_appEnt rfl _ (.tmp 11) rfl (X := fun j => j < w.heap.size) (B := w.heap.size) rfl (ownEnt_empty _ _ (Nat.le_refl _)) ((HV.out.below.gr ((Gr.refl w).alloc _)).wide fun j hj => ⟨hj, fun e => by injection e with e; simp only at e; omega⟩) ((Gr.refl w).alloc _).size rfl (by simp only [List.length_nil]; omega) ?_
  intro v1 w1 ho1 hp1
  rw [List.nil_append] at ho1
  have hg1 : Gr w w1 := own_more (w := w) ((Gr.refl w).alloc _) (ownEnt_empty (fun _ => True) w (Nat.le_refl _)) (Nat.le_refl _) (Gr.refl _) hp1
  have HO := hide ho1.entsX
  obtain ⟨A1, c1, rfl⟩ := ho1.is
  clear ho1 hp1
  by_cases h1 : i < 0
  · have HJ := hide (show joinL l i m = l by unfold joinL; rw [if_pos (.inl h1)])
    go_wp2_with fail
    go_ret
    exact ⟨_, rfl, by rw [HJ.out]; exact HO.out, hg1⟩
  by_cases h2 : (l.length : Int) < i
  · have HJ := hide (show joinL l i m = l by unfold joinL; rw [if_pos (.inr h2)])
    go_wp2_with fail
    go_ret
    exact ⟨_, rfl, by rw [HJ.out]; exact HO.out, hg1⟩
  obtain ⟨k, rfl⟩ : ∃ k : Nat, i = (k : Int) := ⟨i.toNat, by omega⟩
  have hk : k ≤ l.length := by omega
  go_wp2_with fail
  go_loopw [7, 8] (fun v i wr => ∃ j : Nat, v = .slice A1 l.length c1 ∧ i = .int .i64 j ∧ j ≤ m.length ∧ k + j ≤ l.length ∧ Hid (∀ x (h1 : x < (l.drop k).length) (h2 : x < m.length), x < j → sameTm (l.drop k)[x] m[x] = true) ∧ Gr w1 wr) (fun _ i _ => m.length - (intOf i).toNat)
  case atStart => exact ⟨0, rfl, rfl, by omega, by omega, fun _ _ _ hj => absurd hj (by omega), Gr.refl _⟩
  case round =>
    obtain ⟨j, rfl, rfl, hj, hkj, HS, hgr⟩ := hrel
    have HFAR := hide (fun hs => ref_join_far (l := l) (m := m) hk hj hkj HS.out hs)
    by_cases hlt : j < m.length
    · have hlt' : (j : Int) < (m.length : Int) := by omega
      have hw1 : IntKind.i64.wrap ((k : Int) + j) = (k : Int) + j := IntWalk.i64_in _ (by omega)
      have hto : ((k : Int) + j).toNat = k + j := by omega
      obtain ⟨bd, d', q, e2, _, b0, _⟩ := (HU.out.gr (hg1.trans hgr)).ent hlt
      simp only [Value.slice.injEq, true_and] at e2
      obtain ⟨rfl, rfl⟩ := e2
      by_cases hin : k + j < l.length
      · have hin' : (k : Int) + j < (l.length : Int) := by omega
        obtain ⟨ad, c', p, e1, _, a0, _⟩ := (HO.out.gr hgr).ent hin
        simp only [Value.slice.injEq, true_and] at e1
        obtain ⟨rfl, rfl⟩ := e1
        have hld : j < (l.drop k).length := by rw [List.length_drop]; omega
        have hst : sameTm (l.drop k)[j] m[j] = decide (l[k + j].term = m[j].term) := by unfold sameTm; rw [List.getElem_drop]
        by_cases ht : l[k + j].term = m[j].term
        · have HS2 := hide (show ∀ x (h1 : x < (l.drop k).length) (h2 : x < m.length), x < j + 1 → sameTm (l.drop k)[x] m[x] = true from fun x h1 h2 hx => by
            by_cases hxj : x < j
            · exact HS.out x h1 h2 hxj
            · obtain rfl : x = j := by omega
              rw [hst]; exact decide_eq_true ht)
          rw [ht] at a0
          generalize m[j].term = tm at a0 b0
          clear ht hst HS HFAR
          go_wp2_with fail
          go_quiet (fail)
          go_wp2_with fail
          go_roundw
          case rel => exact ⟨j + 1, rfl, by go_num, by omega, by omega, HS2, hgr.trans ((Gr.refl wr).drewN nq)⟩
          case measure => simp [intOf]; omega
        · have HJ := hide ((HFAR.out (.inr (.inr ⟨hld, hlt, by rw [hst]; exact decide_eq_false ht⟩))).trans (if_neg (by omega)))
          have htb : (l[k + j].term == m[j].term) = false := beq_no ht
          generalize m[j].term = tm at b0 htb ht
          generalize l[k + j].term = tl at a0 htb ht
          clear hst HS HFAR
          go_wp2_with fail
          go_quiet (fail)
          go_wp2_with fail
          obtain ⟨f, hf1, hf2⟩ := (HO.out.gr hgr).gr (Gr.refl _)
          obtain ⟨f', hf1', hf2'⟩ := HU.out.gr (hg1.trans hgr)
          have hgq : Gr wr (wr.drewN nq) := (Gr.refl wr).drewN nq
          have HX1 := hide (show Mine.SlR 6 (l.mapIdx fun j e => entC e (f j)) (.slice (some ad) l.length c1) (wr.drewN nq).drew none from ⟨(hf1.1.gr hgq).gr ((Gr.refl _).drewN 1), fun r hr => entC_pos _ _ r hr, fun _ _ _ _ _ e => by cases e⟩)
          have HX2 := hide (show Mine.SlR 6 (m.mapIdx fun j e => entC e (f' j)) (.slice (some bd) m.length d) (wr.drewN nq).drew none from ⟨(hf1'.1.gr hgq).gr ((Gr.refl _).drewN 1), fun r hr => entC_pos _ _ r hr, fun _ _ _ _ _ e => by cases e⟩)
          have hone1 : ∀ q ∈ (l.mapIdx fun j e => entC e (f j)).take (k + j), ∀ y ∈ q, y.oneCell' = true := fun q hq => by
            obtain ⟨x, hx, rfl⟩ := List.mem_mapIdx.1 (List.mem_of_mem_take hq)
            exact entC_one (hf2 x _ (List.getElem?_eq_getElem hx))
          have hone2 : ∀ q ∈ (m.mapIdx fun j e => entC e (f' j)).drop j, ∀ y ∈ q, y.oneCell' = true := fun q hq => by
            obtain ⟨x, hx, rfl⟩ := List.mem_mapIdx.1 (List.mem_of_mem_drop hq)
            exact entC_one (hf2' x _ (List.getElem?_eq_getElem hx))
          have hl1 : ((l.mapIdx fun j e => entC e (f j)).take (k + j)).length = k + j := by rw [List.length_take, List.length_mapIdx]; omega
          have hl2 : ((m.mapIdx fun j e => entC e (f' j)).drop j).length ≤ 10000 := by rw [List.length_drop, List.length_mapIdx]; omega
          refine Mine.wp_region_mine_tail 9 59 [48, 49, 50, 51, 52, 53, 54, 55, 56, 7] rfl (by kernel_rfl) (by kernel_rfl) (by kernel_rfl) (by kernel_rfl) (ob0 := none)
            (Mine.Ahead.more (Mine.Ahead.more (Mine.Ahead.more (Mine.Ahead.more (Mine.Ahead.none_ _ _ _) 7 (Mine.SlR.stays 6 (l.mapIdx fun j e => entC e (f j))) HX1.out) 9 (Mine.Is.stays (.int .i64 ((k + j : Nat) : Int))) rfl) 2 (Mine.SlR.stays 6 (m.mapIdx fun j e => entC e (f' j))) HX2.out) 8 (Mine.Is.stays (.int .i64 (j : Int))) rfl)
            59 (C0 := fun _ _ o => o = none) (fun _ _ _ _ h _ => h) (fun j hj => by cases hj) rfl ?_
          refine Mine.chain_lit0R 6 rfl rfl rfl (by decide) lit_ents0 ?_
          refine Mine.move (.tmp 7) (.inl rfl) rfl (by decide) rfl (Mine.SlR.stays _ _) ?_
          refine Mine.move (.tmp 9) (.inl rfl) rfl (by decide) rfl (Mine.Is.stays _) ?_
          refine Mine.cutR (k := 6) (j := k + j) (qs := l.mapIdx fun j e => entC e (f j)) rfl rfl (by decide) rfl rfl (by rw [List.length_mapIdx]; omega) Try.underlying24 size_ents ?_
          refine Mine.chain_appR (qs := (l.mapIdx fun j e => entC e (f j)).take (k + j)) rfl rfl rfl Try.underlying24 hi hz0 hz1 hz2 rfl (by decide) rfl (fun q hq => entC_all6 _ _ q (List.mem_of_mem_take hq)) hone1 (by rw [hl1]; simp only [List.length_nil]; unfold maxLen; omega) (by rw [hl1]; simp only [List.length_nil]; omega) (Nat.le_refl _) ?_
          refine Mine.move (.tmp 2) (.inl rfl) rfl (by decide) rfl (Mine.SlR.stays _ _) ?_
          refine Mine.move (.tmp 8) (.inl rfl) rfl (by decide) rfl (Mine.Is.stays _) ?_
          refine Mine.dropR (k := 6) (j := j) (qs := m.mapIdx fun j e => entC e (f' j)) rfl rfl (by decide) rfl rfl (by rw [List.length_mapIdx]; omega) Try.underlying24 size_ents ?_
          refine Mine.chain_appR (qs := (m.mapIdx fun j e => entC e (f' j)).drop j) rfl rfl rfl Try.underlying24 hi hz0 hz1 hz2 rfl (by decide) rfl (fun q hq => entC_all6 _ _ q (List.mem_of_mem_drop hq)) hone2 (by rw [List.length_append, hl1]; simp only [List.length_nil]; unfold maxLen; omega) (by rw [List.length_append, hl1]; simp only [List.length_nil]; omega) (Nat.le_refl _) ?_
          intro a1 wz ob hr1 hwf1 hsz1 hdf1 hun1 _ hat1
          obtain ⟨hown, _⟩ := hat1
          rw [List.nil_append] at hown
          have hgz : Gr (wr.drewN nq).drew wz := ⟨hr1.gb.os, hr1.gb.tape, hr1.gb.output, hr1.gb.size, fun k hk => hr1.gb.block k hk (by simp)⟩
          have hgz2 : Gr wr wz := (hgq.trans ((Gr.refl _).drewN 1)).trans hgz
          have HRES := hide (ents_cut hgz2 hf2 hf2' (by omega) hown.rowAt)
          obtain ⟨zA, zc, hz, _⟩ := hown.is
          obtain ⟨X, hX, hlay⟩ := Grow.lay_kept_by _ a1 59 _ hsz1 hdf1 hun1
          rw [hX] at hz HRES
          generalize hzm : List.length _ = zm at hz
          clear hX hun1 hdf1 hsz1 hr1 hwf1 hown hzm
          subst hlay
          rw [hz] at HRES
          simp only [List.range, List.range.loop, List.map_cons, List.map_nil, List.contains_cons, List.contains_nil, Nat.reduceBEq, Bool.or_false, Bool.or_true, cond_false, cond_true, Array.getD_eq_getD_getElem?, List.getElem?_toArray, List.getElem?_cons_zero, List.getElem?_cons_succ, Option.getD_some, hz, List.drop_succ_cons, List.drop_zero]
          clear hz
          go_wp2_with fail
          go_ret
          exact ⟨_, rfl, by rw [HJ.out]; exact HRES.out, (hg1.trans hgr).trans hgz2⟩
      · have hend : k + j = l.length := by omega
        have hin' : ¬ (k : Int) + j < (l.length : Int) := by omega
        have HJ := hide ((HFAR.out (.inr (.inl hend))).trans (if_neg (by omega)))
        clear HS HFAR
        have hdn : decide ((k : Int) + j < (l.length : Int)) = false := decide_eq_false hin'
        clear hend
        go_wp2_with fail
        go_quiet (fail)
        go_wp2_with fail
        obtain ⟨f, hf1, hf2⟩ := (HO.out.gr hgr).gr (Gr.refl _)
        obtain ⟨f', hf1', hf2'⟩ := HU.out.gr (hg1.trans hgr)
        have hgq : Gr wr (wr.drewN nq) := (Gr.refl wr).drewN nq
        have HX1 := hide (show Mine.SlR 6 (l.mapIdx fun j e => entC e (f j)) (.slice A1 l.length c1) (wr.drewN nq).drew none from ⟨(hf1.1.gr hgq).gr ((Gr.refl _).drewN 1), fun r hr => entC_pos _ _ r hr, fun _ _ _ _ _ e => by cases e⟩)
        have HX2 := hide (show Mine.SlR 6 (m.mapIdx fun j e => entC e (f' j)) (.slice (some bd) m.length d) (wr.drewN nq).drew none from ⟨(hf1'.1.gr hgq).gr ((Gr.refl _).drewN 1), fun r hr => entC_pos _ _ r hr, fun _ _ _ _ _ e => by cases e⟩)
        have hone1 : ∀ q ∈ (l.mapIdx fun j e => entC e (f j)).take (k + j), ∀ y ∈ q, y.oneCell' = true := fun q hq => by
          obtain ⟨x, hx, rfl⟩ := List.mem_mapIdx.1 (List.mem_of_mem_take hq)
          exact entC_one (hf2 x _ (List.getElem?_eq_getElem hx))
        have hone2 : ∀ q ∈ (m.mapIdx fun j e => entC e (f' j)).drop j, ∀ y ∈ q, y.oneCell' = true := fun q hq => by
          obtain ⟨x, hx, rfl⟩ := List.mem_mapIdx.1 (List.mem_of_mem_drop hq)
          exact entC_one (hf2' x _ (List.getElem?_eq_getElem hx))
        have hl1 : ((l.mapIdx fun j e => entC e (f j)).take (k + j)).length = k + j := by rw [List.length_take, List.length_mapIdx]; omega
        have hl2 : ((m.mapIdx fun j e => entC e (f' j)).drop j).length ≤ 10000 := by rw [List.length_drop, List.length_mapIdx]; omega
        refine Mine.wp_region_mine_tail 9 59 [48, 49, 50, 51, 52, 53, 54, 55, 56, 7] rfl (by kernel_rfl) (by kernel_rfl) (by kernel_rfl) (by kernel_rfl) (ob0 := none)
          (Mine.Ahead.more (Mine.Ahead.more (Mine.Ahead.more (Mine.Ahead.more (Mine.Ahead.none_ _ _ _) 7 (Mine.SlR.stays 6 (l.mapIdx fun j e => entC e (f j))) HX1.out) 9 (Mine.Is.stays (.int .i64 ((k + j : Nat) : Int))) rfl) 2 (Mine.SlR.stays 6 (m.mapIdx fun j e => entC e (f' j))) HX2.out) 8 (Mine.Is.stays (.int .i64 (j : Int))) rfl)
          59 (C0 := fun _ _ o => o = none) (fun _ _ _ _ h _ => h) (fun j hj => by cases hj) rfl ?_
        refine Mine.chain_lit0R 6 rfl rfl rfl (by decide) lit_ents0 ?_
        refine Mine.move (.tmp 7) (.inl rfl) rfl (by decide) rfl (Mine.SlR.stays _ _) ?_
        refine Mine.move (.tmp 9) (.inl rfl) rfl (by decide) rfl (Mine.Is.stays _) ?_
        refine Mine.cutR (k := 6) (j := k + j) (qs := l.mapIdx fun j e => entC e (f j)) rfl rfl (by decide) rfl rfl (by rw [List.length_mapIdx]; omega) Try.underlying24 size_ents ?_
        refine Mine.chain_appR (qs := (l.mapIdx fun j e => entC e (f j)).take (k + j)) rfl rfl rfl Try.underlying24 hi hz0 hz1 hz2 rfl (by decide) rfl (fun q hq => entC_all6 _ _ q (List.mem_of_mem_take hq)) hone1 (by rw [hl1]; simp only [List.length_nil]; unfold maxLen; omega) (by rw [hl1]; simp only [List.length_nil]; omega) (Nat.le_refl _) ?_
        refine Mine.move (.tmp 2) (.inl rfl) rfl (by decide) rfl (Mine.SlR.stays _ _) ?_
        refine Mine.move (.tmp 8) (.inl rfl) rfl (by decide) rfl (Mine.Is.stays _) ?_
        refine Mine.dropR (k := 6) (j := j) (qs := m.mapIdx fun j e => entC e (f' j)) rfl rfl (by decide) rfl rfl (by rw [List.length_mapIdx]; omega) Try.underlying24 size_ents ?_
        refine Mine.chain_appR (qs := (m.mapIdx fun j e => entC e (f' j)).drop j) rfl rfl rfl Try.underlying24 hi hz0 hz1 hz2 rfl (by decide) rfl (fun q hq => entC_all6 _ _ q (List.mem_of_mem_drop hq)) hone2 (by rw [List.length_append, hl1]; simp only [List.length_nil]; unfold maxLen; omega) (by rw [List.length_append, hl1]; simp only [List.length_nil]; omega) (Nat.le_refl _) ?_
        intro a1 wz ob hr1 hwf1 hsz1 hdf1 hun1 _ hat1
        obtain ⟨hown, _⟩ := hat1
        rw [List.nil_append] at hown
        have hgz : Gr (wr.drewN nq).drew wz := ⟨hr1.gb.os, hr1.gb.tape, hr1.gb.output, hr1.gb.size, fun k hk => hr1.gb.block k hk (by simp)⟩
        have hgz2 : Gr wr wz := (hgq.trans ((Gr.refl _).drewN 1)).trans hgz
        have HRES := hide (ents_cut hgz2 hf2 hf2' (by omega) hown.rowAt)
        obtain ⟨zA, zc, hz, _⟩ := hown.is
        obtain ⟨X, hX, hlay⟩ := Grow.lay_kept_by _ a1 59 _ hsz1 hdf1 hun1
        rw [hX] at hz HRES
        generalize hzm : List.length _ = zm at hz
        clear hX hun1 hdf1 hsz1 hr1 hwf1 hown hzm
        subst hlay
        rw [hz] at HRES
        simp only [List.range, List.range.loop, List.map_cons, List.map_nil, List.contains_cons, List.contains_nil, Nat.reduceBEq, Bool.or_false, Bool.or_true, cond_false, cond_true, Array.getD_eq_getD_getElem?, List.getElem?_toArray, List.getElem?_cons_zero, List.getElem?_cons_succ, Option.getD_some, hz, List.drop_succ_cons, List.drop_zero]
        clear hz
        go_wp2_with fail
        go_ret
        exact ⟨_, rfl, by rw [HJ.out]; exact HRES.out, (hg1.trans hgr).trans hgz2⟩
    · obtain rfl : j = m.length := by omega
      have HJ := hide ((HFAR.out (.inl rfl)).trans (if_pos rfl))
      go_wp2_with fail
      go_ret
      exact ⟨_, rfl, by rw [HJ.out]; exact HO.out.gr hgr, hg1.trans hgr⟩

end Go.Proofs.Ythgpeegnedocfaa
