/-
  The document's Add, TrimChain, MayChain, by their contracts.
-/
import Derived.Test.YtbfbghfaeejicaaChRef
namespace Go.Proofs.Ytbfbghfaeejicaa
open Go Go.RowKit ChMath KeyMath
set_option maxRecDepth 100000

theorem agg_intC : ∀ w, (isAgg 3).run Try.prog w = .ok false w := fun w => by kernel_rfl
set_option maxHeartbeats 1000000 in
theorem RefAdd_ok (v : Value) (l : List VerT) (x : VerT) (w : World) (hv : VersX w v l) (hl : l.length ≤ 10000000) :
    Calls Try.prog 51 #[v, verA x] w (OwnPost (addL l x) w) := by
  obtain ⟨i0, hi0, hz0, hz1, hz2⟩ := info_ver
  have HV := hide hv
  obtain ⟨A, c, rfl, hc⟩ := hv.is
  clear hv
  obtain ⟨xp, xt, xb⟩ := x
  unfold verA
  have HLP := hide (fun W (h : VersX W (.slice A l.length c) l) => RefLast_ok _ l W h (by omega))
  obtain ⟨z, hz⟩ : ∃ z, lastP l = z := ⟨_, rfl⟩
  rw [hz] at HLP
  have HZ := hide hz
  clear hz
  go_enter Try.func51, Try.ntmps51
  go_wp2_with (at_builtin; refine pause ?_)
  refine hide ?_
  obtain ⟨W1, hW1⟩ : ∃ W1, w.alloc (.cells #[.int .i64 xp, .string xt, .bool xb] 51) = W1 := ⟨_, rfl⟩
  have hg1 : Gr w W1 := by rw [← hW1]; exact (Gr.refl _).alloc _
  have hb1 : Bl W1 w.heap.size 51 #[.int .i64 xp, .string xt, .bool xb] := by rw [← hW1]; exact Bl.new _ _ _
  rw [hW1]
  have hlt1 := hb1.lt
  have hs1 : W1.heap.size = w.heap.size + 1 := by rw [← hW1]; simp
  clear hW1
  refine wpList_appV rfl (.tmp 6) (.tmp 7) rfl (w0 := W1) (v := .slice (some ⟨w.heap.size + 1, 0, none⟩) 0 0) (ls := []) (qs := l) rfl (by rw [← hs1]; exact ownR_empty W1 _ _ (Nat.le_refl _)) ((Gr.refl _).alloc _) rfl (HV.out.gr (hg1.alloc _)) (by simp; omega) ?_
  intro v2 w2 h1 h2
  rw [List.nil_append] at h1
  have HO := hide h1
  have HG := hide (hg1.trans h2)
  have HB := hide (hb1.gr h2)
  have HS := hide hg1.size
  obtain ⟨A2, c2, rfl, _⟩ := h1.x.is
  clear h1 h2 hg1 hb1
  go_wp2_with fail
  refine Grow.wp_region_kept 19 [9, 10, 11, 12, 13] rfl (by kernel_rfl) (by kernel_rfl) (by kernel_rfl) (Grow.Ahead.more (Grow.Ahead.more (Grow.Ahead.none_ _ _) 0 (Grow.Vx.stays (.slice A l.length c) l) ⟨rfl, HV.out.gr (HG.out.drewN 1)⟩) 3 (Grow.Bx.stays w.heap.size 51 #[.int .i64 xp, .string xt, .bool xb]) ⟨rfl, HB.out.drewN 1⟩) ?_
  refine Grow.grow_field (j := 0) (Ψ := Grow.Is (.int .i64 xp)) rfl (.inl ⟨rfl, rfl⟩) rfl (fun _ => rfl) rfl (Grow.Is.stays _) (fun _ _ => rfl) ?_
  refine Grow.grow_load_k rfl agg_intC (.inl ⟨rfl, rfl⟩) rfl (Grow.Is.stays _) ?_
  refine Grow.grow_move (.tmp 0) (.inl rfl) (.inl ⟨rfl, rfl⟩) rfl (Grow.Vx.stays _ _) ?_
  refine Grow.grow_call1 (Φ := Grow.Is (.int .i64 z)) rfl (.inl ⟨rfl, rfl⟩) Try.func42 (by kernel_rfl) (by kernel_rfl) (Ψ := Grow.Vx (.slice A l.length c) l) rfl (Grow.Is.stays _) (fun v W _ hv => by
    obtain ⟨rfl, hv⟩ := hv
    refine (HLP.out W hv).mono ?_
    rintro e w' ⟨he, rfl⟩
    exact ⟨_, he, Gr.refl _, rfl⟩) ?_
  refine Grow.grow_int (c := .bool (decide (xp ≤ z))) rfl (.inl ⟨rfl, rfl⟩) rfl rfl rfl ?_
  intro a1 w1 hg1 hs1 hd1 hu1 hk1
  have h13 : a1.tmps.getD 13 undef = .bool (decide (xp ≤ z)) := hk1 13
  obtain ⟨X, hX, hlay⟩ := Grow.lay_kept_by _ a1 19 _ hs1 hd1 hu1
  rw [hX] at h13
  clear hX hu1 hd1 hs1 hk1
  subst hlay
  simp only [List.range, List.range.loop, List.map_cons, List.map_nil, List.contains_cons, List.contains_nil, Nat.reduceBEq, Bool.or_false, Bool.or_true, cond_false, cond_true, Array.getD_eq_getD_getElem?, List.getElem?_toArray, List.getElem?_cons_zero, List.getElem?_cons_succ, Option.getD_some, h13]
  clear h13
  have hg2 : Gr w2 w1 := ((Gr.refl w2).drewN 1).trans hg1
  have HO2 := hide ((HO.out.gr hg2).base (B' := w.heap.size) HS.out)
  have HG2 := hide (HG.out.trans hg2)
  have HB2 := hide (HB.out.gr hg2)
  clear hg1 hg2 HO HG HB
  by_cases hxz : xp ≤ z
  · have HA := hide (show addL l ⟨xp, xt, xb⟩ = l from add_old (by rw [HZ.out]; exact hxz))
    rw [decide_eq_true hxz]
    go_wp2_with fail
    go_ret
    exact ⟨_, rfl, by rw [HA.out]; exact HO2.out, HG2.out⟩
  · have HA := hide (show addL l ⟨xp, xt, xb⟩ = l ++ [⟨xp, xt, xb⟩] from add_new (by rw [HZ.out]; show z < xp; omega))
    rw [decide_eq_false hxz]
    have k0 : w1.cell? ⟨w.heap.size, 0, none⟩ = some (.int .i64 xp) := HB2.out.cell 0
    have k1 : w1.cell? ⟨w.heap.size, 1, none⟩ = some (.string xt) := HB2.out.cell 1
    have k2 : w1.cell? ⟨w.heap.size, 2, none⟩ = some (.bool xb) := HB2.out.cell 2
    go_wp2_with (at_builtin; refine pause ?_)
    refine hide ?_
    refine wpList_pushVer rfl (.tmp 15) (.tmp 17) rfl (w0 := w) (v := .slice A2 l.length c2) (ls := l) rfl HO2.out HG2.out rfl (by omega) ?_
    intro v3 w3 h1 h2
    have HO3 := hide h1
    have HG3 := hide h2
    obtain ⟨A3, c3, h5, _⟩ := h1.x.is
    generalize (l ++ [_]).length = q at h5
    subst h5
    clear h1 h2 k0 k1 k2
    go_wp2_with fail
    go_ret
    exact ⟨_, rfl, by rw [HA.out]; exact HO3.out, HG3.out⟩

/-! TrimChain. -/
theorem trimR_end (m : Int) {l : List VerT} {k : Nat} (h : k + 1 = l.length) : trimR m (l.drop k) = [l[k]] := by
  rw [List.drop_eq_getElem_cons (by omega), List.drop_of_length_le (by omega)]
  rfl
theorem trimR_skip {m : Int} {l : List VerT} {k : Nat} (h : k + 1 < l.length) (hp : l[k + 1].pos ≤ m) : trimR m (l.drop k) = trimR m (l.drop (k + 1)) := by
  rw [List.drop_eq_getElem_cons (by omega : k < l.length), List.drop_eq_getElem_cons h, trimR, if_pos hp]
theorem trimR_keep {m : Int} {l : List VerT} {k : Nat} (h : k + 1 < l.length) (hp : ¬ l[k + 1].pos ≤ m) : trimR m (l.drop k) = l[k] :: trimR m (l.drop (k + 1)) := by
  rw [List.drop_eq_getElem_cons (by omega : k < l.length), List.drop_eq_getElem_cons h, trimR, if_neg hp]

set_option maxHeartbeats 1000000 in
theorem RefTrim_ok (v : Value) (l : List VerT) (m : Int) (w : World) (hv : VersX w v l) (hl : l.length ≤ 10000000) :
    Calls Try.prog 49 #[v, .int .i64 m] w (OwnPost (trimR m l) w) := by
  have HV := hide hv
  obtain ⟨A, c, rfl, hc⟩ := hv.is
  clear hv
  go_enter Try.func49, Try.ntmps49
  go_wp2_with fail
  go_loopw [5, 6] (fun u i wr => ∃ (k : Nat) (out : List VerT), i = .int .i64 k ∧ k ≤ l.length ∧ out.length ≤ k ∧ Hid (trimR m l = out ++ trimR m (l.drop k)) ∧ Hid (VersO wr w.heap.size u out) ∧ Hid (Gr w wr)) (fun _ i _ => l.length - (intOf i).toNat)
  case atStart => exact ⟨0, [], rfl, by omega, Nat.le_refl _, rfl, VersO.none_ _ _, Gr.refl _⟩
  case round =>
    obtain ⟨k, out, rfl, hk, hol, HE, HO, HG⟩ := hrel
    obtain ⟨B, d, hu, _⟩ := HO.out.x.is
    generalize hq : out.length = q at hu hol
    subst hu
    by_cases hlt : k < l.length
    · have hlt' : (k : Int) < (l.length : Int) := by omega
      obtain ⟨ad, c', e1, a0, a1, a2⟩ := (HV.out.gr HG.out).at_ hlt
      simp only [Value.slice.injEq, true_and] at e1
      obtain ⟨rfl, rfl⟩ := e1
      by_cases hl1 : k + 1 < l.length
      · have hl1' : (k : Int) + 1 < (l.length : Int) := by omega
        obtain ⟨ad2, c2, e2, b0, _, _⟩ := (HV.out.gr HG.out).at_ hl1
        simp only [Value.slice.injEq, Option.some.injEq, true_and] at e2
        obtain ⟨rfl, rfl⟩ := e2
        by_cases hp : l[k + 1].pos ≤ m
        · have HR := hide (HE.out.trans (by rw [trimR_skip hl1 hp]))
          generalize l[k + 1] = y at b0 hp
          generalize l[k] = x at a0 a1 a2
          obtain ⟨xp, xt, xb⟩ := x
          obtain ⟨yp, yt, yb⟩ := y
          simp only at a0 a1 a2 b0 hp
          clear HE
          go_wp2_with fail
          go_roundw
          case rel => exact ⟨k + 1, out, by go_num, by omega, by omega, HR, HO, HG⟩
          case measure => simp [intOf]; omega
        · have HR := hide (HE.out.trans (by rw [trimR_keep hl1 hp, ← List.singleton_append, ← List.append_assoc]))
          generalize l[k + 1] = y at b0 hp
          generalize l[k] = x at a0 a1 a2 HR
          obtain ⟨xp, xt, xb⟩ := x
          obtain ⟨yp, yt, yb⟩ := y
          simp only at a0 a1 a2 b0 hp
          clear HE
          go_wp2_with (at_builtin; refine pause ?_)
          refine hide ?_
          refine wpList_pushVer rfl (.tmp 28) (.tmp 33) rfl (w0 := w) (ls := out) rfl HO.out HG.out rfl (by omega) ?_
          intro v3 w3 h1 h2
          have HO3 := hide h1
          have HG3 := hide h2
          obtain ⟨A3, c3, h5, _⟩ := h1.x.is
          have hq5 : (out ++ [VerT.mk xp xt xb]).length = q + 1 := by rw [List.length_append, hq]; rfl
          rw [hq5] at h5
          subst h5
          clear h1 h2 a0 a1 a2 b0
          go_wp2_with fail
          go_roundw
          case rel => exact ⟨k + 1, _, by go_num, by omega, by rw [hq5]; omega, HR, HO3, HG3⟩
          case measure => simp [intOf]; omega
      · have hl1' : ¬ (k : Int) + 1 < (l.length : Int) := by omega
        have HR := hide (HE.out.trans (by rw [trimR_end m (show k + 1 = l.length by omega)]))
        have hdr : trimR m (l.drop (k + 1)) = [] := by rw [List.drop_of_length_le (by omega)]; rfl
        generalize l[k] = x at a0 a1 a2 HR
        obtain ⟨xp, xt, xb⟩ := x
        simp only at a0 a1 a2
        clear HE
        go_wp2_with (at_builtin; refine pause ?_)
        refine hide ?_
        refine wpList_pushVer rfl (.tmp 28) (.tmp 33) rfl (w0 := w) (ls := out) rfl HO.out HG.out rfl (by omega) ?_
        intro v3 w3 h1 h2
        have HO3 := hide h1
        have HG3 := hide h2
        obtain ⟨A3, c3, h5, _⟩ := h1.x.is
        have hq5 : (out ++ [VerT.mk xp xt xb]).length = q + 1 := by rw [List.length_append, hq]; rfl
        rw [hq5] at h5
        subst h5
        clear h1 h2 a0 a1 a2
        go_wp2_with fail
        go_roundw
        case rel => exact ⟨k + 1, _, by go_num, by omega, by rw [hq5]; omega, by rw [hdr, List.append_nil]; exact HR, HO3, HG3⟩
        case measure => simp [intOf]; omega
    · obtain rfl : k = l.length := by omega
      have HR := hide (HE.out.trans (by rw [List.drop_length, show trimR m [] = [] from rfl, List.append_nil]))
      clear HE
      go_wp2_with fail
      go_ret
      exact ⟨_, rfl, by rw [HR.out]; exact HO.out, HG.out⟩

end Go.Proofs.Ytbfbghfaeejicaa
