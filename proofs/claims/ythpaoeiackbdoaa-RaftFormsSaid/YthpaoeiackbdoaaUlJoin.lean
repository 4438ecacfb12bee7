/-
  ulog's Join, by its contract.
-/
import Derived.Test.YthpaoeiackbdoaaUlCopy
import Derived.StillTailTactics
namespace Go.Proofs.Ythpaoeiackbdoaa
open Go Go.RowKit TxnMath KeyMath MsgMath
set_option maxRecDepth 100000

theorem lists1 {w W : World} {A : Option Addr} {n c : Nat} {l : List EntT} {t : TypeId} (h : EntsX Any w (.slice A n c) l) (hW : w.alloc (.cells #[.slice A n c] t) = W) : ListsX W (some ⟨w.heap.size, 0, none⟩) 1 1 [l] := by
  have hb := Bl.new w t #[.slice A n c]
  have hg : Gr w (w.alloc (.cells #[.slice A n c] t)) := (Gr.refl _).alloc _
  rw [hW] at hb hg
  obtain ⟨A', c', e⟩ := h.is
  simp only [Value.slice.injEq] at e
  obtain ⟨rfl, rfl, rfl⟩ := e
  refine ⟨rfl, Nat.le_refl _, fun j hj => ?_⟩
  obtain rfl : j = 0 := by simpa using hj
  exact ⟨_, A, c, rfl, by simpa [Addr.add] using hb.cell 0, h.gr hg⟩
theorem lists2 {w W : World} {A B : Option Addr} {n m c d : Nat} {l r : List EntT} {t : TypeId} (h : EntsX Any w (.slice A n c) l) (h2 : EntsX Any w (.slice B m d) r) (hW : w.alloc (.cells #[.slice A n c, .slice B m d] t) = W) : ListsX W (some ⟨w.heap.size, 0, none⟩) 2 2 [l, r] := by
  have hb := Bl.new w t #[.slice A n c, .slice B m d]
  have hg : Gr w (w.alloc (.cells #[.slice A n c, .slice B m d] t)) := (Gr.refl _).alloc _
  rw [hW] at hb hg
  obtain ⟨A', c', e⟩ := h.is
  simp only [Value.slice.injEq] at e
  obtain ⟨rfl, rfl, rfl⟩ := e
  obtain ⟨B', d', e⟩ := h2.is
  simp only [Value.slice.injEq] at e
  obtain ⟨rfl, rfl, rfl⟩ := e
  refine ⟨rfl, Nat.le_refl _, fun j hj => ?_⟩
  obtain rfl | rfl : j = 0 ∨ j = 1 := by have : j < 2 := hj; omega
  · exact ⟨_, A, c, rfl, by simpa [Addr.add] using hb.cell 0, h.gr hg⟩
  · exact ⟨_, B, d, rfl, by simpa [Addr.add] using hb.cell 1, h2.gr hg⟩
theorem OwnEnt.down {w W w' : World} {v : Value} {es : List EntT} (h : OwnEnt (fun j => W.heap.size ≤ j) w' W.heap.size v es) (hg : Gr w W) : OwnEnt (fun j => w.heap.size ≤ j) w' w.heap.size v es :=
  (h.base hg.size).wide fun _ hj => Nat.le_trans hg.size hj
def JoinPost (l m : List EntT) (i : Int) (w : World) (e : Ending) (w' : World) : Prop := ∃ r, e = .returned r ∧ OwnEnt (fun j => w.heap.size ≤ j) w' w.heap.size r (joinL l i m) ∧ Gr w w'
theorem two_len {a b x : List EntT} (h : x ∈ [a, b]) : x.length ≤ a.length + b.length := by
  simp only [List.mem_cons, List.not_mem_nil, or_false] at h
  rcases h with rfl | rfl <;> omega
theorem two_ok {p : EntT → Prop} {a b x : List EntT} {k j : Nat} (ha : ∀ e ∈ a, p e) (hb : ∀ e ∈ b, p e) (h : x ∈ [a.take k, b.drop j]) {e : EntT} (he : e ∈ x) : p e := by
  simp only [List.mem_cons, List.not_mem_nil, or_false] at h
  rcases h with rfl | rfl
  · exact ha _ (List.mem_of_mem_take he)
  · exact hb _ (List.mem_of_mem_drop he)
theorem join_out {l m : List EntT} {i : Int} (h : i < 0 ∨ (l.length : Int) < i) : joinL l i m = l := by unfold joinL; rw [if_pos h]

set_option maxHeartbeats 1000000 in
theorem Join_ok (v u : Value) (l m : List EntT) (i : Int) (w : World) (hv : EntsX Any w v l) (hu : EntsX Any w u m) (hl : l.length ≤ 10000) (hm : m.length ≤ 10000) (hbl : ∀ e ∈ l, EntBnd e) (hbm : ∀ e ∈ m, EntBnd e) :
    Calls Try.prog 65 #[v, .int .i64 i, u] w (JoinPost l m i w) := by
  have HV := hide hv
  have HU := hide hu
  have HBL := hide hbl
  have HBM := hide hbm
  obtain ⟨A, c, rfl⟩ := hv.is
  obtain ⟨B, d, rfl⟩ := hu.is
  have hle : l.length ≤ c := by
    obtain ⟨f, ⟨⟨A', c', e, h, _⟩, _⟩, _⟩ := hv
    simp only [Value.slice.injEq, List.length_mapIdx] at e h
    omega
  have hme : m.length ≤ d := by
    obtain ⟨f, ⟨⟨A', c', e, h, _⟩, _⟩, _⟩ := hu
    simp only [Value.slice.injEq, List.length_mapIdx] at e h
    omega
  clear hv hu hbl hbm
  -- all of l is copied
  have HALL := hide (fun (wx W : World) (hg : Gr w wx) (hW : wx.alloc (.cells #[.slice A l.length c] 24) = W) => copied_ok (some ⟨wx.heap.size, 0, none⟩) 1 1 [l] W (lists1 (HV.out.gr hg) hW) (by omega) (by simpa using (by omega : l.length ≤ 100000)) (by simpa using HBL.out))
  by_cases h1 : i < 0
  · have HJ := hide (join_out (m := m) (.inl h1 : i < 0 ∨ (l.length : Int) < i))
    go_enter Try.func65, Try.ntmps65
    go_wp2_with fail
    refine (HALL.out w _ (Gr.refl _) rfl).mono ?_
    rintro e w1 ⟨r, rfl, ho, hg1⟩
    have hg2 := ((Gr.refl w).alloc _).trans hg1
    have HO := hide ho
    obtain ⟨rA, rc, hr⟩ := ho.is
    generalize List.length _ = rm at hr
    subst hr
    clear ho hg1
    go_wp2_with fail
    go_ret
    refine ⟨_, rfl, ?_, hg2⟩
    rw [HJ.out]
    simpa using HO.out.down ((Gr.refl w).alloc _)
  by_cases h2 : (l.length : Int) < i
  · have HJ := hide (join_out (m := m) (.inr h2 : i < 0 ∨ (l.length : Int) < i))
    go_enter Try.func65, Try.ntmps65
    go_wp2_with fail
    refine (HALL.out w _ (Gr.refl _) rfl).mono ?_
    rintro e w1 ⟨r, rfl, ho, hg1⟩
    have hg2 := ((Gr.refl w).alloc _).trans hg1
    have HO := hide ho
    obtain ⟨rA, rc, hr⟩ := ho.is
    generalize List.length _ = rm at hr
    subst hr
    clear ho hg1
    go_wp2_with fail
    go_ret
    refine ⟨_, rfl, ?_, hg2⟩
    rw [HJ.out]
    simpa using HO.out.down ((Gr.refl w).alloc _)
  obtain ⟨k, rfl⟩ : ∃ k : Nat, i = (k : Int) := ⟨i.toNat, by omega⟩
  have hk : k ≤ l.length := by omega
  have HJ := hide (show joinL l k m = if frontL sameTm (l.drop k) m = m.length then l else l.take (k + frontL sameTm (l.drop k) m) ++ m.drop (frontL sameTm (l.drop k) m) by unfold joinL; rw [if_neg (by omega), Int.toNat_natCast])
  have hfl := front_le sameTm (l.drop k) m
  rw [List.length_drop] at hfl
  have HD := hide (fun W (hg : Gr w W) => frontT_ok _ _ (l.drop k) m W ((HV.out.drop k hk).gr hg) (HU.out.gr hg) (by rw [List.length_drop]; omega) (by omega))
  generalize hfr : frontL sameTm (l.drop k) m = fr at HJ hfl HD
  have hkI : (k : Int) ≤ (l.length : Int) := by omega
  have hkc : (k : Int) ≤ (c : Int) := by omega
  by_cases hf : fr = m.length
  · subst hf
    rw [if_pos rfl] at HJ
    by_cases hck : c = k
    · subst hck
      have e0 : l.length - c = 0 := by omega
      rw [if_pos rfl, e0, Nat.sub_self] at HD
      go_enter Try.func65, Try.ntmps65
      go_wp2_with fail
      refine (HD.out w (Gr.refl _)).mono ?_
      rintro e w0 ⟨rfl, hg0⟩
      go_wp2_with fail
      refine (HALL.out w0 _ hg0 rfl).mono ?_
      rintro e w1 ⟨r, rfl, ho, hg1⟩
      have hg2 := hg0.trans (((Gr.refl w0).alloc _).trans hg1)
      have HO := hide ho
      obtain ⟨rA, rc, hr⟩ := ho.is
      generalize List.length _ = rm at hr
      subst hr
      clear ho hg1
      go_wp2_with fail
      go_ret
      refine ⟨_, rfl, ?_, hg2⟩
      rw [HJ.out]
      simpa using HO.out.down (hg0.trans ((Gr.refl w0).alloc _))
    · rw [if_neg hck] at HD
      go_enter Try.func65, Try.ntmps65
      go_wp2_with fail
      refine (HD.out w (Gr.refl _)).mono ?_
      rintro e w0 ⟨rfl, hg0⟩
      go_wp2_with fail
      refine (HALL.out w0 _ hg0 rfl).mono ?_
      rintro e w1 ⟨r, rfl, ho, hg1⟩
      have hg2 := hg0.trans (((Gr.refl w0).alloc _).trans hg1)
      have HO := hide ho
      obtain ⟨rA, rc, hr⟩ := ho.is
      generalize List.length _ = rm at hr
      subst hr
      clear ho hg1
      go_wp2_with fail
      go_ret
      refine ⟨_, rfl, ?_, hg2⟩
      rw [HJ.out]
      simpa using HO.out.down (hg0.trans ((Gr.refl w0).alloc _))
  · rw [if_neg hf] at HJ
    have hfI : ((fr : Int) == (m.length : Int)) = false := beq_no (by omega)
    have hfd : ¬ d = fr := by omega
    have hw1 : IntKind.i64.wrap ((k : Int) + fr) = (k : Int) + fr := IntWalk.i64_in _ (by omega)
    have hw2 : (k : Int) + fr ≤ (c : Int) := by omega
    have hw3 : ((k : Int) + fr).toNat = k + fr := by omega
    have hw4 : (fr : Int) ≤ (m.length : Int) := by omega
    have H1 := hide (HV.out.take (k + fr) (by omega))
    have H2 := hide (HU.out.drop fr hfl.2)
    rw [if_neg hfd] at H2
    by_cases hck : c = k
    · subst hck
      have e0 : l.length - c = 0 := by omega
      rw [if_pos rfl, e0, Nat.sub_self] at HD
      go_enter Try.func65, Try.ntmps65
      go_wp2_with fail
      refine (HD.out w (Gr.refl _)).mono ?_
      rintro e w0 ⟨rfl, hg0⟩
      go_wp2_with fail
      go_still_tail 8, (by kernel_rfl)
      refine still_run rfl (exec_take (j := c + fr) rfl rfl rfl (by omega) Try.underlying24 size_ents) ?_
      repeat still_step
      refine wpStill_nil ?_
      change wpList _ _ _ _ _ w0.drew
      have hgd := hg0.drew
      go_wp2_with fail
      refine (copied_ok (some ⟨w0.drew.heap.size, 0, none⟩) 2 2 [l.take (c + fr), m.drop fr] _ (lists2 (t := 24) (H1.out.gr hgd) (H2.out.gr hgd) rfl) (by omega) ?_ ?_).mono ?_
      · intro x hx
        have hx2 := two_len hx
        rw [List.length_take, List.length_drop] at hx2
        omega
      · intro x hx e he
        exact two_ok HBL.out HBM.out hx he
      rintro e w1 ⟨r, rfl, ho, hg1⟩
      have hg3 := hgd.trans (((Gr.refl w0.drew).alloc _).trans hg1)
      have HO := hide ho
      obtain ⟨rA, rc, hr⟩ := ho.is
      generalize List.length _ = rm at hr
      subst hr
      clear ho hg1
      go_wp2_with fail
      go_ret
      refine ⟨_, rfl, ?_, hg3⟩
      rw [HJ.out]
      simpa using HO.out.down (hgd.trans ((Gr.refl w0.drew).alloc _))
    · rw [if_neg hck] at HD
      go_enter Try.func65, Try.ntmps65
      go_wp2_with fail
      refine (HD.out w (Gr.refl _)).mono ?_
      rintro e w0 ⟨rfl, hg0⟩
      go_wp2_with fail
      go_still_tail 8, (by kernel_rfl)
      refine still_run rfl (exec_take (j := k + fr) rfl rfl rfl (by omega) Try.underlying24 size_ents) ?_
      repeat still_step
      refine wpStill_nil ?_
      change wpList _ _ _ _ _ w0.drew
      have hgd := hg0.drew
      go_wp2_with fail
      refine (copied_ok (some ⟨w0.drew.heap.size, 0, none⟩) 2 2 [l.take (k + fr), m.drop fr] _ (lists2 (t := 24) (H1.out.gr hgd) (H2.out.gr hgd) rfl) (by omega) ?_ ?_).mono ?_
      · intro x hx
        have hx2 := two_len hx
        rw [List.length_take, List.length_drop] at hx2
        omega
      · intro x hx e he
        exact two_ok HBL.out HBM.out hx he
      rintro e w1 ⟨r, rfl, ho, hg1⟩
      have hg3 := hgd.trans (((Gr.refl w0.drew).alloc _).trans hg1)
      have HO := hide ho
      obtain ⟨rA, rc, hr⟩ := ho.is
      generalize List.length _ = rm at hr
      subst hr
      clear ho hg1
      go_wp2_with fail
      go_ret
      refine ⟨_, rfl, ?_, hg3⟩
      rw [HJ.out]
      simpa using HO.out.down (hgd.trans ((Gr.refl w0.drew).alloc _))

end Go.Proofs.Ythpaoeiackbdoaa
