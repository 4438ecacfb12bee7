/-
  store's add by its contract.
-/
import Derived.Test.YtbfbghfaeejicaaStInsert
import Derived.Test.YtbfbghfaeejicaaStMine
import Derived.Deep.Cut
namespace Go.Proofs.Ytbfbghfaeejicaa
open Go Go.RowKit ChMath KeyMath StMath
set_option maxRecDepth 100000

theorem modify_set {α : Type} {f : α → α} : ∀ {l : List α} {i : Nat} (h : i < l.length), l.modify i f = l.set i (f l[i])
  | [], i, h => by simp at h
  | x :: r, 0, _ => rfl
  | x :: r, i + 1, h => by
    have := modify_set (f := f) (l := r) (i := i) (by simpa using h)
    simpa using this
theorem its_modify {is : List It} {i : Nat} (h : i < is.length) {f : ChT → ChT} {u : Value} : (is.set i (f is[i].1, u)).map Prod.fst = (is.map Prod.fst).modify i f := by
  rw [List.map_set, modify_set (by rw [List.length_map]; exact h), List.getElem_map]
def AddPost (B : Nat) (v : Value) (cs : List ChT) (w : World) (e : Ending) (w' : World) : Prop := ∃ v', e = .returned v' ∧ ChnsO w' B v' cs ∧ w.grownBy w' v.ownBlock
theorem grown_gr {a b c : World} {o : Option Nat} (h : Gr a b) (k : b.grownBy c o) : a.grownBy c o :=
  ⟨k.os.trans h.os, k.tape.trans h.tape, k.output.trans h.output, Nat.le_trans h.size k.size, fun j hj hne => (k.block j (Nat.lt_of_lt_of_le hj h.size) hne).trans (h.block j hj)⟩
theorem gr_grown {a b : World} (h : Gr a b) (o : Option Nat) : a.grownBy b o := ⟨h.os, h.tape, h.output, h.size, fun j hj _ => h.block j hj⟩
theorem addC_at {cs : List ChT} {k : ByteArray} {x : VerT} (h : firstI (isK k) cs < cs.length) : addC cs k x = cs.modify (firstI (isK k) cs) fun c => ⟨c.key, addL c.l x⟩ := if_pos h
theorem addC_early {cs : List ChT} {k : ByteArray} {x : VerT} (h : ¬ firstI (isK k) cs < cs.length) (hp : x.pos ≤ 0) : addC cs k x = cs := (if_neg h).trans (if_pos hp)
theorem addC_new {cs : List ChT} {k : ByteArray} {x : VerT} (h : ¬ firstI (isK k) cs < cs.length) (hp : ¬ x.pos ≤ 0) : addC cs k x = cs.take (firstI (aboveK k) cs) ++ ⟨k, [x]⟩ :: cs.drop (firstI (aboveK k) cs) := (if_neg h).trans (if_neg hp)

set_option maxHeartbeats 4000000 in
theorem add_ok (B : Nat) (v : Value) (cs : List ChT) (k : ByteArray) (x : VerT) (w : World) (ho : ChnsO w B v cs) (hl : CsLen cs) (hB : B ≤ w.heap.size) :
    Calls Try.prog 50 #[v, .string k, verA x] w (AddPost B v (addC cs k x) w) := by
  have HO := hide ho
  have HF := hide (fun W (h : ChnsX W v cs) => first_is k v cs W h hl.1)
  have HFA := hide (fun W (h : ChnsX W v cs) => first_above k v cs W h hl.1)
  have hcl := hl.1
  have HL := hide hl.2
  have hile := firstI_le (isK k) cs
  have hale := firstI_le (aboveK k) cs
  have H1 := hide (fun h => addC_at (cs := cs) (k := k) (x := x) h)
  have H2 := hide (fun h hp => addC_early (cs := cs) (k := k) (x := x) h hp)
  have H3 := hide (fun h hp => addC_new (cs := cs) (k := k) (x := x) h hp)
  obtain ⟨i, hi⟩ : ∃ i, firstI (isK k) cs = i := ⟨_, rfl⟩
  obtain ⟨ia, hia⟩ : ∃ ia, firstI (aboveK k) cs = ia := ⟨_, rfl⟩
  rw [hi] at HF hile H1 H2 H3
  rw [hia] at HFA hale H3
  obtain ⟨xp, xt, xb⟩ := x
  simp only at H2 H3
  have HAN := hide (fun W => Add_ok (.slice none 0 0) [] ⟨xp, xt, xb⟩ W (VersX.nil W none 0) (by decide))
  rw [add_nil] at HAN
  unfold verA at HAN ⊢
  simp only at HAN
  obtain ⟨A, c, rfl⟩ := ho.is
  clear ho hl hi hia
  go_enter Try.func50, Try.ntmps50
  go_upto_region 1 with (fail)
  obtain ⟨W1, hW1⟩ : ∃ W1, w.alloc (.cells #[.int .i64 xp, .string xt, .bool xb] 51) = W1 := ⟨_, rfl⟩
  have hg1 : Gr w W1 := by rw [← hW1]; exact (Gr.refl _).alloc _
  have hb1 : Bl W1 w.heap.size 51 #[.int .i64 xp, .string xt, .bool xb] := by rw [← hW1]; exact Bl.new _ _ _
  rw [hW1]
  have HG1 := hide hg1
  have HB1 := hide hb1
  clear hW1 hg1 hb1
  go_wp2_with fail
  refine (HF.out _ (HO.out.gr HG1.out).x).mono ?_
  rintro e w2 ⟨rfl, hg2⟩
  have hb2 := HB1.out.gr hg2
  have HG2 := hide (HG1.out.trans hg2)
  have HO2 := hide (HO.out.gr HG2.out)
  have m0 : w2.cell? ⟨w.heap.size, 0, none⟩ = some (.int .i64 xp) := hb2.cell 0
  have m1 : w2.cell? ⟨w.heap.size, 1, none⟩ = some (.string xt) := hb2.cell 1
  have m2 : w2.cell? ⟨w.heap.size, 2, none⟩ = some (.bool xb) := hb2.cell 2
  have HB2 := hide hb2
  have hBw : B ≤ w2.heap.size := Nat.le_trans hB HG2.out.size
  clear hg2 hb2 HG1 HB1 HF
  by_cases hlt : i < cs.length
  · have hlt' : (i : Int) < (cs.length : Int) := by omega
    obtain ⟨is, his, hio⟩ := HO2.out
    have hli : is.length = cs.length := by rw [← his, List.length_map]
    have hil : i < is.length := by omega
    obtain ⟨g, c', e1, hgB, hgl, hnc, q0, q1, qf⟩ := hio.cells (k := i) hil
    have hx1 := (hio.2 is[i] (List.getElem_mem hil)).1
    have hkl : is[i].1.l.length ≤ 1000000 := HL.out _ (by have := List.mem_map_of_mem (f := Prod.fst) (List.getElem_mem hil); rw [his] at this; exact this)
    rw [hli] at e1
    simp only [Value.slice.injEq, true_and] at e1
    obtain ⟨rfl, rfl⟩ := e1
    have HI := hide hio
    have HQ := hide (And.intro q0 (And.intro q1 qf))
    have HADD := hide (fun W (h : VersX W is[i].2 is[i].1.l) => Add_ok is[i].2 is[i].1.l ⟨xp, xt, xb⟩ W h (by omega))
    unfold verA at HADD
    simp only at HADD
    have HV := hide hx1
    have HRES := hide (fun (w3 : World) (u : Value) (h : ChnsO w3 B (.slice (some ⟨g, 0, none⟩) cs.length c) ((is.set i (⟨is[i].1.key, addL is[i].1.l ⟨xp, xt, xb⟩⟩, u)).map Prod.fst)) => show ChnsO w3 B (.slice (some ⟨g, 0, none⟩) cs.length c) (addC cs k ⟨xp, xt, xb⟩) by
      have e := its_modify (f := fun c => ⟨c.key, addL c.l ⟨xp, xt, xb⟩⟩) (u := u) hil
      rw [his] at e
      rw [H1.out hlt, ← e]
      exact h)
    clear hx1 q1
    obtain ⟨it, hit⟩ : ∃ it, is[i] = it := ⟨_, rfl⟩
    rw [hit] at HADD HV hkl
    obtain ⟨ic, ip⟩ := it
    simp only at HADD HV hkl
    go_wp2_with fail
    refine Mine.wp_region_mine_tail 11 43 [16, 17, 18, 19, 20, 21, 22, 23, 24, 25, 26] rfl (by kernel_rfl) (by kernel_rfl) (by kernel_rfl) (by kernel_rfl) (ob0 := none)
      (Mine.Ahead.more (Mine.Ahead.more (Mine.Ahead.more (Mine.Ahead.none_ _ _ _) 0 (Mine.Pv.stays (.slice (some ⟨g, 0, none⟩) cs.length c) ⟨g, i * 2 + 1, none⟩ ip ic.l) (by exact ⟨rfl, by have := HQ.out.2.1; rw [hit] at this; exact this, by simp, HV.out.gr ((Gr.refl _).drewN 1), NotIn.none_ _⟩)) 7 (Mine.Is.stays (.int .i64 (i : Int))) (by rfl)) 5 (Mine.Bx.stays w.heap.size 51 #[.int .i64 xp, .string xt, .bool xb]) (by exact ⟨rfl, HB2.out.drewN 1, by simp⟩))
      43 (C0 := Mine.top) Mine.top_keeps (fun k hk => nomatch hk) trivial ?_
    refine Mine.move (.tmp 0) (.inl rfl) rfl (by decide) rfl (Mine.Pv.stays _ _ _ _) ?_
    refine Mine.move (.tmp 7) (.inl rfl) rfl (by decide) rfl (Mine.Is.stays _) ?_
    refine Mine.move (.tmp 0) (.inl rfl) rfl (by decide) rfl (Mine.Pv.stays _ _ _ _) ?_
    refine Mine.move (.tmp 7) (.inl rfl) rfl (by decide) rfl (Mine.Is.stays _) ?_
    refine Mine.pv2 (x := .tmp 18) (y := .tmp 19) (z' := .pointer (some ⟨g, i * 2, none⟩)) rfl (by decide) (by simp [Op.operands]) (by simp [Op.operands]) rfl rfl (fun a W hx hy => exec_idx rfl hx hy hlt W) ?_
    refine Mine.pv1 (x := .tmp 20) (z' := .pointer (some ⟨g, i * 2 + 1, none⟩)) rfl (by decide) (by simp [Op.operands]) rfl (fun a W hx => exec_fld rfl hx W) ?_
    refine Mine.pvload rfl rfl (by decide) (fun W => by kernel_rfl) rfl ?_
    refine Mine.load_box rfl rfl (by decide) rfl Try.underlying51 rfl (by kernel_rfl) ?_
    refine Mine.callV (g := g) (by exact hgl) rfl rfl (by decide) Try.func71 (by kernel_rfl) (by kernel_rfl) rfl rfl (fun W h => HADD.out W h) ?_
    refine Mine.pv2 (x := .tmp 16) (y := .tmp 17) (z' := .pointer (some ⟨g, i * 2, none⟩)) rfl (by decide) (by simp [Op.operands]) (by simp [Op.operands]) rfl rfl (fun a W hx hy => exec_idx rfl hx hy hlt W) ?_
    refine Mine.pv1 (x := .tmp 25) (z' := .pointer (some ⟨g, i * 2 + 1, none⟩)) rfl (by decide) (by simp [Op.operands]) rfl (fun a W hx => exec_fld rfl hx W) ?_
    intro a1 w3 ob hr hwf hsz hdf hun hk2 hat
    have h24 : Mine.Vn g (addL ic.l ⟨xp, xt, xb⟩) (a1.tmps.getD 24 undef) w3 ob := hk2 24
    have h26 : Mine.Pv (.pointer (some ⟨g, i * 2 + 1, none⟩)) ⟨g, i * 2 + 1, none⟩ ip ic.l (a1.tmps.getD 26 undef) w3 ob := hk2 26
    obtain ⟨X, hX, hlay⟩ := Grow.lay_kept_by _ a1 43 _ hsz hdf hun
    rw [hX] at h24 h26
    clear hX hun hdf hsz hk2 hwf hat
    obtain ⟨hu1, _, hu3⟩ := h24
    obtain ⟨h26, hcell, _⟩ := h26
    obtain ⟨uA, uc, h24, _⟩ := hu1.is
    obtain ⟨un, hun⟩ : ∃ un, (addL ic.l ⟨xp, xt, xb⟩).length = un := ⟨_, rfl⟩
    rw [hun] at h24
    rw [h24] at hu1 hu3
    subst hlay
    simp only [List.range, List.range.loop, List.map_cons, List.map_nil, List.contains_cons, List.contains_nil, Nat.reduceBEq, Bool.or_false, Bool.or_true, cond_false, cond_true, Array.getD_eq_getD_getElem?, List.getElem?_toArray, List.getElem?_cons_zero, List.getElem?_cons_succ, Option.getD_some, h24, h26, List.drop_succ_cons, List.drop_zero]
    have hg3 : Gr w2 w3 := (Gr.drew (Gr.refl w2)).trans (rs_grew hr)
    have hio3 := HI.out.gr hg3
    have hfr : w3.frozen? ⟨g, i * 2 + 1, none⟩ = false := by
      obtain ⟨g', c', e1, _, _, _, _, _, qf'⟩ := hio3.cells (k := i) (by omega)
      simp only [Value.slice.injEq, Option.some.injEq, Addr.mk.injEq, and_true] at e1
      rw [e1.1]
      exact qf' _
    refine wpList_store_at (g := g) (i := i * 2 + 1) (u := .slice uA un uc) rfl 52 (.tmp 26) (.tmp 24) rfl rfl (fun W => by kernel_rfl) rfl rfl ⟨_, _, _, rfl⟩ hcell hfr ?_
    obtain ⟨hs1, hs2⟩ := hio3.stored (by rw [hli]) (k := i) (by omega) (l := addL ic.l ⟨xp, xt, xb⟩) hu1 hu3
    have HE := hide (HRES.out _ (.slice uA un uc) ⟨_, rfl, by rw [hit] at hs1 ⊢; exact hs1⟩)
    have HGE := hide (grown_gr (HG2.out.trans hg3) hs2)
    generalize w3.setCell ⟨g, i * 2 + 1, none⟩ (.slice uA un uc) = w4 at HE HGE ⊢
    clear hs1 hs2 hio3 hfr hcell hu1 hu3 hr hg3 h24 h26 HRES HI HQ HADD HV m0 m1 m2 q0 qf hio
    go_wp2_with fail
    go_ret
    exact ⟨_, rfl, HE.out, HGE.out⟩
  · have hlt' : ¬ (i : Int) < (cs.length : Int) := by omega
    go_wp2_with fail
    refine (HAN.out _).mono ?_
    rintro e w3 ⟨u, rfl, hu, hg3⟩
    have HG3 := hide (HG2.out.trans hg3)
    have HO3 := hide (HO2.out.gr hg3)
    have hB3 : B ≤ w3.heap.size := Nat.le_trans hBw hg3.size
    by_cases hx : xp ≤ 0
    · rw [if_pos hx] at hu
      have HE := hide (H2.out hlt hx)
      obtain ⟨uA, uc, rfl, _⟩ := hu.x.is
      clear hu hg3 m0 m1 m2
      go_wp2_with fail
      go_ret
      exact ⟨_, rfl, by rw [HE.out]; exact HO3.out, gr_grown HG3.out _⟩
    · rw [if_neg hx] at hu
      have HE := hide (H3.out hlt (by omega))
      have HU := hide hu.x
      have HN := hide (show NotIn (Value.slice A cs.length c).ownBlock u by
        cases hb : (Value.slice A cs.length c).ownBlock with
        | none => exact NotIn.none_ _
        | some k => exact hu.notIn (HO2.out.lt k hb).2)
      obtain ⟨uA, uc, hue, _⟩ := hu.x.is
      simp only [List.length_cons, List.length_nil, Nat.zero_add] at hue
      subst hue
      clear hu hg3 m0 m1 m2
      go_wp2_with fail
      refine (HFA.out _ HO3.out.x).mono ?_
      rintro e w4 ⟨rfl, hg4⟩
      have HG4 := hide (HG3.out.trans hg4)
      have HO4 := hide (HO3.out.gr hg4)
      have HU4 := hide (HU.out.gr hg4)
      have hB4 : B ≤ w4.heap.size := Nat.le_trans hB3 hg4.size
      clear hg4
      go_wp2_with fail
      refine (Insert_ok B ia w4.heap.size _ cs ⟨k, [⟨xp, xt, xb⟩]⟩ (.slice uA 1 uc) _ hale hcl (HO4.out.gr ((Gr.refl _).alloc _)) (Bl.new _ _ _) (fun e => by have := (HO4.out.lt _ e).2; omega) (by simp; omega) (HU4.out.gr ((Gr.refl _).alloc _)) HN.out).mono ?_
      rintro e w5 ⟨v', rfl, ho5, hp5⟩
      have HE5 := hide (show ChnsO w5 B v' (addC cs k ⟨xp, xt, xb⟩) by rw [HE.out]; exact ho5)
      have HG5 := hide (grown_gr (HG4.out.alloc _) hp5.1)
      obtain ⟨A5, c5, hv5⟩ := HE5.out.is
      generalize (addC cs k ⟨xp, xt, xb⟩).length = q5 at hv5
      subst hv5
      clear ho5 hp5
      go_wp2_with fail
      go_ret
      exact ⟨_, rfl, HE5.out, HG5.out⟩
end Go.Proofs.Ytbfbghfaeejicaa
