/-
  chain's At, Add, Trim by their contracts.
-/
import Derived.Test.YtbfbghfaeejicaaChFns
import Derived.Test.YtbfbghfaeejicaaRowStep
import Derived.Deep.Cut
namespace Go.Proofs.Ytbfbghfaeejicaa
open Go Go.RowKit ChMath KeyMath
set_option maxRecDepth 100000

/-- two results, the first of them a variable that lies in memory -/
theorem results_cell2 {P : Program} {fn : Func} {p q : Tmp} {ty : TypeId} (h : fn.results = #[.cell p ty, .tmp q]) (tmps : Array Value) (w : World) (g : Nat) (t : TypeId) (cs : Array Value) (fr : Nat × Nat) (d : TypeDesc)
    (hp : tmps.getD p undef = .pointer (some ⟨g, 0, none⟩)) (hg : w.heap[g]? = some (.cells cs t fr)) (hu : P.underlying ty = some d) (hd : (match d with | .struct _ | .array _ _ => true | _ => false) = true) (hi : (P.info? ty).map (·.size) = some cs.size) :
    (results fn tmps).run P w = .ok (.tuple #[.agg cs, tmps.getD q undef]) w := by
  have hp' : tmps[p]?.getD undef = .pointer (some ⟨g, 0, none⟩) := by simpa using hp
  simp [results, h, hp', asAddr, run_loadVar_row w g t ty cs fr d hg hu hd hi]

def AtPost (p : Int) (l : List VerT) (w : World) (e : Ending) (w' : World) : Prop := e = .returned (.tuple #[verA (atV p l), .bool (isV p l)]) ∧ Gr w w'
theorem at_found {p : Int} {l : List VerT} {k : Nat} (h : lastN p l = k + 1) : ∃ hk : k < l.length, atV p l = l[k] ∧ isV p l = true := by
  obtain ⟨hk, e⟩ := atV_at (p := p) (l := l) (by omega)
  have e2 : lastN p l - 1 = k := by omega
  refine ⟨by omega, ?_, by unfold isV; rw [h]; simp⟩
  rw [e]
  simp only [e2]
theorem at_none {p : Int} {l : List VerT} (h : lastN p l = 0) : atV p l = noVer ∧ isV p l = false := ⟨atV_no h, by unfold isV; rw [h]; rfl⟩

set_option maxHeartbeats 1000000 in
theorem At_ok (v : Value) (l : List VerT) (p : Int) (w : World) (hv : VersX w v l) (hl : l.length ≤ 1000000000) :
    Calls Try.prog 64 #[v, .int .i64 p] w (AtPost p l w) := by
  have HV := hide hv
  obtain ⟨A, c, rfl, _⟩ := hv.is
  clear hv
  go_enter Try.func64, Try.ntmps64
  go_upto_region 1 with (fail)
  obtain ⟨W1, hW1⟩ : ∃ W1, w.alloc (.cells #[.int .i64 0, .string ⟨#[]⟩, .bool false] 51) = W1 := ⟨_, rfl⟩
  have hg1 : Gr w W1 := by rw [← hW1]; exact (Gr.refl _).alloc _
  have hb1 : Bl W1 w.heap.size 51 #[.int .i64 0, .string ⟨#[]⟩, .bool false] := by rw [← hW1]; exact Bl.new _ _ _
  rw [hW1]
  clear hW1
  go_wp2_with fail
  refine (last_ok _ l p _ (HV.out.gr hg1) hl).mono ?_
  rintro e w2 ⟨rfl, hg2⟩
  have hb2 := hb1.gr hg2
  have HG := hide (hg1.trans hg2)
  have hlt0 := hb2.lt
  clear hb1 hg1 hg2
  have f0 := hb2.frozen 0
  have f1 := hb2.frozen 1
  have f2 := hb2.frozen 2
  have z0 : w2.cell? ⟨w.heap.size, 0, none⟩ = some (.int .i64 0) := hb2.cell 0
  have z1 : w2.cell? ⟨w.heap.size, 1, none⟩ = some (.string ⟨#[]⟩) := hb2.cell 1
  have z2 : w2.cell? ⟨w.heap.size, 2, none⟩ = some (.bool false) := hb2.cell 2
  have HB := hide hb2
  have HVV := hide (HV.out.gr HG.out)
  clear hb2 HV
  rcases hn : lastN p l with _ | k
  · have HA := hide (at_none hn)
    clear hn HVV
    rw [show (((0 : Nat) : Int) - 1) = -1 by omega]
    go_wp2_with fail
    obtain ⟨W3, hW3⟩ : ∃ W3, ((w2.setCell ⟨w.heap.size, 0, none⟩ (.int .i64 0)).setCell ⟨w.heap.size, 1, none⟩ (.string ⟨#[]⟩)).setCell ⟨w.heap.size, 2, none⟩ (.bool false) = W3 := ⟨_, rfl⟩
    have hb3 : Bl W3 w.heap.size 51 #[.int .i64 0, .string ⟨#[]⟩, .bool false] := by rw [← hW3]; exact ((HB.out.put 0 _).put 1 _).put 2 _
    have hu3 : But w2 W3 w.heap.size := by rw [← hW3]; exact (((But.refl _ _).set 0 _).set 1 _).set 2 _
    rw [hW3]
    refine bodyPost_ret (results_cell2 rfl _ W3 w.heap.size 51 #[.int .i64 0, .string ⟨#[]⟩, .bool false] (0, 0) _ rfl hb3 Try.underlying51 rfl (by kernel_rfl)) rfl ?_
    exact ⟨by rw [HA.out.1, HA.out.2]; rfl, HG.out.fresh_ hu3 (Nat.le_refl _)⟩
  · obtain ⟨hk, he, hi⟩ := at_found hn
    have HA := hide (And.intro he hi)
    obtain ⟨ad, c', e1, a0, a1, a2⟩ := HVV.out.at_ hk
    simp only [Value.slice.injEq, true_and] at e1
    obtain ⟨rfl, rfl⟩ := e1
    have hk' : (k : Int) < (l.length : Int) := by omega
    generalize l[k] = x at a0 a1 a2 HA
    obtain ⟨xp, xt, xb⟩ := x
    simp only at a0 a1 a2
    clear hn HVV he hi
    rw [show (((k + 1 : Nat) : Int) - 1) = (k : Int) by omega]
    go_wp2_with fail
    obtain ⟨W3, hW3⟩ : ∃ W3, ((w2.setCell ⟨w.heap.size, 0, none⟩ (.int .i64 xp)).setCell ⟨w.heap.size, 1, none⟩ (.string xt)).setCell ⟨w.heap.size, 2, none⟩ (.bool xb) = W3 := ⟨_, rfl⟩
    have hb3 : Bl W3 w.heap.size 51 #[.int .i64 xp, .string xt, .bool xb] := by rw [← hW3]; exact ((HB.out.put 0 _).put 1 _).put 2 _
    have hu3 : But w2 W3 w.heap.size := by rw [← hW3]; exact (((But.refl _ _).set 0 _).set 1 _).set 2 _
    rw [hW3]
    refine bodyPost_ret (results_cell2 rfl _ W3 w.heap.size 51 #[.int .i64 xp, .string xt, .bool xb] (0, 0) _ rfl hb3 Try.underlying51 rfl (by kernel_rfl)) rfl ?_
    exact ⟨by rw [HA.out.1, HA.out.2]; rfl, HG.out.fresh_ hu3 (Nat.le_refl _)⟩

def OwnPost (l : List VerT) (w : World) (e : Ending) (w' : World) : Prop := ∃ u, e = .returned u ∧ VersO w' w.heap.size u l ∧ Gr w w'

theorem VersX.drop {w : World} {A : Option Addr} {n c : Nat} {l : List VerT} (h : VersX w (.slice A n c) l) (i : Nat) (hi : i ≤ n) : VersX w (.slice (if c = i then A else A.map (·.add (i * 3))) (n - i) (c - i)) (l.drop i) := by
  unfold VersX
  rw [List.map_drop]
  exact RowAt.drop h i hi

set_option maxHeartbeats 1000000 in
theorem Trim_ok (v : Value) (l : List VerT) (m : Int) (w : World) (hv : VersX w v l) (hl : l.length ≤ 100000000) :
    Calls Try.prog 48 #[v, .int .i64 m] w (OwnPost (trimL m l) w) := by
  have HV := hide hv
  obtain ⟨A, c, rfl, hc⟩ := hv.is
  clear hv
  have hle := lastN_le m l
  go_enter Try.func48, Try.ntmps48
  go_wp2_with fail
  refine (last_ok _ l m _ HV.out (by omega)).mono ?_
  rintro e w2 ⟨rfl, hg2⟩
  have HG := hide hg2
  clear hg2
  have HO0 := hide (own_ok _ _ w2 (HV.out.gr HG.out) hl)
  rcases hn : lastN m l with _ | _ | k
  · have HD := hide (show trimL m l = l by unfold trimL; rw [hn]; rfl)
    rw [show (((0 : Nat) : Int) - 1) = -1 by omega]
    clear hn
    go_wp2_with fail
    refine HO0.out.mono ?_
    rintro e w3 ⟨u, rfl, ho, hg⟩
    have HO := hide ho
    have HG3 := hide (HG.out.trans hg)
    have HB := hide HG.out.size
    obtain ⟨A3, c3, rfl, _⟩ := ho.x.is
    clear ho hg
    go_wp2_with fail
    go_ret
    exact ⟨_, rfl, by rw [HD.out]; exact HO.out.base HB.out, HG3.out⟩
  · have HD := hide (show trimL m l = l by unfold trimL; rw [hn]; rfl)
    rw [show (((0 + 1 : Nat) : Int) - 1) = 0 by omega]
    clear hn
    go_wp2_with fail
    refine HO0.out.mono ?_
    rintro e w3 ⟨u, rfl, ho, hg⟩
    have HO := hide ho
    have HG3 := hide (HG.out.trans hg)
    have HB := hide HG.out.size
    obtain ⟨A3, c3, rfl, _⟩ := ho.x.is
    clear ho hg
    go_wp2_with fail
    go_ret
    exact ⟨_, rfl, by rw [HD.out]; exact HO.out.base HB.out, HG3.out⟩
  · have hk : k + 1 < l.length := by omega
    obtain ⟨j, hj⟩ : ∃ j, k + 1 = j := ⟨_, rfl⟩
    rw [show (((k + 1 + 1 : Nat) : Int) - 1) = (j : Int) by omega]
    rw [hj] at hk hn
    have HD := hide (show trimL m l = l.drop j by unfold trimL; rw [hn]; rfl)
    have HO1 := hide (own_ok _ _ w2 ((HV.out.drop j (by omega)).gr HG.out) (by rw [List.length_drop]; omega))
    have hck : ¬ c = j := by omega
    rw [if_neg hck] at HO1
    have hk0 : 0 < j := by omega
    have hkl : j ≤ l.length := by omega
    clear hn hj
    go_wp2_with fail
    refine HO1.out.mono ?_
    rintro e w3 ⟨u, rfl, ho, hg⟩
    have HO := hide ho
    have HG3 := hide (HG.out.trans hg)
    have HB := hide HG.out.size
    obtain ⟨A3, c3, hu, _⟩ := ho.x.is
    generalize (l.drop j).length = q at hu
    subst hu
    clear ho hg
    go_wp2_with fail
    go_ret
    exact ⟨_, rfl, by rw [HD.out]; exact HO.out.base HB.out, HG3.out⟩

theorem VersX.rd {w : World} {v : Value} {l : List VerT} (h : VersX w v l) : Mine.RdR 3 (l.map verC) v w none :=
  ⟨h, fun r hr => by rw [verC_three l r hr]; decide, fun ad n c _ _ e => by cases e⟩

set_option maxHeartbeats 1000000 in
theorem Add_ok (v : Value) (l : List VerT) (x : VerT) (w : World) (hv : VersX w v l) (hl : l.length ≤ 10000000) :
    Calls Try.prog 71 #[v, verA x] w (OwnPost (addL l x) w) := by
  obtain ⟨i0, hi0, hz0, hz1, hz2⟩ := info_ver
  have HV := hide hv
  obtain ⟨A, c, rfl, hc⟩ := hv.is
  clear hv
  obtain ⟨xp, xt, xb⟩ := x
  unfold verA
  have HLP := hide (fun W (h : VersX W (.slice A l.length c) l) => Last_ok _ l W h (by omega))
  obtain ⟨z, hz⟩ : ∃ z, lastP l = z := ⟨_, rfl⟩
  rw [hz] at HLP
  have HZ := hide hz
  clear hz
  go_enter Try.func71, Try.ntmps71
  go_wp2_with fail
  obtain ⟨W1, hW1⟩ : ∃ W1, w.alloc (.cells #[.int .i64 xp, .string xt, .bool xb] 51) = W1 := ⟨_, rfl⟩
  have hg1 : Gr w W1 := by rw [← hW1]; exact (Gr.refl _).alloc _
  have hb1 : Bl W1 w.heap.size 51 #[.int .i64 xp, .string xt, .bool xb] := by rw [← hW1]; exact Bl.new _ _ _
  rw [hW1]
  clear hW1
  have HG1 := hide hg1
  have HB1 := hide hb1
  clear hg1 hb1
  refine Grow.wp_region_kept 16 [5, 6, 7, 8] rfl (by kernel_rfl) (by kernel_rfl) (by kernel_rfl) (Grow.Ahead.more (Grow.Ahead.more (Grow.Ahead.none_ _ _) 0 (Grow.Vx.stays (.slice A l.length c) l) ⟨rfl, HV.out.gr (HG1.out.drewN 1)⟩) 3 (Grow.Bx.stays w.heap.size 51 #[.int .i64 xp, .string xt, .bool xb]) ⟨rfl, HB1.out.drewN 1⟩) ?_
  refine Grow.grow_move (.tmp 0) (.inl rfl) (.inl ⟨rfl, rfl⟩) rfl (Grow.Vx.stays _ _) ?_
  refine Grow.grow_call1 (Φ := Grow.Is (.int .i64 z)) rfl (.inl ⟨rfl, rfl⟩) Try.func41 (by kernel_rfl) (by kernel_rfl) (Ψ := Grow.Vx (.slice A l.length c) l) rfl (Grow.Is.stays _) (fun v W _ hv => by
    obtain ⟨rfl, hv⟩ := hv
    refine (HLP.out W hv).mono ?_
    rintro e w' ⟨he, rfl⟩
    exact ⟨_, he, Gr.refl _, rfl⟩) ?_
  refine Grow.grow_row rfl (.inl ⟨rfl, rfl⟩) rfl Try.underlying51 rfl (by kernel_rfl) ?_
  refine Grow.grow_call2 (Φ := Grow.Is (.bool (decide (xp ≤ z)))) rfl (.inl ⟨rfl, rfl⟩) Try.func70 (by kernel_rfl) (by kernel_rfl) (Ψ := Grow.Is (.int .i64 z)) (Ψ' := Grow.Is (.agg #[.int .i64 xp, .string xt, .bool xb])) rfl rfl (Grow.Is.stays _) (fun v u W _ hv hu => by
    subst hv hu
    exact (has_ok z xp xt xb W).mono fun e w' ⟨he, hg⟩ => ⟨_, he, hg, rfl⟩) ?_
  intro a1 w1 hg1 hs1 hd1 hu1 hk1
  have h8 : a1.tmps.getD 8 undef = .bool (decide (xp ≤ z)) := hk1 8
  obtain ⟨X, hX, hlay⟩ := Grow.lay_kept_by _ a1 16 _ hs1 hd1 hu1
  rw [hX] at h8
  clear hX hu1 hd1 hs1 hk1
  subst hlay
  simp only [List.range, List.range.loop, List.map_cons, List.map_nil, List.contains_cons, List.contains_nil, Nat.reduceBEq, Bool.or_false, Bool.or_true, cond_false, cond_true, Array.getD_eq_getD_getElem?, List.getElem?_toArray, List.getElem?_cons_zero, List.getElem?_cons_succ, Option.getD_some, h8]
  clear h8
  have HG2 := hide ((HG1.out.drewN 1).trans hg1)
  have HB2 := hide (HB1.out.gr (((Gr.refl W1).drewN 1).trans hg1))
  clear hg1 HG1 HB1
  by_cases hxz : xp ≤ z
  · have HA := hide (show addL l ⟨xp, xt, xb⟩ = l from add_old (by rw [HZ.out]; exact hxz))
    rw [decide_eq_true hxz]
    go_wp2_with fail
    refine (own_ok _ l _ (HV.out.gr HG2.out) (by omega)).mono ?_
    rintro e w3 ⟨u, rfl, ho, hg⟩
    have HO := hide ho
    have HG3 := hide (HG2.out.trans hg)
    obtain ⟨A3, c3, rfl, _⟩ := ho.x.is
    clear ho hg
    go_wp2_with fail
    go_ret
    exact ⟨_, rfl, by rw [HA.out]; exact HO.out.base HG2.out.size, HG3.out⟩
  · have HA := hide (show addL l ⟨xp, xt, xb⟩ = l ++ [⟨xp, xt, xb⟩] from add_new (by rw [HZ.out]; show z < xp; omega))
    rw [decide_eq_false hxz]
    go_wp2_with fail
    have hlt := HB2.out.lt
    refine Mine.wp_region_mine 16 [11, 12, 13, 14, 15, 4] rfl (by kernel_rfl) (by kernel_rfl) (by kernel_rfl) (ob0 := none)
      (Mine.Ahead.more (Mine.Ahead.more (Mine.Ahead.none_ _ _ _) 0 (Mine.RdR.stays 3 (l.map verC)) (by exact (HV.out.gr (HG2.out.drewN 1)).rd)) 3 (Mine.Bx.stays w.heap.size 51 #[.int .i64 xp, .string xt, .bool xb]) (by exact ⟨rfl, HB2.out.drewN 1, by simp⟩))
      16 (C0 := fun _ _ o => o = none) (fun _ _ _ _ h _ => h) (fun k hk => by cases hk) rfl ?_
    refine Mine.move (.tmp 0) (.inl rfl) rfl (by decide) rfl (Mine.RdR.stays _ _) ?_
    refine Mine.chain_callR (e := 51) (k := 3) (r := l.map verC) rfl rfl rfl (Nat.le_refl _) Try.func68 (by kernel_rfl) (by kernel_rfl) (q := 3) (qs := l.map verC) rfl (fun v W hv => own_ok v l W hv (by omega)) ?_
    refine Mine.load_box rfl rfl (by decide) rfl Try.underlying51 rfl (by kernel_rfl) ?_
    refine Mine.lit1R (e := 51) (cs := [.int .i64 xp, .string xt, .bool xb]) rfl rfl (by decide) rfl (fun W => by kernel_rfl) ?_
    refine Mine.chain_appR rfl rfl rfl Try.underlying52 hi0 hz0 hz1 hz2 rfl (by decide) rfl rfl (fun u hu => ?_) (by rw [List.length_map]; omega) (by rw [List.length_map]; omega) (Nat.le_refl _) ?_
    · simp only [List.mem_cons, List.not_mem_nil, or_false] at hu
      rcases hu with rfl | rfl | rfl <;> rfl
    refine Mine.chain_moveR (.inr rfl) rfl rfl ?_
    intro a2 w2 ob hr hsz hdf hun _ hat
    have hgr : Gr w1 w2 := (Gr.drew (Gr.refl w1)).trans ⟨hr.gb.os, hr.gb.tape, hr.gb.output, hr.gb.size, fun k hk => hr.gb.block k hk (by simp)⟩
    have h4 : VersO w2 w1.heap.size (a2.tmps.getD 4 undef) (l ++ [⟨xp, xt, xb⟩]) := by
      unfold VersO
      rw [List.map_append]
      exact hat.1
    obtain ⟨X, hX, hlay⟩ := Grow.lay_kept_by _ a2 16 _ hsz hdf hun
    rw [hX] at h4
    clear hX hun hdf hsz hat hr
    have HO := hide (h4.base HG2.out.size)
    have HG3 := hide (HG2.out.trans hgr)
    obtain ⟨A4, c4, h5, _⟩ := h4.x.is
    clear h4 hgr
    generalize (l ++ [_]).length = q at h5
    rw [h5] at HO
    subst hlay
    simp only [List.range, List.range.loop, List.map_cons, List.map_nil, List.contains_cons, List.contains_nil, Nat.reduceBEq, Bool.or_false, Bool.or_true, cond_false, cond_true, Array.getD_eq_getD_getElem?, List.getElem?_toArray, List.getElem?_cons_zero, List.getElem?_cons_succ, Option.getD_some, h5]
    clear h5
    go_wp2_with fail
    go_ret
    exact ⟨_, rfl, by rw [HA.out]; exact HO.out, HG3.out⟩

/-! May. -/
/-- what the next one must be above -/
def prevP (l : List VerT) : Nat → Int
  | 0 => 0
  | k + 1 => (l.getD k noVer).pos
theorem may_step {l : List VerT} {k : Nat} (h : k < l.length) : mayFrom (prevP l k) (l.drop k) = (decide (prevP l k < l[k].pos) && valuedV l[k] && mayFrom (prevP l (k + 1)) (l.drop (k + 1))) := by
  rw [List.drop_eq_getElem_cons h, mayFrom, show prevP l (k + 1) = l[k].pos by unfold prevP; simp [h]]
theorem may_end (l : List VerT) : mayFrom (prevP l l.length) (l.drop l.length) = true := by rw [List.drop_length]; rfl

def VerBnd (l : List VerT) : Prop := ∀ v ∈ l, (v.val.size : Int) ≤ 281474976710656

set_option maxHeartbeats 1000000 in
theorem ChainMay_ok (v : Value) (l : List VerT) (w : World) (hv : VersX w v l) (hl : l.length ≤ 1000000000) (hb : VerBnd l) :
    Calls Try.prog 60 #[v] w fun e w' => e = .returned (.bool (mayL l)) ∧ Gr w w' := by
  have HV := hide hv
  have HBN := hide hb
  obtain ⟨A, c, rfl, hc⟩ := hv.is
  clear hv hb
  go_enter Try.func60, Try.ntmps60
  go_wp2_with fail
  go_loopw [3, 8] (fun p i wr => ∃ k : Nat, i = .int .i64 k ∧ p = .int .i64 (prevP l k) ∧ k ≤ l.length ∧ Hid (mayL l = mayFrom (prevP l k) (l.drop k)) ∧ Hid (Gr w wr)) (fun _ i _ => l.length - (intOf i).toNat)
  case atStart => exact ⟨0, rfl, rfl, by omega, rfl, Gr.refl _⟩
  case round =>
    obtain ⟨k, rfl, rfl, hk, HE, HG⟩ := hrel
    by_cases hlt : k < l.length
    · have hlt' : (k : Int) < (l.length : Int) := by omega
      obtain ⟨ad, c', e1, a0, a1, a2⟩ := (HV.out.gr HG.out).at_ hlt
      simp only [Value.slice.injEq, true_and] at e1
      obtain ⟨rfl, rfl⟩ := e1
      have HS := hide (may_step hlt)
      have HP := hide (show prevP l (k + 1) = l[k].pos by unfold prevP; simp [hlt])
      have hsz := HBN.out _ (List.getElem_mem hlt)
      generalize l[k] = x at a0 a1 a2 HS HP hsz
      obtain ⟨xp, xt, xb⟩ := x
      simp only at a0 a1 a2 hsz HP
      generalize hpv : prevP l k = pv at HE HS
      have HH := hide (has_ok pv xp xt xb)
      have HVL := hide (valued_ok xp xt xb hsz)
      go_upto_region 5 with (fail)
      obtain ⟨W1, hW1⟩ : ∃ W1, wr.alloc (.cells #[.int .i64 xp, .string xt, .bool xb] 51) = W1 := ⟨_, rfl⟩
      have hg1 : Gr wr W1 := by rw [← hW1]; exact (Gr.refl _).alloc _
      have hb1 : Bl W1 wr.heap.size 51 #[.int .i64 xp, .string xt, .bool xb] := by rw [← hW1]; exact Bl.new _ _ _
      rw [hW1]
      clear hW1 a0 a1 a2 hsz
      have HB1 := hide hb1
      have HG1 := hide (HG.out.trans hg1)
      have k0 : W1.cell? ⟨wr.heap.size, 0, none⟩ = some (.int .i64 xp) := hb1.cell 0
      have k1 : W1.cell? ⟨wr.heap.size, 1, none⟩ = some (.string xt) := hb1.cell 1
      have k2 : W1.cell? ⟨wr.heap.size, 2, none⟩ = some (.bool xb) := hb1.cell 2
      clear hg1 hb1 HG
      go_wp2_with fail
      refine (HH.out _).mono ?_
      rintro e w2 ⟨rfl, hg2⟩
      have HB2 := hide (HB1.out.gr hg2)
      have HG2 := hide (HG1.out.trans hg2)
      have m0 : w2.cell? ⟨wr.heap.size, 0, none⟩ = some (.int .i64 xp) := HB2.out.cell 0
      have m1 : w2.cell? ⟨wr.heap.size, 1, none⟩ = some (.string xt) := HB2.out.cell 1
      have m2 : w2.cell? ⟨wr.heap.size, 2, none⟩ = some (.bool xb) := HB2.out.cell 2
      clear hg2 k0 k1 k2 HB1 HG1
      by_cases hx : xp ≤ pv
      · have HR := hide (show mayL l = false from HE.out.trans (HS.out.trans (by rw [decide_eq_false (show ¬ pv < xp by omega)]; rfl)))
        rw [decide_eq_true hx]
        clear HE HS HP hpv
        go_wp2_with fail
        go_ret
        exact ⟨by rw [HR.out]; rfl, HG2.out⟩
      · rw [decide_eq_false hx]
        have HE1 := hide (show mayL l = (valuedV ⟨xp, xt, xb⟩ && mayFrom (prevP l (k + 1)) (l.drop (k + 1))) from HE.out.trans (HS.out.trans (by rw [decide_eq_true (show pv < xp by omega), Bool.true_and])))
        clear HE HS
        go_wp2_with fail
        refine (HVL.out _).mono ?_
        rintro e w3 ⟨rfl, hg3⟩
        have HG3 := hide (HG2.out.trans hg3)
        have n0 : w3.cell? ⟨wr.heap.size, 0, none⟩ = some (.int .i64 xp) := (HB2.out.gr hg3).cell 0
        clear hg3 m0 m1 m2 HB2 HG2
        cases hvl : valuedV ⟨xp, xt, xb⟩
        · have HR := hide (show mayL l = false from HE1.out.trans (by rw [hvl]; rfl))
          clear HE1 hvl HP hpv
          go_wp2_with fail
          go_ret
          exact ⟨by rw [HR.out]; rfl, HG3.out⟩
        · have HR := hide (show mayL l = mayFrom (prevP l (k + 1)) (l.drop (k + 1)) from HE1.out.trans (by rw [hvl]; rfl))
          clear HE1 hvl
          go_wp2_with fail
          go_roundw
          case rel => exact ⟨k + 1, by go_num, by rw [HP], by omega, HR, HG3⟩
          case measure => simp [intOf]; omega
    · obtain rfl : k = l.length := by omega
      have HR := hide (HE.out.trans (may_end l))
      clear HE
      go_wp2_with fail
      go_ret
      exact ⟨by rw [HR.out]; rfl, HG.out⟩

end Go.Proofs.Ytbfbghfaeejicaa
