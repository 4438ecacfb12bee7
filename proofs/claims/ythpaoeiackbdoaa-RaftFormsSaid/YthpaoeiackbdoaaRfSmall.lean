/-
  within, mayLog, slices.Equal of numbers and of Booleans.
-/
import Derived.Test.YthpaoeiackbdoaaRfRole
import Derived.Test.YthpaoeiackbdoaaBaseL
import Derived.Test.YthpaoeiackbdoaaEntGrow
import Derived.Deep.Cut
namespace Go.Proofs.Ythpaoeiackbdoaa
open Go Go.RowKit TxnMath KeyMath MsgMath BalMath RfMath
set_option maxRecDepth 100000

theorem within_ok (v a b : Int) (w : World) : Calls Try.prog 33 #[.int .i64 v, .int .i64 a, .int .i64 b] w fun e w' => e = .returned (.bool (withinB v a b)) ∧ w' = w := by
  have HB : Hid (withinB v a b = (decide (a ≤ v) && decide (v ≤ b))) := rfl
  go_enter Try.func33, Try.ntmps33
  by_cases h1 : a ≤ v
  · by_cases h2 : v ≤ b
    · go_wp2_with fail
      go_ret
      exact ⟨by rw [HB.out]; simp [h1, h2], rfl⟩
    · go_wp2_with fail
      go_ret
      exact ⟨by rw [HB.out, decide_eq_false (show ¬ v ≤ b by omega), Bool.and_false]; rfl, rfl⟩
  · go_wp2_with fail
    go_ret
    exact ⟨by rw [HB.out, decide_eq_false (show ¬ a ≤ v by omega)]; rfl, rfl⟩

/-- what the next one must not be below -/
def prevT (l : List EntT) : Nat → Int
  | 0 => 1
  | k + 1 => (l[k]?.map EntT.term).getD 0
theorem mayF_step {t : Int} {l : List EntT} {k : Nat} (h : k < l.length) : mayFrom t (prevT l k) (l.drop k) = (withinB l[k].term (prevT l k) t && mayFrom t (prevT l (k + 1)) (l.drop (k + 1))) := by
  rw [List.drop_eq_getElem_cons h, mayFrom, show prevT l (k + 1) = l[k].term by unfold prevT; simp [h]]

set_option maxHeartbeats 1000000 in
theorem mayLog_ok (v : Value) (l : List EntT) (t : Int) (w : World) (hv : EntsX Any w v l) (hl : l.length ≤ 1000000) :
    Calls Try.prog 34 #[v, .int .i64 t] w fun e w' => e = .returned (.bool (mayLogB l t)) ∧ Gr w w' := by
  have HV := hide hv
  obtain ⟨A, c, rfl⟩ := hv.is
  clear hv
  go_enter Try.func34, Try.ntmps34
  by_cases hbig : 200 < l.length
  · have hb' : (200 : Int) < (l.length : Int) := by omega
    have HD : Hid (mayLogB l t = false) := by unfold Hid mayLogB; rw [decide_eq_false (by omega)]; rfl
    go_wp2_with fail
    go_ret
    exact ⟨by rw [HD.out]; rfl, Gr.refl _⟩
  · have hb' : ¬ (200 : Int) < (l.length : Int) := by omega
    have HD : Hid (mayLogB l t = mayFrom t (prevT l 0) (l.drop 0)) := by unfold Hid mayLogB; rw [decide_eq_true (by omega)]; rfl
    go_wp2_with fail
    go_loopw [5, 13] (fun p i wr => ∃ k : Nat, i = .int .i64 k ∧ p = .int .i64 (prevT l k) ∧ k ≤ l.length ∧ Hid (mayLogB l t = mayFrom t (prevT l k) (l.drop k)) ∧ Hid (Gr w wr)) (fun _ i _ => l.length - (intOf i).toNat)
    case atStart => exact ⟨0, rfl, rfl, by omega, HD, Gr.refl _⟩
    case round =>
      obtain ⟨k, rfl, rfl, hk, HE, HG⟩ := hrel
      by_cases hlt : k < l.length
      · have hlt' : (k : Int) < (l.length : Int) := by omega
        obtain ⟨ad, c', p, e1, hrw, a0, a1, a2, a3, a4, a5⟩ := (HV.out.gr HG.out).ent hlt
        simp only [Value.slice.injEq, true_and] at e1
        obtain ⟨rfl, rfl⟩ := e1
        have HS := hide (mayF_step (t := t) hlt)
        have HP := hide (show prevT l (k + 1) = l[k].term by unfold prevT; simp [hlt])
        obtain ⟨A1, c1, e1⟩ := hrw.rd.sl
        obtain ⟨A2, c2, e2⟩ := hrw.wr.sl
        rw [e1] at a4
        rw [e2] at a5
        generalize (l[k].t.reads.map rdC).length = n1 at a4
        generalize (l[k].t.writes.map wrC).length = n2 at a5
        clear hrw e1 e2
        generalize l[k] = x at a0 a1 a2 a3 HS HP
        obtain ⟨xt, xs, xx⟩ := x
        simp only at a0 a1 a2 a3 HP
        generalize hpv : prevT l k = pv at HE HS
        have HW := hide (within_ok xt pv t)
        go_upto_region 7 with (fail)
        obtain ⟨W1, hW1⟩ : ∃ W1, wr.alloc (.cells #[.int .i64 xt, .bool xs, .int .i64 xx.ses, .int .i64 xx.seq, .slice A1 n1 c1, .slice A2 n2 c2] 38) = W1 := ⟨_, rfl⟩
        have hg1 : Gr wr W1 := by rw [← hW1]; exact (Gr.refl _).alloc _
        have hb1 : Bl W1 wr.heap.size 38 #[.int .i64 xt, .bool xs, .int .i64 xx.ses, .int .i64 xx.seq, .slice A1 n1 c1, .slice A2 n2 c2] := by rw [← hW1]; exact Bl.new _ _ _
        rw [hW1]
        have b0 : W1.cell? ⟨wr.heap.size, 0, none⟩ = some (.int .i64 xt) := hb1.cell 0
        have HG1 := hide (HG.out.trans hg1)
        clear hW1 hg1 hb1 a0 a1 a2 a3 a4 a5
        go_wp2_with fail
        refine (HW.out W1).mono ?_
        rintro e w2 ⟨rfl, rfl⟩
        cases hwi : withinB xt pv t
        · have HR := hide (show mayLogB l t = false from HE.out.trans (HS.out.trans (by rw [hwi]; rfl)))
          clear HE HS HP hpv hwi
          go_wp2_with fail
          go_ret
          exact ⟨by rw [HR.out]; rfl, HG1.out⟩
        · have HR := hide (show mayLogB l t = mayFrom t (prevT l (k + 1)) (l.drop (k + 1)) from HE.out.trans (HS.out.trans (by rw [hwi]; rfl)))
          clear HE HS hpv hwi
          go_wp2_with fail
          go_roundw
          case rel => exact ⟨k + 1, by go_num, by rw [HP.out], by omega, HR, HG1⟩
          case measure => simp [intOf]; omega
      · obtain rfl : k = l.length := by omega
        have HR := hide (show mayLogB l t = true by rw [HE.out, List.drop_length]; rfl)
        clear HE
        go_wp2_with fail
        go_ret
        exact ⟨by rw [HR.out]; rfl, HG.out⟩

theorem eq_step {α : Type} [DecidableEq α] {a b : List α} (hl : a.length = b.length) :
    (∀ k (h : k < a.length), a.take k = b.take k → a[k] = b[k]'(by omega) → a.take (k + 1) = b.take (k + 1)) ∧ (∀ k (h : k < a.length), a[k] ≠ b[k]'(by omega) → decide (a = b) = false) ∧ (a.take a.length = b.take a.length → decide (a = b) = true) := by
  refine ⟨fun k h e1 e2 => ?_, fun k h e => decide_eq_false fun e2 => e (by subst e2; rfl), fun e => decide_eq_true ?_⟩
  · rw [List.take_succ_eq_append_getElem h, List.take_succ_eq_append_getElem (by omega), e1, e2]
  · rwa [List.take_length, hl, List.take_length] at e
theorem IntsX.is' {w : World} {v : Value} {l : List Int} (h : IntsX w v l) : ∃ A c, v = .slice A l.length c ∧ ∀ j (hj : j < l.length), ∃ ad, A = some ad ∧ w.cell? (ad.add j) = some (iv l[j]) := by
  obtain ⟨A, c, h1, _, h2⟩ := h.is
  exact ⟨A, c, h1, h2⟩
theorem BoolsX.is' {w : World} {v : Value} {l : List Bool} (h : BoolsX w v l) : ∃ A c, v = .slice A l.length c ∧ ∀ j (hj : j < l.length), ∃ ad, A = some ad ∧ w.cell? (ad.add j) = some (.bool l[j]) := h.is

set_option maxHeartbeats 1000000 in
theorem Equal_ints (v u : Value) (a b : List Int) (w : World) (hv : IntsX w v a) (hu : IntsX w u b) (ha : a.length ≤ 1000000) :
    Calls Try.prog 37 #[v, u] w fun e w' => e = .returned (.bool (decide (a = b))) ∧ Gr w w' := by
  have HV := hide hv
  have HU := hide hu
  obtain ⟨A, c, rfl, hva⟩ := hv.is'
  obtain ⟨B, d, rfl, hub⟩ := hu.is'
  clear hv hu hva hub
  go_enter Try.func37, Try.ntmps37
  by_cases hl : a.length = b.length
  · have HR := hide (eq_step (a := a) (b := b) hl)
    rw [← hl] at HU ⊢
    go_wp2_with fail
    go_loopw [13] (fun i wr => ∃ k : Nat, i = .int .i64 k ∧ k ≤ a.length ∧ Hid (a.take k = b.take k) ∧ Hid (Gr w wr)) (fun i _ => a.length - (intOf i).toNat)
    case atStart => exact ⟨0, rfl, by omega, by unfold Hid; simp, Gr.refl _⟩
    case round =>
      obtain ⟨k, rfl, hk, HT, HG⟩ := hrel
      by_cases hlt : k < a.length
      · have hlt' : (k : Int) < (a.length : Int) := by omega
        obtain ⟨A', c', e1, hca⟩ := (HV.out.gr HG.out).is'
        simp only [Value.slice.injEq, true_and] at e1
        obtain ⟨rfl, rfl⟩ := e1
        obtain ⟨ad, rfl, ca⟩ := hca k hlt
        obtain ⟨B', d', e2, hcb⟩ := (HU.out.gr HG.out).is'
        simp only [Value.slice.injEq] at e2
        obtain ⟨rfl, _, rfl⟩ := e2
        obtain ⟨bd, rfl, cb⟩ := hcb k (by omega)
        clear hca hcb
        have HS := hide (HR.out.1 k hlt HT.out)
        have HN := hide (HR.out.2.1 k hlt)
        generalize a[k] = x at ca HS HN
        generalize b[k]'(by omega) = y at cb HS HN
        unfold iv at ca cb
        by_cases hxy : x = y
        · subst hxy
          have HS2 := hide (HS.out rfl)
          clear HS HN
          go_wp2_with fail
          go_quiet (fail)
          go_wp2_with fail
          go_roundw
          case rel => exact ⟨k + 1, by go_num, by omega, HS2, HG.out.trans ((Gr.refl _).drewN _)⟩
          case measure => simp [intOf]; omega
        · have hxy' : (x == y) = false := by rw [beq_eq_false_iff_ne]; exact hxy
          have HD := hide (HN.out hxy)
          clear HS HN
          go_wp2_with fail
          go_quiet (fail)
          go_wp2_with fail
          go_ret
          exact ⟨by rw [HD.out]; rfl, HG.out.trans ((Gr.refl _).drewN _)⟩
      · obtain rfl : k = a.length := by omega
        have HD := hide (HR.out.2.2 HT.out)
        clear HR
        go_wp2_with fail
        go_ret
        exact ⟨by rw [HD.out]; rfl, HG.out⟩
  · have HD : Hid (decide (a = b) = false) := decide_eq_false fun e => hl (by rw [e])
    have hl' : ((a.length : Int) == (b.length : Int)) = false := by rw [beq_eq_false_iff_ne]; omega
    go_wp2_with fail
    go_ret
    exact ⟨by rw [HD.out]; rfl, Gr.refl _⟩

set_option maxHeartbeats 1000000 in
theorem Equal_bools (v u : Value) (a b : List Bool) (w : World) (hv : BoolsX w v a) (hu : BoolsX w u b) (ha : a.length ≤ 1000000) :
    Calls Try.prog 36 #[v, u] w fun e w' => e = .returned (.bool (decide (a = b))) ∧ Gr w w' := by
  have HV := hide hv
  have HU := hide hu
  obtain ⟨A, c, rfl, hva⟩ := hv.is
  obtain ⟨B, d, rfl, hub⟩ := hu.is
  clear hv hu hva hub
  go_enter Try.func36, Try.ntmps36
  by_cases hl : a.length = b.length
  · have HR := hide (eq_step (a := a) (b := b) hl)
    rw [← hl] at HU ⊢
    go_wp2_with fail
    go_loopw [13] (fun i wr => ∃ k : Nat, i = .int .i64 k ∧ k ≤ a.length ∧ Hid (a.take k = b.take k) ∧ Hid (Gr w wr)) (fun i _ => a.length - (intOf i).toNat)
    case atStart => exact ⟨0, rfl, by omega, by unfold Hid; simp, Gr.refl _⟩
    case round =>
      obtain ⟨k, rfl, hk, HT, HG⟩ := hrel
      by_cases hlt : k < a.length
      · have hlt' : (k : Int) < (a.length : Int) := by omega
        obtain ⟨A', c', e1, hca⟩ := (HV.out.gr HG.out).is'
        simp only [Value.slice.injEq, true_and] at e1
        obtain ⟨rfl, rfl⟩ := e1
        obtain ⟨ad, rfl, ca⟩ := hca k hlt
        obtain ⟨B', d', e2, hcb⟩ := (HU.out.gr HG.out).is'
        simp only [Value.slice.injEq] at e2
        obtain ⟨rfl, _, rfl⟩ := e2
        obtain ⟨bd, rfl, cb⟩ := hcb k (by omega)
        clear hca hcb
        have HS := hide (HR.out.1 k hlt HT.out)
        have HN := hide (HR.out.2.1 k hlt)
        generalize a[k] = x at ca HS HN
        generalize b[k]'(by omega) = y at cb HS HN
        by_cases hxy : x = y
        · subst hxy
          have HS2 := hide (HS.out rfl)
          clear HS HN
          go_wp2_with fail
          go_quiet (fail)
          go_wp2_with fail
          go_roundw
          case rel => exact ⟨k + 1, by go_num, by omega, HS2, HG.out.trans ((Gr.refl _).drewN _)⟩
          case measure => simp [intOf]; omega
        · have hxy' : (x == y) = false := by rw [beq_eq_false_iff_ne]; exact hxy
          have HD := hide (HN.out hxy)
          clear HS HN
          go_wp2_with fail
          go_quiet (fail)
          go_wp2_with fail
          go_ret
          exact ⟨by rw [HD.out]; rfl, HG.out.trans ((Gr.refl _).drewN _)⟩
      · obtain rfl : k = a.length := by omega
        have HD := hide (HR.out.2.2 HT.out)
        clear HR
        go_wp2_with fail
        go_ret
        exact ⟨by rw [HD.out]; rfl, HG.out⟩
  · have HD : Hid (decide (a = b) = false) := decide_eq_false fun e => hl (by rw [e])
    have hl' : ((a.length : Int) == (b.length : Int)) = false := by rw [beq_eq_false_iff_ne]; omega
    go_wp2_with fail
    go_ret
    exact ⟨by rw [HD.out]; rfl, Gr.refl _⟩

end Go.Proofs.Ythpaoeiackbdoaa

/-
  May, Same.
-/
namespace Go.Proofs.Ythpaoeiackbdoaa.Grow
open Go Go.RowKit Go.Proofs.Ythpaoeiackbdoaa TxnMath KeyMath MsgMath BalMath RfMath
set_option maxRecDepth 100000
/-- Booleans that read so; numbers -/
abbrev Bo (l : List Bool) : Known := fun v w => BoolsX w v l
theorem Bo.stays (l : List Bool) : Stays (Bo l) := fun _ _ _ h hg => BoolsX.gr h hg
abbrev Nu (l : List Int) : Known := fun v w => IntsX w v l
theorem Nu.stays (l : List Int) : Stays (Nu l) := fun _ _ _ h hg => IntsX.gr h hg
variable {w0 : World}
theorem kWithin {v a b : Int} : ∀ x y z w, Gr w0 w → Is (.int .i64 v) x w → Is (.int .i64 a) y w → Is (.int .i64 b) z w → Calls Try.prog 33 #[x, y, z] w fun e w' => ∃ u, e = .returned u ∧ Gr w w' ∧ Is (.bool (withinB v a b)) u w' := fun x y z w _ hx hy hz => by
  obtain rfl : x = _ := hx
  obtain rfl : y = _ := hy
  obtain rfl : z = _ := hz
  exact (within_ok v a b w).mono fun e w' ⟨he, hw⟩ => ⟨_, he, hw ▸ Gr.refl _, rfl⟩
theorem kMayLog {l : List EntT} {t : Int} (hl : l.length ≤ 1000000) : ∀ x y w, Gr w0 w → En l x w → Is (.int .i64 t) y w → Calls Try.prog 34 #[x, y] w fun e w' => ∃ u, e = .returned u ∧ Gr w w' ∧ Is (.bool (mayLogB l t)) u w' := fun x y w _ hx hy => by
  obtain rfl : y = _ := hy
  exact (mayLog_ok x l t w hx hl).mono fun e w' ⟨he, hg⟩ => ⟨_, he, hg, rfl⟩
theorem kEqB {a b : List Bool} (ha : a.length ≤ 1000000) : ∀ x y w, Gr w0 w → Bo a x w → Bo b y w → Calls Try.prog 36 #[x, y] w fun e w' => ∃ u, e = .returned u ∧ Gr w w' ∧ Is (.bool (decide (a = b))) u w' := fun x y w _ hx hy =>
  (Equal_bools x y a b w hx hy ha).mono fun _ _ ⟨he, hg⟩ => ⟨_, he, hg, rfl⟩
theorem kEqI {a b : List Int} (ha : a.length ≤ 1000000) : ∀ x y w, Gr w0 w → Nu a x w → Nu b y w → Calls Try.prog 37 #[x, y] w fun e w' => ∃ u, e = .returned u ∧ Gr w w' ∧ Is (.bool (decide (a = b))) u w' := fun x y w _ hx hy =>
  (Equal_ints x y a b w hx hy ha).mono fun _ _ ⟨he, hg⟩ => ⟨_, he, hg, rfl⟩
theorem kUSame {a b : List EntT} (ha : a.length ≤ 10000 ∧ ∀ e ∈ a, EntBnd e) (hb : b.length ≤ 10000 ∧ ∀ e ∈ b, EntBnd e) : ∀ x y w, Gr w0 w → En a x w → En b y w → Calls Try.prog 35 #[x, y] w fun e w' => ∃ u, e = .returned u ∧ Gr w w' ∧ Is (.bool (decide (a = b))) u w' := fun x y w _ hx hy =>
  (Same_ok x y a b w hx hy (by have := ha.1; omega) (by have := hb.1; omega) ha.2 hb.2).mono fun e w' ⟨he, hg⟩ => ⟨_, he, hg, rfl⟩
end Go.Proofs.Ythpaoeiackbdoaa.Grow

namespace Go.Proofs.Ythpaoeiackbdoaa
open Go Go.RowKit TxnMath KeyMath MsgMath BalMath RfMath
set_option maxRecDepth 100000

/-- a state as a value, and what lies behind it -/
structure RaftR (X : Nat → Prop) (w : World) (r : RaftT) (R : RowsM) : Prop where
  l : EntsX X w R.l r.log
  v : BoolsX w R.v r.votes
  n : IntsX w R.n r.next
  m : IntsX w R.m r.mtch
theorem RaftR.gr {X : Nat → Prop} {w w' : World} {r : RaftT} {R : RowsM} (h : RaftR X w r R) (hg : Gr w w') : RaftR X w' r R := ⟨h.l.gr hg, h.v.gr hg, h.n.gr hg, h.m.gr hg⟩
/-- sizes that the calls keep to -/
structure RfSz (r : RaftT) : Prop where
  log : r.log.length ≤ 10000
  bnd : ∀ e ∈ r.log, EntBnd e
  votes : r.votes.length ≤ 10000
  next : r.next.length ≤ 10000
  mtch : r.mtch.length ≤ 10000

set_option maxHeartbeats 4000000 in
theorem May_ok (w : World) (r : RaftT) (R : RowsM) (h : RaftR Any w r R) (hs : RfSz r) :
    Calls Try.prog 15 #[.agg (rfC r R).toArray] w fun e w' => e = .returned (.bool (mayR r)) ∧ Gr w w' := by
  obtain ⟨vl, vv, vn, vm, vq, vlo⟩ := R
  have HL := hide (h.l.gr ((Gr.refl w).alloc (.cells #[.int .i64 r.me, .int .i64 r.nodes, .int .i64 r.wait, .int .i64 r.term, .int .i64 r.vote, vl, .int .i64 r.commit, .int .i64 r.role, .int .i64 r.leader, vv, vn, vm, .int .i64 r.clock] 28)))
  have HV := hide (h.v.gr ((Gr.refl w).alloc (.cells #[.int .i64 r.me, .int .i64 r.nodes, .int .i64 r.wait, .int .i64 r.term, .int .i64 r.vote, vl, .int .i64 r.commit, .int .i64 r.role, .int .i64 r.leader, vv, vn, vm, .int .i64 r.clock] 28)))
  have HN := hide (h.n.gr ((Gr.refl w).alloc (.cells #[.int .i64 r.me, .int .i64 r.nodes, .int .i64 r.wait, .int .i64 r.term, .int .i64 r.vote, vl, .int .i64 r.commit, .int .i64 r.role, .int .i64 r.leader, vv, vn, vm, .int .i64 r.clock] 28)))
  have HX := hide (h.m.gr ((Gr.refl w).alloc (.cells #[.int .i64 r.me, .int .i64 r.nodes, .int .i64 r.wait, .int .i64 r.term, .int .i64 r.vote, vl, .int .i64 r.commit, .int .i64 r.role, .int .i64 r.leader, vv, vn, vm, .int .i64 r.clock] 28)))
  have HLEN := hide (show r.log.length ≤ 1000000 by have := hs.log; omega)
  have HD : Hid (mayR r = ((((((((((((withinB r.nodes 1 5 && withinB r.me 1 r.nodes) && withinB r.wait 1 60) && (decide (r.term ≥ 0))) && withinB r.vote 0 r.nodes) && withinB r.leader 0 r.nodes) && mayLogB r.log r.term) && withinB r.commit 0 (r.log.length : Int)) && withinB r.role 0 2) && ((r.votes.length : Int) == r.nodes)) && ((r.next.length : Int) == r.nodes)) && ((r.mtch.length : Int) == r.nodes)) && (decide (r.clock ≥ 0)))) := rfl
  clear h hs
  obtain ⟨res, hres⟩ : ∃ res, mayR r = res := ⟨_, rfl⟩
  rw [hres] at HD ⊢
  clear hres
  simp only [rfC] at HL HV HN HX ⊢
  go_enter Try.func15, Try.ntmps15
  go_upto_region 1 with (fail)
  have hb1 : Bl (w.alloc (.cells #[.int .i64 r.me, .int .i64 r.nodes, .int .i64 r.wait, .int .i64 r.term, .int .i64 r.vote, vl, .int .i64 r.commit, .int .i64 r.role, .int .i64 r.leader, vv, vn, vm, .int .i64 r.clock] 28)) w.heap.size 28 #[.int .i64 r.me, .int .i64 r.nodes, .int .i64 r.wait, .int .i64 r.term, .int .i64 r.vote, vl, .int .i64 r.commit, .int .i64 r.role, .int .i64 r.leader, vv, vn, vm, .int .i64 r.clock] := Bl.new _ _ _
  have hg1 : Gr w (w.alloc (.cells #[.int .i64 r.me, .int .i64 r.nodes, .int .i64 r.wait, .int .i64 r.term, .int .i64 r.vote, vl, .int .i64 r.commit, .int .i64 r.role, .int .i64 r.leader, vv, vn, vm, .int .i64 r.clock] 28)) := (Gr.refl _).alloc _
  obtain ⟨W1, hW1⟩ : ∃ W1, w.alloc (.cells #[.int .i64 r.me, .int .i64 r.nodes, .int .i64 r.wait, .int .i64 r.term, .int .i64 r.vote, vl, .int .i64 r.commit, .int .i64 r.role, .int .i64 r.leader, vv, vn, vm, .int .i64 r.clock] 28) = W1 := ⟨_, rfl⟩
  rw [hW1] at HL HV HN HX hb1 hg1 ⊢
  clear hW1
  refine Grow.wp_region_text 86 [2, 3, 4, 5, 6, 7, 8, 9, 10, 11, 12, 13, 14, 15, 16, 17, 18, 19, 20, 21, 22, 23, 24, 25, 26, 27, 28, 29, 30, 31, 32, 33, 34, 35, 36, 37, 38, 39, 40, 41, 42, 43, 44, 45, 46, 47, 48, 49, 50, 51, 52, 53, 54, 55, 56, 57, 58, 59, 60, 61, 62, 63, 64, 65, 66, 67, 68, 69, 70, 71, 72, 73, 74, 75, 76, 77, 78, 79, 80, 81, 82, 83, 84, 85] rfl (by kernel_rfl) (by kernel_rfl) (Grow.Ahead.more (Grow.Ahead.none_ _ _) 1 (Grow.Bx.stays w.heap.size 28 #[.int .i64 r.me, .int .i64 r.nodes, .int .i64 r.wait, .int .i64 r.term, .int .i64 r.vote, vl, .int .i64 r.commit, .int .i64 r.role, .int .i64 r.leader, vv, vn, vm, .int .i64 r.clock]) ⟨rfl, hb1⟩) ?_
  refine Grow.grow_field (j := 1) (u := .int .i64 r.nodes) (Ψ := (Grow.Is (.int .i64 r.nodes))) rfl (.inl ⟨rfl, rfl⟩) rfl (fun w => by kernel_rfl) rfl (Grow.Is.stays _) (fun _ _ => rfl) ?_
  refine Grow.grow_load_k rfl (fun w => by kernel_rfl) (.inl ⟨rfl, rfl⟩) rfl (Grow.Is.stays _) ?_
  refine Grow.grow_call3 (Φ := Grow.Is (.bool (withinB r.nodes 1 5))) rfl (.inl ⟨rfl, rfl⟩) Try.func33 (by kernel_rfl) (by kernel_rfl) (Ψ := (Grow.Is (.int .i64 r.nodes))) (Ψ' := (Grow.Is (.int .i64 1))) (Ψ'' := (Grow.Is (.int .i64 5))) (rfl) ((fun _ => rfl)) ((fun _ => rfl)) (Grow.Is.stays _) (Grow.kWithin) ?_
  refine Grow.grow_mv (.inl rfl) (.inl ⟨rfl, rfl⟩) rfl ?_
  refine Grow.cd_field (j := 0) (u := .int .i64 r.me) (Ψ := (Grow.Is (.int .i64 r.me))) (b := withinB r.nodes 1 5) rfl (.inl ⟨3, 6, rfl, rfl, rfl, by decide⟩) (.inl rfl) (fun w => by kernel_rfl) rfl (Grow.Is.stays _) (fun _ _ => rfl) ?_
  refine Grow.cd_load (b := withinB r.nodes 1 5) rfl (fun w => by kernel_rfl) (.inl ⟨3, 6, rfl, rfl, rfl, by decide⟩) (.inr rfl) (Grow.Is.stays _) ?_
  refine Grow.cd_field (j := 1) (u := .int .i64 r.nodes) (Ψ := (Grow.Is (.int .i64 r.nodes))) (b := withinB r.nodes 1 5) rfl (.inl ⟨3, 6, rfl, rfl, rfl, by decide⟩) (.inl rfl) (fun w => by kernel_rfl) rfl (Grow.Is.stays _) (fun _ _ => rfl) ?_
  refine Grow.cd_load (b := withinB r.nodes 1 5) rfl (fun w => by kernel_rfl) (.inl ⟨3, 6, rfl, rfl, rfl, by decide⟩) (.inr rfl) (Grow.Is.stays _) ?_
  refine Grow.cd_call3 (Φ := Grow.Is (.bool (withinB r.me 1 r.nodes))) (b := withinB r.nodes 1 5) rfl (.inl ⟨3, 6, rfl, rfl, rfl, by decide⟩) Try.func33 (by kernel_rfl) (by kernel_rfl) (Ψ := (Grow.Is (.int .i64 r.me))) (Ψ' := (Grow.Is (.int .i64 1))) (Ψ'' := (Grow.Is (.int .i64 r.nodes))) (.inr rfl) ((fun _ => rfl)) (.inr rfl) (Grow.Is.stays _) (Grow.kWithin) ?_
  refine Grow.pick_and (b := withinB r.nodes 1 5) rfl rfl rfl (.inr rfl) ?_
  refine Grow.grow_mv (.inl rfl) (.inl ⟨rfl, rfl⟩) rfl ?_
  refine Grow.cd_field (j := 2) (u := .int .i64 r.wait) (Ψ := (Grow.Is (.int .i64 r.wait))) (b := (withinB r.nodes 1 5 && withinB r.me 1 r.nodes)) rfl (.inl ⟨10, 13, rfl, rfl, rfl, by decide⟩) (.inl rfl) (fun w => by kernel_rfl) rfl (Grow.Is.stays _) (fun _ _ => rfl) ?_
  refine Grow.cd_load (b := (withinB r.nodes 1 5 && withinB r.me 1 r.nodes)) rfl (fun w => by kernel_rfl) (.inl ⟨10, 13, rfl, rfl, rfl, by decide⟩) (.inr rfl) (Grow.Is.stays _) ?_
  refine Grow.cd_call3 (Φ := Grow.Is (.bool (withinB r.wait 1 60))) (b := (withinB r.nodes 1 5 && withinB r.me 1 r.nodes)) rfl (.inl ⟨10, 13, rfl, rfl, rfl, by decide⟩) Try.func33 (by kernel_rfl) (by kernel_rfl) (Ψ := (Grow.Is (.int .i64 r.wait))) (Ψ' := (Grow.Is (.int .i64 1))) (Ψ'' := (Grow.Is (.int .i64 60))) (.inr rfl) ((fun _ => rfl)) ((fun _ => rfl)) (Grow.Is.stays _) (Grow.kWithin) ?_
  refine Grow.pick_and (b := (withinB r.nodes 1 5 && withinB r.me 1 r.nodes)) rfl rfl rfl (.inr rfl) ?_
  refine Grow.grow_mv (.inl rfl) (.inl ⟨rfl, rfl⟩) rfl ?_
  refine Grow.cd_field (j := 3) (u := .int .i64 r.term) (Ψ := (Grow.Is (.int .i64 r.term))) (b := ((withinB r.nodes 1 5 && withinB r.me 1 r.nodes) && withinB r.wait 1 60)) rfl (.inl ⟨15, 18, rfl, rfl, rfl, by decide⟩) (.inl rfl) (fun w => by kernel_rfl) rfl (Grow.Is.stays _) (fun _ _ => rfl) ?_
  refine Grow.cd_load (b := ((withinB r.nodes 1 5 && withinB r.me 1 r.nodes) && withinB r.wait 1 60)) rfl (fun w => by kernel_rfl) (.inl ⟨15, 18, rfl, rfl, rfl, by decide⟩) (.inr rfl) (Grow.Is.stays _) ?_
  refine Grow.cd_int (c := .bool (decide (r.term ≥ 0))) (b := ((withinB r.nodes 1 5 && withinB r.me 1 r.nodes) && withinB r.wait 1 60)) rfl (.inl ⟨15, 18, rfl, rfl, rfl, by decide⟩) (.inr rfl) ((fun _ => rfl)) (by rw [show binOp .geq _ _ _ = pure (.bool (decide (r.term ≥ 0))) from rfl]) ?_
  refine Grow.pick_and (b := ((withinB r.nodes 1 5 && withinB r.me 1 r.nodes) && withinB r.wait 1 60)) rfl rfl rfl (.inr rfl) ?_
  refine Grow.grow_mv (.inl rfl) (.inl ⟨rfl, rfl⟩) rfl ?_
  refine Grow.cd_field (j := 4) (u := .int .i64 r.vote) (Ψ := (Grow.Is (.int .i64 r.vote))) (b := (((withinB r.nodes 1 5 && withinB r.me 1 r.nodes) && withinB r.wait 1 60) && (decide (r.term ≥ 0)))) rfl (.inl ⟨20, 23, rfl, rfl, rfl, by decide⟩) (.inl rfl) (fun w => by kernel_rfl) rfl (Grow.Is.stays _) (fun _ _ => rfl) ?_
  refine Grow.cd_load (b := (((withinB r.nodes 1 5 && withinB r.me 1 r.nodes) && withinB r.wait 1 60) && (decide (r.term ≥ 0)))) rfl (fun w => by kernel_rfl) (.inl ⟨20, 23, rfl, rfl, rfl, by decide⟩) (.inr rfl) (Grow.Is.stays _) ?_
  refine Grow.cd_field (j := 1) (u := .int .i64 r.nodes) (Ψ := (Grow.Is (.int .i64 r.nodes))) (b := (((withinB r.nodes 1 5 && withinB r.me 1 r.nodes) && withinB r.wait 1 60) && (decide (r.term ≥ 0)))) rfl (.inl ⟨20, 23, rfl, rfl, rfl, by decide⟩) (.inl rfl) (fun w => by kernel_rfl) rfl (Grow.Is.stays _) (fun _ _ => rfl) ?_
  refine Grow.cd_load (b := (((withinB r.nodes 1 5 && withinB r.me 1 r.nodes) && withinB r.wait 1 60) && (decide (r.term ≥ 0)))) rfl (fun w => by kernel_rfl) (.inl ⟨20, 23, rfl, rfl, rfl, by decide⟩) (.inr rfl) (Grow.Is.stays _) ?_
  refine Grow.cd_call3 (Φ := Grow.Is (.bool (withinB r.vote 0 r.nodes))) (b := (((withinB r.nodes 1 5 && withinB r.me 1 r.nodes) && withinB r.wait 1 60) && (decide (r.term ≥ 0)))) rfl (.inl ⟨20, 23, rfl, rfl, rfl, by decide⟩) Try.func33 (by kernel_rfl) (by kernel_rfl) (Ψ := (Grow.Is (.int .i64 r.vote))) (Ψ' := (Grow.Is (.int .i64 0))) (Ψ'' := (Grow.Is (.int .i64 r.nodes))) (.inr rfl) ((fun _ => rfl)) (.inr rfl) (Grow.Is.stays _) (Grow.kWithin) ?_
  refine Grow.pick_and (b := (((withinB r.nodes 1 5 && withinB r.me 1 r.nodes) && withinB r.wait 1 60) && (decide (r.term ≥ 0)))) rfl rfl rfl (.inr rfl) ?_
  refine Grow.grow_mv (.inl rfl) (.inl ⟨rfl, rfl⟩) rfl ?_
  refine Grow.cd_field (j := 8) (u := .int .i64 r.leader) (Ψ := (Grow.Is (.int .i64 r.leader))) (b := ((((withinB r.nodes 1 5 && withinB r.me 1 r.nodes) && withinB r.wait 1 60) && (decide (r.term ≥ 0))) && withinB r.vote 0 r.nodes)) rfl (.inl ⟨27, 30, rfl, rfl, rfl, by decide⟩) (.inl rfl) (fun w => by kernel_rfl) rfl (Grow.Is.stays _) (fun _ _ => rfl) ?_
  refine Grow.cd_load (b := ((((withinB r.nodes 1 5 && withinB r.me 1 r.nodes) && withinB r.wait 1 60) && (decide (r.term ≥ 0))) && withinB r.vote 0 r.nodes)) rfl (fun w => by kernel_rfl) (.inl ⟨27, 30, rfl, rfl, rfl, by decide⟩) (.inr rfl) (Grow.Is.stays _) ?_
  refine Grow.cd_field (j := 1) (u := .int .i64 r.nodes) (Ψ := (Grow.Is (.int .i64 r.nodes))) (b := ((((withinB r.nodes 1 5 && withinB r.me 1 r.nodes) && withinB r.wait 1 60) && (decide (r.term ≥ 0))) && withinB r.vote 0 r.nodes)) rfl (.inl ⟨27, 30, rfl, rfl, rfl, by decide⟩) (.inl rfl) (fun w => by kernel_rfl) rfl (Grow.Is.stays _) (fun _ _ => rfl) ?_
  refine Grow.cd_load (b := ((((withinB r.nodes 1 5 && withinB r.me 1 r.nodes) && withinB r.wait 1 60) && (decide (r.term ≥ 0))) && withinB r.vote 0 r.nodes)) rfl (fun w => by kernel_rfl) (.inl ⟨27, 30, rfl, rfl, rfl, by decide⟩) (.inr rfl) (Grow.Is.stays _) ?_
  refine Grow.cd_call3 (Φ := Grow.Is (.bool (withinB r.leader 0 r.nodes))) (b := ((((withinB r.nodes 1 5 && withinB r.me 1 r.nodes) && withinB r.wait 1 60) && (decide (r.term ≥ 0))) && withinB r.vote 0 r.nodes)) rfl (.inl ⟨27, 30, rfl, rfl, rfl, by decide⟩) Try.func33 (by kernel_rfl) (by kernel_rfl) (Ψ := (Grow.Is (.int .i64 r.leader))) (Ψ' := (Grow.Is (.int .i64 0))) (Ψ'' := (Grow.Is (.int .i64 r.nodes))) (.inr rfl) ((fun _ => rfl)) (.inr rfl) (Grow.Is.stays _) (Grow.kWithin) ?_
  refine Grow.pick_and (b := ((((withinB r.nodes 1 5 && withinB r.me 1 r.nodes) && withinB r.wait 1 60) && (decide (r.term ≥ 0))) && withinB r.vote 0 r.nodes)) rfl rfl rfl (.inr rfl) ?_
  refine Grow.grow_mv (.inl rfl) (.inl ⟨rfl, rfl⟩) rfl ?_
  refine Grow.cd_field (j := 5) (u := vl) (Ψ := (Grow.En r.log)) (b := (((((withinB r.nodes 1 5 && withinB r.me 1 r.nodes) && withinB r.wait 1 60) && (decide (r.term ≥ 0))) && withinB r.vote 0 r.nodes) && withinB r.leader 0 r.nodes)) rfl (.inl ⟨34, 37, rfl, rfl, rfl, by decide⟩) (.inl rfl) (fun w => by kernel_rfl) rfl (Grow.En.stays _) (fun _ h => HL.out.gr h) ?_
  refine Grow.cd_load (b := (((((withinB r.nodes 1 5 && withinB r.me 1 r.nodes) && withinB r.wait 1 60) && (decide (r.term ≥ 0))) && withinB r.vote 0 r.nodes) && withinB r.leader 0 r.nodes)) rfl (fun w => by kernel_rfl) (.inl ⟨34, 37, rfl, rfl, rfl, by decide⟩) (.inr rfl) (Grow.En.stays _) ?_
  refine Grow.cd_field (j := 3) (u := .int .i64 r.term) (Ψ := (Grow.Is (.int .i64 r.term))) (b := (((((withinB r.nodes 1 5 && withinB r.me 1 r.nodes) && withinB r.wait 1 60) && (decide (r.term ≥ 0))) && withinB r.vote 0 r.nodes) && withinB r.leader 0 r.nodes)) rfl (.inl ⟨34, 37, rfl, rfl, rfl, by decide⟩) (.inl rfl) (fun w => by kernel_rfl) rfl (Grow.Is.stays _) (fun _ _ => rfl) ?_
  refine Grow.cd_load (b := (((((withinB r.nodes 1 5 && withinB r.me 1 r.nodes) && withinB r.wait 1 60) && (decide (r.term ≥ 0))) && withinB r.vote 0 r.nodes) && withinB r.leader 0 r.nodes)) rfl (fun w => by kernel_rfl) (.inl ⟨34, 37, rfl, rfl, rfl, by decide⟩) (.inr rfl) (Grow.Is.stays _) ?_
  refine Grow.cd_call2 (Φ := Grow.Is (.bool (mayLogB r.log r.term))) (b := (((((withinB r.nodes 1 5 && withinB r.me 1 r.nodes) && withinB r.wait 1 60) && (decide (r.term ≥ 0))) && withinB r.vote 0 r.nodes) && withinB r.leader 0 r.nodes)) rfl (.inl ⟨34, 37, rfl, rfl, rfl, by decide⟩) Try.func34 (by kernel_rfl) (by kernel_rfl) (Ψ := (Grow.En r.log)) (Ψ' := (Grow.Is (.int .i64 r.term))) (.inr rfl) (.inr rfl) (Grow.Is.stays _) (Grow.kMayLog HLEN.out) ?_
  refine Grow.pick_and (b := (((((withinB r.nodes 1 5 && withinB r.me 1 r.nodes) && withinB r.wait 1 60) && (decide (r.term ≥ 0))) && withinB r.vote 0 r.nodes) && withinB r.leader 0 r.nodes)) rfl rfl rfl (.inr rfl) ?_
  refine Grow.grow_mv (.inl rfl) (.inl ⟨rfl, rfl⟩) rfl ?_
  refine Grow.cd_field (j := 6) (u := .int .i64 r.commit) (Ψ := (Grow.Is (.int .i64 r.commit))) (b := ((((((withinB r.nodes 1 5 && withinB r.me 1 r.nodes) && withinB r.wait 1 60) && (decide (r.term ≥ 0))) && withinB r.vote 0 r.nodes) && withinB r.leader 0 r.nodes) && mayLogB r.log r.term)) rfl (.inl ⟨41, 44, rfl, rfl, rfl, by decide⟩) (.inl rfl) (fun w => by kernel_rfl) rfl (Grow.Is.stays _) (fun _ _ => rfl) ?_
  refine Grow.cd_load (b := ((((((withinB r.nodes 1 5 && withinB r.me 1 r.nodes) && withinB r.wait 1 60) && (decide (r.term ≥ 0))) && withinB r.vote 0 r.nodes) && withinB r.leader 0 r.nodes) && mayLogB r.log r.term)) rfl (fun w => by kernel_rfl) (.inl ⟨41, 44, rfl, rfl, rfl, by decide⟩) (.inr rfl) (Grow.Is.stays _) ?_
  refine Grow.cd_field (j := 5) (u := vl) (Ψ := (Grow.En r.log)) (b := ((((((withinB r.nodes 1 5 && withinB r.me 1 r.nodes) && withinB r.wait 1 60) && (decide (r.term ≥ 0))) && withinB r.vote 0 r.nodes) && withinB r.leader 0 r.nodes) && mayLogB r.log r.term)) rfl (.inl ⟨41, 44, rfl, rfl, rfl, by decide⟩) (.inl rfl) (fun w => by kernel_rfl) rfl (Grow.En.stays _) (fun _ h => HL.out.gr h) ?_
  refine Grow.cd_load (b := ((((((withinB r.nodes 1 5 && withinB r.me 1 r.nodes) && withinB r.wait 1 60) && (decide (r.term ≥ 0))) && withinB r.vote 0 r.nodes) && withinB r.leader 0 r.nodes) && mayLogB r.log r.term)) rfl (fun w => by kernel_rfl) (.inl ⟨41, 44, rfl, rfl, rfl, by decide⟩) (.inr rfl) (Grow.En.stays _) ?_
  refine Grow.cd_len_k (n := r.log.length) (b := ((((((withinB r.nodes 1 5 && withinB r.me 1 r.nodes) && withinB r.wait 1 60) && (decide (r.term ≥ 0))) && withinB r.vote 0 r.nodes) && withinB r.leader 0 r.nodes) && mayLogB r.log r.term)) rfl Try.underlying24 (.inl ⟨41, 44, rfl, rfl, rfl, by decide⟩) (.inr rfl) (fun v w h => EntsX.is h) ?_
  refine Grow.cd_call3 (Φ := Grow.Is (.bool (withinB r.commit 0 (r.log.length : Int)))) (b := ((((((withinB r.nodes 1 5 && withinB r.me 1 r.nodes) && withinB r.wait 1 60) && (decide (r.term ≥ 0))) && withinB r.vote 0 r.nodes) && withinB r.leader 0 r.nodes) && mayLogB r.log r.term)) rfl (.inl ⟨41, 44, rfl, rfl, rfl, by decide⟩) Try.func33 (by kernel_rfl) (by kernel_rfl) (Ψ := (Grow.Is (.int .i64 r.commit))) (Ψ' := (Grow.Is (.int .i64 0))) (Ψ'' := (Grow.Is (.int .i64 (r.log.length : Int)))) (.inr rfl) ((fun _ => rfl)) (.inr rfl) (Grow.Is.stays _) (Grow.kWithin) ?_
  refine Grow.pick_and (b := ((((((withinB r.nodes 1 5 && withinB r.me 1 r.nodes) && withinB r.wait 1 60) && (decide (r.term ≥ 0))) && withinB r.vote 0 r.nodes) && withinB r.leader 0 r.nodes) && mayLogB r.log r.term)) rfl rfl rfl (.inr rfl) ?_
  refine Grow.grow_mv (.inl rfl) (.inl ⟨rfl, rfl⟩) rfl ?_
  refine Grow.cd_field (j := 7) (u := .int .i64 r.role) (Ψ := (Grow.Is (.int .i64 r.role))) (b := (((((((withinB r.nodes 1 5 && withinB r.me 1 r.nodes) && withinB r.wait 1 60) && (decide (r.term ≥ 0))) && withinB r.vote 0 r.nodes) && withinB r.leader 0 r.nodes) && mayLogB r.log r.term) && withinB r.commit 0 (r.log.length : Int))) rfl (.inl ⟨49, 52, rfl, rfl, rfl, by decide⟩) (.inl rfl) (fun w => by kernel_rfl) rfl (Grow.Is.stays _) (fun _ _ => rfl) ?_
  refine Grow.cd_load (b := (((((((withinB r.nodes 1 5 && withinB r.me 1 r.nodes) && withinB r.wait 1 60) && (decide (r.term ≥ 0))) && withinB r.vote 0 r.nodes) && withinB r.leader 0 r.nodes) && mayLogB r.log r.term) && withinB r.commit 0 (r.log.length : Int))) rfl (fun w => by kernel_rfl) (.inl ⟨49, 52, rfl, rfl, rfl, by decide⟩) (.inr rfl) (Grow.Is.stays _) ?_
  refine Grow.cd_call3 (Φ := Grow.Is (.bool (withinB r.role 0 2))) (b := (((((((withinB r.nodes 1 5 && withinB r.me 1 r.nodes) && withinB r.wait 1 60) && (decide (r.term ≥ 0))) && withinB r.vote 0 r.nodes) && withinB r.leader 0 r.nodes) && mayLogB r.log r.term) && withinB r.commit 0 (r.log.length : Int))) rfl (.inl ⟨49, 52, rfl, rfl, rfl, by decide⟩) Try.func33 (by kernel_rfl) (by kernel_rfl) (Ψ := (Grow.Is (.int .i64 r.role))) (Ψ' := (Grow.Is (.int .i64 0))) (Ψ'' := (Grow.Is (.int .i64 2))) (.inr rfl) ((fun _ => rfl)) ((fun _ => rfl)) (Grow.Is.stays _) (Grow.kWithin) ?_
  refine Grow.pick_and (b := (((((((withinB r.nodes 1 5 && withinB r.me 1 r.nodes) && withinB r.wait 1 60) && (decide (r.term ≥ 0))) && withinB r.vote 0 r.nodes) && withinB r.leader 0 r.nodes) && mayLogB r.log r.term) && withinB r.commit 0 (r.log.length : Int))) rfl rfl rfl (.inr rfl) ?_
  refine Grow.grow_mv (.inl rfl) (.inl ⟨rfl, rfl⟩) rfl ?_
  refine Grow.cd_field (j := 9) (u := vv) (Ψ := (Grow.Bo r.votes)) (b := ((((((((withinB r.nodes 1 5 && withinB r.me 1 r.nodes) && withinB r.wait 1 60) && (decide (r.term ≥ 0))) && withinB r.vote 0 r.nodes) && withinB r.leader 0 r.nodes) && mayLogB r.log r.term) && withinB r.commit 0 (r.log.length : Int)) && withinB r.role 0 2)) rfl (.inl ⟨54, 57, rfl, rfl, rfl, by decide⟩) (.inl rfl) (fun w => by kernel_rfl) rfl (Grow.Bo.stays _) (fun _ h => HV.out.gr h) ?_
  refine Grow.cd_load (b := ((((((((withinB r.nodes 1 5 && withinB r.me 1 r.nodes) && withinB r.wait 1 60) && (decide (r.term ≥ 0))) && withinB r.vote 0 r.nodes) && withinB r.leader 0 r.nodes) && mayLogB r.log r.term) && withinB r.commit 0 (r.log.length : Int)) && withinB r.role 0 2)) rfl (fun w => by kernel_rfl) (.inl ⟨54, 57, rfl, rfl, rfl, by decide⟩) (.inr rfl) (Grow.Bo.stays _) ?_
  refine Grow.cd_len_k (n := r.votes.length) (b := ((((((((withinB r.nodes 1 5 && withinB r.me 1 r.nodes) && withinB r.wait 1 60) && (decide (r.term ≥ 0))) && withinB r.vote 0 r.nodes) && withinB r.leader 0 r.nodes) && mayLogB r.log r.term) && withinB r.commit 0 (r.log.length : Int)) && withinB r.role 0 2)) rfl Try.underlying25 (.inl ⟨54, 57, rfl, rfl, rfl, by decide⟩) (.inr rfl) (fun v w h => by obtain ⟨A, c, e, _⟩ := BoolsX.is' h; exact ⟨A, c, e⟩) ?_
  refine Grow.cd_field (j := 1) (u := .int .i64 r.nodes) (Ψ := (Grow.Is (.int .i64 r.nodes))) (b := ((((((((withinB r.nodes 1 5 && withinB r.me 1 r.nodes) && withinB r.wait 1 60) && (decide (r.term ≥ 0))) && withinB r.vote 0 r.nodes) && withinB r.leader 0 r.nodes) && mayLogB r.log r.term) && withinB r.commit 0 (r.log.length : Int)) && withinB r.role 0 2)) rfl (.inl ⟨54, 57, rfl, rfl, rfl, by decide⟩) (.inl rfl) (fun w => by kernel_rfl) rfl (Grow.Is.stays _) (fun _ _ => rfl) ?_
  refine Grow.cd_load (b := ((((((((withinB r.nodes 1 5 && withinB r.me 1 r.nodes) && withinB r.wait 1 60) && (decide (r.term ≥ 0))) && withinB r.vote 0 r.nodes) && withinB r.leader 0 r.nodes) && mayLogB r.log r.term) && withinB r.commit 0 (r.log.length : Int)) && withinB r.role 0 2)) rfl (fun w => by kernel_rfl) (.inl ⟨54, 57, rfl, rfl, rfl, by decide⟩) (.inr rfl) (Grow.Is.stays _) ?_
  refine Grow.cd_int (c := .bool ((r.votes.length : Int) == r.nodes)) (b := ((((((((withinB r.nodes 1 5 && withinB r.me 1 r.nodes) && withinB r.wait 1 60) && (decide (r.term ≥ 0))) && withinB r.vote 0 r.nodes) && withinB r.leader 0 r.nodes) && mayLogB r.log r.term) && withinB r.commit 0 (r.log.length : Int)) && withinB r.role 0 2)) rfl (.inl ⟨54, 57, rfl, rfl, rfl, by decide⟩) (.inr rfl) (.inr rfl) (by rw [show binOp .eql _ _ _ = pure (.bool ((r.votes.length : Int) == r.nodes)) from rfl]) ?_
  refine Grow.pick_and (b := ((((((((withinB r.nodes 1 5 && withinB r.me 1 r.nodes) && withinB r.wait 1 60) && (decide (r.term ≥ 0))) && withinB r.vote 0 r.nodes) && withinB r.leader 0 r.nodes) && mayLogB r.log r.term) && withinB r.commit 0 (r.log.length : Int)) && withinB r.role 0 2)) rfl rfl rfl (.inr rfl) ?_
  refine Grow.grow_mv (.inl rfl) (.inl ⟨rfl, rfl⟩) rfl ?_
  refine Grow.cd_field (j := 10) (u := vn) (Ψ := (Grow.Nu r.next)) (b := (((((((((withinB r.nodes 1 5 && withinB r.me 1 r.nodes) && withinB r.wait 1 60) && (decide (r.term ≥ 0))) && withinB r.vote 0 r.nodes) && withinB r.leader 0 r.nodes) && mayLogB r.log r.term) && withinB r.commit 0 (r.log.length : Int)) && withinB r.role 0 2) && ((r.votes.length : Int) == r.nodes))) rfl (.inl ⟨62, 65, rfl, rfl, rfl, by decide⟩) (.inl rfl) (fun w => by kernel_rfl) rfl (Grow.Nu.stays _) (fun _ h => HN.out.gr h) ?_
  refine Grow.cd_load (b := (((((((((withinB r.nodes 1 5 && withinB r.me 1 r.nodes) && withinB r.wait 1 60) && (decide (r.term ≥ 0))) && withinB r.vote 0 r.nodes) && withinB r.leader 0 r.nodes) && mayLogB r.log r.term) && withinB r.commit 0 (r.log.length : Int)) && withinB r.role 0 2) && ((r.votes.length : Int) == r.nodes))) rfl (fun w => by kernel_rfl) (.inl ⟨62, 65, rfl, rfl, rfl, by decide⟩) (.inr rfl) (Grow.Nu.stays _) ?_
  refine Grow.cd_len_k (n := r.next.length) (b := (((((((((withinB r.nodes 1 5 && withinB r.me 1 r.nodes) && withinB r.wait 1 60) && (decide (r.term ≥ 0))) && withinB r.vote 0 r.nodes) && withinB r.leader 0 r.nodes) && mayLogB r.log r.term) && withinB r.commit 0 (r.log.length : Int)) && withinB r.role 0 2) && ((r.votes.length : Int) == r.nodes))) rfl Try.underlying26 (.inl ⟨62, 65, rfl, rfl, rfl, by decide⟩) (.inr rfl) (fun v w h => by obtain ⟨A, c, e, _⟩ := IntsX.is' h; exact ⟨A, c, e⟩) ?_
  refine Grow.cd_field (j := 1) (u := .int .i64 r.nodes) (Ψ := (Grow.Is (.int .i64 r.nodes))) (b := (((((((((withinB r.nodes 1 5 && withinB r.me 1 r.nodes) && withinB r.wait 1 60) && (decide (r.term ≥ 0))) && withinB r.vote 0 r.nodes) && withinB r.leader 0 r.nodes) && mayLogB r.log r.term) && withinB r.commit 0 (r.log.length : Int)) && withinB r.role 0 2) && ((r.votes.length : Int) == r.nodes))) rfl (.inl ⟨62, 65, rfl, rfl, rfl, by decide⟩) (.inl rfl) (fun w => by kernel_rfl) rfl (Grow.Is.stays _) (fun _ _ => rfl) ?_
  refine Grow.cd_load (b := (((((((((withinB r.nodes 1 5 && withinB r.me 1 r.nodes) && withinB r.wait 1 60) && (decide (r.term ≥ 0))) && withinB r.vote 0 r.nodes) && withinB r.leader 0 r.nodes) && mayLogB r.log r.term) && withinB r.commit 0 (r.log.length : Int)) && withinB r.role 0 2) && ((r.votes.length : Int) == r.nodes))) rfl (fun w => by kernel_rfl) (.inl ⟨62, 65, rfl, rfl, rfl, by decide⟩) (.inr rfl) (Grow.Is.stays _) ?_
  refine Grow.cd_int (c := .bool ((r.next.length : Int) == r.nodes)) (b := (((((((((withinB r.nodes 1 5 && withinB r.me 1 r.nodes) && withinB r.wait 1 60) && (decide (r.term ≥ 0))) && withinB r.vote 0 r.nodes) && withinB r.leader 0 r.nodes) && mayLogB r.log r.term) && withinB r.commit 0 (r.log.length : Int)) && withinB r.role 0 2) && ((r.votes.length : Int) == r.nodes))) rfl (.inl ⟨62, 65, rfl, rfl, rfl, by decide⟩) (.inr rfl) (.inr rfl) (by rw [show binOp .eql _ _ _ = pure (.bool ((r.next.length : Int) == r.nodes)) from rfl]) ?_
  refine Grow.pick_and (b := (((((((((withinB r.nodes 1 5 && withinB r.me 1 r.nodes) && withinB r.wait 1 60) && (decide (r.term ≥ 0))) && withinB r.vote 0 r.nodes) && withinB r.leader 0 r.nodes) && mayLogB r.log r.term) && withinB r.commit 0 (r.log.length : Int)) && withinB r.role 0 2) && ((r.votes.length : Int) == r.nodes))) rfl rfl rfl (.inr rfl) ?_
  refine Grow.grow_mv (.inl rfl) (.inl ⟨rfl, rfl⟩) rfl ?_
  refine Grow.cd_field (j := 11) (u := vm) (Ψ := (Grow.Nu r.mtch)) (b := ((((((((((withinB r.nodes 1 5 && withinB r.me 1 r.nodes) && withinB r.wait 1 60) && (decide (r.term ≥ 0))) && withinB r.vote 0 r.nodes) && withinB r.leader 0 r.nodes) && mayLogB r.log r.term) && withinB r.commit 0 (r.log.length : Int)) && withinB r.role 0 2) && ((r.votes.length : Int) == r.nodes)) && ((r.next.length : Int) == r.nodes))) rfl (.inl ⟨70, 73, rfl, rfl, rfl, by decide⟩) (.inl rfl) (fun w => by kernel_rfl) rfl (Grow.Nu.stays _) (fun _ h => HX.out.gr h) ?_
  refine Grow.cd_load (b := ((((((((((withinB r.nodes 1 5 && withinB r.me 1 r.nodes) && withinB r.wait 1 60) && (decide (r.term ≥ 0))) && withinB r.vote 0 r.nodes) && withinB r.leader 0 r.nodes) && mayLogB r.log r.term) && withinB r.commit 0 (r.log.length : Int)) && withinB r.role 0 2) && ((r.votes.length : Int) == r.nodes)) && ((r.next.length : Int) == r.nodes))) rfl (fun w => by kernel_rfl) (.inl ⟨70, 73, rfl, rfl, rfl, by decide⟩) (.inr rfl) (Grow.Nu.stays _) ?_
  refine Grow.cd_len_k (n := r.mtch.length) (b := ((((((((((withinB r.nodes 1 5 && withinB r.me 1 r.nodes) && withinB r.wait 1 60) && (decide (r.term ≥ 0))) && withinB r.vote 0 r.nodes) && withinB r.leader 0 r.nodes) && mayLogB r.log r.term) && withinB r.commit 0 (r.log.length : Int)) && withinB r.role 0 2) && ((r.votes.length : Int) == r.nodes)) && ((r.next.length : Int) == r.nodes))) rfl Try.underlying26 (.inl ⟨70, 73, rfl, rfl, rfl, by decide⟩) (.inr rfl) (fun v w h => by obtain ⟨A, c, e, _⟩ := IntsX.is' h; exact ⟨A, c, e⟩) ?_
  refine Grow.cd_field (j := 1) (u := .int .i64 r.nodes) (Ψ := (Grow.Is (.int .i64 r.nodes))) (b := ((((((((((withinB r.nodes 1 5 && withinB r.me 1 r.nodes) && withinB r.wait 1 60) && (decide (r.term ≥ 0))) && withinB r.vote 0 r.nodes) && withinB r.leader 0 r.nodes) && mayLogB r.log r.term) && withinB r.commit 0 (r.log.length : Int)) && withinB r.role 0 2) && ((r.votes.length : Int) == r.nodes)) && ((r.next.length : Int) == r.nodes))) rfl (.inl ⟨70, 73, rfl, rfl, rfl, by decide⟩) (.inl rfl) (fun w => by kernel_rfl) rfl (Grow.Is.stays _) (fun _ _ => rfl) ?_
  refine Grow.cd_load (b := ((((((((((withinB r.nodes 1 5 && withinB r.me 1 r.nodes) && withinB r.wait 1 60) && (decide (r.term ≥ 0))) && withinB r.vote 0 r.nodes) && withinB r.leader 0 r.nodes) && mayLogB r.log r.term) && withinB r.commit 0 (r.log.length : Int)) && withinB r.role 0 2) && ((r.votes.length : Int) == r.nodes)) && ((r.next.length : Int) == r.nodes))) rfl (fun w => by kernel_rfl) (.inl ⟨70, 73, rfl, rfl, rfl, by decide⟩) (.inr rfl) (Grow.Is.stays _) ?_
  refine Grow.cd_int (c := .bool ((r.mtch.length : Int) == r.nodes)) (b := ((((((((((withinB r.nodes 1 5 && withinB r.me 1 r.nodes) && withinB r.wait 1 60) && (decide (r.term ≥ 0))) && withinB r.vote 0 r.nodes) && withinB r.leader 0 r.nodes) && mayLogB r.log r.term) && withinB r.commit 0 (r.log.length : Int)) && withinB r.role 0 2) && ((r.votes.length : Int) == r.nodes)) && ((r.next.length : Int) == r.nodes))) rfl (.inl ⟨70, 73, rfl, rfl, rfl, by decide⟩) (.inr rfl) (.inr rfl) (by rw [show binOp .eql _ _ _ = pure (.bool ((r.mtch.length : Int) == r.nodes)) from rfl]) ?_
  refine Grow.pick_and (b := ((((((((((withinB r.nodes 1 5 && withinB r.me 1 r.nodes) && withinB r.wait 1 60) && (decide (r.term ≥ 0))) && withinB r.vote 0 r.nodes) && withinB r.leader 0 r.nodes) && mayLogB r.log r.term) && withinB r.commit 0 (r.log.length : Int)) && withinB r.role 0 2) && ((r.votes.length : Int) == r.nodes)) && ((r.next.length : Int) == r.nodes))) rfl rfl rfl (.inr rfl) ?_
  refine Grow.grow_mv (.inl rfl) (.inl ⟨rfl, rfl⟩) rfl ?_
  refine Grow.cd_field (j := 12) (u := .int .i64 r.clock) (Ψ := (Grow.Is (.int .i64 r.clock))) (b := (((((((((((withinB r.nodes 1 5 && withinB r.me 1 r.nodes) && withinB r.wait 1 60) && (decide (r.term ≥ 0))) && withinB r.vote 0 r.nodes) && withinB r.leader 0 r.nodes) && mayLogB r.log r.term) && withinB r.commit 0 (r.log.length : Int)) && withinB r.role 0 2) && ((r.votes.length : Int) == r.nodes)) && ((r.next.length : Int) == r.nodes)) && ((r.mtch.length : Int) == r.nodes))) rfl (.inl ⟨78, 81, rfl, rfl, rfl, by decide⟩) (.inl rfl) (fun w => by kernel_rfl) rfl (Grow.Is.stays _) (fun _ _ => rfl) ?_
  refine Grow.cd_load (b := (((((((((((withinB r.nodes 1 5 && withinB r.me 1 r.nodes) && withinB r.wait 1 60) && (decide (r.term ≥ 0))) && withinB r.vote 0 r.nodes) && withinB r.leader 0 r.nodes) && mayLogB r.log r.term) && withinB r.commit 0 (r.log.length : Int)) && withinB r.role 0 2) && ((r.votes.length : Int) == r.nodes)) && ((r.next.length : Int) == r.nodes)) && ((r.mtch.length : Int) == r.nodes))) rfl (fun w => by kernel_rfl) (.inl ⟨78, 81, rfl, rfl, rfl, by decide⟩) (.inr rfl) (Grow.Is.stays _) ?_
  refine Grow.cd_int (c := .bool (decide (r.clock ≥ 0))) (b := (((((((((((withinB r.nodes 1 5 && withinB r.me 1 r.nodes) && withinB r.wait 1 60) && (decide (r.term ≥ 0))) && withinB r.vote 0 r.nodes) && withinB r.leader 0 r.nodes) && mayLogB r.log r.term) && withinB r.commit 0 (r.log.length : Int)) && withinB r.role 0 2) && ((r.votes.length : Int) == r.nodes)) && ((r.next.length : Int) == r.nodes)) && ((r.mtch.length : Int) == r.nodes))) rfl (.inl ⟨78, 81, rfl, rfl, rfl, by decide⟩) (.inr rfl) ((fun _ => rfl)) (by rw [show binOp .geq _ _ _ = pure (.bool (decide (r.clock ≥ 0))) from rfl]) ?_
  refine Grow.pick_and (b := (((((((((((withinB r.nodes 1 5 && withinB r.me 1 r.nodes) && withinB r.wait 1 60) && (decide (r.term ≥ 0))) && withinB r.vote 0 r.nodes) && withinB r.leader 0 r.nodes) && mayLogB r.log r.term) && withinB r.commit 0 (r.log.length : Int)) && withinB r.role 0 2) && ((r.votes.length : Int) == r.nodes)) && ((r.next.length : Int) == r.nodes)) && ((r.mtch.length : Int) == r.nodes))) rfl rfl rfl (.inr rfl) ?_
  refine Grow.grow_mv (.inr rfl) (.inl ⟨rfl, rfl⟩) rfl ?_
  intro a1 V hgV hsz hdf hun hk
  have k2 := hk 2
  change a1.tmps.getD 2 undef = _ at k2
  rw [← HD.out] at k2
  clear hk hun
  rw [Grow.lay_frame a1 86 hsz, hdf]
  simp only [List.range, List.range.loop, List.map_cons, List.map_nil, k2]
  go_wp2_with fail
  go_ret
  exact ⟨rfl, hg1.trans hgV⟩

theorem raft_eq (r q : RaftT) : (((((((((((((r.me == q.me) && (r.nodes == q.nodes)) && (r.wait == q.wait)) && (r.term == q.term)) && (r.vote == q.vote)) && decide (r.log = q.log)) && (r.commit == q.commit)) && (r.role == q.role)) && (r.leader == q.leader)) && decide (r.votes = q.votes)) && decide (r.next = q.next)) && decide (r.mtch = q.mtch)) && (r.clock == q.clock)) = decide (r = q) := by
  obtain ⟨a1, a2, a3, a4, a5, a6, a7, a8, a9, a10, a11, a12, a13⟩ := r
  obtain ⟨b1, b2, b3, b4, b5, b6, b7, b8, b9, b10, b11, b12, b13⟩ := q
  rw [Bool.eq_iff_iff]
  simp only [Bool.and_eq_true, beq_iff_eq, decide_eq_true_eq, RaftT.mk.injEq]
  constructor
  · rintro ⟨⟨⟨⟨⟨⟨⟨⟨⟨⟨⟨⟨h1, h2⟩, h3⟩, h4⟩, h5⟩, h6⟩, h7⟩, h8⟩, h9⟩, h10⟩, h11⟩, h12⟩, h13⟩
    exact ⟨h1, h2, h3, h4, h5, h6, h7, h8, h9, h10, h11, h12, h13⟩
  · rintro ⟨h1, h2, h3, h4, h5, h6, h7, h8, h9, h10, h11, h12, h13⟩
    exact ⟨⟨⟨⟨⟨⟨⟨⟨⟨⟨⟨⟨h1, h2⟩, h3⟩, h4⟩, h5⟩, h6⟩, h7⟩, h8⟩, h9⟩, h10⟩, h11⟩, h12⟩, h13⟩

set_option maxHeartbeats 4000000 in
theorem SameR_ok (w : World) (r q : RaftT) (R Q : RowsM) (h : RaftR Any w r R) (h2 : RaftR Any w q Q) (hs : RfSz r) (hs2 : RfSz q) :
    Calls Try.prog 17 #[.agg (rfC r R).toArray, .agg (rfC q Q).toArray] w fun e w' => e = .returned (.bool (decide (r = q))) ∧ Gr w w' := by
  obtain ⟨vl1, vv1, vn1, vm1, vq1, vlo1⟩ := R
  obtain ⟨vl2, vv2, vn2, vm2, vq2, vlo2⟩ := Q
  have HVL := hide (show r.votes.length ≤ 1000000 by have := hs.votes; omega)
  have HNL := hide (show r.next.length ≤ 1000000 by have := hs.next; omega)
  have HXL := hide (show r.mtch.length ≤ 1000000 by have := hs.mtch; omega)
  have HLA := hide (show r.log.length ≤ 10000 ∧ ∀ e ∈ r.log, EntBnd e from ⟨hs.log, hs.bnd⟩)
  have HLB := hide (show q.log.length ≤ 10000 ∧ ∀ e ∈ q.log, EntBnd e from ⟨hs2.log, hs2.bnd⟩)
  have HD := hide (raft_eq r q)
  obtain ⟨res, hres⟩ : ∃ res, decide (r = q) = res := ⟨_, rfl⟩
  rw [hres] at HD ⊢
  clear hres hs hs2
  simp only [rfC]
  go_enter Try.func17, Try.ntmps17
  go_upto_region 1 with (fail)
  obtain ⟨W1, hW1⟩ : ∃ W1, (w.alloc (.cells #[.int .i64 r.me, .int .i64 r.nodes, .int .i64 r.wait, .int .i64 r.term, .int .i64 r.vote, vl1, .int .i64 r.commit, .int .i64 r.role, .int .i64 r.leader, vv1, vn1, vm1, .int .i64 r.clock] 28)).alloc (.cells #[.int .i64 q.me, .int .i64 q.nodes, .int .i64 q.wait, .int .i64 q.term, .int .i64 q.vote, vl2, .int .i64 q.commit, .int .i64 q.role, .int .i64 q.leader, vv2, vn2, vm2, .int .i64 q.clock] 28) = W1 := ⟨_, rfl⟩
  have hg1 : Gr w W1 := by rw [← hW1]; exact ((Gr.refl _).alloc _).alloc _
  have hb1 : Bl W1 w.heap.size 28 #[.int .i64 r.me, .int .i64 r.nodes, .int .i64 r.wait, .int .i64 r.term, .int .i64 r.vote, vl1, .int .i64 r.commit, .int .i64 r.role, .int .i64 r.leader, vv1, vn1, vm1, .int .i64 r.clock] := by rw [← hW1]; exact (Bl.new _ _ _).gr ((Gr.refl _).alloc _)
  have hb2 : Bl W1 (w.heap.size + 1) 28 #[.int .i64 q.me, .int .i64 q.nodes, .int .i64 q.wait, .int .i64 q.term, .int .i64 q.vote, vl2, .int .i64 q.commit, .int .i64 q.role, .int .i64 q.leader, vv2, vn2, vm2, .int .i64 q.clock] := by
    rw [← hW1]
    have := Bl.new (w.alloc (.cells #[.int .i64 r.me, .int .i64 r.nodes, .int .i64 r.wait, .int .i64 r.term, .int .i64 r.vote, vl1, .int .i64 r.commit, .int .i64 r.role, .int .i64 r.leader, vv1, vn1, vm1, .int .i64 r.clock] 28)) 28 #[.int .i64 q.me, .int .i64 q.nodes, .int .i64 q.wait, .int .i64 q.term, .int .i64 q.vote, vl2, .int .i64 q.commit, .int .i64 q.role, .int .i64 q.leader, vv2, vn2, vm2, .int .i64 q.clock]
    simpa using this
  change (Code.region 1 _ false).wp _ _ _ ((w.alloc (.cells #[.int .i64 r.me, .int .i64 r.nodes, .int .i64 r.wait, .int .i64 r.term, .int .i64 r.vote, vl1, .int .i64 r.commit, .int .i64 r.role, .int .i64 r.leader, vv1, vn1, vm1, .int .i64 r.clock] 28)).alloc (.cells #[.int .i64 q.me, .int .i64 q.nodes, .int .i64 q.wait, .int .i64 q.term, .int .i64 q.vote, vl2, .int .i64 q.commit, .int .i64 q.role, .int .i64 q.leader, vv2, vn2, vm2, .int .i64 q.clock] 28))
  rw [hW1]
  clear hW1
  have HL1 := hide (h.l.gr hg1)
  have HV1 := hide (h.v.gr hg1)
  have HN1 := hide (h.n.gr hg1)
  have HX1 := hide (h.m.gr hg1)
  have HL2 := hide (h2.l.gr hg1)
  have HV2 := hide (h2.v.gr hg1)
  have HN2 := hide (h2.n.gr hg1)
  have HX2 := hide (h2.m.gr hg1)
  clear h h2
  refine Grow.wp_region_text 94 [4, 5, 6, 7, 8, 9, 10, 11, 12, 13, 14, 15, 16, 17, 18, 19, 20, 21, 22, 23, 24, 25, 26, 27, 28, 29, 30, 31, 32, 33, 34, 35, 36, 37, 38, 39, 40, 41, 42, 43, 44, 45, 46, 47, 48, 49, 50, 51, 52, 53, 54, 55, 56, 57, 58, 59, 60, 61, 62, 63, 64, 65, 66, 67, 68, 69, 70, 71, 72, 73, 74, 75, 76, 77, 78, 79, 80, 81, 82, 83, 84, 85, 86, 87, 88, 89, 90, 91, 92, 93] rfl (by kernel_rfl) (by kernel_rfl) (Grow.Ahead.more (Grow.Ahead.more (Grow.Ahead.none_ _ _) 2 (Grow.Bx.stays w.heap.size 28 #[.int .i64 r.me, .int .i64 r.nodes, .int .i64 r.wait, .int .i64 r.term, .int .i64 r.vote, vl1, .int .i64 r.commit, .int .i64 r.role, .int .i64 r.leader, vv1, vn1, vm1, .int .i64 r.clock]) ⟨rfl, hb1⟩) 3 (Grow.Bx.stays (w.heap.size + 1) 28 #[.int .i64 q.me, .int .i64 q.nodes, .int .i64 q.wait, .int .i64 q.term, .int .i64 q.vote, vl2, .int .i64 q.commit, .int .i64 q.role, .int .i64 q.leader, vv2, vn2, vm2, .int .i64 q.clock]) ⟨rfl, hb2⟩) ?_
  refine Grow.grow_field (j := 0) (u := .int .i64 r.me) (Ψ := (Grow.Is (.int .i64 r.me))) rfl (.inl ⟨rfl, rfl⟩) rfl (fun w => by kernel_rfl) rfl (Grow.Is.stays _) (fun _ _ => rfl) ?_
  refine Grow.grow_load_k rfl (fun w => by kernel_rfl) (.inl ⟨rfl, rfl⟩) rfl (Grow.Is.stays _) ?_
  refine Grow.grow_field (j := 0) (u := .int .i64 q.me) (Ψ := (Grow.Is (.int .i64 q.me))) rfl (.inl ⟨rfl, rfl⟩) rfl (fun w => by kernel_rfl) rfl (Grow.Is.stays _) (fun _ _ => rfl) ?_
  refine Grow.grow_load_k rfl (fun w => by kernel_rfl) (.inl ⟨rfl, rfl⟩) rfl (Grow.Is.stays _) ?_
  refine Grow.grow_int (c := .bool (r.me == q.me)) rfl (.inl ⟨rfl, rfl⟩) (rfl) (rfl) (by rw [show binOp .eql _ _ _ = pure (.bool (r.me == q.me)) from rfl]) ?_
  refine Grow.grow_mv (.inl rfl) (.inl ⟨rfl, rfl⟩) rfl ?_
  refine Grow.cd_field (j := 1) (u := .int .i64 r.nodes) (Ψ := (Grow.Is (.int .i64 r.nodes))) (b := (r.me == q.me)) rfl (.inl ⟨5, 10, rfl, rfl, rfl, by decide⟩) (.inl rfl) (fun w => by kernel_rfl) rfl (Grow.Is.stays _) (fun _ _ => rfl) ?_
  refine Grow.cd_load (b := (r.me == q.me)) rfl (fun w => by kernel_rfl) (.inl ⟨5, 10, rfl, rfl, rfl, by decide⟩) (.inr rfl) (Grow.Is.stays _) ?_
  refine Grow.cd_field (j := 1) (u := .int .i64 q.nodes) (Ψ := (Grow.Is (.int .i64 q.nodes))) (b := (r.me == q.me)) rfl (.inl ⟨5, 10, rfl, rfl, rfl, by decide⟩) (.inl rfl) (fun w => by kernel_rfl) rfl (Grow.Is.stays _) (fun _ _ => rfl) ?_
  refine Grow.cd_load (b := (r.me == q.me)) rfl (fun w => by kernel_rfl) (.inl ⟨5, 10, rfl, rfl, rfl, by decide⟩) (.inr rfl) (Grow.Is.stays _) ?_
  refine Grow.cd_int (c := .bool (r.nodes == q.nodes)) (b := (r.me == q.me)) rfl (.inl ⟨5, 10, rfl, rfl, rfl, by decide⟩) (.inr rfl) (.inr rfl) (by rw [show binOp .eql _ _ _ = pure (.bool (r.nodes == q.nodes)) from rfl]) ?_
  refine Grow.pick_and (b := (r.me == q.me)) rfl rfl rfl (.inr rfl) ?_
  refine Grow.grow_mv (.inl rfl) (.inl ⟨rfl, rfl⟩) rfl ?_
  refine Grow.cd_field (j := 2) (u := .int .i64 r.wait) (Ψ := (Grow.Is (.int .i64 r.wait))) (b := ((r.me == q.me) && (r.nodes == q.nodes))) rfl (.inl ⟨12, 17, rfl, rfl, rfl, by decide⟩) (.inl rfl) (fun w => by kernel_rfl) rfl (Grow.Is.stays _) (fun _ _ => rfl) ?_
  refine Grow.cd_load (b := ((r.me == q.me) && (r.nodes == q.nodes))) rfl (fun w => by kernel_rfl) (.inl ⟨12, 17, rfl, rfl, rfl, by decide⟩) (.inr rfl) (Grow.Is.stays _) ?_
  refine Grow.cd_field (j := 2) (u := .int .i64 q.wait) (Ψ := (Grow.Is (.int .i64 q.wait))) (b := ((r.me == q.me) && (r.nodes == q.nodes))) rfl (.inl ⟨12, 17, rfl, rfl, rfl, by decide⟩) (.inl rfl) (fun w => by kernel_rfl) rfl (Grow.Is.stays _) (fun _ _ => rfl) ?_
  refine Grow.cd_load (b := ((r.me == q.me) && (r.nodes == q.nodes))) rfl (fun w => by kernel_rfl) (.inl ⟨12, 17, rfl, rfl, rfl, by decide⟩) (.inr rfl) (Grow.Is.stays _) ?_
  refine Grow.cd_int (c := .bool (r.wait == q.wait)) (b := ((r.me == q.me) && (r.nodes == q.nodes))) rfl (.inl ⟨12, 17, rfl, rfl, rfl, by decide⟩) (.inr rfl) (.inr rfl) (by rw [show binOp .eql _ _ _ = pure (.bool (r.wait == q.wait)) from rfl]) ?_
  refine Grow.pick_and (b := ((r.me == q.me) && (r.nodes == q.nodes))) rfl rfl rfl (.inr rfl) ?_
  refine Grow.grow_mv (.inl rfl) (.inl ⟨rfl, rfl⟩) rfl ?_
  refine Grow.cd_field (j := 3) (u := .int .i64 r.term) (Ψ := (Grow.Is (.int .i64 r.term))) (b := (((r.me == q.me) && (r.nodes == q.nodes)) && (r.wait == q.wait))) rfl (.inl ⟨19, 24, rfl, rfl, rfl, by decide⟩) (.inl rfl) (fun w => by kernel_rfl) rfl (Grow.Is.stays _) (fun _ _ => rfl) ?_
  refine Grow.cd_load (b := (((r.me == q.me) && (r.nodes == q.nodes)) && (r.wait == q.wait))) rfl (fun w => by kernel_rfl) (.inl ⟨19, 24, rfl, rfl, rfl, by decide⟩) (.inr rfl) (Grow.Is.stays _) ?_
  refine Grow.cd_field (j := 3) (u := .int .i64 q.term) (Ψ := (Grow.Is (.int .i64 q.term))) (b := (((r.me == q.me) && (r.nodes == q.nodes)) && (r.wait == q.wait))) rfl (.inl ⟨19, 24, rfl, rfl, rfl, by decide⟩) (.inl rfl) (fun w => by kernel_rfl) rfl (Grow.Is.stays _) (fun _ _ => rfl) ?_
  refine Grow.cd_load (b := (((r.me == q.me) && (r.nodes == q.nodes)) && (r.wait == q.wait))) rfl (fun w => by kernel_rfl) (.inl ⟨19, 24, rfl, rfl, rfl, by decide⟩) (.inr rfl) (Grow.Is.stays _) ?_
  refine Grow.cd_int (c := .bool (r.term == q.term)) (b := (((r.me == q.me) && (r.nodes == q.nodes)) && (r.wait == q.wait))) rfl (.inl ⟨19, 24, rfl, rfl, rfl, by decide⟩) (.inr rfl) (.inr rfl) (by rw [show binOp .eql _ _ _ = pure (.bool (r.term == q.term)) from rfl]) ?_
  refine Grow.pick_and (b := (((r.me == q.me) && (r.nodes == q.nodes)) && (r.wait == q.wait))) rfl rfl rfl (.inr rfl) ?_
  refine Grow.grow_mv (.inl rfl) (.inl ⟨rfl, rfl⟩) rfl ?_
  refine Grow.cd_field (j := 4) (u := .int .i64 r.vote) (Ψ := (Grow.Is (.int .i64 r.vote))) (b := ((((r.me == q.me) && (r.nodes == q.nodes)) && (r.wait == q.wait)) && (r.term == q.term))) rfl (.inl ⟨26, 31, rfl, rfl, rfl, by decide⟩) (.inl rfl) (fun w => by kernel_rfl) rfl (Grow.Is.stays _) (fun _ _ => rfl) ?_
  refine Grow.cd_load (b := ((((r.me == q.me) && (r.nodes == q.nodes)) && (r.wait == q.wait)) && (r.term == q.term))) rfl (fun w => by kernel_rfl) (.inl ⟨26, 31, rfl, rfl, rfl, by decide⟩) (.inr rfl) (Grow.Is.stays _) ?_
  refine Grow.cd_field (j := 4) (u := .int .i64 q.vote) (Ψ := (Grow.Is (.int .i64 q.vote))) (b := ((((r.me == q.me) && (r.nodes == q.nodes)) && (r.wait == q.wait)) && (r.term == q.term))) rfl (.inl ⟨26, 31, rfl, rfl, rfl, by decide⟩) (.inl rfl) (fun w => by kernel_rfl) rfl (Grow.Is.stays _) (fun _ _ => rfl) ?_
  refine Grow.cd_load (b := ((((r.me == q.me) && (r.nodes == q.nodes)) && (r.wait == q.wait)) && (r.term == q.term))) rfl (fun w => by kernel_rfl) (.inl ⟨26, 31, rfl, rfl, rfl, by decide⟩) (.inr rfl) (Grow.Is.stays _) ?_
  refine Grow.cd_int (c := .bool (r.vote == q.vote)) (b := ((((r.me == q.me) && (r.nodes == q.nodes)) && (r.wait == q.wait)) && (r.term == q.term))) rfl (.inl ⟨26, 31, rfl, rfl, rfl, by decide⟩) (.inr rfl) (.inr rfl) (by rw [show binOp .eql _ _ _ = pure (.bool (r.vote == q.vote)) from rfl]) ?_
  refine Grow.pick_and (b := ((((r.me == q.me) && (r.nodes == q.nodes)) && (r.wait == q.wait)) && (r.term == q.term))) rfl rfl rfl (.inr rfl) ?_
  refine Grow.grow_mv (.inl rfl) (.inl ⟨rfl, rfl⟩) rfl ?_
  refine Grow.cd_field (j := 5) (u := vl1) (Ψ := (Grow.En r.log)) (b := (((((r.me == q.me) && (r.nodes == q.nodes)) && (r.wait == q.wait)) && (r.term == q.term)) && (r.vote == q.vote))) rfl (.inl ⟨33, 38, rfl, rfl, rfl, by decide⟩) (.inl rfl) (fun w => by kernel_rfl) rfl (Grow.En.stays _) (fun _ h => HL1.out.gr h) ?_
  refine Grow.cd_load (b := (((((r.me == q.me) && (r.nodes == q.nodes)) && (r.wait == q.wait)) && (r.term == q.term)) && (r.vote == q.vote))) rfl (fun w => by kernel_rfl) (.inl ⟨33, 38, rfl, rfl, rfl, by decide⟩) (.inr rfl) (Grow.En.stays _) ?_
  refine Grow.cd_field (j := 5) (u := vl2) (Ψ := (Grow.En q.log)) (b := (((((r.me == q.me) && (r.nodes == q.nodes)) && (r.wait == q.wait)) && (r.term == q.term)) && (r.vote == q.vote))) rfl (.inl ⟨33, 38, rfl, rfl, rfl, by decide⟩) (.inl rfl) (fun w => by kernel_rfl) rfl (Grow.En.stays _) (fun _ h => HL2.out.gr h) ?_
  refine Grow.cd_load (b := (((((r.me == q.me) && (r.nodes == q.nodes)) && (r.wait == q.wait)) && (r.term == q.term)) && (r.vote == q.vote))) rfl (fun w => by kernel_rfl) (.inl ⟨33, 38, rfl, rfl, rfl, by decide⟩) (.inr rfl) (Grow.En.stays _) ?_
  refine Grow.cd_call2 (Φ := Grow.Is (.bool (decide (r.log = q.log)))) (b := (((((r.me == q.me) && (r.nodes == q.nodes)) && (r.wait == q.wait)) && (r.term == q.term)) && (r.vote == q.vote))) rfl (.inl ⟨33, 38, rfl, rfl, rfl, by decide⟩) Try.func35 (by kernel_rfl) (by kernel_rfl) (Ψ := (Grow.En r.log)) (Ψ' := (Grow.En q.log)) (.inr rfl) (.inr rfl) (Grow.Is.stays _) (Grow.kUSame HLA.out HLB.out) ?_
  refine Grow.pick_and (b := (((((r.me == q.me) && (r.nodes == q.nodes)) && (r.wait == q.wait)) && (r.term == q.term)) && (r.vote == q.vote))) rfl rfl rfl (.inr rfl) ?_
  refine Grow.grow_mv (.inl rfl) (.inl ⟨rfl, rfl⟩) rfl ?_
  refine Grow.cd_field (j := 6) (u := .int .i64 r.commit) (Ψ := (Grow.Is (.int .i64 r.commit))) (b := ((((((r.me == q.me) && (r.nodes == q.nodes)) && (r.wait == q.wait)) && (r.term == q.term)) && (r.vote == q.vote)) && decide (r.log = q.log))) rfl (.inl ⟨40, 45, rfl, rfl, rfl, by decide⟩) (.inl rfl) (fun w => by kernel_rfl) rfl (Grow.Is.stays _) (fun _ _ => rfl) ?_
  refine Grow.cd_load (b := ((((((r.me == q.me) && (r.nodes == q.nodes)) && (r.wait == q.wait)) && (r.term == q.term)) && (r.vote == q.vote)) && decide (r.log = q.log))) rfl (fun w => by kernel_rfl) (.inl ⟨40, 45, rfl, rfl, rfl, by decide⟩) (.inr rfl) (Grow.Is.stays _) ?_
  refine Grow.cd_field (j := 6) (u := .int .i64 q.commit) (Ψ := (Grow.Is (.int .i64 q.commit))) (b := ((((((r.me == q.me) && (r.nodes == q.nodes)) && (r.wait == q.wait)) && (r.term == q.term)) && (r.vote == q.vote)) && decide (r.log = q.log))) rfl (.inl ⟨40, 45, rfl, rfl, rfl, by decide⟩) (.inl rfl) (fun w => by kernel_rfl) rfl (Grow.Is.stays _) (fun _ _ => rfl) ?_
  refine Grow.cd_load (b := ((((((r.me == q.me) && (r.nodes == q.nodes)) && (r.wait == q.wait)) && (r.term == q.term)) && (r.vote == q.vote)) && decide (r.log = q.log))) rfl (fun w => by kernel_rfl) (.inl ⟨40, 45, rfl, rfl, rfl, by decide⟩) (.inr rfl) (Grow.Is.stays _) ?_
  refine Grow.cd_int (c := .bool (r.commit == q.commit)) (b := ((((((r.me == q.me) && (r.nodes == q.nodes)) && (r.wait == q.wait)) && (r.term == q.term)) && (r.vote == q.vote)) && decide (r.log = q.log))) rfl (.inl ⟨40, 45, rfl, rfl, rfl, by decide⟩) (.inr rfl) (.inr rfl) (by rw [show binOp .eql _ _ _ = pure (.bool (r.commit == q.commit)) from rfl]) ?_
  refine Grow.pick_and (b := ((((((r.me == q.me) && (r.nodes == q.nodes)) && (r.wait == q.wait)) && (r.term == q.term)) && (r.vote == q.vote)) && decide (r.log = q.log))) rfl rfl rfl (.inr rfl) ?_
  refine Grow.grow_mv (.inl rfl) (.inl ⟨rfl, rfl⟩) rfl ?_
  refine Grow.cd_field (j := 7) (u := .int .i64 r.role) (Ψ := (Grow.Is (.int .i64 r.role))) (b := (((((((r.me == q.me) && (r.nodes == q.nodes)) && (r.wait == q.wait)) && (r.term == q.term)) && (r.vote == q.vote)) && decide (r.log = q.log)) && (r.commit == q.commit))) rfl (.inl ⟨47, 52, rfl, rfl, rfl, by decide⟩) (.inl rfl) (fun w => by kernel_rfl) rfl (Grow.Is.stays _) (fun _ _ => rfl) ?_
  refine Grow.cd_load (b := (((((((r.me == q.me) && (r.nodes == q.nodes)) && (r.wait == q.wait)) && (r.term == q.term)) && (r.vote == q.vote)) && decide (r.log = q.log)) && (r.commit == q.commit))) rfl (fun w => by kernel_rfl) (.inl ⟨47, 52, rfl, rfl, rfl, by decide⟩) (.inr rfl) (Grow.Is.stays _) ?_
  refine Grow.cd_field (j := 7) (u := .int .i64 q.role) (Ψ := (Grow.Is (.int .i64 q.role))) (b := (((((((r.me == q.me) && (r.nodes == q.nodes)) && (r.wait == q.wait)) && (r.term == q.term)) && (r.vote == q.vote)) && decide (r.log = q.log)) && (r.commit == q.commit))) rfl (.inl ⟨47, 52, rfl, rfl, rfl, by decide⟩) (.inl rfl) (fun w => by kernel_rfl) rfl (Grow.Is.stays _) (fun _ _ => rfl) ?_
  refine Grow.cd_load (b := (((((((r.me == q.me) && (r.nodes == q.nodes)) && (r.wait == q.wait)) && (r.term == q.term)) && (r.vote == q.vote)) && decide (r.log = q.log)) && (r.commit == q.commit))) rfl (fun w => by kernel_rfl) (.inl ⟨47, 52, rfl, rfl, rfl, by decide⟩) (.inr rfl) (Grow.Is.stays _) ?_
  refine Grow.cd_int (c := .bool (r.role == q.role)) (b := (((((((r.me == q.me) && (r.nodes == q.nodes)) && (r.wait == q.wait)) && (r.term == q.term)) && (r.vote == q.vote)) && decide (r.log = q.log)) && (r.commit == q.commit))) rfl (.inl ⟨47, 52, rfl, rfl, rfl, by decide⟩) (.inr rfl) (.inr rfl) (by rw [show binOp .eql _ _ _ = pure (.bool (r.role == q.role)) from rfl]) ?_
  refine Grow.pick_and (b := (((((((r.me == q.me) && (r.nodes == q.nodes)) && (r.wait == q.wait)) && (r.term == q.term)) && (r.vote == q.vote)) && decide (r.log = q.log)) && (r.commit == q.commit))) rfl rfl rfl (.inr rfl) ?_
  refine Grow.grow_mv (.inl rfl) (.inl ⟨rfl, rfl⟩) rfl ?_
  refine Grow.cd_field (j := 8) (u := .int .i64 r.leader) (Ψ := (Grow.Is (.int .i64 r.leader))) (b := ((((((((r.me == q.me) && (r.nodes == q.nodes)) && (r.wait == q.wait)) && (r.term == q.term)) && (r.vote == q.vote)) && decide (r.log = q.log)) && (r.commit == q.commit)) && (r.role == q.role))) rfl (.inl ⟨54, 59, rfl, rfl, rfl, by decide⟩) (.inl rfl) (fun w => by kernel_rfl) rfl (Grow.Is.stays _) (fun _ _ => rfl) ?_
  refine Grow.cd_load (b := ((((((((r.me == q.me) && (r.nodes == q.nodes)) && (r.wait == q.wait)) && (r.term == q.term)) && (r.vote == q.vote)) && decide (r.log = q.log)) && (r.commit == q.commit)) && (r.role == q.role))) rfl (fun w => by kernel_rfl) (.inl ⟨54, 59, rfl, rfl, rfl, by decide⟩) (.inr rfl) (Grow.Is.stays _) ?_
  refine Grow.cd_field (j := 8) (u := .int .i64 q.leader) (Ψ := (Grow.Is (.int .i64 q.leader))) (b := ((((((((r.me == q.me) && (r.nodes == q.nodes)) && (r.wait == q.wait)) && (r.term == q.term)) && (r.vote == q.vote)) && decide (r.log = q.log)) && (r.commit == q.commit)) && (r.role == q.role))) rfl (.inl ⟨54, 59, rfl, rfl, rfl, by decide⟩) (.inl rfl) (fun w => by kernel_rfl) rfl (Grow.Is.stays _) (fun _ _ => rfl) ?_
  refine Grow.cd_load (b := ((((((((r.me == q.me) && (r.nodes == q.nodes)) && (r.wait == q.wait)) && (r.term == q.term)) && (r.vote == q.vote)) && decide (r.log = q.log)) && (r.commit == q.commit)) && (r.role == q.role))) rfl (fun w => by kernel_rfl) (.inl ⟨54, 59, rfl, rfl, rfl, by decide⟩) (.inr rfl) (Grow.Is.stays _) ?_
  refine Grow.cd_int (c := .bool (r.leader == q.leader)) (b := ((((((((r.me == q.me) && (r.nodes == q.nodes)) && (r.wait == q.wait)) && (r.term == q.term)) && (r.vote == q.vote)) && decide (r.log = q.log)) && (r.commit == q.commit)) && (r.role == q.role))) rfl (.inl ⟨54, 59, rfl, rfl, rfl, by decide⟩) (.inr rfl) (.inr rfl) (by rw [show binOp .eql _ _ _ = pure (.bool (r.leader == q.leader)) from rfl]) ?_
  refine Grow.pick_and (b := ((((((((r.me == q.me) && (r.nodes == q.nodes)) && (r.wait == q.wait)) && (r.term == q.term)) && (r.vote == q.vote)) && decide (r.log = q.log)) && (r.commit == q.commit)) && (r.role == q.role))) rfl rfl rfl (.inr rfl) ?_
  refine Grow.grow_mv (.inl rfl) (.inl ⟨rfl, rfl⟩) rfl ?_
  refine Grow.cd_field (j := 9) (u := vv1) (Ψ := (Grow.Bo r.votes)) (b := (((((((((r.me == q.me) && (r.nodes == q.nodes)) && (r.wait == q.wait)) && (r.term == q.term)) && (r.vote == q.vote)) && decide (r.log = q.log)) && (r.commit == q.commit)) && (r.role == q.role)) && (r.leader == q.leader))) rfl (.inl ⟨61, 66, rfl, rfl, rfl, by decide⟩) (.inl rfl) (fun w => by kernel_rfl) rfl (Grow.Bo.stays _) (fun _ h => HV1.out.gr h) ?_
  refine Grow.cd_load (b := (((((((((r.me == q.me) && (r.nodes == q.nodes)) && (r.wait == q.wait)) && (r.term == q.term)) && (r.vote == q.vote)) && decide (r.log = q.log)) && (r.commit == q.commit)) && (r.role == q.role)) && (r.leader == q.leader))) rfl (fun w => by kernel_rfl) (.inl ⟨61, 66, rfl, rfl, rfl, by decide⟩) (.inr rfl) (Grow.Bo.stays _) ?_
  refine Grow.cd_field (j := 9) (u := vv2) (Ψ := (Grow.Bo q.votes)) (b := (((((((((r.me == q.me) && (r.nodes == q.nodes)) && (r.wait == q.wait)) && (r.term == q.term)) && (r.vote == q.vote)) && decide (r.log = q.log)) && (r.commit == q.commit)) && (r.role == q.role)) && (r.leader == q.leader))) rfl (.inl ⟨61, 66, rfl, rfl, rfl, by decide⟩) (.inl rfl) (fun w => by kernel_rfl) rfl (Grow.Bo.stays _) (fun _ h => HV2.out.gr h) ?_
  refine Grow.cd_load (b := (((((((((r.me == q.me) && (r.nodes == q.nodes)) && (r.wait == q.wait)) && (r.term == q.term)) && (r.vote == q.vote)) && decide (r.log = q.log)) && (r.commit == q.commit)) && (r.role == q.role)) && (r.leader == q.leader))) rfl (fun w => by kernel_rfl) (.inl ⟨61, 66, rfl, rfl, rfl, by decide⟩) (.inr rfl) (Grow.Bo.stays _) ?_
  refine Grow.cd_call2 (Φ := Grow.Is (.bool (decide (r.votes = q.votes)))) (b := (((((((((r.me == q.me) && (r.nodes == q.nodes)) && (r.wait == q.wait)) && (r.term == q.term)) && (r.vote == q.vote)) && decide (r.log = q.log)) && (r.commit == q.commit)) && (r.role == q.role)) && (r.leader == q.leader))) rfl (.inl ⟨61, 66, rfl, rfl, rfl, by decide⟩) Try.func36 (by kernel_rfl) (by kernel_rfl) (Ψ := (Grow.Bo r.votes)) (Ψ' := (Grow.Bo q.votes)) (.inr rfl) (.inr rfl) (Grow.Is.stays _) (Grow.kEqB HVL.out) ?_
  refine Grow.pick_and (b := (((((((((r.me == q.me) && (r.nodes == q.nodes)) && (r.wait == q.wait)) && (r.term == q.term)) && (r.vote == q.vote)) && decide (r.log = q.log)) && (r.commit == q.commit)) && (r.role == q.role)) && (r.leader == q.leader))) rfl rfl rfl (.inr rfl) ?_
  refine Grow.grow_mv (.inl rfl) (.inl ⟨rfl, rfl⟩) rfl ?_
  refine Grow.cd_field (j := 10) (u := vn1) (Ψ := (Grow.Nu r.next)) (b := ((((((((((r.me == q.me) && (r.nodes == q.nodes)) && (r.wait == q.wait)) && (r.term == q.term)) && (r.vote == q.vote)) && decide (r.log = q.log)) && (r.commit == q.commit)) && (r.role == q.role)) && (r.leader == q.leader)) && decide (r.votes = q.votes))) rfl (.inl ⟨68, 73, rfl, rfl, rfl, by decide⟩) (.inl rfl) (fun w => by kernel_rfl) rfl (Grow.Nu.stays _) (fun _ h => HN1.out.gr h) ?_
  refine Grow.cd_load (b := ((((((((((r.me == q.me) && (r.nodes == q.nodes)) && (r.wait == q.wait)) && (r.term == q.term)) && (r.vote == q.vote)) && decide (r.log = q.log)) && (r.commit == q.commit)) && (r.role == q.role)) && (r.leader == q.leader)) && decide (r.votes = q.votes))) rfl (fun w => by kernel_rfl) (.inl ⟨68, 73, rfl, rfl, rfl, by decide⟩) (.inr rfl) (Grow.Nu.stays _) ?_
  refine Grow.cd_field (j := 10) (u := vn2) (Ψ := (Grow.Nu q.next)) (b := ((((((((((r.me == q.me) && (r.nodes == q.nodes)) && (r.wait == q.wait)) && (r.term == q.term)) && (r.vote == q.vote)) && decide (r.log = q.log)) && (r.commit == q.commit)) && (r.role == q.role)) && (r.leader == q.leader)) && decide (r.votes = q.votes))) rfl (.inl ⟨68, 73, rfl, rfl, rfl, by decide⟩) (.inl rfl) (fun w => by kernel_rfl) rfl (Grow.Nu.stays _) (fun _ h => HN2.out.gr h) ?_
  refine Grow.cd_load (b := ((((((((((r.me == q.me) && (r.nodes == q.nodes)) && (r.wait == q.wait)) && (r.term == q.term)) && (r.vote == q.vote)) && decide (r.log = q.log)) && (r.commit == q.commit)) && (r.role == q.role)) && (r.leader == q.leader)) && decide (r.votes = q.votes))) rfl (fun w => by kernel_rfl) (.inl ⟨68, 73, rfl, rfl, rfl, by decide⟩) (.inr rfl) (Grow.Nu.stays _) ?_
  refine Grow.cd_call2 (Φ := Grow.Is (.bool (decide (r.next = q.next)))) (b := ((((((((((r.me == q.me) && (r.nodes == q.nodes)) && (r.wait == q.wait)) && (r.term == q.term)) && (r.vote == q.vote)) && decide (r.log = q.log)) && (r.commit == q.commit)) && (r.role == q.role)) && (r.leader == q.leader)) && decide (r.votes = q.votes))) rfl (.inl ⟨68, 73, rfl, rfl, rfl, by decide⟩) Try.func37 (by kernel_rfl) (by kernel_rfl) (Ψ := (Grow.Nu r.next)) (Ψ' := (Grow.Nu q.next)) (.inr rfl) (.inr rfl) (Grow.Is.stays _) (Grow.kEqI HNL.out) ?_
  refine Grow.pick_and (b := ((((((((((r.me == q.me) && (r.nodes == q.nodes)) && (r.wait == q.wait)) && (r.term == q.term)) && (r.vote == q.vote)) && decide (r.log = q.log)) && (r.commit == q.commit)) && (r.role == q.role)) && (r.leader == q.leader)) && decide (r.votes = q.votes))) rfl rfl rfl (.inr rfl) ?_
  refine Grow.grow_mv (.inl rfl) (.inl ⟨rfl, rfl⟩) rfl ?_
  refine Grow.cd_field (j := 11) (u := vm1) (Ψ := (Grow.Nu r.mtch)) (b := (((((((((((r.me == q.me) && (r.nodes == q.nodes)) && (r.wait == q.wait)) && (r.term == q.term)) && (r.vote == q.vote)) && decide (r.log = q.log)) && (r.commit == q.commit)) && (r.role == q.role)) && (r.leader == q.leader)) && decide (r.votes = q.votes)) && decide (r.next = q.next))) rfl (.inl ⟨75, 80, rfl, rfl, rfl, by decide⟩) (.inl rfl) (fun w => by kernel_rfl) rfl (Grow.Nu.stays _) (fun _ h => HX1.out.gr h) ?_
  refine Grow.cd_load (b := (((((((((((r.me == q.me) && (r.nodes == q.nodes)) && (r.wait == q.wait)) && (r.term == q.term)) && (r.vote == q.vote)) && decide (r.log = q.log)) && (r.commit == q.commit)) && (r.role == q.role)) && (r.leader == q.leader)) && decide (r.votes = q.votes)) && decide (r.next = q.next))) rfl (fun w => by kernel_rfl) (.inl ⟨75, 80, rfl, rfl, rfl, by decide⟩) (.inr rfl) (Grow.Nu.stays _) ?_
  refine Grow.cd_field (j := 11) (u := vm2) (Ψ := (Grow.Nu q.mtch)) (b := (((((((((((r.me == q.me) && (r.nodes == q.nodes)) && (r.wait == q.wait)) && (r.term == q.term)) && (r.vote == q.vote)) && decide (r.log = q.log)) && (r.commit == q.commit)) && (r.role == q.role)) && (r.leader == q.leader)) && decide (r.votes = q.votes)) && decide (r.next = q.next))) rfl (.inl ⟨75, 80, rfl, rfl, rfl, by decide⟩) (.inl rfl) (fun w => by kernel_rfl) rfl (Grow.Nu.stays _) (fun _ h => HX2.out.gr h) ?_
  refine Grow.cd_load (b := (((((((((((r.me == q.me) && (r.nodes == q.nodes)) && (r.wait == q.wait)) && (r.term == q.term)) && (r.vote == q.vote)) && decide (r.log = q.log)) && (r.commit == q.commit)) && (r.role == q.role)) && (r.leader == q.leader)) && decide (r.votes = q.votes)) && decide (r.next = q.next))) rfl (fun w => by kernel_rfl) (.inl ⟨75, 80, rfl, rfl, rfl, by decide⟩) (.inr rfl) (Grow.Nu.stays _) ?_
  refine Grow.cd_call2 (Φ := Grow.Is (.bool (decide (r.mtch = q.mtch)))) (b := (((((((((((r.me == q.me) && (r.nodes == q.nodes)) && (r.wait == q.wait)) && (r.term == q.term)) && (r.vote == q.vote)) && decide (r.log = q.log)) && (r.commit == q.commit)) && (r.role == q.role)) && (r.leader == q.leader)) && decide (r.votes = q.votes)) && decide (r.next = q.next))) rfl (.inl ⟨75, 80, rfl, rfl, rfl, by decide⟩) Try.func37 (by kernel_rfl) (by kernel_rfl) (Ψ := (Grow.Nu r.mtch)) (Ψ' := (Grow.Nu q.mtch)) (.inr rfl) (.inr rfl) (Grow.Is.stays _) (Grow.kEqI HXL.out) ?_
  refine Grow.pick_and (b := (((((((((((r.me == q.me) && (r.nodes == q.nodes)) && (r.wait == q.wait)) && (r.term == q.term)) && (r.vote == q.vote)) && decide (r.log = q.log)) && (r.commit == q.commit)) && (r.role == q.role)) && (r.leader == q.leader)) && decide (r.votes = q.votes)) && decide (r.next = q.next))) rfl rfl rfl (.inr rfl) ?_
  refine Grow.grow_mv (.inl rfl) (.inl ⟨rfl, rfl⟩) rfl ?_
  refine Grow.cd_field (j := 12) (u := .int .i64 r.clock) (Ψ := (Grow.Is (.int .i64 r.clock))) (b := ((((((((((((r.me == q.me) && (r.nodes == q.nodes)) && (r.wait == q.wait)) && (r.term == q.term)) && (r.vote == q.vote)) && decide (r.log = q.log)) && (r.commit == q.commit)) && (r.role == q.role)) && (r.leader == q.leader)) && decide (r.votes = q.votes)) && decide (r.next = q.next)) && decide (r.mtch = q.mtch))) rfl (.inl ⟨82, 87, rfl, rfl, rfl, by decide⟩) (.inl rfl) (fun w => by kernel_rfl) rfl (Grow.Is.stays _) (fun _ _ => rfl) ?_
  refine Grow.cd_load (b := ((((((((((((r.me == q.me) && (r.nodes == q.nodes)) && (r.wait == q.wait)) && (r.term == q.term)) && (r.vote == q.vote)) && decide (r.log = q.log)) && (r.commit == q.commit)) && (r.role == q.role)) && (r.leader == q.leader)) && decide (r.votes = q.votes)) && decide (r.next = q.next)) && decide (r.mtch = q.mtch))) rfl (fun w => by kernel_rfl) (.inl ⟨82, 87, rfl, rfl, rfl, by decide⟩) (.inr rfl) (Grow.Is.stays _) ?_
  refine Grow.cd_field (j := 12) (u := .int .i64 q.clock) (Ψ := (Grow.Is (.int .i64 q.clock))) (b := ((((((((((((r.me == q.me) && (r.nodes == q.nodes)) && (r.wait == q.wait)) && (r.term == q.term)) && (r.vote == q.vote)) && decide (r.log = q.log)) && (r.commit == q.commit)) && (r.role == q.role)) && (r.leader == q.leader)) && decide (r.votes = q.votes)) && decide (r.next = q.next)) && decide (r.mtch = q.mtch))) rfl (.inl ⟨82, 87, rfl, rfl, rfl, by decide⟩) (.inl rfl) (fun w => by kernel_rfl) rfl (Grow.Is.stays _) (fun _ _ => rfl) ?_
  refine Grow.cd_load (b := ((((((((((((r.me == q.me) && (r.nodes == q.nodes)) && (r.wait == q.wait)) && (r.term == q.term)) && (r.vote == q.vote)) && decide (r.log = q.log)) && (r.commit == q.commit)) && (r.role == q.role)) && (r.leader == q.leader)) && decide (r.votes = q.votes)) && decide (r.next = q.next)) && decide (r.mtch = q.mtch))) rfl (fun w => by kernel_rfl) (.inl ⟨82, 87, rfl, rfl, rfl, by decide⟩) (.inr rfl) (Grow.Is.stays _) ?_
  refine Grow.cd_int (c := .bool (r.clock == q.clock)) (b := ((((((((((((r.me == q.me) && (r.nodes == q.nodes)) && (r.wait == q.wait)) && (r.term == q.term)) && (r.vote == q.vote)) && decide (r.log = q.log)) && (r.commit == q.commit)) && (r.role == q.role)) && (r.leader == q.leader)) && decide (r.votes = q.votes)) && decide (r.next = q.next)) && decide (r.mtch = q.mtch))) rfl (.inl ⟨82, 87, rfl, rfl, rfl, by decide⟩) (.inr rfl) (.inr rfl) (by rw [show binOp .eql _ _ _ = pure (.bool (r.clock == q.clock)) from rfl]) ?_
  refine Grow.pick_and (b := ((((((((((((r.me == q.me) && (r.nodes == q.nodes)) && (r.wait == q.wait)) && (r.term == q.term)) && (r.vote == q.vote)) && decide (r.log = q.log)) && (r.commit == q.commit)) && (r.role == q.role)) && (r.leader == q.leader)) && decide (r.votes = q.votes)) && decide (r.next = q.next)) && decide (r.mtch = q.mtch))) rfl rfl rfl (.inr rfl) ?_
  refine Grow.grow_mv (.inr rfl) (.inl ⟨rfl, rfl⟩) rfl ?_
  intro a1 V hgV hsz hdf hun hk
  have k2 := hk 4
  change a1.tmps.getD 4 undef = _ at k2
  rw [HD.out] at k2
  clear hk hun
  rw [Grow.lay_frame a1 94 hsz, hdf]
  simp only [List.range, List.range.loop, List.map_cons, List.map_nil, k2]
  go_wp2_with fail
  go_ret
  exact ⟨rfl, hg1.trans hgV⟩

end Go.Proofs.Ythpaoeiackbdoaa

/-
  memberOf, isFor.
-/
namespace Go.Proofs.Ythpaoeiackbdoaa
open Go Go.RowKit TxnMath KeyMath MsgMath BalMath RfMath
set_option maxRecDepth 100000

theorem flat1 (xs : List Value) : (xs.map fun x => [x]).flatten = xs := by
  induction xs with
  | nil => rfl
  | cons x l ih => rw [List.map_cons, List.flatten_cons, ih]; rfl
theorem ValX.rows {w : World} {v : Value} {xs : List Value} (h : ValX w v xs) : RowAt 1 w v (xs.map fun x => [x]) := by
  obtain ⟨A, c, h1, h2⟩ := h
  refine ⟨A, c, by rw [List.length_map]; exact h1, by rw [List.length_map]; exact h2.le, fun j i r u hj hi => ?_⟩
  rw [List.getElem?_map] at hj
  obtain ⟨x, hx, rfl⟩ := Option.map_eq_some_iff.1 hj
  obtain rfl : i = 0 := by have := (List.getElem?_eq_some_iff.1 hi).1; simp at this; omega
  simp only [List.getElem?_cons_zero, Option.some.injEq] at hi
  subst hi
  obtain ⟨hlt, rfl⟩ := List.getElem?_eq_some_iff.1 hx
  obtain ⟨ad, h3, h4⟩ := h2.rd j hlt
  exact ⟨ad, h3, by rw [Nat.mul_one, Nat.add_zero]; exact h4⟩
/-- 'append([]T(nil), x...)', elements of one cell -/
theorem wpList_copyV {P : Program} {ops : Array Oper} {rest : List Oper} {o : Oper} {a : Act} {Q : Exit → Act → World → Prop} (hgd : o.guard = none) (s x : Operand) (t : TypeId)
    (ho : o.op = .call { callee := .builtin .append, args := #[s, x], argTypes := #[t, t] }) (e : TypeId) (i : TypeInfo) (z : Value) (nb : Nat) (ht : P.underlying t = some (.slice e)) (hi : P.info? e = some i)
    (hz : i.zero = some z) (hsize : i.size = 1) (hby : i.bytes = nb) (hzs : z.cells.size = 1) (hnb : nb ≤ 8) {w : World} {u : Value} {xs : List Value}
    (hs : a.eval s = .slice none 0 0) (hx : a.eval x = u) (hu : ValX w u xs) (h1 : ∀ y ∈ xs, y.oneCell' = true) (hl : xs.length ≤ 100000)
    (h : ∀ v' w', OwnV e w' 0 v' xs → Gr w w' → (∀ k, v'.ownBlock = some k → w.heap.size ≤ k) → wpList P ops Q rest (a.put o.dst v') w') : wpList P ops Q (o :: rest) a w := by
  refine wpList_appR hgd s x t ho e i z 1 nb ht hi hz hsize hby hzs (by decide) hs (OwnR.none_ w 0) (Nat.zero_le _) hx hu.rows (fun q hq => by obtain ⟨y, _, rfl⟩ := List.mem_map.1 hq; rfl) (fun q hq y hy => ?_) (by simp only [List.length_nil, List.length_map]; unfold maxLen; omega) (by simp only [List.length_nil, List.length_map]; have := Nat.mul_le_mul (show 0 + xs.length ≤ 100000 by omega) hnb; omega) (fun v' w' g1 g2 => ?_)
  · obtain ⟨y', hy', rfl⟩ := List.mem_map.1 hq
    simp only [List.mem_singleton] at hy
    subst hy
    exact h1 y hy'
  · refine h v' w' ?_ ?_ (fun k hk => ?_)
    · have := g1.2
      rw [List.nil_append, flat1, List.length_map] at this
      exact this
    · exact ⟨g2.1.os, g2.1.tape, g2.1.output, g2.1.size, fun j hj => g2.1.block j hj (by simp [Value.ownBlock])⟩
    · rcases g2.2 with h2 | ⟨k', h2, hk'⟩
      · rw [h2] at hk; simp [Value.ownBlock] at hk
      · rw [h2] at hk; injection hk with hk; omega
theorem info_b : ∃ i, Try.prog.info? 4 = some i ∧ i.zero = some (.bool false) ∧ i.size = 1 ∧ i.bytes = 1 := info_parts (by kernel_rfl)

theorem But.trans_gr {a b c : World} {g : Nat} (h : But a b g) (k : Gr b c) : But a c g := h.trans_ ⟨k.os, k.tape, k.output, k.size, fun j hj _ => k.block j hj⟩

set_option maxHeartbeats 2000000 in
theorem memberOf_ok (w : World) (r : RaftT) (R0 : RowsM) (h : RaftR Any w r R0) (hs : RfSz r) :
    Calls Try.prog 39 #[.agg (rfC r R0).toArray] w fun e w' => ∃ g R, e = .returned (.pointer (some ⟨g, 0, none⟩)) ∧ MemR w' g ⟨r, []⟩ R ∧ Gr w w' ∧ (∀ j, Foot g R j → w.heap.size ≤ j) ∧ R.lo = w.heap.size := by
  obtain ⟨ib, hib, hb0, hb1, hb2⟩ := info_b
  obtain ⟨ii, hii, hi0, hi1, hi2⟩ := info_i
  obtain ⟨vl, vv, vn, vm, vq, vlo⟩ := R0
  have HH := hide h
  have HC := hide (fun W (hW : Gr w W) => copied_ok_ vl r.log W (h.l.any.gr hW) hs.log hs.bnd)
  have HS := hide hs
  obtain ⟨A0, c0, hA0⟩ := h.l.is
  obtain ⟨A1, c1, hA1, _⟩ := h.v.is'
  obtain ⟨A2, c2, hA2, _⟩ := h.n.is'
  obtain ⟨A3, c3, hA3, _⟩ := h.m.is'
  simp only at hA0 hA1 hA2 hA3
  clear h hs
  have HB0 := hide ((Gr.refl w).alloc (.cells (rfC r ⟨vl, vv, vn, vm, vq, vlo⟩).toArray 28))
  simp only [rfC] at HB0 ⊢
  subst hA0 hA1 hA2 hA3
  go_enter Try.func39, Try.ntmps39
  go_wp2_with fail
  refine (HC.out _ HB0.out).mono ?_
  rintro e w1 ⟨u, rfl, hu, hg1⟩
  obtain ⟨b, hb⟩ : ∃ b, w.heap.size = b := ⟨_, rfl⟩
  have hA : Bl w1 b 28 #[.int .i64 r.me, .int .i64 r.nodes, .int .i64 r.wait, .int .i64 r.term, .int .i64 r.vote, .slice A0 r.log.length c0, .int .i64 r.commit, .int .i64 r.role, .int .i64 r.leader, .slice A1 r.votes.length c1, .slice A2 r.next.length c2, .slice A3 r.mtch.length c3, .int .i64 r.clock] := by rw [← hb]; exact (Bl.new w _ _).gr hg1
  have hGw := HB0.out.trans hg1
  obtain ⟨B0, d0, rfl⟩ := hu.is
  rw [hb]
  have k5 : w1.cell? ⟨b, 5, none⟩ = some (.slice A0 r.log.length c0) := hA.cell 5
  have k9 : w1.cell? ⟨b, 9, none⟩ = some (.slice A1 r.votes.length c1) := hA.cell 9
  have f5 := hA.frozen 5
  have HLB := hide (show EntsX (fun j => j < w1.heap.size ∧ b < j) w1 (.slice B0 r.log.length d0) r.log from hu.move (Moves.same fun j hj hx => ⟨hj, by rw [← hb]; exact Nat.lt_of_succ_le (by simpa using hx)⟩))
  have HA := hide hA
  have HG := hide hGw
  clear hu hg1 hA hGw HC HB0
  go_wp2_with (at_builtin; refine pause ?_)
  refine hide ?_
  obtain ⟨W2, hW2⟩ : ∃ W2, w1.setCell ⟨b, 5, none⟩ (.slice B0 r.log.length d0) = W2 := ⟨_, rfl⟩
  have hB : Bl W2 b 28 #[.int .i64 r.me, .int .i64 r.nodes, .int .i64 r.wait, .int .i64 r.term, .int .i64 r.vote, .slice B0 r.log.length d0, .int .i64 r.commit, .int .i64 r.role, .int .i64 r.leader, .slice A1 r.votes.length c1, .slice A2 r.next.length c2, .slice A3 r.mtch.length c3, .int .i64 r.clock] := by rw [← hW2]; exact HA.out.put 5 _
  have hu2 : But w1 W2 b := by rw [← hW2]; exact (But.refl _ _).set 5 _
  have hG2 : Gr w W2 := HG.out.fresh_ hu2 (Nat.le_of_eq hb)
  have hs2 : W2.heap.size = w1.heap.size := by rw [← hW2]; simp [World.setCell]
  have HLB2 := hide (show EntsX (fun j => j < W2.heap.size ∧ b < j) W2 (.slice B0 r.log.length d0) r.log from HLB.out.move fun j hj hx => ⟨hu2.block j hj (fun e => by injection e with e; have := hx.2; omega), by rw [hs2]; exact hx.1, hx.2⟩)
  rw [hW2]
  clear hW2 hu2 k5 k9 f5 HA HG HLB hs2
  refine wpList_copyV rfl (.const (.slice none 0 0)) (.tmp 8) 25 rfl 4 _ _ 1 Try.underlying25 hib hb0 hb1 hb2 rfl (by decide) rfl rfl (xs := bvals r.votes) (HH.out.v.gr hG2) (fun y hy => by obtain ⟨x, _, rfl⟩ := List.mem_map.1 hy; rfl) (by rw [bvals_len]; have := HS.out.votes; omega) ?_
  intro v1 x1 o1 g1 n1
  obtain ⟨B1, d1, rfl, _⟩ := OwnV.is o1
  rw [bvals_len] at o1 n1 ⊢
  have hX1 := hB.gr g1
  have k9 : x1.cell? ⟨b, 9, none⟩ = some (.slice A1 r.votes.length c1) := hX1.cell 9
  have f9 := hX1.frozen 9
  have k10 : x1.cell? ⟨b, 10, none⟩ = some (.slice A2 r.next.length c2) := hX1.cell 10
  have hGx1 := hG2.trans g1
  go_wp2_with (at_builtin; refine pause ?_)
  refine hide ?_
  obtain ⟨W3, hW3⟩ : ∃ W3, x1.setCell ⟨b, 9, none⟩ (.slice B1 r.votes.length d1) = W3 := ⟨_, rfl⟩
  have hB1 : Bl W3 b 28 #[.int .i64 r.me, .int .i64 r.nodes, .int .i64 r.wait, .int .i64 r.term, .int .i64 r.vote, .slice B0 r.log.length d0, .int .i64 r.commit, .int .i64 r.role, .int .i64 r.leader, .slice B1 r.votes.length d1, .slice A2 r.next.length c2, .slice A3 r.mtch.length c3, .int .i64 r.clock] := by rw [← hW3]; exact hX1.put 9 _
  have hu1 : But x1 W3 b := by rw [← hW3]; exact (But.refl _ _).set 9 _
  have hGy1 : Gr w W3 := hGx1.fresh_ hu1 (Nat.le_of_eq hb)
  rw [hW3]
  clear hW3 k9 f9 k10
  refine wpList_copyV rfl (.const (.slice none 0 0)) (.tmp 12) 26 rfl 3 _ _ 8 Try.underlying26 hii hi0 hi1 hi2 rfl (by decide) rfl rfl (xs := ivs r.next) (HH.out.n.gr hGy1) (fun y hy => by obtain ⟨x, _, rfl⟩ := List.mem_map.1 hy; rfl) (by rw [ivs_len]; have := HS.out.next; omega) ?_
  intro v2 x2 o2 g2 n2
  obtain ⟨B2, d2, rfl, _⟩ := OwnV.is o2
  rw [ivs_len] at o2 n2 ⊢
  have hX2 := hB1.gr g2
  have k10 : x2.cell? ⟨b, 10, none⟩ = some (.slice A2 r.next.length c2) := hX2.cell 10
  have f10 := hX2.frozen 10
  have k11 : x2.cell? ⟨b, 11, none⟩ = some (.slice A3 r.mtch.length c3) := hX2.cell 11
  have hGx2 := hGy1.trans g2
  go_wp2_with (at_builtin; refine pause ?_)
  refine hide ?_
  obtain ⟨W4, hW4⟩ : ∃ W4, x2.setCell ⟨b, 10, none⟩ (.slice B2 r.next.length d2) = W4 := ⟨_, rfl⟩
  have hB2 : Bl W4 b 28 #[.int .i64 r.me, .int .i64 r.nodes, .int .i64 r.wait, .int .i64 r.term, .int .i64 r.vote, .slice B0 r.log.length d0, .int .i64 r.commit, .int .i64 r.role, .int .i64 r.leader, .slice B1 r.votes.length d1, .slice B2 r.next.length d2, .slice A3 r.mtch.length c3, .int .i64 r.clock] := by rw [← hW4]; exact hX2.put 10 _
  have hu2 : But x2 W4 b := by rw [← hW4]; exact (But.refl _ _).set 10 _
  have hGy2 : Gr w W4 := hGx2.fresh_ hu2 (Nat.le_of_eq hb)
  rw [hW4]
  clear hW4 k10 f10 k11
  refine wpList_copyV rfl (.const (.slice none 0 0)) (.tmp 16) 26 rfl 3 _ _ 8 Try.underlying26 hii hi0 hi1 hi2 rfl (by decide) rfl rfl (xs := ivs r.mtch) (HH.out.m.gr hGy2) (fun y hy => by obtain ⟨x, _, rfl⟩ := List.mem_map.1 hy; rfl) (by rw [ivs_len]; have := HS.out.mtch; omega) ?_
  intro v3 x3 o3 g3 n3
  obtain ⟨B3, d3, rfl, _⟩ := OwnV.is o3
  rw [ivs_len] at o3 n3 ⊢
  have hX3 := hB2.gr g3
  have k11 : x3.cell? ⟨b, 11, none⟩ = some (.slice A3 r.mtch.length c3) := hX3.cell 11
  have f11 := hX3.frozen 11
  have hGx3 := hGy2.trans g3
  go_upto_region 5 with (fail)
  obtain ⟨W5, hW5⟩ : ∃ W5, x3.setCell ⟨b, 11, none⟩ (.slice B3 r.mtch.length d3) = W5 := ⟨_, rfl⟩
  have hB3 : Bl W5 b 28 #[.int .i64 r.me, .int .i64 r.nodes, .int .i64 r.wait, .int .i64 r.term, .int .i64 r.vote, .slice B0 r.log.length d0, .int .i64 r.commit, .int .i64 r.role, .int .i64 r.leader, .slice B1 r.votes.length d1, .slice B2 r.next.length d2, .slice B3 r.mtch.length d3, .int .i64 r.clock] := by rw [← hW5]; exact hX3.put 11 _
  have hu3 : But x3 W5 b := by rw [← hW5]; exact (But.refl _ _).set 11 _
  have hGy3 : Gr w W5 := hGx3.fresh_ hu3 (Nat.le_of_eq hb)
  rw [hW5]
  clear hW5 k11 f11
  refine wp_region_list ?_
  rw [List.toList_toArray]
  refine wpList_val (.agg #[.int .i64 r.me, .int .i64 r.nodes, .int .i64 r.wait, .int .i64 r.term, .int .i64 r.vote, .slice B0 r.log.length d0, .int .i64 r.commit, .int .i64 r.role, .int .i64 r.leader, .slice B1 r.votes.length d1, .slice B2 r.next.length d2, .slice B3 r.mtch.length d3, .int .i64 r.clock]) rfl (exec_box rfl rfl hB3 Try.underlying28 rfl (by kernel_rfl)) ?_
  simp only [Act.put, List.setIfInBounds_toArray, List.set_cons_zero, List.set_cons_succ]
  have l1 := OwnV.lt o1
  have l2 := OwnV.lt o2
  have l3 := OwnV.lt o3
  have z2 := g1.size
  have z3 := hu1.size
  have z4 := g2.size
  have z5 := hu2.size
  have z6 := g3.size
  have z7 := hu3.size
  have hbz : b < W2.heap.size := hB.lt
  have hGz := hG2.size
  obtain ⟨W6, hW6⟩ : ∃ W6, W5.alloc (.cells (mbC r ⟨.slice B0 r.log.length d0, .slice B1 r.votes.length d1, .slice B2 r.next.length d2, .slice B3 r.mtch.length d3, .slice none 0 0, w.heap.size⟩) 81) = W6 := ⟨_, rfl⟩
  have hG6 : Gr W5 W6 := by rw [← hW6]; exact (Gr.refl _).alloc _
  have hbt3 : But x3 W6 b := hu3.trans_gr hG6
  have hbt2 : But x2 W6 b := (hu2.trans_gr g3).trans_ hbt3
  have hbt1 : But x1 W6 b := (hu1.trans_gr g2).trans_ hbt2
  have hbt0 : But W2 W6 b := ((But.refl W2 b).trans_gr g1).trans_ hbt1
  have hfin : MemR W6 W5.heap.size ⟨r, []⟩ ⟨.slice B0 r.log.length d0, .slice B1 r.votes.length d1, .slice B2 r.next.length d2, .slice B3 r.mtch.length d3, .slice none 0 0, w.heap.size⟩ := by
    refine ⟨by rw [← hW6]; exact Bl.new _ _ _, HLB2.out.move fun j hj hx => ⟨hbt0.block j hj (fun e => by injection e with e; have := hx.2; omega), fun hf => ?_, by have := hx.2; show w.heap.size ≤ j; omega⟩, ?_, ?_, ?_, ⟨fun _ => rows0, OwnR.none_ _ _, fun j m hj => by simp at hj⟩, (by show w.heap.size ≤ _; have := hG6.size; omega), ?_, ?_, ?_, (by simp [Value.ownBlock]), ?_, ?_, Sep.none_ _ _ _, ?_, Sep.none_ _ _ _, Sep.none_ _ _ _⟩
    · have hjl := hx.1
      rcases hf with hf | hf | hf | hf | hf
      · omega
      · have := n1 j hf; omega
      · have := n2 j hf; omega
      · have := n3 j hf; omega
      · simp [Value.ownBlock] at hf
    · exact OwnV.keep o1 fun k hk => hbt1.block k (l1 k hk) (fun e => by injection e with e; have := n1 k hk; omega)
    · exact OwnV.keep o2 fun k hk => hbt2.block k (l2 k hk) (fun e => by injection e with e; have := n2 k hk; omega)
    · exact OwnV.keep o3 fun k hk => hbt3.block k (l3 k hk) (fun e => by injection e with e; have := n3 k hk; omega)
    · intro e; have := l1 _ e; omega
    · intro e; have := l2 _ e; omega
    · intro e; have := l3 _ e; omega
    · intro k e1 e2; have := l1 _ e1; have := n2 _ e2; omega
    · intro k e1 e2; have := l1 _ e1; have := n3 _ e2; omega
    · intro k e1 e2; have := l2 _ e1; have := n3 _ e2; omega
  have HF := hide hfin
  have HFT := hide (show ∀ j, Foot W5.heap.size ⟨.slice B0 r.log.length d0, .slice B1 r.votes.length d1, .slice B2 r.next.length d2, .slice B3 r.mtch.length d3, .slice none 0 0, w.heap.size⟩ j → w.heap.size ≤ j from fun j hf => by
    rcases hf with hf | hf | hf | hf | hf
    · omega
    · have := n1 j hf; omega
    · have := n2 j hf; omega
    · have := n3 j hf; omega
    · simp [Value.ownBlock] at hf)
  have HG6 := hide (hGy3.trans hG6)
  simp only [mbC] at hW6
  clear hfin hbt0 hbt1 hbt2 hbt3 hG6 l1 l2 l3 o1 o2 o3 n1 n2 n3 hu1 hu2 hu3 hGy1 hGy2 hGy3 hB1 hB2 hB3 hB
  go_wp2_with fail
  go_ret
  exact ⟨_, _, rfl, HF.out, HG6.out, HFT.out, rfl⟩

end Go.Proofs.Ythpaoeiackbdoaa

/-
  What Tick, Take, Propose tell: a member's state is loaded out of its block, and stored into the result's.
-/
namespace Go.Proofs.Ythpaoeiackbdoaa
open Go Go.RowKit TxnMath KeyMath MsgMath BalMath RfMath
set_option maxRecDepth 100000

theorem load_part {w : World} {g : Nat} {r : RaftT} {R : RowsM} (hb : Bl w g 81 (mbC r R)) : (Instr.loadAt 28 (.pointer (some ⟨g, 0, none⟩))).run Try.prog w = .ok (.agg (rfC r R).toArray) w := by
  have ha : ∀ w, (isAgg 28).run Try.prog w = .ok true w := fun w => by kernel_rfl
  have hc := run_loadCells_list (P := Try.prog) w ⟨g, 0, none⟩ (rfC r R) (fun k v hk => by
    rw [addr_at, hb.cell]
    have e : mbC r R = (rfC r R ++ [R.q]).toArray := rfl
    rw [e, List.getElem?_toArray, List.getElem?_append_left (List.getElem?_eq_some_iff.1 hk).1]
    exact hk)
  rw [show (rfC r R).length = 13 from rfl] at hc
  simp [Instr.loadAt, Instr.sureAddr, loadVar, ha w, hc]
theorem Bl.sets {t : TypeId} {g : Nat} : ∀ (l : List Value) (k : Nat) (w : World) (old : Array Value), k + l.length = old.size → Bl w g t old → Bl (w.setCells g k l) g t (old.toList.take k ++ l).toArray ∧ But w (w.setCells g k l) g
  | [], k, w, old, hk, h => by
    simp only [List.length_nil, Nat.add_zero] at hk
    refine ⟨?_, But.refl w g⟩
    show Bl w g t _
    rw [List.append_nil, List.take_of_length_le (by simp [hk])]
    exact h
  | x :: l, k, w, old, hk, h => by
    simp only [List.length_cons] at hk
    obtain ⟨q1, q2⟩ := Bl.sets l (k + 1) (w.setCell ⟨g, k, none⟩ x) (old.setIfInBounds k x) (by simp; omega) (h.put k x)
    have hw : w.setCells g k (x :: l) = (w.setCell ⟨g, k, none⟩ x).setCells g (k + 1) l := rfl
    rw [hw]
    refine ⟨?_, ((But.refl w g).set k x).trans_ q2⟩
    have e : ((old.setIfInBounds k x).toList.take (k + 1) ++ l) = old.toList.take k ++ x :: l := by
      rw [Array.toList_setIfInBounds, List.take_succ_eq_append_getElem (by rw [List.length_set]; simp; omega), List.getElem_set_self, List.take_set_of_le (by omega)]
      simp
    rw [← e]
    exact q1
theorem store_raft {w : World} {b : Nat} {old : Array Value} (cs : List Value) (hb : Bl w b 28 old) (hs : old.size = 13) (hl : cs.length = 13) (h1 : ∀ v ∈ cs, v.oneCell' = true) :
    (Instr.storeAt 28 (.pointer (some ⟨b, 0, none⟩)) (.agg cs.toArray)).run Try.prog w = .ok () (w.setCells b 0 cs) := by
  obtain ⟨i, hi, hsz⟩ : ∃ i, Try.prog.info? 28 = some i ∧ i.size = 13 := by
    have h : (Try.prog.info? 28).map (·.size) = some 13 := by kernel_rfl
    obtain ⟨i, h1, h2⟩ := Option.map_eq_some_iff.1 h
    exact ⟨i, h1, h2⟩
  simp [Instr.storeAt, Instr.sureAddr, Lib.rl_storeVar_cells (P := Try.prog) 28 i hi b 0 cs (by rw [hsz]; exact hl) h1 w (fun k hk => by rw [hb.cell, Array.getElem?_eq_getElem (by omega)]; rfl) (fun k _ => hb.frozen _)]
theorem sl_one {v : Value} (h : ∃ A n c, v = .slice A n c) : v.oneCell' = true := by
  obtain ⟨A, n, c, rfl⟩ := h
  exact slice_one
theorem MemR.sl {w : World} {g : Nat} {s : StT} {R : RowsM} (h : MemR w g s R) : (∃ A n c, R.l = .slice A n c) ∧ (∃ A n c, R.v = .slice A n c) ∧ (∃ A n c, R.n = .slice A n c) ∧ (∃ A n c, R.m = .slice A n c) ∧ ∃ A n c, R.q = .slice A n c := by
  obtain ⟨A, c, e1⟩ := h.log.is
  obtain ⟨A2, c2, e2, _⟩ := OwnV.is h.votes
  obtain ⟨A3, c3, e3, _⟩ := OwnV.is h.next
  obtain ⟨A4, c4, e4, _⟩ := OwnV.is h.mtch
  obtain ⟨f, ho, _⟩ := h.out
  obtain ⟨A5, c5, e5, _⟩ := OwnR.is ho
  exact ⟨⟨_, _, _, e1⟩, ⟨_, _, _, e2⟩, ⟨_, _, _, e3⟩, ⟨_, _, _, e4⟩, ⟨_, _, _, e5⟩⟩
theorem MemR.ones {w : World} {g : Nat} {s : StT} {R : RowsM} (h : MemR w g s R) : ∀ v ∈ rfC s.r R, v.oneCell' = true := by
  obtain ⟨h1, h2, h3, h4, _⟩ := h.sl
  have h1 := sl_one h1
  have h2 := sl_one h2
  have h3 := sl_one h3
  have h4 := sl_one h4
  intro u hu
  simp only [rfC, List.mem_cons, List.not_mem_nil, or_false] at hu
  rcases hu with rfl | rfl | rfl | rfl | rfl | rfl | rfl | rfl | rfl | rfl | rfl | rfl | rfl <;> first | assumption | rfl
/-- the world ahead of the store and behind it -/
def Cw (w : World) (b : Nat) (cs : List Value) : Nat → World → Prop := fun m w' => w' = match m with
  | 0 => w.drew
  | _ => w.drew.setCells b 0 cs
theorem exec_part {ev : Operand → Value} {o : Oper} {x : Operand} {w : World} {g : Nat} {r : RaftT} {R : RowsM} (ho : o.op = .load 28 x) (hx : ev x = .pointer (some ⟨g, 0, none⟩)) (hb : Bl w g 81 (mbC r R)) : (execOp ev o).run Try.prog w = .ok (.value (.agg (rfC r R).toArray)) w := by
  unfold execOp
  simp only [ho, hx]
  rw [Sem.run_bind, load_part hb]
  rfl
theorem rf_results2 {P : Program} {fn : Func} {p q : Tmp} {ty : TypeId} (h : fn.results = #[.cell p ty, .tmp q]) (tmps : Array Value) (w : World) (g : Nat) (t : TypeId) (cs : Array Value) (fr : Nat × Nat) (d : TypeDesc)
    (hp : tmps.getD p undef = .pointer (some ⟨g, 0, none⟩)) (hg : w.heap[g]? = some (.cells cs t fr)) (hu : P.underlying ty = some d) (hd : (match d with | .struct _ | .array _ _ => true | _ => false) = true) (hi : (P.info? ty).map (·.size) = some cs.size) :
    (results fn tmps).run P w = .ok (.tuple #[.agg cs, tmps.getD q undef]) w := by
  have hp' : tmps[p]?.getD undef = .pointer (some ⟨g, 0, none⟩) := by simpa using hp
  simp [results, h, hp', asAddr, run_loadVar_row w g t ty cs fr d hg hu hd hi]
theorem rf_results3 {P : Program} {fn : Func} {p q u : Tmp} {ty : TypeId} (h : fn.results = #[.cell p ty, .tmp q, .tmp u]) (tmps : Array Value) (w : World) (g : Nat) (t : TypeId) (cs : Array Value) (fr : Nat × Nat) (d : TypeDesc)
    (hp : tmps.getD p undef = .pointer (some ⟨g, 0, none⟩)) (hg : w.heap[g]? = some (.cells cs t fr)) (hu : P.underlying ty = some d) (hd : (match d with | .struct _ | .array _ _ => true | _ => false) = true) (hi : (P.info? ty).map (·.size) = some cs.size) :
    (results fn tmps).run P w = .ok (.tuple #[.agg cs, tmps.getD q undef, tmps.getD u undef]) w := by
  have hp' : tmps[p]?.getD undef = .pointer (some ⟨g, 0, none⟩) := by simpa using hp
  simp [results, h, hp', asAddr, run_loadVar_row w g t ty cs fr d hg hu hd hi]

/-- what a call tells of a member: its state, the letters that it has written; all of it lies in memory that is new since -/
structure TurnX (w w' : World) (s : StT) (v u : Value) : Prop where
  ex : ∃ R, v = .agg (rfC s.r R).toArray ∧ RaftR Any w' s.r R ∧ u = R.q ∧ OutX Any w' u s.out ∧
    ∀ w'' : World, (∀ j, w.heap.size ≤ j → j < w'.heap.size → w''.heap[j]? = w'.heap[j]?) → RaftR Any w'' s.r R ∧ OutX Any w'' u s.out
  gr : Gr w w'
/-- the result's block is written -/
theorem MemR.told {w0 w : World} {g b : Nat} {s : StT} {R : RowsM} {old : Array Value} (h : MemR w g s R) (hg : Gr w0 w) (hb : Bl w b 28 old) (hs : old.size = 13) (hbf : ¬ Foot g R b) (hlo : b < R.lo) (hb0 : w0.heap.size ≤ b) (hft : ∀ j, Foot g R j → w0.heap.size ≤ j) :
    Bl (w.drew.setCells b 0 (rfC s.r R)) b 28 (rfC s.r R).toArray ∧ TurnX w0 (w.drew.setCells b 0 (rfC s.r R)) s (.agg (rfC s.r R).toArray) R.q := by
  obtain ⟨q1, q2⟩ := Bl.sets (t := 28) (g := b) (rfC s.r R) 0 w.drew old (by rw [hs]; rfl) (hb.drewN 1)
  have hsz : w.heap.size ≤ (w.drew.setCells b 0 (rfC s.r R)).heap.size := q2.size
  have hall : ∀ w'' : World, (∀ j, w0.heap.size ≤ j → j < (w.drew.setCells b 0 (rfC s.r R)).heap.size → w''.heap[j]? = (w.drew.setCells b 0 (rfC s.r R)).heap[j]?) → RaftR Any w'' s.r R ∧ OutX Any w'' R.q s.out := fun w'' hw => by
    have hm : Moves (Home g R) Any w.drew w'' := fun j hj hx => ⟨(hw j (by have := hx.2; omega) (Nat.lt_of_lt_of_le hj hsz)).trans (q2.block j hj (fun e => by injection e with e; have := hx.2; omega)), trivial⟩
    have hk : ∀ j, Foot g R j → w''.heap[j]? = w.heap[j]? := fun j hj => (hw j (hft j hj) (Nat.lt_of_lt_of_le (h.lt j hj) hsz)).trans (q2.block j (h.lt j hj) (fun e => by injection e with e; subst e; exact hbf hj))
    refine ⟨⟨(h.log.gr ((Gr.refl w).drewN 1)).move hm, ?_, ?_, ?_⟩, (h.out.move (Moves.of_gr ((Gr.refl w).drewN 1)) (fun _ _ => rfl)).move hm (fun k hk2 => hk k (.inr (.inr (.inr (.inr hk2)))))⟩
    · exact OwnB.x (OwnV.keep h.votes fun k hk2 => hk k (.inr (.inl hk2)))
    · exact OwnI.ints (OwnV.keep h.next fun k hk2 => hk k (.inr (.inr (.inl hk2))))
    · exact OwnI.ints (OwnV.keep h.mtch fun k hk2 => hk k (.inr (.inr (.inr (.inl hk2)))))
  have ht : TurnX w0 (w.drew.setCells b 0 (rfC s.r R)) s (.agg (rfC s.r R).toArray) R.q :=
    ⟨⟨R, rfl, (hall _ fun _ _ _ => rfl).1, rfl, (hall _ fun _ _ _ => rfl).2, hall⟩, (hg.trans ((Gr.refl w).drewN 1)).fresh_ q2 hb0⟩
  exact ⟨by simpa using q1, ht⟩

end Go.Proofs.Ythpaoeiackbdoaa
