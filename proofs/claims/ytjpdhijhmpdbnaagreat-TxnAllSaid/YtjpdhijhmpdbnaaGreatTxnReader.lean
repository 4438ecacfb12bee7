/-
  The document's reader by its contracts: num, text, flag.
-/
import Derived.Test.YtjpdhijhmpdbnaaGreatTxnPut
import Derived.Test.YtjpdhijhmpdbnaaGreatTakeMath
import Derived.Test.YtjpdhijhmpdbnaaGreatNumRefText
import Derived.Test.YtjpdhijhmpdbnaaGreatBaseG
import Derived.Test.YtjpdhijhmpdbnaaGreatBaseW
namespace Go.Proofs.YtjpdhijhmpdbnaaGreat
open Go Go.RowKit TxnMath KeyMath NumPlain TakeMath
set_option maxRecDepth 100000

/-- the document's reader in memory -/
def RefRd (w : World) (g : Nat) (A : Option Addr) (n c : Nat) (s : RdS) : Prop := Bl w g 81 #[.slice A n c, .int .i64 (s.at_ : Int), .bool s.bad]

set_option maxHeartbeats 1000000 in
theorem RefNum_ok (g : Nat) (A : Option Addr) (c : Nat) (l : List UInt8) (s : RdS) (w : World) (hr : RefRd w g A l.length c s) (hby : By w A c l) (hle : s.at_ ≤ l.length) (hmax : (l.length : Int) ≤ 1000000000) :
    Calls Tryz.prog 49 #[.pointer (some ⟨g, 0, none⟩)] w fun e w' => e = .returned (.int .i64 (numS l s).1) ∧ RefRd w' g A l.length c (numS l s).2 ∧ But w w' g := by
  have HBY := hide hby
  have HR := hide hr
  obtain ⟨p, bad⟩ := s
  have hl2 : (l.drop p).length ≤ l.length := by rw [List.length_drop]; omega
  unfold RefRd at hr
  simp only at hle
  go_enter Tryz.func49, Tryz.ntmps49
  go_wp2_with fail
  refine Grow.wp_region_kept 35 [7, 8, 9, 10, 11, 12, 13, 14, 15, 16, 6, 17, 18, 19, 3, 4, 5] rfl (by kernel_rfl) (by kernel_rfl) (by kernel_rfl) (Grow.Ahead.more (Grow.Ahead.none_ _ _) 0 (Grow.Bx.stays g 81 #[.slice A l.length c, .int .i64 (p : Int), .bool bad]) ⟨rfl, Bl.drewN hr 1⟩) ?_
  refine Grow.grow_mvx (.inl rfl) (.inl ⟨rfl, rfl⟩) rfl ?_
  refine Grow.grow_nil rfl (.inl ⟨rfl, rfl⟩) rfl ?_
  refine Grow.grow_field (j := 0) (Ψ := Grow.Sl l) rfl (.inl ⟨rfl, rfl⟩) rfl (fun _ => rfl) rfl (Grow.Sl.stays l) (fun w' hg => ⟨A, c, rfl, HBY.out.gr (((Gr.refl w).drewN 1).trans hg)⟩) ?_
  refine Grow.grow_load_k rfl agg_bytes (.inl ⟨rfl, rfl⟩) rfl (Grow.Sl.stays l) ?_
  refine Grow.grow_mvx (.inl rfl) (.inl ⟨rfl, rfl⟩) rfl ?_
  refine Grow.grow_nil rfl (.inl ⟨rfl, rfl⟩) rfl ?_
  refine Grow.grow_field (j := 1) (Ψ := Grow.Is (.int .i64 (p : Int))) rfl (.inl ⟨rfl, rfl⟩) rfl (fun _ => rfl) rfl (Grow.Is.stays _) (fun _ _ => rfl) ?_
  refine Grow.grow_load_k rfl agg_int (.inl ⟨rfl, rfl⟩) rfl (Grow.Is.stays _) ?_
  refine Grow.grow_cut_l p rfl Tryz.underlying22 size_u8 (.inl ⟨rfl, rfl⟩) rfl rfl rfl hle ?_
  refine Grow.grow_call1 (Φ := Grow.Is (.tuple #[.int .i64 (takeV (l.drop p)), .int .i64 (takeK (l.drop p)), .bool (takeB (l.drop p))])) rfl (.inl ⟨rfl, rfl⟩) Tryz.func69 (by kernel_rfl) (by kernel_rfl) (Ψ := Grow.Sl (l.drop p)) rfl (Grow.Is.stays _) (fun v u _ hv => by
    obtain ⟨A2, c2, rfl, hb2⟩ := hv
    exact (TakeNum_ok A2 _ c2 _ rfl u hb2 (by omega)).mono fun e w' ⟨he, hg⟩ => ⟨_, he, hg, rfl⟩) ?_
  refine Grow.grow_mv (.inl rfl) (.inl ⟨rfl, rfl⟩) rfl ?_
  refine Grow.grow_part rfl (.inl ⟨rfl, rfl⟩) rfl (fun _ => rfl) ?_
  refine Grow.grow_part rfl (.inl ⟨rfl, rfl⟩) rfl (fun _ => rfl) ?_
  refine Grow.grow_part rfl (.inl ⟨rfl, rfl⟩) rfl (fun _ => rfl) ?_
  refine Grow.grow_mv (.inr rfl) (.inl ⟨rfl, rfl⟩) rfl ?_
  refine Grow.grow_mv (.inr rfl) (.inl ⟨rfl, rfl⟩) rfl ?_
  refine Grow.grow_mv (.inr rfl) (.inl ⟨rfl, rfl⟩) rfl ?_
  intro a1 w1 hg1 hs1 hd1 hu1 hk1
  have h3 : a1.tmps.getD 3 undef = .int .i64 (takeV (l.drop p)) := hk1 3
  have h4 : a1.tmps.getD 4 undef = .int .i64 (takeK (l.drop p)) := hk1 4
  have h5 : a1.tmps.getD 5 undef = .bool (takeB (l.drop p)) := hk1 5
  obtain ⟨X, hX, hlay⟩ := Grow.lay_kept_by _ a1 35 _ hs1 hd1 hu1
  rw [hX] at h3 h4 h5
  clear hX hu1 hd1 hs1 hk1
  subst hlay
  simp only [List.range, List.range.loop, List.map_cons, List.map_nil, List.contains_cons, List.contains_nil, Nat.reduceBEq, Bool.or_false, Bool.or_true, cond_false, cond_true, Array.getD_eq_getD_getElem?, List.getElem?_toArray, List.getElem?_cons_zero, List.getElem?_cons_succ, Option.getD_some, h3, h4, h5]
  clear h3 h4 h5
  have hgw : Gr w w1 := ((Gr.refl w).drewN 1).trans hg1
  have hr1 : RefRd w1 g A l.length c ⟨p, bad⟩ := HR.out.gr hgw
  have hbut : But w w1 g := hgw.but g
  have f2 : w1.frozen? ⟨g, 2, none⟩ = false := Bl.frozen hr1 2
  have f1 : w1.frozen? ⟨g, 1, none⟩ = false := Bl.frozen hr1 1
  have c2 : w1.cell? ⟨g, 2, none⟩ = some (.bool bad) := Bl.cell hr1 2
  have c1 : w1.cell? ⟨g, 1, none⟩ = some (.int .i64 (p : Int)) := Bl.cell hr1 1
  clear hr
  cases ht : takeF 9 (l.drop p) with
  | none =>
    have E := hide (show numS l ⟨p, bad⟩ = (0, ⟨p, true⟩) by unfold numS; rw [ht])
    have e1 : takeV (l.drop p) = 0 := by unfold takeV; rw [ht]
    have e2 : takeK (l.drop p) = 0 := by unfold takeK; rw [ht]
    have e3 : takeB (l.drop p) = false := by unfold takeB; rw [ht]; rfl
    rw [e1, e2, e3]
    clear e1 e2 e3 ht
    go_wp2_with fail
    go_ret
    rw [E.out]
    exact ⟨rfl, Bl.put hr1 2 _, hbut.set 2 _⟩
  | some vk =>
    obtain ⟨v, k⟩ := vk
    obtain ⟨b1, b2, b3, b4, _⟩ := takeF_some9 _ v k ht
    have E := hide (show numS l ⟨p, bad⟩ = ((v : Int), ⟨p + k, bad⟩) by unfold numS; rw [ht])
    have e1 : takeV (l.drop p) = (v : Int) := by unfold takeV; rw [ht]
    have e2 : takeK (l.drop p) = (k : Int) := by unfold takeK; rw [ht]
    have e3 : takeB (l.drop p) = true := by unfold takeB; rw [ht]; rfl
    rw [e1, e2, e3]
    clear e1 e2 e3 ht
    rw [List.length_drop] at b2
    have hw : IntKind.i64.wrap ((p : Int) + (k : Int)) = (p : Int) + (k : Int) := by rw [IntKind.wrap_i64]; omega
    go_wp2_with fail
    go_ret
    rw [E.out]
    refine ⟨rfl, ?_, hbut.set 1 _⟩
    have := Bl.put hr1 1 (.int .i64 ((p : Int) + (k : Int)))
    simpa [RefRd] using this

set_option maxHeartbeats 1000000 in
theorem RefText_ok (g : Nat) (A : Option Addr) (c : Nat) (l : List UInt8) (s : RdS) (w : World) (hr : RefRd w g A l.length c s) (hby : By w A c l) (hle : s.at_ ≤ l.length) (hmax : (l.length : Int) ≤ 1000000000) :
    Calls Tryz.prog 50 #[.pointer (some ⟨g, 0, none⟩)] w fun e w' => e = .returned (.string (txtS l s).1) ∧ RefRd w' g A l.length c (txtS l s).2 ∧ But w w' g := by
  have HBY := hide hby
  have HR := hide hr
  obtain ⟨p, bad⟩ := s
  have hl2 : (l.drop p).length ≤ l.length := by rw [List.length_drop]; omega
  unfold RefRd at hr
  simp only at hle
  go_enter Tryz.func50, Tryz.ntmps50
  go_wp2_with fail
  refine Grow.wp_region_kept 35 [7, 8, 9, 10, 11, 12, 13, 14, 15, 16, 6, 17, 18, 19, 3, 4, 5] rfl (by kernel_rfl) (by kernel_rfl) (by kernel_rfl) (Grow.Ahead.more (Grow.Ahead.none_ _ _) 0 (Grow.Bx.stays g 81 #[.slice A l.length c, .int .i64 (p : Int), .bool bad]) ⟨rfl, Bl.drewN hr 1⟩) ?_
  refine Grow.grow_mvx (.inl rfl) (.inl ⟨rfl, rfl⟩) rfl ?_
  refine Grow.grow_nil rfl (.inl ⟨rfl, rfl⟩) rfl ?_
  refine Grow.grow_field (j := 0) (Ψ := Grow.Sl l) rfl (.inl ⟨rfl, rfl⟩) rfl (fun _ => rfl) rfl (Grow.Sl.stays l) (fun w' hg => ⟨A, c, rfl, HBY.out.gr (((Gr.refl w).drewN 1).trans hg)⟩) ?_
  refine Grow.grow_load_k rfl agg_bytes (.inl ⟨rfl, rfl⟩) rfl (Grow.Sl.stays l) ?_
  refine Grow.grow_mvx (.inl rfl) (.inl ⟨rfl, rfl⟩) rfl ?_
  refine Grow.grow_nil rfl (.inl ⟨rfl, rfl⟩) rfl ?_
  refine Grow.grow_field (j := 1) (Ψ := Grow.Is (.int .i64 (p : Int))) rfl (.inl ⟨rfl, rfl⟩) rfl (fun _ => rfl) rfl (Grow.Is.stays _) (fun _ _ => rfl) ?_
  refine Grow.grow_load_k rfl agg_int (.inl ⟨rfl, rfl⟩) rfl (Grow.Is.stays _) ?_
  refine Grow.grow_cut_l p rfl Tryz.underlying22 size_u8 (.inl ⟨rfl, rfl⟩) rfl rfl rfl hle ?_
  refine Grow.grow_call1 (Φ := Grow.Is (.tuple #[.string (textV (l.drop p)), .int .i64 (textK (l.drop p)), .bool (textB (l.drop p))])) rfl (.inl ⟨rfl, rfl⟩) Tryz.func70 (by kernel_rfl) (by kernel_rfl) (Ψ := Grow.Sl (l.drop p)) rfl (Grow.Is.stays _) (fun v u _ hv => by
    obtain ⟨A2, c2, rfl, hb2⟩ := hv
    exact (RefTakeText_ok A2 _ c2 _ rfl u hb2 (by omega)).mono fun e w' ⟨he, hg⟩ => ⟨_, he, hg, rfl⟩) ?_
  refine Grow.grow_mv (.inl rfl) (.inl ⟨rfl, rfl⟩) rfl ?_
  refine Grow.grow_part rfl (.inl ⟨rfl, rfl⟩) rfl (fun _ => rfl) ?_
  refine Grow.grow_part rfl (.inl ⟨rfl, rfl⟩) rfl (fun _ => rfl) ?_
  refine Grow.grow_part rfl (.inl ⟨rfl, rfl⟩) rfl (fun _ => rfl) ?_
  refine Grow.grow_mv (.inr rfl) (.inl ⟨rfl, rfl⟩) rfl ?_
  refine Grow.grow_mv (.inr rfl) (.inl ⟨rfl, rfl⟩) rfl ?_
  refine Grow.grow_mv (.inr rfl) (.inl ⟨rfl, rfl⟩) rfl ?_
  intro a1 w1 hg1 hs1 hd1 hu1 hk1
  have h3 : a1.tmps.getD 3 undef = .string (textV (l.drop p)) := hk1 3
  have h4 : a1.tmps.getD 4 undef = .int .i64 (textK (l.drop p)) := hk1 4
  have h5 : a1.tmps.getD 5 undef = .bool (textB (l.drop p)) := hk1 5
  obtain ⟨X, hX, hlay⟩ := Grow.lay_kept_by _ a1 35 _ hs1 hd1 hu1
  rw [hX] at h3 h4 h5
  clear hX hu1 hd1 hs1 hk1
  subst hlay
  simp only [List.range, List.range.loop, List.map_cons, List.map_nil, List.contains_cons, List.contains_nil, Nat.reduceBEq, Bool.or_false, Bool.or_true, cond_false, cond_true, Array.getD_eq_getD_getElem?, List.getElem?_toArray, List.getElem?_cons_zero, List.getElem?_cons_succ, Option.getD_some, h3, h4, h5]
  clear h3 h4 h5
  have hgw : Gr w w1 := ((Gr.refl w).drewN 1).trans hg1
  have hr1 : RefRd w1 g A l.length c ⟨p, bad⟩ := HR.out.gr hgw
  have hbut : But w w1 g := hgw.but g
  have f2 : w1.frozen? ⟨g, 2, none⟩ = false := Bl.frozen hr1 2
  have f1 : w1.frozen? ⟨g, 1, none⟩ = false := Bl.frozen hr1 1
  have c2 : w1.cell? ⟨g, 2, none⟩ = some (.bool bad) := Bl.cell hr1 2
  have c1 : w1.cell? ⟨g, 1, none⟩ = some (.int .i64 (p : Int)) := Bl.cell hr1 1
  clear hr
  have hlim := (txtS_lim l ⟨p, bad⟩).2.2 hle
  cases ht : takeT (l.drop p) with
  | none =>
    have E := hide (show txtS l ⟨p, bad⟩ = (⟨#[]⟩, ⟨p, true⟩) by unfold txtS; rw [ht])
    have e1 : textV (l.drop p) = ⟨#[]⟩ := by unfold textV; rw [ht]; rfl
    have e2 : textK (l.drop p) = 0 := by unfold textK; rw [ht]
    have e3 : textB (l.drop p) = false := by unfold textB; rw [ht]; rfl
    rw [e1, e2, e3]
    clear e1 e2 e3 ht hlim
    go_wp2_with fail
    go_ret
    rw [E.out]
    exact ⟨rfl, Bl.put hr1 2 _, hbut.set 2 _⟩
  | some tk =>
    obtain ⟨t, k⟩ := tk
    have hE : txtS l ⟨p, bad⟩ = (⟨t.toArray⟩, ⟨p + k, bad⟩) := by unfold txtS; rw [ht]
    rw [hE] at hlim
    simp only at hlim
    have E := hide hE
    have e1 : textV (l.drop p) = bs t := by unfold textV; rw [ht]
    have e2 : textK (l.drop p) = (k : Int) := by unfold textK; rw [ht]
    have e3 : textB (l.drop p) = true := by unfold textB; rw [ht]; rfl
    rw [e1, e2, e3]
    clear e1 e2 e3 ht hE
    have hw : IntKind.i64.wrap ((p : Int) + (k : Int)) = (p : Int) + (k : Int) := by rw [IntKind.wrap_i64]; omega
    go_wp2_with fail
    go_ret
    rw [E.out]
    refine ⟨rfl, ?_, hbut.set 1 _⟩
    have := Bl.put hr1 1 (.int .i64 ((p : Int) + (k : Int)))
    simpa [RefRd] using this

set_option maxHeartbeats 1000000 in
theorem RefFlag_ok (g : Nat) (A : Option Addr) (c : Nat) (l : List UInt8) (s : RdS) (w : World) (hr : RefRd w g A l.length c s) (hby : By w A c l) (ho : Off g A l) (hmax : (l.length : Int) ≤ 1000000000) :
    Calls Tryz.prog 51 #[.pointer (some ⟨g, 0, none⟩)] w fun e w' => e = .returned (.bool (flagS l s).1) ∧ RefRd w' g A l.length c (flagS l s).2 ∧ But w w' g := by
  have HBY := hide hby
  have HR := hide hr
  obtain ⟨p, bad⟩ := s
  have f2 : w.frozen? ⟨g, 2, none⟩ = false := Bl.frozen hr 2
  have f1 : w.frozen? ⟨g, 1, none⟩ = false := Bl.frozen hr 1
  have c0 : w.cell? ⟨g, 0, none⟩ = some (.slice A l.length c) := Bl.cell hr 0
  have c1 : w.cell? ⟨g, 1, none⟩ = some (.int .i64 (p : Int)) := Bl.cell hr 1
  have c2 : w.cell? ⟨g, 2, none⟩ = some (.bool bad) := Bl.cell hr 2
  clear hr
  by_cases hlt : l.length ≤ p
  · have hlt' : (l.length : Int) ≤ (p : Int) := by omega
    have E := hide (show flagS l ⟨p, bad⟩ = (false, ⟨p, true⟩) by unfold flagS; rw [if_pos hlt])
    go_enter Tryz.func51, Tryz.ntmps51
    go_wp2_with fail
    go_quiet (fail)
    go_wp2_with fail
    go_ret
    rw [E.out]
    exact ⟨rfl, Bl.put (HR.out.drewN _) 2 _, ((But.refl w g).drewN _).set 2 _⟩
  · have hlt' : ¬ (l.length : Int) ≤ (p : Int) := by omega
    have hpl : p < l.length := by omega
    have E := hide (show flagS l ⟨p, bad⟩ = (l.getD p 0 == 1, ⟨p + 1, bad⟩) by unfold flagS; rw [if_neg hlt])
    obtain ⟨ad, rfl, hcell⟩ := hby.cell p hpl
    have hne := ho (by omega) _ rfl
    have hadd : (ad.add p).block = ad.block := add_block _ _
    have hw : IntKind.i64.wrap ((p : Int) + 1) = (p : Int) + 1 := by rw [IntKind.wrap_i64]; omega
    have hpl' : (p : Int) < (l.length : Int) := by omega
    go_enter Tryz.func51, Tryz.ntmps51
    go_wp2_with fail
    go_quiet (fail)
    go_wp2_with fail
    have hb3 : Bl ((w.drewN nq).setCell ⟨g, 1, none⟩ (.int .i64 ((p : Int) + 1))) g 81 #[.slice (some ad) l.length c, .int .i64 ((p : Int) + 1), .bool bad] := Bl.put (HR.out.drewN nq) 1 _
    have hbut3 : But w ((w.drewN nq).setCell ⟨g, 1, none⟩ (.int .i64 ((p : Int) + 1))) g := ((But.refl w g).drewN nq).set 1 _
    generalize (w.drewN nq).setCell ⟨g, 1, none⟩ (.int .i64 ((p : Int) + 1)) = w3 at hb3 hbut3 ⊢
    have d0 : w3.cell? ⟨g, 0, none⟩ = some (.slice (some ad) l.length c) := hb3.cell 0
    have d1 : w3.cell? ⟨g, 1, none⟩ = some (.int .i64 ((p : Int) + 1)) := hb3.cell 1
    have d2 : w3.cell? (ad.add p) = some (.int .u8 ((l.getD p 0).toNat : Int)) := hbut3.cell hcell (by rw [hadd]; exact hne)
    have hw2 : IntKind.i64.wrap (p : Int) = (p : Int) := by rw [IntKind.wrap_i64]; omega
    have hb1 : (p : Int) + 1 - 1 = (p : Int) := by omega
    clear c0 c1 c2 f1 f2 hcell hlt
    generalize l.getD p 0 = b at E d2
    have HB3 := hide hb3
    have HBUT := hide hbut3
    clear hb3 hbut3
    by_cases hb : (b.toNat : Int) = 1
    · have e : (b == 1) = true := by
        rw [beq_iff_eq]
        exact UInt8.toNat_inj.1 (by have h1 : (1 : UInt8).toNat = 1 := rfl; omega)
      rw [e] at E
      clear e
      go_wp2_with fail
      go_quiet (fail)
      go_wp2_with fail
      go_ret
      rw [E.out]
      exact ⟨rfl, HB3.out.drewN _, HBUT.out.drewN _⟩
    · have e : (b == 1) = false := by
        rw [beq_eq_false_iff_ne]
        rintro rfl
        exact hb rfl
      rw [e] at E
      have hbe := beq_no hb
      clear e
      go_wp2_with fail
      go_quiet (fail)
      go_wp2_with fail
      go_ret
      rw [E.out]
      exact ⟨rfl, HB3.out.drewN _, HBUT.out.drewN _⟩

end Go.Proofs.YtjpdhijhmpdbnaaGreat

/-
  The memory of the document's TakeTxn: a reader, the result's cell, the transaction that grows.
-/
namespace Go.Proofs.YtjpdhijhmpdbnaaGreat
open Go Go.RowKit TxnMath KeyMath NumPlain TakeMath

structure Tk (w wr : World) (g gR gT B : Nat) (A : Option Addr) (c : Nat) (l : List UInt8) (s : RdS) (a b : Int) (rv : Value) (xs : List RdT) (wv : Value) (ys : List WrT) : Prop where
  gr : Gr w wr
  lt : w.heap.size ≤ gR ∧ gR < g ∧ g < gT ∧ gT < B ∧ B ≤ wr.heap.size
  rd : RefRd wr g A l.length c s
  res : Bl wr gR 26 #[.int .i64 0, .int .i64 0, .slice none 0 0, .slice none 0 0]
  t : Bl wr gT 26 #[.int .i64 a, .int .i64 b, rv, wv]
  rows : OwnR 46 4 wr B rv (xs.map rdC)
  wrs : OwnR 44 3 wr B wv (ys.map wrC)
  sep : Sep rv wv
section
variable {w wr wz : World} {g gR gT B : Nat} {A : Option Addr} {c : Nat} {l : List UInt8} {s s' : RdS} {a b : Int} {rv : Value} {xs : List RdT} {wv : Value} {ys : List WrT}
theorem Tk.call (h : Tk w wr g gR gT B A c l s a b rv xs wv ys) (hb : But wr wz g) (hr : RefRd wz g A l.length c s') : Tk w wz g gR gT B A c l s' a b rv xs wv ys := by
  have hl := h.lt
  exact ⟨h.gr.fresh hb (by omega), ⟨hl.1, hl.2.1, hl.2.2.1, hl.2.2.2.1, Nat.le_trans hl.2.2.2.2 hb.size⟩, hr, h.res.but_ hb (by omega), h.t.but_ hb (by omega), h.rows.but hb (by omega), h.wrs.but hb (by omega), h.sep⟩
theorem Tk.more (h : Tk w wr g gR gT B A c l s a b rv xs wv ys) (hg : Gr wr wz) : Tk w wz g gR gT B A c l s a b rv xs wv ys :=
  ⟨h.gr.trans hg, ⟨h.lt.1, h.lt.2.1, h.lt.2.2.1, h.lt.2.2.2.1, Nat.le_trans h.lt.2.2.2.2 hg.size⟩, Bl.gr h.rd hg, h.res.gr hg, h.t.gr hg, h.rows.gr hg, h.wrs.gr hg, h.sep⟩
/-- a block that is none of these has changed -/
theorem Tk.other {k : Nat} (h : Tk w wr g gR gT B A c l s a b rv xs wv ys) (hb : But wr wz k) (hk : B ≤ k) (h1 : some k ≠ rv.ownBlock) (h2 : some k ≠ wv.ownBlock) : Tk w wz g gR gT B A c l s a b rv xs wv ys := by
  have hl := h.lt
  exact ⟨h.gr.fresh hb (by omega), ⟨hl.1, hl.2.1, hl.2.2.1, hl.2.2.2.1, Nat.le_trans hl.2.2.2.2 hb.size⟩, Bl.but_ h.rd hb (by omega), h.res.but_ hb (by omega), h.t.but_ hb (by omega), h.rows.apart hb h1, h.wrs.apart hb h2, h.sep⟩
/-- the second number -/
theorem Tk.setB (h : Tk w wr g gR gT B A c l s a b rv xs wv ys) (z : Int) : Tk w (wr.setCell ⟨gT, 1, none⟩ (.int .i64 z)) g gR gT B A c l s a z rv xs wv ys := by
  have hl := h.lt
  have hb := But.set (But.refl wr gT) 1 (.int .i64 z)
  exact ⟨h.gr.fresh hb (by omega), ⟨hl.1, hl.2.1, hl.2.2.1, hl.2.2.2.1, Nat.le_trans hl.2.2.2.2 hb.size⟩, Bl.but_ h.rd hb (by omega), h.res.but_ hb (by omega), h.t.put 1 _, h.rows.but hb (by omega), h.wrs.but hb (by omega), h.sep⟩
theorem Tk.low (h : Tk w wr g gR gT B A c l s a b rv xs wv ys) : ∀ j, rv.ownBlock = some j ∨ wv.ownBlock = some j → j < wr.heap.size := fun j hj => by
  rcases hj with hj | hj
  · exact (h.rows.lt j hj).2
  · exact (h.wrs.lt j hj).2
theorem Tk.atR {w' : World} {v' : Value} (h : Tk w wr g gR gT B A c l s a b rv xs wv ys) (hp : Put1 wr w' rv v') : Bl w' gT 26 #[.int .i64 a, .int .i64 b, rv, wv] :=
  (hp.1.block gT (by have := h.lt; omega) fun e => by have := (h.rows.lt gT e.symm).1; have := h.lt; omega).trans h.t
theorem Tk.atW {w' : World} {v' : Value} (h : Tk w wr g gR gT B A c l s a b rv xs wv ys) (hp : Put1 wr w' wv v') : Bl w' gT 26 #[.int .i64 a, .int .i64 b, rv, wv] :=
  (hp.1.block gT (by have := h.lt; omega) fun e => by have := (h.wrs.lt gT e.symm).1; have := h.lt; omega).trans h.t
/-- one read more -/
theorem Tk.pushR {w' : World} {v' : Value} {x : RdT} (h : Tk w wr g gR gT B A c l s a b rv xs wv ys) (hp : Put1 wr w' rv v') (ho : OwnR 46 4 w' B v' (xs.map rdC ++ [rdC x])) :
    Tk w (w'.setCell ⟨gT, 2, none⟩ v') g gR gT B A c l s a b v' (xs ++ [x]) wv ys := by
  have hl := h.lt
  have hbk : ∀ j, j < B → w'.heap[j]? = wr.heap[j]? := fun j hj => hp.1.block j (by omega) fun e => by have := (h.rows.lt j e.symm).1; omega
  have hset := But.set (But.refl w' gT) 2 v'
  have hgw : Gr w w' := h.gr.below.grown hp.1 h.gr.size (fun j hj => by have := (h.rows.lt j hj).1; omega)
  refine ⟨hgw.fresh hset (by omega), ⟨hl.1, hl.2.1, hl.2.2.1, hl.2.2.2.1, Nat.le_trans hl.2.2.2.2 (Nat.le_trans hp.1.size hset.size)⟩, ?_, ?_, ?_, ?_, ?_, ?_⟩
  · exact Bl.but_ ((hbk g (by omega)).trans h.rd) hset (by omega)
  · exact Bl.but_ ((hbk gR (by omega)).trans h.res) hset (by omega)
  · exact (h.atR hp).put 2 v'
  · rw [List.map_append]; exact ho.but hset (by omega)
  · exact (h.wrs.beside hp h.sep).but hset (by omega)
  · exact hp.sep h.sep fun k hk => (h.wrs.lt k hk).2
/-- one write more -/
theorem Tk.pushW {w' : World} {v' : Value} {y : WrT} (h : Tk w wr g gR gT B A c l s a b rv xs wv ys) (hp : Put1 wr w' wv v') (ho : OwnR 44 3 w' B v' (ys.map wrC ++ [wrC y])) :
    Tk w (w'.setCell ⟨gT, 3, none⟩ v') g gR gT B A c l s a b rv xs v' (ys ++ [y]) := by
  have hl := h.lt
  have hbk : ∀ j, j < B → w'.heap[j]? = wr.heap[j]? := fun j hj => hp.1.block j (by omega) fun e => by have := (h.wrs.lt j e.symm).1; omega
  have hset := But.set (But.refl w' gT) 3 v'
  have hgw : Gr w w' := h.gr.below.grown hp.1 h.gr.size (fun j hj => by have := (h.wrs.lt j hj).1; omega)
  refine ⟨hgw.fresh hset (by omega), ⟨hl.1, hl.2.1, hl.2.2.1, hl.2.2.2.1, Nat.le_trans hl.2.2.2.2 (Nat.le_trans hp.1.size hset.size)⟩, ?_, ?_, ?_, ?_, ?_, ?_⟩
  · exact Bl.but_ ((hbk g (by omega)).trans h.rd) hset (by omega)
  · exact Bl.but_ ((hbk gR (by omega)).trans h.res) hset (by omega)
  · exact (h.atW hp).put 3 v'
  · exact (h.rows.beside hp h.sep.symm).but hset (by omega)
  · rw [List.map_append]; exact ho.but hset (by omega)
  · exact (hp.sep h.sep.symm fun k hk => (h.rows.lt k hk).2).symm
theorem Tk.txAt (h : Tk w wr g gR gT B A c l s a b rv xs wv ys) : TxAt wr (.agg #[.int .i64 a, .int .i64 b, rv, wv]) ⟨a, b, xs, ys⟩ := ⟨rv, wv, rfl, h.rows.rowAt, h.wrs.rowAt⟩
end

end Go.Proofs.YtjpdhijhmpdbnaaGreat
