/-
  txn's reader by its contracts: number, text, flag.
-/
import Derived.Test.YtpabppoohobjpaaGreatTxnWords
import Derived.Test.YtpabppoohobjpaaGreatBaseG
import Derived.Test.YtpabppoohobjpaaGreatTxnMath
import Derived.Test.YtpabppoohobjpaaGreatNumTake
namespace Go.Proofs.YtpabppoohobjpaaGreat
open Go Go.RowKit TxnMath KeyMath NumPlain TakeMath
set_option maxRecDepth 100000

/-- txn's reader in memory -/
def RdAt (w : World) (g : Nat) (A : Option Addr) (n c : Nat) (s : RdS) : Prop := Bl w g 176 #[.slice A n c, .int .i64 (s.at_ : Int), .bool s.bad]
theorem RdAt.gr {w w' : World} {g : Nat} {A : Option Addr} {n c : Nat} {s : RdS} (h : RdAt w g A n c s) (hg : Gr w w') : RdAt w' g A n c s := Bl.gr h hg

theorem size_u8_ : ∀ w, (sizeOf (Tryz.prog.elem 22)).run Tryz.prog w = .ok 1 w := fun w => by kernel_rfl

set_option maxHeartbeats 1000000 in
theorem nextN_ok (g : Nat) (A : Option Addr) (c : Nat) (l : List UInt8) (s : RdS) (w : World) (hr : RdAt w g A l.length c s) (hby : By w A c l) (hle : s.at_ ≤ l.length) (hmax : (l.length : Int) ≤ 1000000000) :
    Calls Tryz.prog 149 #[.pointer (some ⟨g, 0, none⟩), .func (.func 134) #[] #[]] w fun e w' => e = .returned (.int .i64 (nN l s).1) ∧ RdAt w' g A l.length c (nN l s).2 ∧ But w w' g := by
  have HBY := hide hby
  have HR := hide hr
  obtain ⟨p, bad⟩ := s
  have hl2 : (l.drop p).length ≤ l.length := by rw [List.length_drop]; omega
  unfold RdAt at hr
  simp only at hle
  have c2 : w.cell? ⟨g, 2, none⟩ = some (.bool bad) := Bl.cell hr 2
  cases bad
  rotate_left
  · have E := hide (show nN l ⟨p, true⟩ = (0, ⟨p, true⟩) from nx_bad rfl)
    clear hr hby hl2
    go_enter Tryz.func149, Tryz.ntmps149
    go_wp2_with fail
    go_ret
    rw [E.out]
    exact ⟨rfl, HR.out, But.refl w g⟩
  have E0 := hide (show nN l ⟨p, false⟩ = numS l ⟨p, false⟩ from nx_go rfl)
  go_enter Tryz.func149, Tryz.ntmps149
  go_wp2_with fail
  refine Grow.wp_region_kept 41 [13, 14, 15, 16, 17, 18, 19, 20, 21, 22, 23, 12, 24, 25, 26, 4, 5, 6] rfl (by kernel_rfl) (by kernel_rfl) (by kernel_rfl) (Grow.Ahead.more (Grow.Ahead.more (Grow.Ahead.none_ _ _) 0 (Grow.Bx.stays g 176 #[.slice A l.length c, .int .i64 (p : Int), .bool false]) ⟨rfl, Bl.drewN hr 1⟩) 1 (Grow.Is.stays (.func (.func 134) #[] #[])) rfl) ?_
  refine Grow.grow_mv (.inl rfl) (.inl ⟨rfl, rfl⟩) rfl ?_
  refine Grow.grow_mvx (.inl rfl) (.inl ⟨rfl, rfl⟩) rfl ?_
  refine Grow.grow_nil rfl (.inl ⟨rfl, rfl⟩) rfl ?_
  refine Grow.grow_field (j := 0) (Ψ := Grow.Sl l) rfl (.inl ⟨rfl, rfl⟩) rfl (fun _ => rfl) rfl (Grow.Sl.stays l) (fun w' hg => ⟨A, c, rfl, HBY.out.gr (((Gr.refl w).drewN 1).trans hg)⟩) ?_
  refine Grow.grow_load_k rfl agg_bytes (.inl ⟨rfl, rfl⟩) rfl (Grow.Sl.stays l) ?_
  refine Grow.grow_mvx (.inl rfl) (.inl ⟨rfl, rfl⟩) rfl ?_
  refine Grow.grow_nil rfl (.inl ⟨rfl, rfl⟩) rfl ?_
  refine Grow.grow_field (j := 1) (Ψ := Grow.Is (.int .i64 (p : Int))) rfl (.inl ⟨rfl, rfl⟩) rfl (fun _ => rfl) rfl (Grow.Is.stays _) (fun _ _ => rfl) ?_
  refine Grow.grow_load_k rfl agg_int (.inl ⟨rfl, rfl⟩) rfl (Grow.Is.stays _) ?_
  refine Grow.grow_cut_l p rfl Tryz.underlying22 size_u8_ (.inl ⟨rfl, rfl⟩) rfl rfl rfl hle ?_
  refine Grow.grow_callv1 (Φ := Grow.Is (.tuple #[.int .i64 (takeV (l.drop p)), .int .i64 (takeK (l.drop p)), .bool (takeB (l.drop p))])) rfl (.inl ⟨rfl, rfl⟩) rfl Tryz.func134 (by kernel_rfl) (by kernel_rfl) (Ψ := Grow.Sl (l.drop p)) rfl (Grow.Is.stays _) (fun v u _ hv => by
    obtain ⟨A2, c2, rfl, hb2⟩ := hv
    exact (take_by A2 _ c2 _ rfl u hb2 (by omega)).mono fun e w' ⟨he, hg⟩ => ⟨_, he, hg, rfl⟩) ?_
  refine Grow.grow_mv (.inl rfl) (.inl ⟨rfl, rfl⟩) rfl ?_
  refine Grow.grow_part rfl (.inl ⟨rfl, rfl⟩) rfl (fun _ => rfl) ?_
  refine Grow.grow_part rfl (.inl ⟨rfl, rfl⟩) rfl (fun _ => rfl) ?_
  refine Grow.grow_part rfl (.inl ⟨rfl, rfl⟩) rfl (fun _ => rfl) ?_
  refine Grow.grow_mv (.inr rfl) (.inl ⟨rfl, rfl⟩) rfl ?_
  refine Grow.grow_mv (.inr rfl) (.inl ⟨rfl, rfl⟩) rfl ?_
  refine Grow.grow_mv (.inr rfl) (.inl ⟨rfl, rfl⟩) rfl ?_
  intro a1 w1 hg1 hs1 hd1 hu1 hk1
  have h4 : a1.tmps.getD 4 undef = .int .i64 (takeV (l.drop p)) := hk1 4
  have h5 : a1.tmps.getD 5 undef = .int .i64 (takeK (l.drop p)) := hk1 5
  have h6 : a1.tmps.getD 6 undef = .bool (takeB (l.drop p)) := hk1 6
  obtain ⟨X, hX, hlay⟩ := Grow.lay_kept_by _ a1 41 _ hs1 hd1 hu1
  rw [hX] at h4 h5 h6
  clear hX hu1 hd1 hs1 hk1
  subst hlay
  simp only [List.range, List.range.loop, List.map_cons, List.map_nil, List.contains_cons, List.contains_nil, Nat.reduceBEq, Bool.or_false, Bool.or_true, cond_false, cond_true, Array.getD_eq_getD_getElem?, List.getElem?_toArray, List.getElem?_cons_zero, List.getElem?_cons_succ, Option.getD_some, h4, h5, h6]
  clear h4 h5 h6
  have hgw : Gr w w1 := ((Gr.refl w).drewN 1).trans hg1
  have hr1 : RdAt w1 g A l.length c ⟨p, false⟩ := HR.out.gr hgw
  have hbut : But w w1 g := hgw.but g
  have f2 : w1.frozen? ⟨g, 2, none⟩ = false := Bl.frozen hr1 2
  have f1 : w1.frozen? ⟨g, 1, none⟩ = false := Bl.frozen hr1 1
  replace c2 : w1.cell? ⟨g, 2, none⟩ = some (.bool false) := Bl.cell hr1 2
  have c1 : w1.cell? ⟨g, 1, none⟩ = some (.int .i64 (p : Int)) := Bl.cell hr1 1
  clear hr
  cases ht : takeF 9 (l.drop p) with
  | none =>
    have E := hide (show nN l ⟨p, false⟩ = (0, ⟨p, true⟩) by rw [E0.out]; unfold numS; rw [ht])
    have e1 : takeV (l.drop p) = 0 := by unfold takeV; rw [ht]
    have e2 : takeK (l.drop p) = 0 := by unfold takeK; rw [ht]
    have e3 : takeB (l.drop p) = false := by unfold takeB; rw [ht]; rfl
    rw [e1, e2, e3]
    clear e1 e2 e3 ht
    go_wp2_with fail
    go_ret
    rw [E.out]
    have := Bl.put (Bl.put hr1 1 (.int .i64 (p : Int))) 2 (.bool true)
    exact ⟨rfl, by simpa [RdAt] using this, (hbut.set 1 _).set 2 _⟩
  | some vk =>
    obtain ⟨v, k⟩ := vk
    obtain ⟨b1, b2, b3, b4, _⟩ := takeF_some9 _ v k ht
    have E := hide (show nN l ⟨p, false⟩ = ((v : Int), ⟨p + k, false⟩) by rw [E0.out]; unfold numS; rw [ht])
    have e1 : takeV (l.drop p) = (v : Int) := by unfold takeV; rw [ht]
    have e2 : takeK (l.drop p) = (k : Int) := by unfold takeK; rw [ht]
    have e3 : takeB (l.drop p) = true := by unfold takeB; rw [ht]; rfl
    rw [e1, e2, e3]
    clear e1 e2 e3 ht
    rw [List.length_drop] at b2
    have hw : IntKind.i64.wrap ((p : Int) + (k : Int)) = (p : Int) + (k : Int) := by rw [IntKind.wrap_i64]; omega
    go_wp2_with fail
    go_ret
    rw [E.out]
    have := Bl.put (Bl.put hr1 1 (.int .i64 ((p : Int) + (k : Int)))) 2 (.bool false)
    exact ⟨rfl, by simpa [RdAt] using this, (hbut.set 1 _).set 2 _⟩

set_option maxHeartbeats 1000000 in
theorem nextT_ok (g : Nat) (A : Option Addr) (c : Nat) (l : List UInt8) (s : RdS) (w : World) (hr : RdAt w g A l.length c s) (hby : By w A c l) (hle : s.at_ ≤ l.length) (hmax : (l.length : Int) ≤ 1000000000) :
    Calls Tryz.prog 152 #[.pointer (some ⟨g, 0, none⟩), .func (.func 136) #[] #[]] w fun e w' => e = .returned (.string (nT l s).1) ∧ RdAt w' g A l.length c (nT l s).2 ∧ But w w' g := by
  have HBY := hide hby
  have HR := hide hr
  obtain ⟨p, bad⟩ := s
  have hl2 : (l.drop p).length ≤ l.length := by rw [List.length_drop]; omega
  unfold RdAt at hr
  simp only at hle
  have c2 : w.cell? ⟨g, 2, none⟩ = some (.bool bad) := Bl.cell hr 2
  cases bad
  rotate_left
  · have E := hide (show nT l ⟨p, true⟩ = (⟨#[]⟩, ⟨p, true⟩) from nx_bad rfl)
    clear hr hby hl2
    go_enter Tryz.func152, Tryz.ntmps152
    go_wp2_with fail
    go_ret
    rw [E.out]
    exact ⟨rfl, HR.out, But.refl w g⟩
  have E0 := hide (show nT l ⟨p, false⟩ = txtS l ⟨p, false⟩ from nx_go rfl)
  go_enter Tryz.func152, Tryz.ntmps152
  go_wp2_with fail
  refine Grow.wp_region_kept 41 [13, 14, 15, 16, 17, 18, 19, 20, 21, 22, 23, 12, 24, 25, 26, 4, 5, 6] rfl (by kernel_rfl) (by kernel_rfl) (by kernel_rfl) (Grow.Ahead.more (Grow.Ahead.more (Grow.Ahead.none_ _ _) 0 (Grow.Bx.stays g 176 #[.slice A l.length c, .int .i64 (p : Int), .bool false]) ⟨rfl, Bl.drewN hr 1⟩) 1 (Grow.Is.stays (.func (.func 136) #[] #[])) rfl) ?_
  refine Grow.grow_mv (.inl rfl) (.inl ⟨rfl, rfl⟩) rfl ?_
  refine Grow.grow_mvx (.inl rfl) (.inl ⟨rfl, rfl⟩) rfl ?_
  refine Grow.grow_nil rfl (.inl ⟨rfl, rfl⟩) rfl ?_
  refine Grow.grow_field (j := 0) (Ψ := Grow.Sl l) rfl (.inl ⟨rfl, rfl⟩) rfl (fun _ => rfl) rfl (Grow.Sl.stays l) (fun w' hg => ⟨A, c, rfl, HBY.out.gr (((Gr.refl w).drewN 1).trans hg)⟩) ?_
  refine Grow.grow_load_k rfl agg_bytes (.inl ⟨rfl, rfl⟩) rfl (Grow.Sl.stays l) ?_
  refine Grow.grow_mvx (.inl rfl) (.inl ⟨rfl, rfl⟩) rfl ?_
  refine Grow.grow_nil rfl (.inl ⟨rfl, rfl⟩) rfl ?_
  refine Grow.grow_field (j := 1) (Ψ := Grow.Is (.int .i64 (p : Int))) rfl (.inl ⟨rfl, rfl⟩) rfl (fun _ => rfl) rfl (Grow.Is.stays _) (fun _ _ => rfl) ?_
  refine Grow.grow_load_k rfl agg_int (.inl ⟨rfl, rfl⟩) rfl (Grow.Is.stays _) ?_
  refine Grow.grow_cut_l p rfl Tryz.underlying22 size_u8_ (.inl ⟨rfl, rfl⟩) rfl rfl rfl hle ?_
  refine Grow.grow_callv1 (Φ := Grow.Is (.tuple #[.string (textV (l.drop p)), .int .i64 (textK (l.drop p)), .bool (textB (l.drop p))])) rfl (.inl ⟨rfl, rfl⟩) rfl Tryz.func136 (by kernel_rfl) (by kernel_rfl) (Ψ := Grow.Sl (l.drop p)) rfl (Grow.Is.stays _) (fun v u _ hv => by
    obtain ⟨A2, c2, rfl, hb2⟩ := hv
    exact (takeText_by A2 _ c2 _ rfl u hb2 (by omega)).mono fun e w' ⟨he, hg⟩ => ⟨_, he, hg, rfl⟩) ?_
  refine Grow.grow_mv (.inl rfl) (.inl ⟨rfl, rfl⟩) rfl ?_
  refine Grow.grow_part rfl (.inl ⟨rfl, rfl⟩) rfl (fun _ => rfl) ?_
  refine Grow.grow_part rfl (.inl ⟨rfl, rfl⟩) rfl (fun _ => rfl) ?_
  refine Grow.grow_part rfl (.inl ⟨rfl, rfl⟩) rfl (fun _ => rfl) ?_
  refine Grow.grow_mv (.inr rfl) (.inl ⟨rfl, rfl⟩) rfl ?_
  refine Grow.grow_mv (.inr rfl) (.inl ⟨rfl, rfl⟩) rfl ?_
  refine Grow.grow_mv (.inr rfl) (.inl ⟨rfl, rfl⟩) rfl ?_
  intro a1 w1 hg1 hs1 hd1 hu1 hk1
  have h4 : a1.tmps.getD 4 undef = .string (textV (l.drop p)) := hk1 4
  have h5 : a1.tmps.getD 5 undef = .int .i64 (textK (l.drop p)) := hk1 5
  have h6 : a1.tmps.getD 6 undef = .bool (textB (l.drop p)) := hk1 6
  obtain ⟨X, hX, hlay⟩ := Grow.lay_kept_by _ a1 41 _ hs1 hd1 hu1
  rw [hX] at h4 h5 h6
  clear hX hu1 hd1 hs1 hk1
  subst hlay
  simp only [List.range, List.range.loop, List.map_cons, List.map_nil, List.contains_cons, List.contains_nil, Nat.reduceBEq, Bool.or_false, Bool.or_true, cond_false, cond_true, Array.getD_eq_getD_getElem?, List.getElem?_toArray, List.getElem?_cons_zero, List.getElem?_cons_succ, Option.getD_some, h4, h5, h6]
  clear h4 h5 h6
  have hgw : Gr w w1 := ((Gr.refl w).drewN 1).trans hg1
  have hr1 : RdAt w1 g A l.length c ⟨p, false⟩ := HR.out.gr hgw
  have hbut : But w w1 g := hgw.but g
  have f2 : w1.frozen? ⟨g, 2, none⟩ = false := Bl.frozen hr1 2
  have f1 : w1.frozen? ⟨g, 1, none⟩ = false := Bl.frozen hr1 1
  replace c2 : w1.cell? ⟨g, 2, none⟩ = some (.bool false) := Bl.cell hr1 2
  have c1 : w1.cell? ⟨g, 1, none⟩ = some (.int .i64 (p : Int)) := Bl.cell hr1 1
  clear hr
  have hlim := (txtS_lim l ⟨p, false⟩).2.2 hle
  cases ht : takeT (l.drop p) with
  | none =>
    have E := hide (show nT l ⟨p, false⟩ = (⟨#[]⟩, ⟨p, true⟩) by rw [E0.out]; unfold txtS; rw [ht])
    have e1 : textV (l.drop p) = ⟨#[]⟩ := by unfold textV; rw [ht]; rfl
    have e2 : textK (l.drop p) = 0 := by unfold textK; rw [ht]
    have e3 : textB (l.drop p) = false := by unfold textB; rw [ht]; rfl
    rw [e1, e2, e3]
    clear e1 e2 e3 ht hlim
    go_wp2_with fail
    go_ret
    rw [E.out]
    have := Bl.put (Bl.put hr1 1 (.int .i64 (p : Int))) 2 (.bool true)
    exact ⟨rfl, by simpa [RdAt] using this, (hbut.set 1 _).set 2 _⟩
  | some tk =>
    obtain ⟨t, k⟩ := tk
    have hE : txtS l ⟨p, false⟩ = (⟨t.toArray⟩, ⟨p + k, false⟩) := by unfold txtS; rw [ht]
    rw [hE] at hlim
    simp only at hlim
    have E := hide (E0.out.trans hE)
    have e1 : textV (l.drop p) = bs t := by unfold textV; rw [ht]
    have e2 : textK (l.drop p) = (k : Int) := by unfold textK; rw [ht]
    have e3 : textB (l.drop p) = true := by unfold textB; rw [ht]; rfl
    rw [e1, e2, e3]
    clear e1 e2 e3 ht hE
    have hw : IntKind.i64.wrap ((p : Int) + (k : Int)) = (p : Int) + (k : Int) := by rw [IntKind.wrap_i64]; omega
    go_wp2_with fail
    go_ret
    rw [E.out]
    have := Bl.put (Bl.put hr1 1 (.int .i64 ((p : Int) + (k : Int)))) 2 (.bool false)
    exact ⟨rfl, by simpa [RdAt] using this, (hbut.set 1 _).set 2 _⟩

/-- what takeFlag tells of bytes -/
def flV (l : List UInt8) : Bool := match flagOf l with | none => false | some (b, _) => b
def flK (l : List UInt8) : Int := match flagOf l with | none => 0 | some _ => 1
def flB (l : List UInt8) : Bool := (flagOf l).isSome

set_option maxHeartbeats 400000 in
theorem takeFlag_ok (A : Option Addr) (n c : Nat) (l : List UInt8) (hn : n = l.length) (w : World) (h : By w A c l) :
    Calls Tryz.prog 154 #[.slice A n c] w fun e w' => e = .returned (.tuple #[.bool (flV l), .int .i64 (flK l), .bool (flB l)]) ∧ Gr w w' := by
  subst hn
  by_cases h0 : l.length = 0
  · have hl : l = [] := List.eq_nil_of_length_eq_zero h0
    subst hl
    go_enter Tryz.func154, Tryz.ntmps154
    go_wp2_with fail
    go_ret3
    exact ⟨rfl, Gr.refl _⟩
  · have hb : ((l.length : Int) == 0) = false := by rw [beq_eq_false_iff_ne]; omega
    have hlt : 0 < l.length := by omega
    obtain ⟨ad, rfl, hcell⟩ := h.cell 0 hlt
    rw [add_zero_] at hcell
    obtain ⟨b, r, rfl⟩ : ∃ b r, l = b :: r := by
      cases l with
      | nil => exact absurd rfl h0
      | cons b r => exact ⟨b, r, rfl⟩
    have hcell2 : w.cell? ad = some (.int .u8 (b.toNat : Int)) := hcell
    obtain ⟨m, hm⟩ : ∃ m, (b :: r).length = m := ⟨_, rfl⟩
    rw [hm] at hb hlt ⊢
    clear hcell h0 h hm
    by_cases h1 : (1 : Int) < (b.toNat : Int)
    · have hno : flagOf (b :: r) = none := by
        unfold flagOf
        simp only []
        rw [if_neg (by rintro rfl; exact absurd h1 (by decide)), if_neg (by rintro rfl; exact absurd h1 (by decide))]
      have e1 : flV (b :: r) = false := by unfold flV; rw [hno]
      have e2 : flK (b :: r) = 0 := by unfold flK; rw [hno]
      have e3 : flB (b :: r) = false := by unfold flB; rw [hno]; rfl
      rw [e1, e2, e3]
      clear hno e1 e2 e3
      have h1' : decide ((1 : Int) < (b.toNat : Int)) = true := decide_eq_true h1
      go_enter Tryz.func154, Tryz.ntmps154
      go_wp2_with fail
      go_ret3
      exact ⟨rfl, Gr.refl _⟩
    · have h1' : decide ((1 : Int) < (b.toNat : Int)) = false := decide_eq_false h1
      by_cases h2 : b = 1
      · subst h2
        have h3 : (((1 : UInt8).toNat : Int) == 1) = true := rfl
        go_enter Tryz.func154, Tryz.ntmps154
        go_wp2_with fail
        go_ret3
        exact ⟨rfl, Gr.refl _⟩
      · have h4 : b = 0 := by
          have h5 : ¬ b.toNat = 1 := fun e => h2 (UInt8.toNat_inj.1 e)
          exact UInt8.toNat_inj.1 (by show b.toNat = 0; omega)
        subst h4
        have h3 : (((0 : UInt8).toNat : Int) == 1) = false := rfl
        go_enter Tryz.func154, Tryz.ntmps154
        go_wp2_with fail
        go_ret3
        exact ⟨rfl, Gr.refl _⟩

set_option maxHeartbeats 1000000 in
theorem nextF_ok (g : Nat) (A : Option Addr) (c : Nat) (l : List UInt8) (s : RdS) (w : World) (hr : RdAt w g A l.length c s) (hby : By w A c l) (hle : s.at_ ≤ l.length) (hmax : (l.length : Int) ≤ 1000000000) :
    Calls Tryz.prog 153 #[.pointer (some ⟨g, 0, none⟩), .func (.func 154) #[] #[]] w fun e w' => e = .returned (.bool (nF l s).1) ∧ RdAt w' g A l.length c (nF l s).2 ∧ But w w' g := by
  have HBY := hide hby
  have HR := hide hr
  obtain ⟨p, bad⟩ := s
  have hl2 : (l.drop p).length ≤ l.length := by rw [List.length_drop]; omega
  unfold RdAt at hr
  simp only at hle
  have c2 : w.cell? ⟨g, 2, none⟩ = some (.bool bad) := Bl.cell hr 2
  cases bad
  rotate_left
  · have E := hide (show nF l ⟨p, true⟩ = (false, ⟨p, true⟩) from nx_bad rfl)
    clear hr hby hl2
    go_enter Tryz.func153, Tryz.ntmps153
    go_wp2_with fail
    go_ret
    rw [E.out]
    exact ⟨rfl, HR.out, But.refl w g⟩
  have E0 := hide (show nF l ⟨p, false⟩ = flgS l ⟨p, false⟩ from nx_go rfl)
  go_enter Tryz.func153, Tryz.ntmps153
  go_wp2_with fail
  refine Grow.wp_region_kept 41 [13, 14, 15, 16, 17, 18, 19, 20, 21, 22, 23, 12, 24, 25, 26, 4, 5, 6] rfl (by kernel_rfl) (by kernel_rfl) (by kernel_rfl) (Grow.Ahead.more (Grow.Ahead.more (Grow.Ahead.none_ _ _) 0 (Grow.Bx.stays g 176 #[.slice A l.length c, .int .i64 (p : Int), .bool false]) ⟨rfl, Bl.drewN hr 1⟩) 1 (Grow.Is.stays (.func (.func 154) #[] #[])) rfl) ?_
  refine Grow.grow_mv (.inl rfl) (.inl ⟨rfl, rfl⟩) rfl ?_
  refine Grow.grow_mvx (.inl rfl) (.inl ⟨rfl, rfl⟩) rfl ?_
  refine Grow.grow_nil rfl (.inl ⟨rfl, rfl⟩) rfl ?_
  refine Grow.grow_field (j := 0) (Ψ := Grow.Sl l) rfl (.inl ⟨rfl, rfl⟩) rfl (fun _ => rfl) rfl (Grow.Sl.stays l) (fun w' hg => ⟨A, c, rfl, HBY.out.gr (((Gr.refl w).drewN 1).trans hg)⟩) ?_
  refine Grow.grow_load_k rfl agg_bytes (.inl ⟨rfl, rfl⟩) rfl (Grow.Sl.stays l) ?_
  refine Grow.grow_mvx (.inl rfl) (.inl ⟨rfl, rfl⟩) rfl ?_
  refine Grow.grow_nil rfl (.inl ⟨rfl, rfl⟩) rfl ?_
  refine Grow.grow_field (j := 1) (Ψ := Grow.Is (.int .i64 (p : Int))) rfl (.inl ⟨rfl, rfl⟩) rfl (fun _ => rfl) rfl (Grow.Is.stays _) (fun _ _ => rfl) ?_
  refine Grow.grow_load_k rfl agg_int (.inl ⟨rfl, rfl⟩) rfl (Grow.Is.stays _) ?_
  refine Grow.grow_cut_l p rfl Tryz.underlying22 size_u8_ (.inl ⟨rfl, rfl⟩) rfl rfl rfl hle ?_
  refine Grow.grow_callv1 (Φ := Grow.Is (.tuple #[.bool (flV (l.drop p)), .int .i64 (flK (l.drop p)), .bool (flB (l.drop p))])) rfl (.inl ⟨rfl, rfl⟩) rfl Tryz.func154 (by kernel_rfl) (by kernel_rfl) (Ψ := Grow.Sl (l.drop p)) rfl (Grow.Is.stays _) (fun v u _ hv => by
    obtain ⟨A2, c2, rfl, hb2⟩ := hv
    exact (takeFlag_ok A2 _ c2 _ rfl u hb2).mono fun e w' ⟨he, hg⟩ => ⟨_, he, hg, rfl⟩) ?_
  refine Grow.grow_mv (.inl rfl) (.inl ⟨rfl, rfl⟩) rfl ?_
  refine Grow.grow_part rfl (.inl ⟨rfl, rfl⟩) rfl (fun _ => rfl) ?_
  refine Grow.grow_part rfl (.inl ⟨rfl, rfl⟩) rfl (fun _ => rfl) ?_
  refine Grow.grow_part rfl (.inl ⟨rfl, rfl⟩) rfl (fun _ => rfl) ?_
  refine Grow.grow_mv (.inr rfl) (.inl ⟨rfl, rfl⟩) rfl ?_
  refine Grow.grow_mv (.inr rfl) (.inl ⟨rfl, rfl⟩) rfl ?_
  refine Grow.grow_mv (.inr rfl) (.inl ⟨rfl, rfl⟩) rfl ?_
  intro a1 w1 hg1 hs1 hd1 hu1 hk1
  have h4 : a1.tmps.getD 4 undef = .bool (flV (l.drop p)) := hk1 4
  have h5 : a1.tmps.getD 5 undef = .int .i64 (flK (l.drop p)) := hk1 5
  have h6 : a1.tmps.getD 6 undef = .bool (flB (l.drop p)) := hk1 6
  obtain ⟨X, hX, hlay⟩ := Grow.lay_kept_by _ a1 41 _ hs1 hd1 hu1
  rw [hX] at h4 h5 h6
  clear hX hu1 hd1 hs1 hk1
  subst hlay
  simp only [List.range, List.range.loop, List.map_cons, List.map_nil, List.contains_cons, List.contains_nil, Nat.reduceBEq, Bool.or_false, Bool.or_true, cond_false, cond_true, Array.getD_eq_getD_getElem?, List.getElem?_toArray, List.getElem?_cons_zero, List.getElem?_cons_succ, Option.getD_some, h4, h5, h6]
  clear h4 h5 h6
  have hgw : Gr w w1 := ((Gr.refl w).drewN 1).trans hg1
  have hr1 : RdAt w1 g A l.length c ⟨p, false⟩ := HR.out.gr hgw
  have hbut : But w w1 g := hgw.but g
  have f2 : w1.frozen? ⟨g, 2, none⟩ = false := Bl.frozen hr1 2
  have f1 : w1.frozen? ⟨g, 1, none⟩ = false := Bl.frozen hr1 1
  replace c2 : w1.cell? ⟨g, 2, none⟩ = some (.bool false) := Bl.cell hr1 2
  have c1 : w1.cell? ⟨g, 1, none⟩ = some (.int .i64 (p : Int)) := Bl.cell hr1 1
  clear hr
  have hlim := (simF l).le ⟨p, false⟩ hle
  rcases flagOf_cases (l.drop p) with ht | ⟨b, r, ht, _⟩
  · have E := hide (show nF l ⟨p, false⟩ = (false, ⟨p, true⟩) by rw [E0.out]; unfold flgS; rw [ht])
    have e1 : flV (l.drop p) = false := by unfold flV; rw [ht]
    have e2 : flK (l.drop p) = 0 := by unfold flK; rw [ht]
    have e3 : flB (l.drop p) = false := by unfold flB; rw [ht]; rfl
    rw [e1, e2, e3]
    clear e1 e2 e3 ht hlim
    go_wp2_with fail
    go_ret
    rw [E.out]
    have := Bl.put (Bl.put hr1 1 (.int .i64 (p : Int))) 2 (.bool true)
    exact ⟨rfl, by simpa [RdAt] using this, (hbut.set 1 _).set 2 _⟩
  · have hE : nF l ⟨p, false⟩ = (b, ⟨p + 1, false⟩) := by rw [E0.out]; unfold flgS; rw [ht]
    rw [hE] at hlim
    simp only at hlim
    have E := hide hE
    have e1 : flV (l.drop p) = b := by unfold flV; rw [ht]
    have e2 : flK (l.drop p) = 1 := by unfold flK; rw [ht]
    have e3 : flB (l.drop p) = true := by unfold flB; rw [ht]; rfl
    rw [e1, e2, e3]
    clear e1 e2 e3 ht hE
    have hw : IntKind.i64.wrap ((p : Int) + 1) = (p : Int) + 1 := by rw [IntKind.wrap_i64]; omega
    go_wp2_with fail
    go_ret
    rw [E.out]
    have := Bl.put (Bl.put hr1 1 (.int .i64 ((p : Int) + 1))) 2 (.bool false)
    exact ⟨rfl, by simpa [RdAt] using this, (hbut.set 1 _).set 2 _⟩

theorem rdNumber_ok (g : Nat) (A : Option Addr) (c : Nat) (l : List UInt8) (s : RdS) (w : World) (hr : RdAt w g A l.length c s) (hby : By w A c l) (hle : s.at_ ≤ l.length) (hmax : (l.length : Int) ≤ 1000000000) :
    Calls Tryz.prog 144 #[.pointer (some ⟨g, 0, none⟩)] w fun e w' => e = .returned (.int .i64 (nN l s).1) ∧ RdAt w' g A l.length c (nN l s).2 ∧ But w w' g := by
  have C := hide (nextN_ok g A c l s w hr hby hle hmax)
  clear hr hby hle hmax
  generalize nN l s = r at C ⊢
  go_enter Tryz.func144, Tryz.ntmps144
  go_wp2_with fail
  refine C.out.mono ?_
  rintro e w1 ⟨rfl, h1, h2⟩
  have H1 := hide h1
  clear h1
  go_wp2_with fail
  go_ret
  exact ⟨rfl, H1.out, h2⟩

theorem rdText_ok (g : Nat) (A : Option Addr) (c : Nat) (l : List UInt8) (s : RdS) (w : World) (hr : RdAt w g A l.length c s) (hby : By w A c l) (hle : s.at_ ≤ l.length) (hmax : (l.length : Int) ≤ 1000000000) :
    Calls Tryz.prog 150 #[.pointer (some ⟨g, 0, none⟩)] w fun e w' => e = .returned (.string (nT l s).1) ∧ RdAt w' g A l.length c (nT l s).2 ∧ But w w' g := by
  have C := hide (nextT_ok g A c l s w hr hby hle hmax)
  clear hr hby hle hmax
  generalize nT l s = r at C ⊢
  go_enter Tryz.func150, Tryz.ntmps150
  go_wp2_with fail
  refine C.out.mono ?_
  rintro e w1 ⟨rfl, h1, h2⟩
  have H1 := hide h1
  clear h1
  go_wp2_with fail
  go_ret
  exact ⟨rfl, H1.out, h2⟩

theorem rdFlag_ok (g : Nat) (A : Option Addr) (c : Nat) (l : List UInt8) (s : RdS) (w : World) (hr : RdAt w g A l.length c s) (hby : By w A c l) (hle : s.at_ ≤ l.length) (hmax : (l.length : Int) ≤ 1000000000) :
    Calls Tryz.prog 151 #[.pointer (some ⟨g, 0, none⟩)] w fun e w' => e = .returned (.bool (nF l s).1) ∧ RdAt w' g A l.length c (nF l s).2 ∧ But w w' g := by
  have C := hide (nextF_ok g A c l s w hr hby hle hmax)
  clear hr hby hle hmax
  generalize nF l s = r at C ⊢
  go_enter Tryz.func151, Tryz.ntmps151
  go_wp2_with fail
  refine C.out.mono ?_
  rintro e w1 ⟨rfl, h1, h2⟩
  have H1 := hide h1
  clear h1
  go_wp2_with fail
  go_ret
  exact ⟨rfl, H1.out, h2⟩

end Go.Proofs.YtpabppoohobjpaaGreat
