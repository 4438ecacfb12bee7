/-
  A crash goes from file to file: next, hit.
-/
import Derived.Test.YtkcfieoflkhdpaaDoorDiskFile
import Derived.Test.YtkcfieoflkhdpaaDoorBaseM
namespace Go.Proofs.YtkcfieoflkhdpaaDoor.DiskHit
open Go Go.RowKit MapS DiskMem DiskFile
set_option maxRecDepth 100000

/-- what a crash has still to say, in block k; it does not lie in T -/
def KeepAt (T : Nat → Prop) (w : World) (k : Nat) (zs : List Int) : Prop := ∃ A c, Bl w k 58 #[.slice A zs.length c] ∧ Ints .i64 w A c zs ∧ Away T A zs.length

theorem Ints.only {k : IntKind} {S : Nat → Prop} {w w' : World} {A : Option Addr} {c : Nat} {zs : List Int} (h : Ints k w A c zs) (ho : Only S w w') (ha : Away S A zs.length) : Ints k w' A c zs :=
  ⟨fun j hj => by obtain ⟨ad, h1, h2⟩ := h.rd j hj; exact ⟨ad, h1, ho.cell h2 (by rw [add_block]; exact ha (by omega) _ h1)⟩, h.le, h.max, h.wf⟩
theorem Ints.rest {k : IntKind} {w : World} {A : Option Addr} {c : Nat} {z : Int} {zs : List Int} (h : Ints k w A c (z :: zs)) : Ints k w (if c = 1 then A else A.map (·.add 1)) (c - 1) zs := by
  have hle := h.le
  rw [List.length_cons] at hle
  refine ⟨fun j hj => ?_, by omega, by have := h.max; omega, fun x hx => h.wf x (by simp [hx])⟩
  obtain ⟨ad, rfl, h2⟩ := h.rd (j + 1) (by simpa using hj)
  rw [if_neg (by omega)]
  exact ⟨ad.add 1, rfl, by rw [add_add, Nat.add_comm 1 j]; simpa using h2⟩
theorem KeepAt.gr {T : Nat → Prop} {w w' : World} {k : Nat} {zs : List Int} (h : KeepAt T w k zs) (hg : Gr w w') : KeepAt T w' k zs := by
  obtain ⟨A, c, h1, h2, h3⟩ := h
  exact ⟨A, c, h1.gr hg, h2.gr hg, h3⟩

set_option maxHeartbeats 400000 in
theorem next_ok (T : Nat → Prop) (k : Nat) (hT : T k) (zs : List Int) (w : World) (h : KeepAt T w k zs) :
    Calls Tryd.prog 35 #[.pointer (some ⟨k, 0, none⟩)] w fun e w' => e = .returned (.int .i64 (zs.headD 0)) ∧ Only (onB k) w w' ∧ KeepAt T w' k zs.tail := by
  have H := hide h
  obtain ⟨A, c, hb, hi, ha⟩ := h
  have HI := hide hi
  have HA := hide ha
  have HB := hide hb
  have hc := hi.le
  have hcm := hi.max
  unfold maxLen at hcm
  have c0 := hb.cell 0
  have f0 := hb.frozen 0
  simp only [List.getElem?_toArray, List.getElem?_cons_zero] at c0
  cases zs with
  | nil =>
    clear hb hi ha
    go_enter Tryd.func35, Tryd.ntmps35
    go_wp2_with fail
    go_ret
    exact ⟨rfl, Only.refl _ _, H.out⟩
  | cons z zs =>
    obtain ⟨ad, rfl, hz⟩ := hi.rd 0 (by simp)
    rw [add_zero_] at hz
    simp only [List.getElem_cons_zero] at hz
    have HR := hide (Ints.rest hi)
    have hwz := hi.wf z (by simp)
    clear hi ha hb
    simp only [List.length_cons] at *
    have hb1 : ¬ T ad.block := HA.out (by simp) _ rfl
    have fin : ∀ (B : Option Addr) (m : Nat), B = (if c = 1 then some ad else (some ad).map (·.add 1)) → m = c - 1 → KeepAt T (w.setCell ⟨k, 0, none⟩ (.slice B zs.length m)) k zs := by
      rintro B m rfl rfl
      have hA : Away T (if c = 1 then some ad else (some ad).map (·.add 1)) zs.length := fun _ a2 e => by
        split at e
        · injection e with e; subst e; exact hb1
        · injection e with e; subst e; rw [add_block]; exact hb1
      exact ⟨_, _, HB.out.put 0 _, Ints.only HR.out ((Only.refl _ _).set1 _ _) (fun hl a2 e e2 => hA hl a2 e (by rw [show a2.block = k from e2]; exact hT)), hA⟩
    have FIN := hide fin
    clear fin
    by_cases hc1 : c = 1
    · subst hc1
      obtain rfl : zs = [] := List.eq_nil_of_length_eq_zero (by omega)
      have FI := hide (FIN.out (some ad) 0 rfl rfl)
      clear FIN
      go_enter Tryd.func35, Tryd.ntmps35
      go_wp2_with fail
      go_ret
      exact ⟨rfl, (Only.refl _ _).set1 _ _, FI.out⟩
    · go_enter Tryd.func35, Tryd.ntmps35
      go_wp2_with fail
      go_ret
      exact ⟨rfl, (Only.refl _ _).set1 _ _, FIN.out _ _ (by rw [if_neg hc1]; rfl) (by rfl)⟩

/-- what a crash leaves of a file -/
def hitF (f : FileT) (z : Int) : FileT := ⟨f.b.take (f.sure + min z.toNat (f.b.length - f.sure)), f.sure + min z.toNat (f.b.length - f.sure)⟩

theorem agg_bytes (w : World) : (isAgg 33).run Tryd.prog w = .ok false w := by kernel_rfl
theorem agg_int (w : World) : (isAgg 3).run Tryd.prog w = .ok false w := by kernel_rfl

set_option maxHeartbeats 1000000 in
theorem hit_ok (T : Nat → Prop) (k : Nat) (hT : T k) (zs : List Int) (g : Nat) (v : Value) (f : FileT) (w : World) (h : FileAt w g v f) (hk : KeepAt T w k zs) (hz : ∀ z ∈ zs, -9223372036854775808 ≤ z ∧ z ≤ 9223372036854775807) (hTg : T g) :
    Calls Tryd.prog 21 #[.pointer (some ⟨k, 0, none⟩), .pointer (some ⟨g, 0, none⟩)] w (Turned (onB k) w g v 0 (hitF f (zs.headD 0)) (fun w' => KeepAt T w' k zs.tail)) := by
  have H := hide h
  have HK := hide hk
  have hne : k ≠ g := by
    obtain ⟨A, c, h1, _⟩ := hk
    exact bl_ne h1 h.bl (by decide)
  have hkl : k < w.heap.size := by
    obtain ⟨A, c, h1, _⟩ := hk
    exact h1.lt
  obtain ⟨A, c, rfl, hby⟩ := h.own.by_
  have hle := h.le
  have hmax := h.max
  have hz0 : -9223372036854775808 ≤ zs.headD 0 ∧ zs.headD 0 ≤ 9223372036854775807 := by
    cases zs with
    | nil => simp
    | cons z r => exact hz z (by simp)
  have HB : Hid (Bl w g 79 #[.slice A f.b.length c, .int .i64 f.sure]) := hide h.bl
  clear h hk hby hz
  go_enter Tryd.func21, Tryd.ntmps21
  go_wp2_with fail
  refine Mine.wp_region_mine 28 [6, 7, 8, 9, 10, 11, 12, 13, 14, 15, 16, 17, 18, 19, 5] rfl (by kernel_rfl) (by kernel_rfl) (by kernel_rfl) (ob0 := some k)
    (Mine.Ahead.more (Mine.Ahead.more (Mine.Ahead.none_ _ _ _) 0 (Mine.Is.stays (.pointer (some ⟨k, 0, none⟩))) rfl) 1 (Mine.Bx.stays g 79 #[.slice A f.b.length c, .int .i64 f.sure]) ⟨rfl, HB.out.drewN 1, fun e => hne (by injection e with e; exact e.symm)⟩)
    28 (C0 := Mine.At k (fun w => KeepAt T w k zs)) (Mine.At.keeps k fun _ _ h hg => h.gr hg) (fun j hj => by injection hj with hj; subst hj; exact hkl) ⟨rfl, HK.out.gr ((Gr.refl w).drew)⟩ ?_
  refine Mine.move (.tmp 0) (.inl rfl) rfl (by decide) rfl (Mine.Is.stays _) ?_
  refine Mine.pick1 (u := .pointer (some ⟨k, 0, none⟩)) (z := .int .i64 (zs.headD 0)) (I' := fun w => KeepAt T w k zs.tail) rfl rfl rfl (by decide) Tryd.func35 (by kernel_rfl) (by kernel_rfl) rfl (fun _ _ h hg => h.gr hg) (fun w hw => (next_ok T k hT zs w hw).mono fun e w' ⟨h1, h2, h3⟩ => ⟨h1, h2.row, h3⟩) ?_
  refine Mine.is2 (x := .tmp 7) (y := .const (.int .i64 0)) (u := .int .i64 (zs.headD 0)) (v := .int .i64 0) (.int .i64 (max (zs.headD 0) 0)) rfl (by decide) (by simp [Op.operands, Call.operands]) (by simp [Op.operands, Call.operands]) rfl (fun _ _ => rfl) (fun a w h1 h2 => ?_) ?_
  · unfold execOp
    simp only [resolve, invoke, builtin, Sem.run_bind, Sem.run_pure, Result.andThen_ok, List.map_toArray, List.map_cons, List.map_nil, h1, h2, run_max_int2]
    rw [show (if (0 : Int) > zs.headD 0 then (0 : Int) else zs.headD 0) = max (zs.headD 0) 0 from by omega]
  refine Mine.move (.tmp 1) (.inl rfl) rfl (by decide) rfl (Mine.Bx.stays _ _ _) ?_
  refine Mine.nil rfl rfl (by decide) rfl ?_
  refine Mine.field (j := 0) rfl rfl (by decide) rfl (fun _ => rfl) rfl ?_
  refine Mine.load rfl rfl (by decide) agg_bytes rfl ?_
  refine Mine.len rfl rfl (by decide) Tryd.underlying33 rfl ?_
  refine Mine.move (.tmp 1) (.inl rfl) rfl (by decide) rfl (Mine.Bx.stays _ _ _) ?_
  refine Mine.nil rfl rfl (by decide) rfl ?_
  refine Mine.field (j := 1) rfl rfl (by decide) rfl (fun _ => rfl) rfl ?_
  refine Mine.load rfl rfl (by decide) agg_int rfl ?_
  refine Mine.is2 (x := .tmp 13) (y := .tmp 17) (u := .int .i64 (f.b.length : Int)) (v := .int .i64 f.sure) (.int .i64 ((f.b.length : Int) - f.sure)) rfl (by decide) (by simp [Op.operands]) (by simp [Op.operands]) rfl rfl (fun a w h1 h2 => ?_) ?_
  · unfold execOp
    have hw : IntKind.i64.wrap ((f.b.length : Int) - f.sure) = (f.b.length : Int) - f.sure := IntWalk.i64_in _ (by omega)
    simp only [h1, h2]
    simp [go_sem, hw]
  refine Mine.is2 (x := .tmp 8) (y := .tmp 18) (u := .int .i64 (max (zs.headD 0) 0)) (v := .int .i64 ((f.b.length : Int) - f.sure)) (.int .i64 (min (max (zs.headD 0) 0) ((f.b.length : Int) - f.sure))) rfl (by decide) (by simp [Op.operands, Call.operands]) (by simp [Op.operands, Call.operands]) rfl rfl (fun a w h1 h2 => ?_) ?_
  · unfold execOp
    simp only [resolve, invoke, builtin, Sem.run_bind, Sem.run_pure, Result.andThen_ok, List.map_toArray, List.map_cons, List.map_nil, h1, h2, run_min_int2]
    rw [show (if (f.b.length : Int) - f.sure < max (zs.headD 0) 0 then (f.b.length : Int) - f.sure else max (zs.headD 0) 0) = min (max (zs.headD 0) 0) ((f.b.length : Int) - f.sure) from by omega]
  refine Mine.move (.tmp 19) (.inr rfl) rfl (by decide) rfl (Mine.Is.stays _) ?_
  intro a1 w1 ob1 hr1 hsz1 hdf1 hun1 hkn1 hat1
  have h5 : a1.tmps.getD 5 undef = .int .i64 (min (max (zs.headD 0) 0) ((f.b.length : Int) - f.sure)) := hkn1 5
  obtain ⟨_, rfl, hk1⟩ := hat1
  obtain ⟨X, hX, hlay⟩ := Grow.lay_kept_by _ a1 28 _ hsz1 hdf1 hun1
  rw [hX] at h5
  clear hX hun1 hdf1 hsz1 hkn1
  subst hlay
  simp only [List.range, List.range.loop, List.map_cons, List.map_nil, List.contains_cons, List.contains_nil, Nat.reduceBEq, Bool.or_false, Bool.or_true, cond_false, cond_true, Array.getD_eq_getD_getElem?, List.getElem?_toArray, List.getElem?_cons_zero, List.getElem?_cons_succ, Option.getD_some, h5]
  have HK1 := hide hk1
  have HR := hide hr1
  have hbl := hr1.gb.block g HB.out.lt (fun e => hne (by injection e with e; exact e.symm))
  replace hbl : Bl w1 g 79 #[.slice A f.b.length c, .int .i64 f.sure] := hbl.trans HB.out
  have c1 := hbl.cell 1
  simp only [List.getElem?_toArray, List.getElem?_cons_zero, List.getElem?_cons_succ] at c1
  clear hk1 hr1 hbl
  obtain ⟨s, hs⟩ : ∃ s : Nat, min (max (zs.headD 0) 0) ((f.b.length : Int) - f.sure) = s := ⟨_, (Int.toNat_of_nonneg (by omega)).symm⟩
  rw [hs]
  have hsl : f.sure + s ≤ f.b.length := by omega
  have HS := hide hs
  clear hs h5
  have HO : Hid (Only (onB k) w w1) := hide ⟨HR.out.gb.os, HR.out.gb.tape, HR.out.gb.output, HR.out.gb.size, fun i hi hn => HR.out.gb.block i hi fun e => hn (Option.some.inj e)⟩
  have HF : Hid (FileAt w1 g (.slice A f.b.length c) f) := hide (H.out.only HO.out (fun e => hne e.symm) fun j hj e => by
    obtain ⟨A2, c2, h1, _⟩ := HK.out
    exact absurd e (own_ne H.out.own hj h1 (by decide)))
  have HC := hide (leave_ok g _ f (f.sure + s) w1 HF.out hsl)
  go_wp2_with fail
  have e2 : ((f.sure + s : Nat) : Int) = f.sure + s := by omega
  have hc := HC.out
  rw [e2] at hc
  refine hc.mono ?_
  intro e w2 hl
  obtain ⟨rfl, ht⟩ := hl.turned (X := onB k)
  have HL := hide hl
  have HT := hide ht
  clear hl ht hc e2 c1
  go_wp2_with fail
  go_ret
  obtain ⟨_, v', h1, h2, h3⟩ := HL.out
  have es : s = min (zs.headD 0).toNat (f.b.length - f.sure) := by have := HS.out; omega
  refine ⟨rfl, ⟨v', (HO.out.mono fun i _ hi => .inr (.inr hi)).trans h1 fun i _ hi => .inl hi, ?_, fun j hj => ?_⟩, ?_⟩
  · unfold hitF
    rw [← es]
    exact h2
  · rcases h3 j hj with h4 | h4
    · exact .inl h4
    · exact .inr (Nat.le_trans HO.out.size h4)
  · obtain ⟨A2, c2, k1, k2, k3⟩ := HK1.out
    exact ⟨A2, c2, h1.bl k1 (fun e => hne e), Ints.only k2 h1 (fun hl ad hA e => k3 hl ad hA (by rw [show ad.block = g from e]; exact hTg)), k3⟩

end Go.Proofs.YtkcfieoflkhdpaaDoor.DiskHit
