/-
  The document's TakeFrame by its contract.
-/
import Derived.Test.YtfcbhmfhhkifnaaFramePutRef
import Derived.Test.YtfcbhmfhhkifnaaGrowSteps
import Derived.Test.YtfcbhmfhhkifnaaWords3
import Derived.Deep.QuietTactic
import Derived.BigQuiet
namespace Go.Proofs.Ytfcbhmfhhkifnaa
open Go.RowKit CrcMath FrameMath

/-- what stands here is new -/
def New (w : World) (A : Option Addr) (l : List UInt8) : Prop := 0 < l.length → ∀ ad, A = some ad → w.heap.size ≤ ad.block
theorem OwnE.by_new {e : TypeId} {w0 w : World} {v : Value} {l : List UInt8} (h : OwnE e w w0.heap.size v l) : ∃ A c, v = .slice A l.length c ∧ By w A c l ∧ New w0 A l := by
  obtain ⟨A, c, rfl, hb⟩ := h.by_
  refine ⟨A, c, rfl, hb, fun hl ad hA => ?_⟩
  subst hA
  exact (World.ownsRow.lt h ad.block rfl).1
def RefTakePost (w : World) (b : List UInt8) (e : Ending) (w' : World) : Prop := ∃ A c, e = .returned (.tuple #[.slice A (takeL b).length c, .int .i64 (takeK b), .bool (takeB b)]) ∧ By w' A c (takeL b) ∧ New w A (takeL b) ∧ Gr w w'
theorem RefTakePost.no {w w' : World} {b : List UInt8} (h : Hid (¬ Is b)) (hg : Gr w w') : RefTakePost w b (.returned (.tuple #[.slice none 0 0, .int .i64 0, .bool false])) w' := by
  obtain ⟨p1, p2, p3⟩ := take_no h.out
  exact ⟨none, 0, by rw [p1, p2, p3]; rfl, by rw [p1]; exact ⟨Rd.nil _ _, Nat.le_refl _, by simp [maxLen], fun _ => rfl⟩, (fun _ _ h => nomatch h), hg⟩

theorem RefTakePost.yes {w w' : World} {b : List UInt8} {A : Option Addr} {c N : Nat} (h : Hid (Is b)) (hN : flen b = N) (hT : (ftext b).length = N) (hb : By w' A c (ftext b)) (hn : New w A (ftext b)) (hg : Gr w w') :
    RefTakePost w b (.returned (.tuple #[.slice A N c, .int .i64 (6 + (N : Int)), .bool true])) w' := by
  obtain ⟨p1, p2, p3⟩ := take_yes h.out
  refine ⟨A, c, ?_, by rw [p1]; exact hb, by rw [p1]; exact hn, hg⟩
  rw [p1, p2, p3, hT, hN]
  congr 6
  omega
theorem bs_ne {a b : List UInt8} (h : a ≠ b) : ((bs a).toList == (bs b).toList) = false := by
  rw [Grow.str_eq, decide_eq_false_iff_not]
  exact fun e => h (bs_inj e)
set_option maxRecDepth 100000 in
set_option maxHeartbeats 400000 in
theorem RefTake_ok (A : Option Addr) (n c : Nat) (l : List UInt8) (hn : n = l.length) (w : World) (hby : By w A c l) (hmax : (l.length : Int) ≤ 140737488351232) :
    Calls Try.prog 13 #[.slice A n c] w (RefTakePost w l) := by
  subst hn
  by_cases h6 : (l.length : Int) < 6
  · have hno := hide (p := ¬ Is l) (fun h => by have := h.1; omega)
    have d1 : decide ((l.length : Int) < 6) = true := by rw [decide_eq_true_eq]; exact h6
    go_enter Try.func13, Try.ntmps13
    go_wp2_with fail
    go_ret3
    exact RefTakePost.no hno (Gr.refl _)
  · have h6' : (6 : Int) ≤ (l.length : Int) := by omega
    have d1 : decide ((l.length : Int) < 6) = false := by rw [decide_eq_false_iff_not]; exact h6
    obtain ⟨ad, rfl, c0⟩ := hby.cell 0 (by omega)
    obtain ⟨ad', e', c1⟩ := hby.cell 1 (by omega)
    injection e' with e'
    subst e'
    have hN : flen l = (l.getD 0 0).toNat * 256 + (l.getD 1 0).toNat := rfl
    have l0 := (l.getD 0 0).toNat_lt
    have l1 := (l.getD 1 0).toNat_lt
    obtain ⟨x0, e0⟩ : ∃ x, (l.getD 0 0).toNat = x := ⟨_, rfl⟩
    obtain ⟨x1, e1⟩ : ∃ x, (l.getD 1 0).toNat = x := ⟨_, rfl⟩
    rw [add_zero_] at c0
    rw [Addr.add_succ'] at c1
    unfold bv at c0 c1
    rw [e0] at c0 hN l0
    rw [e1] at c1 hN l1
    clear e0 e1
    obtain ⟨N, hNe⟩ : ∃ N, flen l = N := ⟨_, rfl⟩
    have hNx : (x0 : Int) * 256 + (x1 : Int) = (N : Int) := by omega
    have k0 : IntKind.i64.wrap (x0 : Int) = (x0 : Int) := by rw [IntKind.wrap_i64]; omega
    have k1 : IntKind.i64.wrap (x1 : Int) = (x1 : Int) := by rw [IntKind.wrap_i64]; omega
    have k2 : IntKind.i64.wrap ((x0 : Int) * 256) = (x0 : Int) * 256 := by rw [IntKind.wrap_i64]; omega
    have k3 : IntKind.i64.wrap ((x0 : Int) * 256 + (x1 : Int)) = (N : Int) := by rw [IntKind.wrap_i64]; omega
    have i1 : (1 : Int) < (l.length : Int) := by omega
    have i2 : 0 < l.length := by omega
    have hN60 : (N : Int) ≤ 65535 := by omega
    clear hN
    by_cases hbad : 60000 < N
    · have hno := hide (p := ¬ Is l) (fun h => by have := h.2.1; omega)
      have d2 : decide ((60000 : Int) < (N : Int)) = true := by rw [decide_eq_true_eq]; omega
      clear hbad hNe
      go_enter Try.func13, Try.ntmps13
      go_wp2_with fail
      go_quiet (fail)
      go_wp2_with fail
      go_ret3
      exact RefTakePost.no hno ((Gr.refl _).drewN _)
    · have d2 : decide ((60000 : Int) < (N : Int)) = false := by rw [decide_eq_false_iff_not]; omega
      by_cases hbad2 : l.length < N + 6
      · have hno := hide (p := ¬ Is l) (fun h => by have := h.2.2.1; omega)
        have d3 : decide ((l.length : Int) - 6 < (N : Int)) = true := by rw [decide_eq_true_eq]; omega
        clear hbad hNe hbad2
        go_enter Try.func13, Try.ntmps13
        go_wp2_with fail
        go_quiet (fail)
        go_wp2_with fail
        go_ret3
        exact RefTakePost.no hno ((Gr.refl _).drewN _)
      · have d3 : decide ((l.length : Int) - 6 < (N : Int)) = false := by rw [decide_eq_false_iff_not]; omega
        have hT : ftext l = (l.drop 6).take (6 + N - 6) := by unfold ftext; rw [hNe]; congr 1; omega
        have hTl : (ftext l).length = N := by rw [hT, List.length_take, List.length_drop]; omega
        have hcut := hby.cut 6 (6 + N) (by omega) (by omega)
        rw [← hT] at hcut
        have hlc := hby.le
        have hcI : (l.length : Int) ≤ (c : Int) := by omega
        have hNI : (6 : Int) + (N : Int) ≤ (l.length : Int) := by omega
        obtain ⟨i0, hi, hz0, hz1, hz2⟩ := info_parts info_u8'
        go_enter Try.func13, Try.ntmps13
        go_wp2_with fail
        go_quiet (fail)
        by_cases hc6 : c = 6
        case' pos =>
          rw [if_pos hc6, show c - 6 = 0 from by omega] at hcut
          go_wp2_with (at_builtin; refine wpList_app (w0 := w) rfl (.tmp 31) (.tmp 35) _ rfl 5 i0 Try.underlying22 hi hz0 hz1 hz2 (r := ftext l) (by rw [hTl]; omega) rfl (own_empty (w.drewN nq) 5 ((Gr.refl w).drewN nq)) (((Gr.refl w).drewN nq).alloc _) rfl (hcut.gr (((Gr.refl w).drewN nq).alloc _)).rd hcut.nil (by rw [hTl]; simp; omega) ?_; intro v3 w3 ho3 hg3)
        case' neg =>
          rw [if_neg hc6] at hcut
          have hcut' : By w (some ⟨ad.block, ad.off + 6, none⟩) (c - 6) (ftext l) := by
            have e : ad.add 6 = ⟨ad.block, ad.off + 6, none⟩ := Addr.add_succ' ad 5
            rw [← e]
            exact hcut
          clear hcut
          go_wp2_with (at_builtin; refine wpList_app (w0 := w) rfl (.tmp 31) (.tmp 35) _ rfl 5 i0 Try.underlying22 hi hz0 hz1 hz2 (r := ftext l) (by rw [hTl]; omega) rfl (own_empty (w.drewN nq) 5 ((Gr.refl w).drewN nq)) (((Gr.refl w).drewN nq).alloc _) rfl (hcut'.gr (((Gr.refl w).drewN nq).alloc _)).rd hcut'.nil (by rw [hTl]; simp; omega) ?_; intro v3 w3 ho3 hg3)
        all_goals
          rw [List.nil_append] at ho3
          obtain ⟨A3, c3, rfl, hb3, hn3⟩ := ho3.by_new
          clear ho3
          refine (RefPut_ok A3 _ c3 _ rfl _ hb3 (by rw [hTl]; omega)).mono ?_
          rintro e w4 ⟨v4, t4, rfl, ho4, hg4⟩
          obtain ⟨p1, p2⟩ := putL_yes (l := ftext l) (by rw [hTl]; omega)
          rw [p1] at ho4
          rw [p2]
          obtain ⟨A4, c4, rfl, hb4⟩ := ho4.by_
          clear ho4
          have hgw := hg3.trans hg4
          have hb5 := (hby.gr hgw).take (6 + N)
          have hl5 : (l.take (6 + N)).length = 6 + N := by rw [List.length_take]; omega
          have h1 := hide (fun m => run_conv (P := Try.prog) (w4.drewN m) 22 9 5 Try.underlying22 Try.underlying5 Try.underlying9 (l := enc (ftext l)) _ c4 rfl (hb4.rd.drewN m))
          have h2 := hide (fun m => run_conv (P := Try.prog) (w4.drewN m) 22 9 5 Try.underlying22 Try.underlying5 Try.underlying9 (l := l.take (6 + N)) _ c hl5 (hb5.rd.drewN m))
          have hb6 := hide (hb3.gr hg4)
          have hgw' := hide hgw
          have hn6 := hide hn3
          clear hb5 hb3 hb4 hgw hg3 hg4 hn3 hby c0 c1 hi hz0 hz1 hz2 hT
          go_wp2_with fail
          refine wp_region_quiet_lit (by kernel_rfl) (by kernel_rfl) ?_
          repeat (go_big_quiet_step (fail))
          refine quiet_conv rfl 22 9 (.tmp 42) rfl rfl (fun w' ⟨n, hw'⟩ => by rw [hw']; exact h1.out _) ?_
          simp only [Act.put, List.setIfInBounds_toArray, List.set_cons_zero, List.set_cons_succ]
          repeat (go_big_quiet_step (fail))
          refine quiet_conv rfl 22 9 (.tmp 47) rfl rfl (fun w' ⟨n, hw'⟩ => by rw [hw']; exact h2.out _) ?_
          clear h1 h2
          simp only [Act.put, List.setIfInBounds_toArray, List.set_cons_zero, List.set_cons_succ]
          repeat (go_big_quiet_step (fail))
          refine wpQuiet_nil ?_
          rintro _ ⟨nq2, rfl⟩
          by_cases he : enc (ftext l) = l.take (6 + N)
          · have hq : (!((bs (enc (ftext l))).toList == (bs (l.take (6 + N))).toList)) = false := by rw [he, beq_self_eq_true]; rfl
            rw [hq]
            have hy := hide (p := Is l) ⟨by omega, by rw [hNe]; omega, by rw [hNe]; omega, by rw [hNe, Nat.add_comm, ← he]⟩
            have HT := hide hTl
            have HN := hide hNe
            clear he hTl hNe
            go_wp2_with fail
            go_ret3
            exact RefTakePost.yes (A := A3) (c := c3) hy HN.out HT.out (hb6.out.drewN nq2) hn6.out (hgw'.out.drewN nq2)
          · have hq : (!((bs (enc (ftext l))).toList == (bs (l.take (6 + N))).toList)) = true := by rw [bs_ne he]; rfl
            rw [hq]
            have hno := hide (p := ¬ Is l) (fun h => he (by have := h.2.2.2; rw [hNe, Nat.add_comm] at this; exact this.symm))
            clear he hTl hNe hb6
            go_wp2_with fail
            go_ret3
            exact RefTakePost.no hno (hgw'.out.drewN _)

end Go.Proofs.Ytfcbhmfhhkifnaa
