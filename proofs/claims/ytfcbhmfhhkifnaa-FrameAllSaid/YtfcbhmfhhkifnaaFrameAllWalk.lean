/-
  The walk of 'FrameAll'.
-/
import Derived.Test.YtfcbhmfhhkifnaaFrameBegun
import Derived.Test.YtfcbhmfhhkifnaaFrameAllRef
namespace Go.Proofs.Ytfcbhmfhhkifnaa
open Go.RowKit FrameMath

def YesAll (w : World) (e : Ending) (w' : World) : Prop := e = .returned (.bool true) ∧ Gr w w'

theorem conv_ (w : World) {A : Option Addr} {l : List UInt8} (n c : Nat) (hn : l.length = n) (h : Rd w A l) : (convert 22 9 (.slice A n c)).run Try.prog w = .ok (.string (bs l)) w :=
  run_conv w 22 9 5 Try.underlying22 Try.underlying5 Try.underlying9 n c hn h

set_option maxRecDepth 100000 in
set_option maxHeartbeats 1000000 in
theorem all_in (w : World) (A : Option Addr) (c : Nat) (l : List UInt8) (hl : By w A c l) (B : Option Addr) (d : Nat) (m : List UInt8) (hm : By w B d m) (h1 : (l.length : Int) ≤ 100) (h2 : (m.length : Int) ≤ 300) :
    Calls Try.prog 3 #[.slice A l.length c, .slice B m.length d] w (YesAll w) := by
  have d1 : decide ((100 : Int) < (l.length : Int)) = false := by rw [decide_eq_false_iff_not]; omega
  have d2 : decide ((300 : Int) < (m.length : Int)) = false := by rw [decide_eq_false_iff_not]; omega
  go_enter Try.func3, Try.ntmps3
  go_wp2_with fail
  refine (begun_ok _).mono ?_
  rintro e w1 ⟨rfl, hg1⟩
  go_wp2_with fail
  refine (Lent_ok A _ c l rfl _ (hl.gr hg1) (by omega)).mono ?_
  rintro e w2 ⟨g, cg, rfl, hbg, hcg, hg2⟩
  go_wp2_with fail
  refine (Lent_ok B _ d m rfl _ (hm.gr (hg1.trans hg2)) (by omega)).mono ?_
  rintro e w3 ⟨h, ch, rfl, hbh, hch, hg3⟩
  have hg23 := hg2.trans hg3
  replace hbg := hbg.gr hg3
  replace hg1 := hg1.trans hg23
  clear hg23 hg2 hg3
  go_wp2_with fail
  refine (Put_ok _ _ _ l rfl _ (hcg.by_ hbg (by omega)) (by omega)).mono ?_
  rintro e w4 ⟨v4, t4, rfl, ho4, hg4⟩
  obtain ⟨A4, c4, rfl, hb4⟩ := ho4.by_
  clear ho4
  go_wp2_with fail
  refine (RefPut_ok A _ c l rfl _ (hl.gr (hg1.trans hg4)) (by omega)).mono ?_
  rintro e w5 ⟨v5, t5, rfl, ho5, hg5⟩
  obtain ⟨A5, c5, rfl, hb5⟩ := ho5.by_
  clear ho5
  go_wp2_with fail
  refine (Take_ok _ _ _ m rfl _ (hch.by_ (hbh.gr (hg4.trans hg5)) (by omega)) (by omega)).mono ?_
  rintro e w6 ⟨A6, c6, rfl, hb6, hg6⟩
  go_wp2_with fail
  refine (RefTake_ok B _ d m rfl _ (hm.gr (hg1.trans (hg4.trans (hg5.trans hg6)))) (by omega)).mono ?_
  rintro e w7 ⟨A7, c7, rfl, hb7, _, hg7⟩
  go_wp2_with fail
  refine (All_ok _ _ _ m rfl _ (hch.by_ (hbh.gr (hg4.trans (hg5.trans (hg6.trans hg7)))) (by omega)) (by omega)).mono ?_
  rintro e w8 ⟨A8, c8, rfl, hr8, hg8⟩
  go_wp2_with fail
  refine (RefAll_ok B _ d m rfl _ (hm.gr (hg1.trans (hg4.trans (hg5.trans (hg6.trans (hg7.trans hg8)))))) (by omega)).mono ?_
  rintro e w9 ⟨A9, c9, rfl, hr9, hg9⟩
  have g89 := hg8.trans hg9
  have g79 := hg7.trans g89
  have g69 := hg6.trans g79
  have g59 := hg5.trans g69
  have g49 := hg4.trans g59
  replace hbg := hide (hbg.gr g49)
  replace hbh := hide (hbh.gr g49)
  have hl9 := hide (hl.gr (hg1.trans g49))
  have hm9 := hide (hm.gr (hg1.trans g49))
  have k4 := conv_ w9 _ c4 rfl (hb4.gr g59).rd
  have k5 := conv_ w9 _ c5 rfl (hb5.gr g69).rd
  have k6 := conv_ w9 _ c6 rfl (hb6.gr g79).rd
  have k7 := conv_ w9 _ c7 rfl (hb7.gr g89).rd
  replace hr8 := hide (hr8.gr hg9)
  replace hr9 := hide hr9
  have hgw := hide (hg1.trans g49)
  have HCG := hide hcg
  have HCH := hide hch
  clear hb4 hb5 hb6 hb7 hg4 hg5 hg6 hg7 hg8 hg9 g89 g79 g69 g59 g49 hg1 hl hm hcg hch
  have hml : ((all m).length : Int) ≤ 300 := by
    have x1 := all_span m
    have x2 := many_span (all m)
    omega
  generalize putL l = X at *
  generalize putB l = pb at *
  generalize takeL m = T at *
  generalize takeK m = tk at *
  generalize takeB m = tb at *
  generalize allK m = kk at *
  generalize all m = ls at *
  go_wp2_with fail
  refine (Back_ok A _ c l rfl g cg w9 hl9.out hbg.out HCG.out (by omega)).mono ?_
  rintro e w10 ⟨rfl, rfl⟩
  go_wp2_with fail
  refine (Back_ok B _ d m rfl h ch w10 hm9.out hbh.out HCH.out (by omega)).mono ?_
  rintro e w11 ⟨rfl, rfl⟩
  clear hbg hbh hl9 hm9 HCG HCH k4 k5 k6 k7
  go_wp2_with fail
  go_loopw [21] (fun i wr => ∃ k : Nat, i = .int .i64 k ∧ k ≤ ls.length ∧ Gr w11 wr) (fun i _ => ls.length - (intOf i).toNat)
  case atStart => exact ⟨0, rfl, by omega, Gr.refl _⟩
  case round =>
    obtain ⟨k, rfl, hk, hgr⟩ := hrel
    by_cases hlt : k < ls.length
    · have hlt' : (k : Int) < (ls.length : Int) := by omega
      obtain ⟨a8, rfl, B8, d8, x8, y8⟩ := (hr8.out.gr hgr).rd k hlt
      obtain ⟨a9, rfl, B9, d9, x9, y9⟩ := (hr9.out.gr hgr).rd k hlt
      obtain ⟨x, hx⟩ : ∃ x, ls[k] = x := ⟨_, rfl⟩
      rw [hx] at x8 x9 y8 y9
      have q8 := hide (fun n => conv_ (wr.drewN n) _ d8 rfl (y8.rd.drewN n))
      have q9 := hide (fun n => conv_ (wr.drewN n) _ d9 rfl (y9.rd.drewN n))
      clear hx y8 y9
      go_wp2_with fail
      refine wp_region_quiet_lit (by kernel_rfl) (by kernel_rfl) ?_
      repeat (go_big_quiet_step (fail))
      refine quiet_conv rfl 22 9 (.tmp 128) rfl rfl (fun w' ⟨n, hw'⟩ => by rw [hw']; exact q8.out _) ?_
      simp only [Act.put, List.setIfInBounds_toArray, List.set_cons_zero, List.set_cons_succ]
      repeat (go_big_quiet_step (fail))
      refine quiet_conv rfl 22 9 (.tmp 133) rfl rfl (fun w' ⟨n, hw'⟩ => by rw [hw']; exact q9.out _) ?_
      simp only [Act.put, List.setIfInBounds_toArray, List.set_cons_zero, List.set_cons_succ]
      clear q8 q9
      repeat (go_big_quiet_step (fail))
      refine wpQuiet_nil ?_
      rintro _ ⟨nq2, rfl⟩
      go_wp2_with fail
      go_roundw
      case rel => exact ⟨k + 1, by go_num, by omega, hgr.drewN _⟩
      case measure => simp [intOf]; omega
    · obtain rfl : k = ls.length := by omega
      go_wp2_with fail
      go_ret
      exact ⟨rfl, hgw.out.trans hgr⟩

set_option maxRecDepth 100000 in
set_option maxHeartbeats 400000 in
theorem all_out (w : World) (A : Option Addr) (n c : Nat) (B : Option Addr) (m d : Nat) (h : (100 : Int) < (n : Int) ∨ (300 : Int) < (m : Int)) :
    Calls Try.prog 3 #[.slice A n c, .slice B m d] w (YesAll w) := by
  by_cases h1 : (100 : Int) < (n : Int)
  · have d1 : decide ((100 : Int) < (n : Int)) = true := by rw [decide_eq_true_eq]; exact h1
    clear h h1
    go_enter Try.func3, Try.ntmps3
    go_wp2_with fail
    refine (begun_ok _).mono ?_
    rintro e w1 ⟨rfl, hg1⟩
    go_wp2_with fail
    go_ret
    exact ⟨rfl, hg1⟩
  · have d1 : decide ((100 : Int) < (n : Int)) = false := by rw [decide_eq_false_iff_not]; exact h1
    have d2 : decide ((300 : Int) < (m : Int)) = true := by rw [decide_eq_true_eq]; omega
    clear h h1
    go_enter Try.func3, Try.ntmps3
    go_wp2_with fail
    refine (begun_ok _).mono ?_
    rintro e w1 ⟨rfl, hg1⟩
    go_wp2_with fail
    go_ret
    exact ⟨rfl, hg1⟩

theorem walk_FrameAll (w : World) (A : Option Addr) (n c : Nat) (l : List UInt8) (hn : n = l.length) (hl : By w A c l) (B : Option Addr) (m d : Nat) (r : List UInt8) (hm : m = r.length) (hr : By w B d r) :
    Calls Try.prog 3 #[.slice A n c, .slice B m d] w fun e w' => e = .returned (.bool true) ∧ Gr w w' := by
  by_cases h : (100 : Int) < (n : Int) ∨ (300 : Int) < (m : Int)
  · exact all_out w A n c B m d h
  · subst hn hm
    exact all_in w A c l hl B d r hr (by omega) (by omega)

end Go.Proofs.Ytfcbhmfhhkifnaa
