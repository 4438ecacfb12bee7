/-
  The walk of 'EpochAll'.
-/
import Derived.Test.YtiinidkofonidaaEpochBegun
namespace Go.Proofs.Ytiinidkofonidaa
open Go Go.RowKit TxnMath KeyMath MsgMath EpMath
set_option maxRecDepth 100000

theorem u8_nat {a : Int} (h : (Lit.int .u8 a).wf = true) : ∃ k : Nat, a = (k : Int) ∧ k < 256 := by
  have h0 : 0 ≤ a ∧ a ≤ 255 := by simpa [Lit.wf, IntKind.min, IntKind.max, IntKind.signed, IntKind.bits] using h
  exact ⟨a.toNat, by omega, by omega⟩

set_option maxHeartbeats 4000000 in
theorem walk_EpochAll (w : World) (A : Option Addr) (n c : Nat) (l : List UInt8) (hn : n = l.length) (hby : By w A c l) (a : Int) (ha : (Lit.int .u8 a).wf = true) :
    Calls Try.prog 3 #[.slice A n c, .int .u8 a] w fun e w' => e = .returned (.bool true) ∧ Gr w w' := by
  subst hn
  have HBY := hide hby
  clear hby
  obtain ⟨na, rfl, hna⟩ := u8_nat ha
  clear ha
  by_cases h1 : (150 : Int) < (l.length : Int)
  · go_enter Try.func3, Try.ntmps3
    go_wp2_with fail
    refine (begun_ok _).mono ?_
    rintro e w1 ⟨rfl, hg1⟩
    go_wp2_with fail
    go_ret
    exact ⟨rfl, hg1⟩
  obtain ⟨ka, hka⟩ : ∃ k, na % 20 = k := ⟨_, rfl⟩
  have ea : (na : Int).tmod 20 = (ka : Int) := by rw [← hka]; rfl
  have ea2 : (na : Int) % 20 = (ka : Int) := by omega
  have hka7 : ka ≤ 19 := by omega
  have HLL := hide (logP_len l 0 ka)
  clear hka
  go_enter Try.func3, Try.ntmps3
  go_wp2_with fail
  refine (begun_ok _).mono ?_
  rintro e w1 ⟨rfl, hg1⟩
  go_wp2_with fail
  refine (Made_ok A c l w1 (HBY.out.gr hg1)).mono ?_
  rintro e w2 ⟨rfl, hg2, hpk⟩
  have hgw1 := hg1.size
  have hg12 := hg1.trans hg2
  go_wp2_with fail
  refine (Log_ok w1.heap.size A c l 0 ka (by omega) (by omega) w2 hpk).mono ?_
  rintro e w3 ⟨lv, rfl, hlo, hb3, _⟩
  have hx := hlo.entsX
  clear hlo hpk
  generalize (logP l 0 ka).1 = L at hx HLL
  obtain ⟨lA, lc, rfl⟩ := hx.is
  have HX := hide hx
  have HG := hide (show Gr w w3 from hg12.fresh hb3 hgw1)
  clear hx hb3 hg1 hg2 hg12 hgw1
  have HCL := hide (seal_len (shuts L))
  have HCR := hide (cut_row (shuts L))
  have HSL := hide (seal_le (shuts L) L.length)
  have hlen : L.length ≤ 19 := by have := HLL.out; omega
  rw [shuts_len] at HCL HCR
  have HSE := hide (fun W (h : EntsX Any W (.slice lA L.length lc) L) => Sealed_ok _ L W h (by omega))
  have HC1 := hide (Cut_ok _ L w3 HX.out (by omega))
  have HC2 := hide (fun W (h : EntsX Any W (.slice lA L.length lc) L) => (show Calls Try.prog 11 #[.slice lA L.length lc] W fun e w' => ∃ u, e = .returned u ∧ RowsI w' W.heap.size u (cutL (shuts L)) ∧ Gr W w' from RefCut_ok _ L W h (by omega)))
  generalize cutL (shuts L) = R at HCL HCR HC1 HC2
  generalize sealN (shuts L) L.length = q at HCL HSL HSE
  generalize L.length = ll at *
  go_wp2_with fail
  refine HC1.out.mono ?_
  rintro e w4 ⟨va, rfl, hr4, hg4⟩
  replace HX := hide (HX.out.gr hg4)
  replace HG := hide (HG.out.trans hg4)
  clear hg4 HC1
  go_wp2_with fail
  refine (HC2.out w4 HX.out).mono ?_
  rintro e w5 ⟨vb, rfl, hr5, hg5⟩
  replace HX := hide (HX.out.gr hg5)
  replace HG := hide (HG.out.trans hg5)
  have HA := hide (hr4.gr hg5)
  have HB := hide hr5
  clear hr4 hr5 hg5 HC2
  obtain ⟨ga, ca, rfl, _⟩ := HA.out.at_ (by have := HCL.out; omega)
  obtain ⟨gb, cb, rfl, _⟩ := HB.out.at_ (by have := HCL.out; omega)
  have HS5 := hide (HSE.out w5 HX.out)
  clear HSE
  have hRq : (R.length : Int) = (q : Int) + 1 := by have := HCL.out; omega
  have hq19 : q ≤ 19 := by have := HSL.out; omega
  have e1 : (R.length : Int) - 1 = (q : Int) := by omega
  go_wp2_with fail
  refine HS5.out.mono ?_
  rintro e w6 ⟨rfl, hg6⟩
  replace HG := hide (HG.out.trans hg6)
  replace HA := hide (HA.out.gr hg6)
  replace HB := hide (HB.out.gr hg6)
  clear hg6 HS5 HX
  go_wp2_with fail
  go_loopw [8] (fun i wr => ∃ j : Nat, i = .int .i64 j ∧ j ≤ R.length ∧ Hid (Gr w6 wr)) (fun i _ => R.length - (intOf i).toNat)
  case atStart => exact ⟨0, rfl, by omega, Gr.refl _⟩
  case round =>
    obtain ⟨j, rfl, hj, HR⟩ := hrel
    by_cases hlt : j < R.length
    · have hlt' : (j : Int) < (R.length : Int) := by omega
      have hrj := HCR.out _ (List.getElem_mem hlt)
      obtain ⟨ga', ca', e1, ha⟩ := (HA.out.gr HR.out).at_ (by omega)
      obtain ⟨gb', cb', e2, hb⟩ := (HB.out.gr HR.out).at_ (by omega)
      simp only [Value.slice.injEq, Option.some.injEq, Addr.mk.injEq, true_and, and_true] at e1 e2
      obtain ⟨rfl, rfl⟩ := e1
      obtain ⟨rfl, rfl⟩ := e2
      obtain ⟨A1, k1, a1, i1, _⟩ := ha j hlt
      obtain ⟨A2, k2, a2, i2, _⟩ := hb j hlt
      have HQ := hide (fun n => SameInts_ok _ _ R[j] R[j] (wr.drewN n) (i1.gr ((Gr.refl wr).drewN n)) (i2.gr ((Gr.refl wr).drewN n)) (by omega) (by omega) rfl)
      clear ha hb i1 i2
      generalize R[j].length = rl at a1 a2 HQ hrj
      go_wp2_with fail
      go_quiet (refine Calls.quiet_of (HQ.out _))
      go_wp2_with fail
      go_roundw
      case rel => exact ⟨j + 1, by go_num, by omega, HR.out.drewN _⟩
      case measure => simp [intOf]; omega
    · obtain rfl : j = R.length := by omega
      go_wp2_with fail
      go_ret
      exact ⟨rfl, HG.out.trans HR.out⟩

end Go.Proofs.Ytiinidkofonidaa
