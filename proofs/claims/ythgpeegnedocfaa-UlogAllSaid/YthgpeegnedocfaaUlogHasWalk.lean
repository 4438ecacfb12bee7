/-
  The walk of 'UlogHas'.
-/
import Derived.Test.YthgpeegnedocfaaUlogNewerWalk
namespace Go.Proofs.Ythgpeegnedocfaa
open Go Go.RowKit TxnMath KeyMath MsgMath
set_option maxRecDepth 100000

/-- a log has the entry that is there, of its term alone -/
theorem has_at {x : List EntT} {p : Nat} (hp : p < x.length) (t : Int) : hasL x ((p : Int) + 1) t = decide (x[p].term = t) := by
  unfold hasL
  rw [term_at hp, there_yes (by omega) (by omega), decide_eq_false (by omega)]
  simp
theorem has_past (x : List EntT) : hasL x ((x.length : Int) + 1) 0 = false := by
  unfold hasL
  rw [there_no2 (by omega), decide_eq_false (by omega)]
  simp

set_option maxHeartbeats 2000000 in
theorem walk_UlogHas (w : World) (A : Option Addr) (n c : Nat) (l : List UInt8) (hn : n = l.length) (hby : By w A c l) (B : Option Addr) (m d : Nat) (r : List UInt8) (hm : m = r.length) (hbr : By w B d r)
    (a : Int) (ha : (Lit.int .u8 a).wf = true) :
    Calls Try.prog 7 #[.slice A n c, .slice B m d, .int .u8 a] w fun e w' => e = .returned (.bool true) ∧ Gr w w' := by
  subst hn hm
  have HBY := hide hby
  have HBR := hide hbr
  clear hby hbr
  obtain ⟨na, rfl, hna⟩ := u8_nat ha
  clear ha
  by_cases h1 : (80 : Int) < (l.length : Int)
  · go_enter Try.func7, Try.ntmps7
    go_wp2_with fail
    refine (begun_ok _).mono ?_
    rintro e w1 ⟨rfl, hg1⟩
    go_wp2_with fail
    go_ret
    exact ⟨rfl, hg1⟩
  by_cases h2 : (80 : Int) < (r.length : Int)
  · go_enter Try.func7, Try.ntmps7
    go_wp2_with fail
    refine (begun_ok _).mono ?_
    rintro e w1 ⟨rfl, hg1⟩
    go_wp2_with fail
    go_ret
    exact ⟨rfl, hg1⟩
  obtain ⟨ka, hka⟩ : ∃ k, na % 8 = k := ⟨_, rfl⟩
  have ea : (na : Int).tmod 8 = (ka : Int) := by rw [← hka]; rfl
  have ea2 : (na : Int) % 8 = (ka : Int) := by omega
  have hka7 : ka ≤ 7 := by omega
  have HL := hide (logP_hi l 0 7)
  have HK := hide (logP_hi r 0 4)
  have HLB := hide (logP_bnd l 0 7)
  have HKB := hide (logP_bnd r 0 4)
  have HLL := hide (logP_len l 0 7)
  have HKL := hide (logP_len r 0 4)
  clear hka
  go_enter Try.func7, Try.ntmps7
  go_wp2_with fail
  refine (begun_ok _).mono ?_
  rintro e w1 ⟨rfl, hg1⟩
  go_wp2_with fail
  refine (Made_ok A c l w1 (HBY.out.gr hg1)).mono ?_
  rintro e w2 ⟨rfl, hg2, hpk⟩
  have hgw1 := hg1.size
  have hg12 := hg1.trans hg2
  go_wp2_with fail
  refine (Log_ok w1.heap.size A c l 0 7 (by omega) (by omega) w2 hpk).mono ?_
  rintro e w3 ⟨lv, rfl, hlo, hb3, _⟩
  have hx := hlo.entsX
  clear hlo hpk
  generalize (logP l 0 7).1 = L at hx HL HLL HLB
  obtain ⟨lA, lc, rfl⟩ := hx.is
  rw [HLL.out] at hx ⊢
  have HX := hide hx
  have hg3 : Gr w w3 := hg12.fresh hb3 hgw1
  clear hx hb3 hg1 hg2 hg12 hgw1
  go_wp2_with fail
  refine (Made_ok B d r w3 (HBR.out.gr hg3)).mono ?_
  rintro e w4 ⟨rfl, hg4, hpk⟩
  have hgw3 := hg3.size
  have hg34 := hg3.trans hg4
  go_wp2_with fail
  refine (Log_ok w3.heap.size B d r 0 4 (by omega) (by omega) w4 hpk).mono ?_
  rintro e w5 ⟨kv, rfl, hko, hb5, _⟩
  have hy := hko.entsX
  clear hko hpk
  generalize (logP r 0 4).1 = R at hy HK HKL HKB
  obtain ⟨rA, rc, rfl⟩ := hy.is
  rw [HKL.out] at hy ⊢
  have HY := hide hy
  have hg5 : Gr w w5 := hg34.fresh hb5 hgw3
  have hg35 : Gr w3 w5 := hg4.fresh hb5 (Nat.le_refl _)
  replace HX := hide (HX.out.gr hg35)
  clear hy hb5 hg3 hg4 hg34 hg35 hgw3
  go_wp2_with fail
  refine (Join_ok _ _ L R ka w5 HX.out HY.out (by have := HLL.out; omega) (by have := HKL.out; omega) HLB.out HKB.out).mono ?_
  rintro e w6 ⟨xv, rfl, ho6, hg6⟩
  have HZ := hide ho6.entsX
  have HR := hide (HY.out.gr hg6)
  have HG := hide (hg5.trans hg6)
  have HAT := hide (join_at (l := L) (m := R) (k := ka) (by have := HLL.out; omega))
  have HMEM := hide (fun e (he : e ∈ joinL L ka R) => join_mem e he)
  have HLEN := hide (join_len (l := L) (m := R) (i := (ka : Int)))
  have HPAST := hide (has_past (joinL L ka R))
  rw [HLL.out, HKL.out] at HLEN
  clear ho6 hg6 hg5 HX HY HLB HKB
  generalize joinL L ka R = X at HZ HAT HMEM HLEN HPAST
  obtain ⟨xA, xc, rfl⟩ := HZ.out.is
  have HXL := hide (show X.length ≤ 11 from HLEN.out)
  have HTM := hide (fun (p : Nat) (hp : p < X.length) => show 1 ≤ X[p].term ∧ X[p].term ≤ 8 from by
    rcases HMEM.out _ (List.getElem_mem hp) with h | h
    · have := HL.out _ h; omega
    · have := HK.out _ h; omega)
  clear HMEM HL HK HLEN HBY HBR
  go_wp2_with fail
  go_loopw [11] (fun i wr => ∃ j : Nat, i = .int .i64 j ∧ j ≤ 4 ∧ Gr w6 wr) (fun i _ => 4 - (intOf i).toNat)
  case atStart => exact ⟨0, rfl, by omega, Gr.refl _⟩
  case round =>
    obtain ⟨j, rfl, hj, hgr⟩ := hrel
    by_cases hlt : j < 4
    · have hlt' : (j : Int) < 4 := by omega
      have hjr : j < R.length := by rw [HKL.out]; exact hlt
      obtain ⟨hx, he⟩ := HAT.out j hjr
      have hz := HTM.out _ hx
      obtain ⟨ad, c', p, e1, _, a0, _⟩ := (HR.out.gr hgr).ent hjr
      rw [HKL.out] at e1
      simp only [Value.slice.injEq, true_and] at e1
      obtain ⟨rfl, rfl⟩ := e1
      rw [he] at hz
      have C1 := hide (Has_ok _ X (ka + j + 1) R[j].term wr (HZ.out.gr hgr) (by have := HXL.out; omega))
      have C2 := hide (Has_ok _ X (ka + j + 1) (R[j].term + 1) wr (HZ.out.gr hgr) (by have := HXL.out; omega))
      have q1 : hasL X ((ka : Int) + j + 1) R[j].term = true := by
        have := has_at hx R[j].term
        rw [he, decide_eq_true rfl] at this
        rw [← this]; congr 1
      have q2 : hasL X ((ka : Int) + j + 1) (R[j].term + 1) = false := by
        have := has_at hx (R[j].term + 1)
        rw [he, decide_eq_false (by omega)] at this
        rw [← this]; congr 1
      rw [q1] at C1
      rw [q2] at C2
      clear q1 q2 he hx
      generalize R[j].term = tm at a0 C1 C2 hz
      go_wp2_with fail
      refine C1.out.mono ?_
      rintro e w7 ⟨rfl, hw7⟩
      rw [hw7]
      clear hw7
      go_wp2_with fail
      refine C2.out.mono ?_
      rintro e w7 ⟨rfl, hw7⟩
      rw [hw7]
      clear hw7
      go_wp2_with fail
      go_roundw
      case rel => exact ⟨j + 1, by go_num, by omega, hgr⟩
      case measure => simp [intOf]; omega
    · have hlt' : ¬ (j : Int) < 4 := by omega
      clear hj hlt HAT HR
      go_wp2_with fail
      go_loopw [12] (fun i wr2 => ∃ j : Nat, i = .int .i64 j ∧ 1 ≤ j ∧ j ≤ X.length + 1 ∧ Gr w6 wr2) (fun i _ => X.length + 1 - (intOf i).toNat)
      case atStart => exact ⟨1, rfl, by omega, by omega, hgr⟩
      case round =>
        clear hgr
        obtain ⟨k, rfl, hk1, hk, hgr⟩ := hrel
        by_cases hlt : k ≤ X.length
        · have hlt' : (k : Int) ≤ (X.length : Int) := by omega
          obtain ⟨p, rfl⟩ : ∃ p, k = p + 1 := ⟨k - 1, by omega⟩
          have hp : p < X.length := by omega
          have hz := HTM.out p hp
          have hxl := HXL.out
          have C1 := hide (Term_ok _ X ((p + 1 : Nat) : Int) wr (HZ.out.gr hgr) (by omega))
          have C2 := hide (Has_ok _ X ((p + 1 : Nat) : Int) X[p].term wr (HZ.out.gr hgr) (by omega))
          have q1 : termL X ((p + 1 : Nat) : Int) = X[p].term := by rw [← term_at hp]; congr 1
          have q2 : hasL X ((p + 1 : Nat) : Int) X[p].term = true := by
            have := has_at hp X[p].term
            rw [decide_eq_true rfl] at this
            rw [← this]; congr 1
          rw [q1] at C1
          rw [q2] at C2
          clear q1 q2
          generalize X[p].term = tm at C1 C2 hz
          have hz1 : ¬ tm < 1 := by omega
          go_wp2_with fail
          refine C1.out.mono ?_
          rintro e w7 ⟨rfl, hw7⟩
          rw [hw7]
          clear hw7
          go_wp2_with fail
          refine C2.out.mono ?_
          rintro e w7 ⟨rfl, hw7⟩
          rw [hw7]
          clear hw7
          go_wp2_with fail
          refine C1.out.mono ?_
          rintro e w7 ⟨rfl, hw7⟩
          rw [hw7]
          clear hw7
          go_wp2_with fail
          go_roundw
          case rel => exact ⟨p + 1 + 1, by go_num, by omega, by omega, hgr⟩
          case measure => simp [intOf]; omega
        · obtain rfl : k = X.length + 1 := by omega
          have hxl := HXL.out
          have C1 := hide (Has_ok _ X ((X.length : Int) + 1) 0 wr (HZ.out.gr hgr) (by omega))
          rw [HPAST.out] at C1
          clear hk hk1
          go_wp2_with fail
          refine C1.out.mono ?_
          rintro e w7 ⟨rfl, hw7⟩
          rw [hw7]
          clear hw7
          go_wp2_with fail
          go_ret
          exact ⟨rfl, HG.out.trans hgr⟩

end Go.Proofs.Ythgpeegnedocfaa
