/-
  The walk of 'UlogAll'.
-/
import Derived.Test.YthgpeegnedocfaaUlogHasWalk
import Derived.Test.YthgpeegnedocfaaUlGrow
namespace Go.Proofs.Ythgpeegnedocfaa
open Go Go.RowKit TxnMath KeyMath MsgMath
set_option maxRecDepth 100000

set_option maxHeartbeats 2000000 in
theorem walk_UlogAll (w : World) (A : Option Addr) (n c : Nat) (l : List UInt8) (hn : n = l.length) (hby : By w A c l) (B : Option Addr) (m d : Nat) (r : List UInt8) (hm : m = r.length) (hbr : By w B d r)
    (a : Int) (_ha : (Lit.int .i64 a).wf = true) (b : Int) (_hb : (Lit.int .i64 b).wf = true) :
    Calls Try.prog 3 #[.slice A n c, .slice B m d, .int .i64 a, .int .i64 b] w fun e w' => e = .returned (.bool true) ∧ Gr w w' := by
  subst hn hm
  have HBY := hide hby
  have HBR := hide hbr
  clear hby hbr
  by_cases h1 : (80 : Int) < (l.length : Int)
  · go_enter Try.func3, Try.ntmps3
    go_wp2_with fail
    refine (begun_ok _).mono ?_
    rintro e w1 ⟨rfl, hg1⟩
    go_wp2_with fail
    go_ret
    exact ⟨rfl, hg1⟩
  by_cases h2 : (80 : Int) < (r.length : Int)
  · go_enter Try.func3, Try.ntmps3
    go_wp2_with fail
    refine (begun_ok _).mono ?_
    rintro e w1 ⟨rfl, hg1⟩
    go_wp2_with fail
    go_ret
    exact ⟨rfl, hg1⟩
  have HLB := hide (logP_bnd l 0 8)
  have HKB := hide (logP_bnd r 0 4)
  have HLL := hide (logP_len l 0 8)
  have HKL := hide (logP_len r 0 4)
  go_enter Try.func3, Try.ntmps3
  go_wp2_with fail
  refine (begun_ok _).mono ?_
  rintro e w1 ⟨rfl, hg1⟩
  go_wp2_with fail
  refine (Made_ok A c l w1 (HBY.out.gr hg1)).mono ?_
  rintro e w2 ⟨rfl, hg2, hpk⟩
  have hgw1 := hg1.size
  have hg12 := hg1.trans hg2
  go_wp2_with fail
  refine (Log_ok w1.heap.size A c l 0 8 (by omega) (by omega) w2 hpk).mono ?_
  rintro e w3 ⟨lv, rfl, hlo, hb3, _⟩
  have hx := hlo.entsX
  clear hlo hpk
  generalize (logP l 0 8).1 = L at hx HLL HLB
  obtain ⟨lA, lc, rfl⟩ := hx.is
  rw [HLL.out] at hx ⊢
  have HX := hide hx
  have hg3 : Gr w w3 := hg12.fresh hb3 hgw1
  clear hx hb3 hg1 hg2 hg12 hgw1
  go_wp2_with fail
  refine (Made_ok B d r w3 (HBR.out.gr hg3)).mono ?_
  rintro e w4 ⟨rfl, hg4, hpk⟩
  have hgw3 := hg3.size
  have hg34 := hg3.trans hg4
  go_wp2_with fail
  refine (Log_ok w3.heap.size B d r 0 4 (by omega) (by omega) w4 hpk).mono ?_
  rintro e w5 ⟨kv, rfl, hko, hb5, _⟩
  have hy := hko.entsX
  clear hko hpk
  generalize (logP r 0 4).1 = R at hy HKL HKB
  obtain ⟨rA, rc, rfl⟩ := hy.is
  rw [HKL.out] at hy ⊢
  have HY := hide hy
  have hg5 : Gr w w5 := hg34.fresh hb5 hgw3
  have hg35 : Gr w3 w5 := hg4.fresh hb5 (Nat.le_refl _)
  replace HX := hide (HX.out.gr hg35)
  clear hy hb5 hg3 hg4 hg34 hg35 hgw3
  have HSL : Hid (Grow.Sm L) := ⟨by have := HLL.out; omega, HLB.out⟩
  have HSR : Hid (Grow.Sm R) := ⟨by have := HKL.out; omega, HKB.out⟩
  have HSS : Hid (L.length + R.length ≤ 10000) := by have := HKL.out; have := HLL.out; exact (by omega : L.length + R.length ≤ 10000)
  clear HLB HKB
  go_wp2_with fail
  obtain ⟨w6, hw6⟩ : ∃ W, w5.alloc (.cells #[.int .i64 a, .int .i64 0, .int .i64 1, .int .i64 3, .int .i64 8] 3) = W := ⟨_, rfl⟩
  have hg6 : Gr w5 w6 := by rw [← hw6]; exact (Gr.refl _).alloc _
  have hbl : Bl w6 w5.heap.size 3 #[.int .i64 a, .int .i64 0, .int .i64 1, .int .i64 3, .int .i64 8] := by rw [← hw6]; exact Bl.new _ _ _
  rw [hw6]
  obtain ⟨g, hg⟩ : ∃ g, w5.heap.size = g := ⟨_, rfl⟩
  rw [hg] at hbl ⊢
  obtain ⟨xs, hxs⟩ : ∃ xs : List Value, [.int .i64 a, .int .i64 0, .int .i64 1, .int .i64 3, .int .i64 8] = xs := ⟨_, rfl⟩
  have HPK : Hid (∀ k, k < 5 → ∃ p, xs[k]? = some (.int .i64 p)) := fun k hk => by
    rw [← hxs]
    rcases (by omega : k = 0 ∨ k = 1 ∨ k = 2 ∨ k = 3 ∨ k = 4) with rfl | rfl | rfl | rfl | rfl <;> exact ⟨_, rfl⟩
  have HX5 : Hid (5 = xs.length) := by rw [← hxs]; rfl
  have HCL : Hid (∀ W, Gr w6 W → Grow.Cl ⟨g, 0, none⟩ 5 5 xs (.slice (some ⟨g, 0, none⟩) 5 5) W) := fun W h => ⟨rfl, HX5.out, fun j u hu => by
    have h1 := (hbl.gr h).cell j
    rw [← hxs] at hu
    have h2 : (⟨g, 0, none⟩ : Addr).add j = ⟨g, j, none⟩ := by unfold Addr.add; split <;> simp_all
    rw [h2, h1]
    simpa using hu⟩
  replace HX := hide (HX.out.gr hg6)
  replace HY := hide (HY.out.gr hg6)
  have HG := hide (hg5.trans hg6)
  clear hw6 hg6 hbl hg hxs HX5 hg5 HBY HBR
  go_wp2_with fail
  go_loopw [12] (fun i wr => ∃ k : Nat, i = .int .i64 k ∧ k ≤ 5 ∧ Gr w6 wr) (fun i _ => 5 - (intOf i).toNat)
  case atStart => exact ⟨0, rfl, by omega, Gr.refl _⟩
  case round =>
    obtain ⟨k, rfl, hk, hgr⟩ := hrel
    by_cases hlt : k < 5
    · have hlt' : (k : Int) < 5 := by omega
      obtain ⟨p, hp⟩ := HPK.out k hlt
      have HP := hide hp
      clear hp
      have hcl := (HCL.out _ hgr).2.2
      have a0 : wr.cell? ⟨g, k, none⟩ = some (.int .i64 p) := by
        have h2 : (⟨g, 0, none⟩ : Addr).add k = ⟨g, k, none⟩ := by unfold Addr.add; split <;> simp_all
        rw [← h2]; exact hcl k _ HP.out
      clear hcl HP
      have CT1 := hide (fun W (h : Gr w6 W) => Term_ok _ L p W (HX.out.gr h) (by have := HLL.out; omega))
      have CT2 := hide (fun W (h : Gr w6 W) => RefTerm_ok _ L p W (HX.out.gr h) (by have := HLL.out; omega))
      have CH1 := hide (fun W (h : Gr w6 W) => Has_ok _ L p b W (HX.out.gr h) (by have := HLL.out; omega))
      have CH2 := hide (fun W (h : Gr w6 W) => RefHas_ok _ L p b W (HX.out.gr h) (by have := HLL.out; omega))
      have CH3 := hide (fun W (h : Gr w6 W) => Has_ok _ L p 2 W (HX.out.gr h) (by have := HLL.out; omega))
      have CH4 := hide (fun W (h : Gr w6 W) => RefHas_ok _ L p 2 W (HX.out.gr h) (by have := HLL.out; omega))
      have CN1 := hide (fun W (h : Gr w6 W) => Newer_ok _ L p b W (HX.out.gr h) (by have := HLL.out; omega))
      have CN2 := hide (fun W (h : Gr w6 W) => RefNewer_ok _ L p b W (HX.out.gr h) (by have := HLL.out; omega))
      have CN3 := hide (fun W (h : Gr w6 W) => Newer_ok _ L p 3 W (HX.out.gr h) (by have := HLL.out; omega))
      have CN4 := hide (fun W (h : Gr w6 W) => RefNewer_ok _ L p 3 W (HX.out.gr h) (by have := HLL.out; omega))
      generalize termL L p = v1 at CT1 CT2
      generalize hasL L p b = v2 at CH1 CH2
      generalize hasL L p 2 = v3 at CH3 CH4
      generalize newerL L p b = v4 at CN1 CN2
      generalize newerL L p 3 = v5 at CN3 CN4
      have r1 : (v1 != v1) = false := by simp
      have r2 : (v2 != v2) = false := by simp
      have r3 : (v3 != v3) = false := by simp
      have r4 : (v4 != v4) = false := by simp
      have r5 : (v5 != v5) = false := by simp
      go_wp2_with fail
      refine (CT1.out wr hgr).mono ?_
      rintro e w7 ⟨rfl, hw7⟩
      rw [hw7]
      clear hw7
      go_wp2_with fail
      refine (CT2.out wr hgr).mono ?_
      rintro e w7 ⟨rfl, hw7⟩
      rw [hw7]
      clear hw7
      go_wp2_with fail
      refine (CH1.out wr hgr).mono ?_
      rintro e w7 ⟨rfl, hw7⟩
      rw [hw7]
      clear hw7
      go_wp2_with fail
      refine (CH2.out wr hgr).mono ?_
      rintro e w7 ⟨rfl, hw7⟩
      rw [hw7]
      clear hw7
      go_wp2_with fail
      refine (CH3.out wr hgr).mono ?_
      rintro e w7 ⟨rfl, hw7⟩
      rw [hw7]
      clear hw7
      go_wp2_with fail
      refine (CH4.out wr hgr).mono ?_
      rintro e w7 ⟨rfl, hw7⟩
      rw [hw7]
      clear hw7
      have HJS := hide ((HSL.out.join HSR.out HSS.out : Grow.Sm (joinL L p R)))
      go_wp2_with fail
      refine (Join_ok _ _ L R p wr (HX.out.gr hgr) (HY.out.gr hgr) HSL.out.1 HSR.out.1 HSL.out.2 HSR.out.2).mono ?_
      rintro e w7 ⟨xv, rfl, ho7, hg7⟩
      have hz := ho7.entsX
      have CJ := hide (fun W (h : Gr w6 W) => RefJoin_ok _ _ L R p W (HX.out.gr h) (HY.out.gr h) HSL.out.1 HSR.out.1)
      unfold RefJoinPost at CJ
      generalize joinL L p R = X at hz HJS CJ
      obtain ⟨xA, xc, rfl⟩ := hz.is
      have HZ := hide hz
      replace hgr := hgr.trans hg7
      clear hz ho7 hg7
      go_wp2_with fail
      refine (CJ.out w7 hgr).mono ?_
      rintro e w8 ⟨yv, rfl, hy, hg8⟩
      obtain ⟨yA, yc, rfl⟩ := hy.is
      have HY8 := hide hy
      replace HZ := hide (HZ.out.gr hg8)
      replace hgr := hgr.trans hg8
      clear hy hg8 CJ
      go_wp2_with fail
      refine (RefSameEntries_ok _ _ X X w8 HZ.out HY8.out (by have := HJS.out.1; omega) HJS.out.2 HJS.out.2).mono ?_
      rintro e w9 ⟨rfl, hg9⟩
      replace hgr := hgr.trans hg9
      clear hg9 HZ HY8 HJS
      have rx : decide (X = X) = true := decide_eq_true rfl
      rw [rx]
      clear rx
      go_wp2_with fail
      refine (CN1.out w9 hgr).mono ?_
      rintro e w7 ⟨rfl, hw7⟩
      rw [hw7]
      clear hw7
      go_wp2_with fail
      refine (CN2.out w9 hgr).mono ?_
      rintro e w7 ⟨rfl, hw7⟩
      rw [hw7]
      clear hw7
      go_wp2_with fail
      refine (CN3.out w9 hgr).mono ?_
      rintro e w7 ⟨rfl, hw7⟩
      rw [hw7]
      clear hw7
      go_wp2_with fail
      refine (CN4.out w9 hgr).mono ?_
      rintro e w7 ⟨rfl, hw7⟩
      rw [hw7]
      clear hw7
      go_wp2_with fail
      go_roundw
      case rel => exact ⟨k + 1, by go_num, by omega, hgr⟩
      case measure => simp [intOf]; omega
    · have hlt' : ¬ (k : Int) < 5 := by omega
      clear HCL HPK HSS
      go_wp2_with fail
      refine (Same_ok _ _ L R wr (HX.out.gr hgr) (HY.out.gr hgr) (by have := HLL.out; omega) (by have := HKL.out; omega) HSL.out.2 HSR.out.2).mono ?_
      rintro e w7 ⟨rfl, hg7⟩
      replace hgr := hgr.trans hg7
      clear hg7
      obtain ⟨q, hq⟩ : ∃ q, decide (L = R) = q := ⟨_, rfl⟩
      rw [hq]
      go_wp2_with fail
      refine (RefSameEntries_ok _ _ L R w7 (HX.out.gr hgr) (HY.out.gr hgr) (by have := HLL.out; omega) HSL.out.2 HSR.out.2).mono ?_
      rintro e w8 ⟨rfl, hg8⟩
      replace hgr := hgr.trans hg8
      clear hg8
      rw [hq]
      have hqq : (q == q) = true := by simp
      clear hq
      go_wp2_with fail
      refine (Same_ok _ _ L L w8 (HX.out.gr hgr) (HX.out.gr hgr) (by have := HLL.out; omega) (by have := HLL.out; omega) HSL.out.2 HSL.out.2).mono ?_
      rintro e w9 ⟨rfl, hg9⟩
      go_wp2_with fail
      go_ret
      exact ⟨by simp, (HG.out.trans hgr).trans hg9⟩

end Go.Proofs.Ythgpeegnedocfaa
