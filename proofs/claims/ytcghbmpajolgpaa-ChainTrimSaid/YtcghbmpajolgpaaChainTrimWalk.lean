/-
  The walk of 'ChainTrim'.
-/
import Derived.Test.YtcghbmpajolgpaaChFacts
namespace Go.Proofs.Ytcghbmpajolgpaa
open Go Go.RowKit ChMath KeyMath
set_option maxRecDepth 100000

set_option maxHeartbeats 8000000 in
theorem walk_ChainTrim (w : World) (A : Option Addr) (n c : Nat) (l : List UInt8) (hn : n = l.length) (hby : By w A c l) (a : Int) (ha : (Lit.int .u8 a).wf = true) (b : Int) (hb : (Lit.int .u8 b).wf = true) :
    Calls Try.prog 4 #[.slice A n c, .int .u8 a, .int .u8 b] w fun e w' => e = .returned (.bool true) ∧ Gr w w' := by
  subst hn
  have HBY := hide hby
  clear hby
  obtain ⟨na, rfl, hna⟩ := u8_nat ha
  obtain ⟨nb, rfl, hnb⟩ := u8_nat hb
  clear ha hb
  by_cases h1 : (15 : Int) < (l.length : Int)
  · go_enter Try.func4, Try.ntmps4
    go_wp2_with fail
    refine (begun_ok _).mono ?_
    rintro e w1 ⟨rfl, hg1⟩
    go_wp2_with fail
    go_ret
    exact ⟨rfl, hg1⟩
  go_enter Try.func4, Try.ntmps4
  go_wp2_with fail
  refine (begun_ok _).mono ?_
  rintro e w1 ⟨rfl, hg1⟩
  have HG1 := hide hg1
  clear hg1
  go_wp2_with fail
  refine (made_ok A c l w1 (HBY.out.gr HG1.out) (by omega)).mono ?_
  rintro e w2 ⟨u, rfl, ho, hg2⟩
  have hmay : mayL (madeV 0 l) = true := made_may l 0
  have hbn := made_ver l 0
  have hlen : (madeV 0 l).length ≤ 15 := by rw [made_len]; omega
  generalize madeV 0 l = ls at ho hmay hbn hlen
  have HX := hide ho.x
  have HG2 := hide (HG1.out.trans hg2)
  obtain ⟨uA, uc, rfl, _⟩ := ho.x.is
  clear ho hg2
  have HAT := hide (trim_at (show (na : Int) ≤ (na : Int) + (nb : Int) by omega) ls)
  have HLA := hide (trim_last na ls)
  have HTT := hide (trim_twice na ls)
  have HTL := hide (trim_len na ls)
  have HTM := hide (trim_may (m := na) hmay)
  have HTB := hide (hbn.trim na)
  have HT1 := hide (fun W u (h : VersX W u ls) => Trim_ok u ls na W h (by omega))
  have HA1 := hide (fun W u (h : VersX W u ls) => At_ok u ls ((na : Int) + (nb : Int)) W h (by omega))
  have HL1 := hide (fun W u (h : VersX W u ls) => Last_ok u ls W h (by omega))
  generalize hts : trimL na ls = ts at HAT HLA HTT HTL HTM HTB HT1
  have hlt2 : ts.length ≤ 15 := Nat.le_trans HTL.out hlen
  have HT2 := hide (fun W u (h : VersX W u ts) => Trim_ok u ts na W h (by omega))
  rw [HTT.out] at HT2
  have HA2 := hide (fun W u (h : VersX W u ts) => At_ok u ts ((na : Int) + (nb : Int)) W h (by omega))
  have HL2 := hide (fun W u (h : VersX W u ts) => Last_ok u ts W h (by omega))
  rw [HLA.out] at HL2
  have HM := hide (fun W u (h : VersX W u ts) => May_ok u ts W h (by omega) HTB.out)
  rw [HTM.out] at HM
  have HS := hide (fun W u v (h : VersX W u ts) (h2 : VersX W v ts) => same_ver u v ts W h h2 (by omega))
  unfold AtPost at HA1 HA2
  rw [HAT.out.1, HAT.out.2] at HA2
  obtain ⟨x, hx⟩ : ∃ x, atV ((na : Int) + (nb : Int)) ls = x := ⟨_, rfl⟩
  obtain ⟨y, hy⟩ : ∃ y, isV ((na : Int) + (nb : Int)) ls = y := ⟨_, rfl⟩
  obtain ⟨z, hz⟩ : ∃ z, lastP ls = z := ⟨_, rfl⟩
  rw [hx, hy] at HA1 HA2
  rw [hz] at HL1 HL2
  obtain ⟨xp, xt, xb⟩ := x
  simp only [verA] at HA1 HA2
  have hle : ts.length ≤ ls.length := HTL.out
  have hle' : (ts.length : Int) ≤ (ls.length : Int) := by omega
  clear HAT HLA HTT HTL HTM HTB hx hy hz hts hmay hbn
  go_wp2_with fail
  refine (HT1.out _ _ HX.out).mono ?_
  rintro e w3 ⟨t, rfl, ho, hg3⟩
  have HTX := hide ho.x
  have HG3 := hide hg3
  obtain ⟨tA, tc, rfl, _⟩ := ho.x.is
  clear ho hg3
  go_wp2_with fail
  refine (HA1.out _ _ (HX.out.gr HG3.out)).mono ?_
  rintro e w4 ⟨rfl, hg4⟩
  go_upto_region 9 with (fail)
  obtain ⟨W4, hW4⟩ : ∃ W4, w4.alloc (.cells #[.int .i64 xp, .string xt, .bool xb] 25) = W4 := ⟨_, rfl⟩
  have hb4 : Bl W4 w4.heap.size 25 #[.int .i64 xp, .string xt, .bool xb] := by rw [← hW4]; exact Bl.new _ _ _
  have hG4 : Gr w3 W4 := by rw [← hW4]; exact hg4.alloc _
  rw [hW4]
  have HB4 := hide hb4
  have HG4 := hide hG4
  clear hW4 hb4 hG4 hg4
  go_wp2_with fail
  refine (HA2.out _ _ (HTX.out.gr HG4.out)).mono ?_
  rintro e w5 ⟨rfl, hg5⟩
  go_upto_region 10 with (fail)
  obtain ⟨W5, hW5⟩ : ∃ W5, w5.alloc (.cells #[.int .i64 xp, .string xt, .bool xb] 25) = W5 := ⟨_, rfl⟩
  have hb5 : Bl W5 w5.heap.size 25 #[.int .i64 xp, .string xt, .bool xb] := by rw [← hW5]; exact Bl.new _ _ _
  have hG5 : Gr W4 W5 := by rw [← hW5]; exact hg5.alloc _
  rw [hW5]
  have HB5 := hide hb5
  have HG5 := hide hG5
  clear hW5 hb5 hG5 hg5
  go_wp2_with fail
  refine (HT2.out _ _ (HTX.out.gr (HG4.out.trans HG5.out))).mono ?_
  rintro e w6 ⟨t6, rfl, ho, hg6⟩
  have HT6 := hide ho.x
  have HG6 := hide (HG5.out.trans hg6)
  obtain ⟨tA6, tc6, rfl, _⟩ := ho.x.is
  have hb4' := HB4.out.gr HG6.out
  have hb5' := HB5.out.gr hg6
  have k0 : w6.cell? ⟨w4.heap.size, 0, none⟩ = some (.int .i64 xp) := hb4'.cell 0
  have k1 : w6.cell? ⟨w4.heap.size, 1, none⟩ = some (.string xt) := hb4'.cell 1
  have k2 : w6.cell? ⟨w4.heap.size, 2, none⟩ = some (.bool xb) := hb4'.cell 2
  have m0 : w6.cell? ⟨w5.heap.size, 0, none⟩ = some (.int .i64 xp) := hb5'.cell 0
  have m1 : w6.cell? ⟨w5.heap.size, 1, none⟩ = some (.string xt) := hb5'.cell 1
  have m2 : w6.cell? ⟨w5.heap.size, 2, none⟩ = some (.bool xb) := hb5'.cell 2
  have HX6 := hide (HX.out.gr (HG3.out.trans (HG4.out.trans HG6.out)))
  have HTX6 := hide (HTX.out.gr (HG4.out.trans HG6.out))
  have HGE := hide (HG2.out.trans (HG3.out.trans (HG4.out.trans HG6.out)))
  clear ho hg6 hb4' hb5' HB4 HB5 HG1 HG2 HG3 HG4 HG5 HG6 HX HTX HT1 HT2 HA1 HA2
  go_wp2_with fail
  refine (HL2.out _ _ HTX6.out).mono ?_
  rintro e w7 ⟨rfl, rfl⟩
  go_wp2_with fail
  refine (HL1.out _ _ HX6.out).mono ?_
  rintro e w7 ⟨rfl, rfl⟩
  go_wp2_with fail
  refine (HM.out _ _ HTX6.out).mono ?_
  rintro e w8 ⟨rfl, hg8⟩
  have HT8 := hide (HT6.out.gr hg8)
  have HTX8 := hide (HTX6.out.gr hg8)
  have HGE8 := hide (HGE.out.trans hg8)
  clear hg8 k0 k1 k2 m0 m1 m2 HT6 HTX6 HGE
  go_wp2_with fail
  refine (HS.out _ _ _ HT8.out HTX8.out).mono ?_
  rintro e w9 ⟨rfl, hg9⟩
  have HGE9 := hide (HGE8.out.trans hg9)
  clear hg9
  go_wp2_with fail
  go_ret
  exact ⟨rfl, HGE9.out⟩

end Go.Proofs.Ytcghbmpajolgpaa
