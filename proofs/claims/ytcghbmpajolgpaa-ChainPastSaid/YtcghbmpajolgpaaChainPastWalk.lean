/-
  The walk of 'ChainPast'.
-/
import Derived.Test.YtcghbmpajolgpaaChFacts
namespace Go.Proofs.Ytcghbmpajolgpaa
open Go Go.RowKit ChMath KeyMath
set_option maxRecDepth 100000

set_option maxHeartbeats 8000000 in
theorem walk_ChainPast (w : World) (A : Option Addr) (n c : Nat) (l : List UInt8) (hn : n = l.length) (hby : By w A c l) (a : Int) (ha : (Lit.int .u8 a).wf = true) (g : Bool) (b : Int) (hb : (Lit.int .u8 b).wf = true) :
    Calls Try.prog 6 #[.slice A n c, .int .u8 a, .bool g, .int .u8 b] w fun e w' => e = .returned (.bool true) ∧ Gr w w' := by
  subst hn
  have HBY := hide hby
  clear hby
  obtain ⟨na, rfl, hna⟩ := u8_nat ha
  obtain ⟨nb, rfl, hnb⟩ := u8_nat hb
  clear ha hb
  by_cases h1 : (15 : Int) < (l.length : Int)
  · go_enter Try.func6, Try.ntmps6
    go_wp2_with fail
    refine (begun_ok _).mono ?_
    rintro e w1 ⟨rfl, hg1⟩
    go_wp2_with fail
    go_ret
    exact ⟨rfl, hg1⟩
  go_enter Try.func6, Try.ntmps6
  go_wp2_with fail
  refine (begun_ok _).mono ?_
  rintro e w1 ⟨rfl, hg1⟩
  have HG1 := hide hg1
  clear hg1
  go_wp2_with fail
  refine (made_ok A c l w1 (HBY.out.gr HG1.out) (by omega)).mono ?_
  rintro e w2 ⟨u, rfl, ho, hg2⟩
  have hlen : (madeV 0 l).length ≤ 15 := by rw [made_len]; omega
  have hpb := pos_bnd l 0
  rw [← last_made] at hpb
  generalize madeV 0 l = ls at ho hlen hpb
  have HX := hide ho.x
  have HG2 := hide (HG1.out.trans hg2)
  obtain ⟨uA, uc, rfl, _⟩ := ho.x.is
  clear ho hg2
  obtain ⟨z, hz⟩ : ∃ z, lastP ls = z := ⟨_, rfl⟩
  obtain ⟨r, hr⟩ : ∃ r, na % 9 = r := ⟨_, rfl⟩
  have er : (na : Int).tmod 9 = (r : Int) := by rw [← hr]; rfl
  have hr9 : r < 9 := by omega
  obtain ⟨p, hp⟩ : ∃ p : Int, z + 1 + (r : Int) = p := ⟨_, rfl⟩
  have hzp : z < p := by omega
  have hzb : 0 ≤ z ∧ z ≤ 60 := by rw [← hz]; omega
  have hadd := add_new (l := ls) (v := ⟨p, ⟨#[]⟩, g⟩) (by rw [hz]; exact hzp)
  have HL1 := hide (fun W u (h : VersX W u ls) => Last_ok u ls W h (by omega))
  rw [hz] at HL1
  have HADD := hide (fun W u (h : VersX W u ls) => Add_ok u ls ⟨p, ⟨#[]⟩, g⟩ W h (by omega))
  rw [hadd] at HADD
  simp only [verA] at HADD
  have HAT1 := hide (fun W u (h : VersX W u ls) => At_ok u ls (nb : Int) W h (by omega))
  have HAB := hide (fun h : (nb : Int) < p => add_below (l := ls) (v := ⟨p, ⟨#[]⟩, g⟩) (p := nb) h)
  have HAF := hide (fun h : p ≤ (nb : Int) => add_from (l := ls) (v := ⟨p, ⟨#[]⟩, g⟩) (p := nb) h)
  obtain ⟨ms, hms⟩ : ∃ ms, ls ++ [⟨p, ⟨#[]⟩, g⟩] = ms := ⟨_, rfl⟩
  have hml : ms.length = ls.length + 1 := by rw [← hms, List.length_append]; rfl
  have hmz : lastP ms = p := by rw [← hms, lastP_snoc]
  have hold := add_old (l := ms) (v := ⟨p, ⟨#[]⟩, g⟩) (by rw [hmz]; exact Int.le_refl _)
  rw [hms] at HADD HAB HAF
  have HAT2 := hide (fun W u (h : VersX W u ms) => At_ok u ms (nb : Int) W h (by omega))
  have HL2 := hide (fun W u (h : VersX W u ms) => Last_ok u ms W h (by omega))
  rw [hmz] at HL2
  have HADD2 := hide (fun W u (h : VersX W u ms) => Add_ok u ms ⟨p, ⟨#[]⟩, g⟩ W h (by omega))
  rw [hold] at HADD2
  simp only [verA] at HADD2
  have HS := hide (fun W u v (h : VersX W u ms) (h2 : VersX W v ms) => same_ver u v ms W h h2 (by omega))
  unfold AtPost at HAT1 HAT2
  obtain ⟨x, hx⟩ : ∃ x, atV (nb : Int) ls = x := ⟨_, rfl⟩
  obtain ⟨y, hy⟩ : ∃ y, isV (nb : Int) ls = y := ⟨_, rfl⟩
  rw [hx, hy] at HAT1 HAB
  obtain ⟨xp, xt, xb⟩ := x
  simp only [verA] at HAT1 HAT2
  clear hadd hold hms hmz hpb hx hy hz hr
  go_wp2_with fail
  refine (HL1.out _ _ HX.out).mono ?_
  rintro e w3 ⟨rfl, rfl⟩
  go_upto_region 7 with (fail)
  obtain ⟨W3, hW3⟩ : ∃ W3, w3.alloc (.cells #[.int .i64 p, .string ⟨#[]⟩, .bool g] 25) = W3 := ⟨_, rfl⟩
  have hb3 : Bl W3 w3.heap.size 25 #[.int .i64 p, .string ⟨#[]⟩, .bool g] := by rw [← hW3]; exact Bl.new _ _ _
  have hG3 : Gr w3 W3 := by rw [← hW3]; exact (Gr.refl _).alloc _
  rw [hW3]
  have HB3 := hide hb3
  have HG3 := hide hG3
  have k0 : W3.cell? ⟨w3.heap.size, 0, none⟩ = some (.int .i64 p) := hb3.cell 0
  have k1 : W3.cell? ⟨w3.heap.size, 1, none⟩ = some (.string ⟨#[]⟩) := hb3.cell 1
  have k2 : W3.cell? ⟨w3.heap.size, 2, none⟩ = some (.bool g) := hb3.cell 2
  clear hW3 hb3 hG3
  go_wp2_with fail
  refine (HADD.out _ _ (HX.out.gr HG3.out)).mono ?_
  rintro e w4 ⟨t, rfl, ho, hg4⟩
  have HM := hide ho.x
  have HG4 := hide (HG3.out.trans hg4)
  have HB4 := hide (HB3.out.gr hg4)
  obtain ⟨tA, tc, hu4, _⟩ := ho.x.is
  rw [hml] at hu4
  subst hu4
  clear ho hg4 k0 k1 k2 HB3 HG3
  go_wp2_with fail
  refine (HAT1.out _ _ (HX.out.gr HG4.out)).mono ?_
  rintro e w5 ⟨rfl, hg5⟩
  go_upto_region 9 with (fail)
  obtain ⟨W5, hW5⟩ : ∃ W5, w5.alloc (.cells #[.int .i64 xp, .string xt, .bool xb] 25) = W5 := ⟨_, rfl⟩
  have hb5 : Bl W5 w5.heap.size 25 #[.int .i64 xp, .string xt, .bool xb] := by rw [← hW5]; exact Bl.new _ _ _
  have hG5 : Gr w4 W5 := by rw [← hW5]; exact hg5.alloc _
  rw [hW5]
  have HB5 := hide hb5
  have HG5 := hide hG5
  clear hW5 hb5 hG5 hg5
  by_cases hpb : p ≤ (nb : Int)
  · rw [(HAF.out hpb).1, (HAF.out hpb).2] at HAT2
    go_wp2_with fail
    refine (HAT2.out _ _ (HM.out.gr HG5.out)).mono ?_
    rintro e w6 ⟨rfl, hg6⟩
    go_upto_region 10 with (fail)
    obtain ⟨W6, hW6⟩ : ∃ W6, w6.alloc (.cells #[.int .i64 p, .string ⟨#[]⟩, .bool g] 25) = W6 := ⟨_, rfl⟩
    have hb6 : Bl W6 w6.heap.size 25 #[.int .i64 p, .string ⟨#[]⟩, .bool g] := by rw [← hW6]; exact Bl.new _ _ _
    have hG6 : Gr w4 W6 := by rw [← hW6]; exact HG5.out.trans (hg6.alloc _)
    rw [hW6]
    have HB6 := hide hb6
    have HG6 := hide hG6
    clear hW6 hb6 hG6 hg6
    have hbx := HB4.out.gr HG6.out
    have k0 : W6.cell? ⟨w3.heap.size, 0, none⟩ = some (.int .i64 p) := hbx.cell 0
    have k1 : W6.cell? ⟨w3.heap.size, 1, none⟩ = some (.string ⟨#[]⟩) := hbx.cell 1
    have k2 : W6.cell? ⟨w3.heap.size, 2, none⟩ = some (.bool g) := hbx.cell 2
    have m0 : W6.cell? ⟨w6.heap.size, 0, none⟩ = some (.int .i64 p) := HB6.out.cell 0
    have m1 : W6.cell? ⟨w6.heap.size, 1, none⟩ = some (.string ⟨#[]⟩) := HB6.out.cell 1
    have m2 : W6.cell? ⟨w6.heap.size, 2, none⟩ = some (.bool g) := HB6.out.cell 2
    have HQ := hide (fun n => HL2.out (W6.drewN n) _ ((HM.out.gr HG6.out).gr ((Gr.refl _).drewN n)))
    have HGE := hide (HG2.out.trans (HG4.out.trans HG6.out))
    clear hbx
    go_wp2_with fail
    go_quiet (refine Calls.quiet_of_same (HQ.out _))
    go_wp2_with fail
    go_ret
    exact ⟨rfl, HGE.out.trans ((Gr.refl _).drewN _)⟩
  · have hpb' : (nb : Int) < p := by omega
    rw [(HAB.out hpb').1, (HAB.out hpb').2] at HAT2
    have hml' : (ms.length : Int) = (ls.length : Int) + 1 := by omega
    go_wp2_with fail
    refine (HAT2.out _ _ (HM.out.gr HG5.out)).mono ?_
    rintro e w6 ⟨rfl, hg6⟩
    go_upto_region 10 with (fail)
    obtain ⟨W6, hW6⟩ : ∃ W6, w6.alloc (.cells #[.int .i64 xp, .string xt, .bool xb] 25) = W6 := ⟨_, rfl⟩
    have hb6 : Bl W6 w6.heap.size 25 #[.int .i64 xp, .string xt, .bool xb] := by rw [← hW6]; exact Bl.new _ _ _
    have hG56 : Gr W5 W6 := by rw [← hW6]; exact hg6.alloc _
    rw [hW6]
    have HG6 := hide (HG5.out.trans hG56)
    have hb5' := HB5.out.gr hG56
    have hbx := HB4.out.gr HG6.out
    have k0 : W6.cell? ⟨w3.heap.size, 0, none⟩ = some (.int .i64 p) := hbx.cell 0
    have k1 : W6.cell? ⟨w3.heap.size, 1, none⟩ = some (.string ⟨#[]⟩) := hbx.cell 1
    have k2 : W6.cell? ⟨w3.heap.size, 2, none⟩ = some (.bool g) := hbx.cell 2
    have m0 : W6.cell? ⟨w5.heap.size, 0, none⟩ = some (.int .i64 xp) := hb5'.cell 0
    have m1 : W6.cell? ⟨w5.heap.size, 1, none⟩ = some (.string xt) := hb5'.cell 1
    have m2 : W6.cell? ⟨w5.heap.size, 2, none⟩ = some (.bool xb) := hb5'.cell 2
    have n0 : W6.cell? ⟨w6.heap.size, 0, none⟩ = some (.int .i64 xp) := hb6.cell 0
    have n1 : W6.cell? ⟨w6.heap.size, 1, none⟩ = some (.string xt) := hb6.cell 1
    have n2 : W6.cell? ⟨w6.heap.size, 2, none⟩ = some (.bool xb) := hb6.cell 2
    have HMX := hide (HM.out.gr HG6.out)
    have HGE := hide (HG2.out.trans (HG4.out.trans HG6.out))
    clear hW6 hb6 hG56 hg6 hbx hb5' HB5 HB4
    go_wp2_with fail
    refine (HADD2.out _ _ HMX.out).mono ?_
    rintro e w7 ⟨t7, rfl, ho, hg7⟩
    have HT7 := hide ho.x
    have HM7 := hide (HMX.out.gr hg7)
    have HG7 := hide (HGE.out.trans hg7)
    obtain ⟨tA7, tc7, hu7, _⟩ := ho.x.is
    rw [hml] at hu7
    subst hu7
    clear ho hg7 k0 k1 k2 m0 m1 m2 n0 n1 n2
    go_wp2_with fail
    refine (HS.out _ _ _ HT7.out HM7.out).mono ?_
    rintro e w8 ⟨rfl, hg8⟩
    have HG8 := hide (HG7.out.trans hg8)
    clear hg8
    go_wp2_with fail
    go_ret
    exact ⟨rfl, HG8.out⟩

end Go.Proofs.Ytcghbmpajolgpaa
