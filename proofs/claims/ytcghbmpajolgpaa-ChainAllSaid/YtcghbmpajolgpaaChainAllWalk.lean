/-
  The walk of 'ChainAll'.
-/
import Derived.Test.YtcghbmpajolgpaaChFacts
import Derived.Test.YtcghbmpajolgpaaChRef2
import Derived.Test.YtcghbmpajolgpaaChRefMay
import Derived.Test.YtcghbmpajolgpaaChArgs
namespace Go.Proofs.Ytcghbmpajolgpaa
open Go Go.RowKit ChMath KeyMath
set_option maxRecDepth 100000

theorem Grow_Vk_stays (l : List VerT) : Grow.Stays (fun v w => VersX w v l) := fun _ _ _ h hg => h.gr hg
/-- the two chains that are asked -/
def bb (ms ls : List VerT) (k : Nat) : List VerT := if k = 0 then ms else ls
theorem add_len (l : List VerT) (v : VerT) : (addL l v).length ≤ l.length + 1 := by
  unfold addL
  split <;> simp
theorem trim_short (m : Int) {l : List VerT} {n : Nat} (h : l.length ≤ n) : (trimL m l).length ≤ n := Nat.le_trans (trim_len m l) h

/-- one round of the questions: the two At's and the two Trims agree -/
structure AskP (xs : List VerT) (v : Value) (at_ : Int) (a : VerT) (b : Bool) : Prop where
  at1 : ∀ W, VersX W v xs → Calls Try.prog 11 #[v, .int .i64 at_] W fun e w' => e = .returned (.tuple #[.agg #[.int .i64 a.pos, .string a.val, .bool a.gone], .bool b]) ∧ Gr W w'
  at2 : ∀ W, VersX W v xs → Calls Try.prog 12 #[v, .int .i64 at_] W fun e w' => e = .returned (.tuple #[.agg #[.int .i64 a.pos, .string a.val, .bool a.gone], .bool b]) ∧ Gr W w'
  tr1 : ∀ W, VersX W v xs → Calls Try.prog 14 #[v, .int .i64 at_] W (OwnPost (trimL at_ xs) W)
  tr2 : ∀ W, VersX W v xs → Calls Try.prog 15 #[v, .int .i64 at_] W (OwnPost (trimL at_ xs) W)
theorem ask (xs : List VerT) (v : Value) (at_ : Int) (hl : xs.length ≤ 1000000) (hm : mayL xs = true) : AskP xs v at_ (atV at_ xs) (isV at_ xs) :=
  ⟨fun W h => At_ok v xs at_ W h (by omega), fun W h => RefAt_ok v xs at_ W h (by omega), fun W h => Trim_ok v xs at_ W h (by omega), fun W h => trim_ref (m := at_) hm ▸ RefTrim_ok v xs at_ W h (by omega)⟩

set_option maxHeartbeats 16000000 in
theorem walk_ChainAll (w : World) (A : Option Addr) (n c : Nat) (l : List UInt8) (hn : n = l.length) (hby : By w A c l) (v : Value) (ls : List VerT) (hv : VersX w v ls) (hb : VerBnd ls) (hlen : ls.length ≤ 281474976710656) (x : VerT) (_ : VerBnd [x]) (pos : Int) (_ : (Lit.int .i64 pos).wf = true) :
    Calls Try.prog 3 #[.slice A n c, v, verA x, .int .i64 pos] w fun e w' => e = .returned (.bool true) ∧ Gr w w' := by
  subst hn
  have HBY := hide hby
  have HV := hide hv
  have HB := hide hb
  obtain ⟨lA, lc, rfl, _⟩ := hv.is
  clear hby hv hb
  obtain ⟨xp, xt, xb⟩ := x
  unfold verA
  have hlen' : (ls.length : Int) ≤ 281474976710656 := by omega
  go_enter Try.func3, Try.ntmps3
  go_upto_region 1 with (fail)
  obtain ⟨W0, hW0⟩ : ∃ W0, w.alloc (.cells #[.int .i64 xp, .string xt, .bool xb] 25) = W0 := ⟨_, rfl⟩
  have hb0 : Bl W0 w.heap.size 25 #[.int .i64 xp, .string xt, .bool xb] := by rw [← hW0]; exact Bl.new _ _ _
  have hG0 : Gr w W0 := by rw [← hW0]; exact (Gr.refl _).alloc _
  rw [hW0]
  have HB0 := hide hb0
  have HG0 := hide hG0
  clear hW0 hb0 hG0
  go_wp2_with fail
  refine (begun_ok _).mono ?_
  rintro e w1 ⟨rfl, hg1⟩
  have hbx := HB0.out.gr hg1
  have HG1 := hide (HG0.out.trans hg1)
  have k0 : w1.cell? ⟨w.heap.size, 0, none⟩ = some (.int .i64 xp) := hbx.cell 0
  have k1 : w1.cell? ⟨w.heap.size, 1, none⟩ = some (.string xt) := hbx.cell 1
  have k2 : w1.cell? ⟨w.heap.size, 2, none⟩ = some (.bool xb) := hbx.cell 2
  have HB1 := hide hbx
  clear hbx hg1 HG0 HB0
  by_cases h1 : (15 : Int) < (l.length : Int)
  · go_wp2_with fail
    go_ret
    exact ⟨rfl, HG1.out⟩
  by_cases h2 : (10 : Int) < (ls.length : Int)
  · go_wp2_with fail
    go_ret
    exact ⟨rfl, HG1.out⟩
  by_cases h3 : (60 : Int) < (xt.size : Int)
  · go_wp2_with fail
    go_ret
    exact ⟨rfl, HG1.out⟩
  go_wp2_with fail
  go_loopw [9] (fun i wr => ∃ k : Nat, i = .int .i64 k ∧ k ≤ ls.length ∧ wr = w1) (fun i _ => ls.length - (intOf i).toNat)
  case atStart => exact ⟨0, rfl, by omega, rfl⟩
  case round =>
    obtain ⟨k, rfl, hk, rfl⟩ := hrel
    by_cases hlt : k < ls.length
    · have hlt' : (k : Int) < (ls.length : Int) := by omega
      obtain ⟨ad, c', e1, a0, a1, a2⟩ := (HV.out.gr HG1.out).at_ hlt
      simp only [Value.slice.injEq, true_and] at e1
      obtain ⟨rfl, rfl⟩ := e1
      generalize ls[k] = y at a0 a1 a2
      obtain ⟨yp, yt, yb⟩ := y
      simp only at a0 a1 a2
      by_cases h4 : (60 : Int) < (yt.size : Int)
      · go_wp2_with fail
        go_ret
        exact ⟨rfl, HG1.out⟩
      · go_wp2_with fail
        go_roundw
        case rel => exact ⟨k + 1, by go_num, by omega, trivial⟩
        case measure => simp [intOf]; omega
    · obtain rfl : k = ls.length := by omega
      clear k0 k1 k2
      go_wp2_with fail
      refine (made_ok A c l wr (HBY.out.gr HG1.out) (by omega)).mono ?_
      rintro e w2 ⟨u, rfl, ho, hg2⟩
      have hmay : mayL (madeV 0 l) = true := made_may l 0
      have hbn := made_ver l 0
      have hml : (madeV 0 l).length ≤ 15 := by rw [made_len]; omega
      generalize madeV 0 l = ms at ho hmay hbn hml
      have HM := hide ho.x
      have HG2 := hide (HG1.out.trans hg2)
      have HB2 := hide (HB1.out.gr hg2)
      obtain ⟨uA, uc, rfl, _⟩ := ho.x.is
      clear ho hg2 HG1 HB1
      have HMAY := hide hmay
      have HBN := hide hbn
      clear hmay hbn
      go_wp2_with fail
      refine (May_ok _ ls _ (HV.out.gr HG2.out) (by omega) HB.out).mono ?_
      rintro e w3 ⟨rfl, hg3⟩
      have HG3 := hide (HG2.out.trans hg3)
      have HM3 := hide (HM.out.gr hg3)
      have HB3 := hide (HB2.out.gr hg3)
      clear hg3 HG2 HM HB2
      go_wp2_with fail
      refine (RefMay_ok _ ls _ (HV.out.gr HG3.out) (by omega) HB.out).mono ?_
      rintro e w4 ⟨rfl, hg4⟩
      have HG4 := hide (HG3.out.trans hg4)
      have HM4 := hide (HM3.out.gr hg4)
      have HB4 := hide (HB3.out.gr hg4)
      clear hg4 HG3 HM3 HB3
      obtain ⟨mb, hmb⟩ : ∃ mb, mayL ls = mb := ⟨_, rfl⟩
      rw [hmb]
      go_wp2_with fail
      refine (May_ok _ ms _ HM4.out (by omega) HBN.out).mono ?_
      rintro e w5 ⟨rfl, hg5⟩
      rw [HMAY.out]
      have HG5 := hide (HG4.out.trans hg5)
      have HM5 := hide (HM4.out.gr hg5)
      have HB5 := hide (HB4.out.gr hg5)
      clear hg5 HG4 HM4 HB4
      go_upto_region 14 with (fail)
      obtain ⟨W6, hW6⟩ : ∃ W6, w5.alloc (.cells #[.slice uA ms.length uc, .slice lA ls.length lc] 23) = W6 := ⟨_, rfl⟩
      have hb6 : Bl W6 w5.heap.size 23 #[.slice uA ms.length uc, .slice lA ls.length lc] := by rw [← hW6]; exact Bl.new _ _ _
      have hg6 : Gr w5 W6 := by rw [← hW6]; exact (Gr.refl _).alloc _
      rw [hW6]
      have HB6 := hide hb6
      have HG6 := hide (HG5.out.trans hg6)
      have HM6 := hide (HM5.out.gr hg6)
      have HL6 := hide (HV.out.gr HG6.out)
      have HBX := hide (HB5.out.gr hg6)
      have HBB : Hid (∀ k, k < 2 → ∃ v, W6.cell? ⟨w5.heap.size, k, none⟩ = some v ∧ VersX W6 v (bb ms ls k) ∧ (bb ms ls k).length ≤ 15 ∧ VerBnd (bb ms ls k)) := fun k hk => by
        obtain rfl | rfl : k = 0 ∨ k = 1 := by omega
        · exact ⟨_, hb6.cell 0, HM6.out, hml, HBN.out⟩
        · exact ⟨_, hb6.cell 1, HL6.out, by show ls.length ≤ 15; omega, HB.out⟩
      clear hW6 hb6 hg6 HG5 HM5 HB5 HM6 HL6 HB6
      go_wp2_with fail
      go_loopw [12] (fun i wr => ∃ k : Nat, i = .int .i64 k ∧ k ≤ 2 ∧ Hid (Gr W6 wr)) (fun i _ => 2 - (intOf i).toNat)
      case atStart => exact ⟨0, rfl, by omega, Gr.refl _⟩
      case round =>
        obtain ⟨k, rfl, hk2, HR⟩ := hrel
        by_cases hlt : k < 2
        · have hlt' : (k : Int) < 2 := by omega
          obtain ⟨z, hz, hzx, hzl, hzb⟩ := HBB.out k hlt
          have c0 := gr_cell HR.out _ _ hz
          generalize bb ms ls k = xs at hzx hzl hzb
          have HX := hide (hzx.gr HR.out)
          have HXB := hide hzb
          obtain ⟨zA, zc, rfl, _⟩ := hzx.is
          clear hz hzx hzb
          have HRM := hide (RefMay_ok _ xs _ HX.out (by omega) HXB.out)
          cases hxm : mayL xs
          · rw [hxm] at HRM
            clear hxm
            go_wp2_with fail
            refine HRM.out.mono ?_
            rintro e w7 ⟨rfl, hg7⟩
            have HR7 := hide (HR.out.trans hg7)
            clear hg7 c0 HRM HR
            go_wp2_with fail
            go_roundw
            case rel => exact ⟨k + 1, by go_num, by omega, HR7⟩
            case measure => simp [intOf]; omega
          · rw [hxm] at HRM
            have HASK := hide (fun at_ => ask xs (.slice zA xs.length zc) at_ (by omega) hxm)
            go_wp2_with fail
            refine HRM.out.mono ?_
            rintro e w7 ⟨rfl, hg7⟩
            have HR7 := hide (HR.out.trans hg7)
            have HX7 := hide (HX.out.gr hg7)
            clear hg7 c0 HRM HR HX
            go_wp2_with fail
            go_loopw [14] (fun i wr => ∃ q : Int, i = .int .i64 q ∧ -1 ≤ q ∧ q ≤ 8 ∧ Hid (Gr w7 wr)) (fun i _ => (8 - intOf i).toNat)
            case atStart => exact ⟨-1, rfl, by omega, by omega, Gr.refl _⟩
            case round =>
              obtain ⟨q, rfl, hq1, hq8, HQ⟩ := hrel
              by_cases hq : q < 8
              · by_cases hq0 : 0 ≤ q
                · skip
                  have HK := hide (HASK.out (5 * q))
                  generalize hav : atV (5 * q) xs = a at HK
                  generalize hiv : isV (5 * q) xs = b at HK
                  obtain ⟨ap, aT, ab⟩ := a
                  have HA1 := hide (HK.out.at1)
                  have HA2 := hide (HK.out.at2)
                  clear hav hiv
                  go_wp2_with fail
                  refine (HA1.out _ (HX7.out.gr HQ.out)).mono ?_
                  rintro e w8 ⟨rfl, hg8⟩
                  go_upto_region 26 with (fail)
                  obtain ⟨W8, hW8⟩ : ∃ W8, w8.alloc (.cells #[.int .i64 ap, .string aT, .bool ab] 25) = W8 := ⟨_, rfl⟩
                  have hb8 : Bl W8 w8.heap.size 25 #[.int .i64 ap, .string aT, .bool ab] := by rw [← hW8]; exact Bl.new _ _ _
                  have hG8 : Gr wr W8 := by rw [← hW8]; exact hg8.alloc _
                  rw [hW8]
                  have HB8 := hide hb8
                  have HG8 := hide hG8
                  clear hW8 hb8 hG8 hg8
                  go_wp2_with fail
                  refine (HA2.out _ (HX7.out.gr (HQ.out.trans HG8.out))).mono ?_
                  rintro e w9 ⟨rfl, hg9⟩
                  go_upto_region 27 with (fail)
                  obtain ⟨W9, hW9⟩ : ∃ W9, w9.alloc (.cells #[.int .i64 ap, .string aT, .bool ab] 25) = W9 := ⟨_, rfl⟩
                  have hb9 : Bl W9 w9.heap.size 25 #[.int .i64 ap, .string aT, .bool ab] := by rw [← hW9]; exact Bl.new _ _ _
                  have hG9 : Gr W8 W9 := by rw [← hW9]; exact hg9.alloc _
                  rw [hW9]
                  have hb8 := HB8.out.gr hG9
                  have n0 : W9.cell? ⟨w8.heap.size, 0, none⟩ = some (.int .i64 ap) := hb8.cell 0
                  have n1 : W9.cell? ⟨w8.heap.size, 1, none⟩ = some (.string aT) := hb8.cell 1
                  have n2 : W9.cell? ⟨w8.heap.size, 2, none⟩ = some (.bool ab) := hb8.cell 2
                  have m0 : W9.cell? ⟨w9.heap.size, 0, none⟩ = some (.int .i64 ap) := hb9.cell 0
                  have m1 : W9.cell? ⟨w9.heap.size, 1, none⟩ = some (.string aT) := hb9.cell 1
                  have m2 : W9.cell? ⟨w9.heap.size, 2, none⟩ = some (.bool ab) := hb9.cell 2
                  have HQ9 := hide (HQ.out.trans (HG8.out.trans hG9))
                  clear hW9 hb8 hb9 hG9 hg9 HB8 HG8 HA1 HA2 HQ
                  go_wp2_with fail
                  refine (HK.out.tr1 _ (HX7.out.gr HQ9.out)).mono ?_
                  rintro e w10 ⟨t10, rfl, ho, hg10⟩
                  have HT10 := hide ho.x
                  have HQ10 := hide (HQ9.out.trans hg10)
                  obtain ⟨tA, tc, hu, _⟩ := ho.x.is
                  generalize (trimL (5 * q) xs).length = tl at hu
                  subst hu
                  clear ho hg10 n0 n1 n2 m0 m1 m2 HQ9
                  go_wp2_with fail
                  refine (HK.out.tr2 _ (HX7.out.gr HQ10.out)).mono ?_
                  rintro e w11 ⟨t11, rfl, ho, hg11⟩
                  have HT11 := hide ho.x
                  have HTX := hide (HT10.out.gr hg11)
                  have HQ11 := hide (HQ10.out.trans hg11)
                  obtain ⟨tB, td, hu, _⟩ := ho.x.is
                  generalize (trimL (5 * q) xs).length = tm at hu
                  subst hu
                  have hts := trim_short (5 * q) hzl
                  clear ho hg11 HQ10 HT10 HK
                  go_wp2_with fail
                  refine (same_ver _ _ _ _ HTX.out HT11.out (by omega)).mono ?_
                  rintro e w12 ⟨rfl, hg12⟩
                  have HQ12 := hide (HQ11.out.trans hg12)
                  clear hg12 HQ11 HTX HT11 hts
                  go_wp2_with fail
                  go_roundw
                  case rel => exact ⟨q + 1, by go_num, by omega, by omega, HQ12⟩
                  case measure => simp [intOf]; omega
                · obtain rfl : q = -1 := by omega
                  have HK := hide (HASK.out (pos))
                  generalize hav : atV (pos) xs = a at HK
                  generalize hiv : isV (pos) xs = b at HK
                  obtain ⟨ap, aT, ab⟩ := a
                  have HA1 := hide (HK.out.at1)
                  have HA2 := hide (HK.out.at2)
                  clear hav hiv
                  go_wp2_with fail
                  refine (HA1.out _ (HX7.out.gr HQ.out)).mono ?_
                  rintro e w8 ⟨rfl, hg8⟩
                  go_upto_region 26 with (fail)
                  obtain ⟨W8, hW8⟩ : ∃ W8, w8.alloc (.cells #[.int .i64 ap, .string aT, .bool ab] 25) = W8 := ⟨_, rfl⟩
                  have hb8 : Bl W8 w8.heap.size 25 #[.int .i64 ap, .string aT, .bool ab] := by rw [← hW8]; exact Bl.new _ _ _
                  have hG8 : Gr wr W8 := by rw [← hW8]; exact hg8.alloc _
                  rw [hW8]
                  have HB8 := hide hb8
                  have HG8 := hide hG8
                  clear hW8 hb8 hG8 hg8
                  go_wp2_with fail
                  refine (HA2.out _ (HX7.out.gr (HQ.out.trans HG8.out))).mono ?_
                  rintro e w9 ⟨rfl, hg9⟩
                  go_upto_region 27 with (fail)
                  obtain ⟨W9, hW9⟩ : ∃ W9, w9.alloc (.cells #[.int .i64 ap, .string aT, .bool ab] 25) = W9 := ⟨_, rfl⟩
                  have hb9 : Bl W9 w9.heap.size 25 #[.int .i64 ap, .string aT, .bool ab] := by rw [← hW9]; exact Bl.new _ _ _
                  have hG9 : Gr W8 W9 := by rw [← hW9]; exact hg9.alloc _
                  rw [hW9]
                  have hb8 := HB8.out.gr hG9
                  have n0 : W9.cell? ⟨w8.heap.size, 0, none⟩ = some (.int .i64 ap) := hb8.cell 0
                  have n1 : W9.cell? ⟨w8.heap.size, 1, none⟩ = some (.string aT) := hb8.cell 1
                  have n2 : W9.cell? ⟨w8.heap.size, 2, none⟩ = some (.bool ab) := hb8.cell 2
                  have m0 : W9.cell? ⟨w9.heap.size, 0, none⟩ = some (.int .i64 ap) := hb9.cell 0
                  have m1 : W9.cell? ⟨w9.heap.size, 1, none⟩ = some (.string aT) := hb9.cell 1
                  have m2 : W9.cell? ⟨w9.heap.size, 2, none⟩ = some (.bool ab) := hb9.cell 2
                  have HQ9 := hide (HQ.out.trans (HG8.out.trans hG9))
                  clear hW9 hb8 hb9 hG9 hg9 HB8 HG8 HA1 HA2 HQ
                  go_wp2_with fail
                  refine (HK.out.tr1 _ (HX7.out.gr HQ9.out)).mono ?_
                  rintro e w10 ⟨t10, rfl, ho, hg10⟩
                  have HT10 := hide ho.x
                  have HQ10 := hide (HQ9.out.trans hg10)
                  obtain ⟨tA, tc, hu, _⟩ := ho.x.is
                  generalize (trimL (pos) xs).length = tl at hu
                  subst hu
                  clear ho hg10 n0 n1 n2 m0 m1 m2 HQ9
                  go_wp2_with fail
                  refine (HK.out.tr2 _ (HX7.out.gr HQ10.out)).mono ?_
                  rintro e w11 ⟨t11, rfl, ho, hg11⟩
                  have HT11 := hide ho.x
                  have HTX := hide (HT10.out.gr hg11)
                  have HQ11 := hide (HQ10.out.trans hg11)
                  obtain ⟨tB, td, hu, _⟩ := ho.x.is
                  generalize (trimL (pos) xs).length = tm at hu
                  subst hu
                  have hts := trim_short (pos) hzl
                  clear ho hg11 HQ10 HT10 HK
                  go_wp2_with fail
                  refine (same_ver _ _ _ _ HTX.out HT11.out (by omega)).mono ?_
                  rintro e w12 ⟨rfl, hg12⟩
                  have HQ12 := hide (HQ11.out.trans hg12)
                  clear hg12 HQ11 HTX HT11 hts
                  go_wp2_with fail
                  go_roundw
                  case rel => exact ⟨-1 + 1, by go_num, by omega, by omega, HQ12⟩
                  case measure => simp [intOf]
              · obtain rfl : q = 8 := by omega
                have HX8 := hide (HX7.out.gr HQ.out)
                have HR8 := hide (HR7.out.trans HQ.out)
                have HB8 := hide (HBX.out.gr HR8.out)
                clear HQ HX7 HR7 HASK
                go_wp2_with fail
                obtain ⟨z, hz⟩ : ∃ z, lastP xs = z := ⟨_, rfl⟩
                have hal := add_len xs ⟨xp, xt, xb⟩
                have HAL := hide hal
                have HL1 := hide (fun W (h : VersX W (.slice zA xs.length zc) xs) => Last_ok _ xs W h (by omega))
                have HL2 := hide (fun W (h : VersX W (.slice zA xs.length zc) xs) => RefLast_ok _ xs W h (by omega))
                have HA1 := hide (fun W (h : VersX W (.slice zA xs.length zc) xs) => Add_ok _ xs ⟨xp, xt, xb⟩ W h (by omega))
                have HA2 := hide (fun W (h : VersX W (.slice zA xs.length zc) xs) => RefAdd_ok _ xs ⟨xp, xt, xb⟩ W h (by omega))
                rw [hz] at HL1 HL2
                refine Grow.wp_region_kept 129 [114, 115, 116, 117, 118, 119, 120, 121, 122, 123, 124, 125, 126, 127, 128] rfl (by kernel_rfl) (by kernel_rfl) (by kernel_rfl)
                  (Grow.Ahead.more (Grow.Ahead.more (Grow.Ahead.none_ _ _) 13 (Grow.Vx.stays (.slice zA xs.length zc) xs) ⟨rfl, HX8.out.gr ((Gr.refl _).drewN 1)⟩) 6 (Grow.Bx.stays w.heap.size 25 #[.int .i64 xp, .string xt, .bool xb]) ⟨rfl, HB8.out.drewN 1⟩) ?_
                refine Grow.grow_move (.tmp 13) (.inl rfl) (.inl ⟨rfl, rfl⟩) rfl (Grow.Vx.stays _ _) ?_
                refine Grow.grow_call1 (Φ := Grow.Is (.int .i64 z)) rfl (.inl ⟨rfl, rfl⟩) Try.func16 (by kernel_rfl) (by kernel_rfl) (Ψ := Grow.Vx (.slice zA xs.length zc) xs) rfl (Grow.Is.stays _) (fun v W _ hv => by
                  obtain ⟨rfl, hv⟩ := hv
                  refine (HL1.out W hv).mono ?_
                  rintro e w' ⟨he, rfl⟩
                  exact ⟨_, he, Gr.refl _, rfl⟩) ?_
                refine Grow.grow_move (.tmp 13) (.inl rfl) (.inl ⟨rfl, rfl⟩) rfl (Grow.Vx.stays _ _) ?_
                refine Grow.grow_call1 (Φ := Grow.Is (.int .i64 z)) rfl (.inl ⟨rfl, rfl⟩) Try.func17 (by kernel_rfl) (by kernel_rfl) (Ψ := Grow.Vx (.slice zA xs.length zc) xs) rfl (Grow.Is.stays _) (fun v W _ hv => by
                  obtain ⟨rfl, hv⟩ := hv
                  refine (HL2.out W hv).mono ?_
                  rintro e w' ⟨he, rfl⟩
                  exact ⟨_, he, Gr.refl _, rfl⟩) ?_
                refine Grow.grow_int_alike rfl rfl (.inl ⟨rfl, rfl⟩) rfl rfl ?_
                refine Grow.grow_mv (.inl rfl) (.inl ⟨rfl, rfl⟩) rfl ?_
                refine Grow.grow_move (.tmp 13) (.inl rfl) (.inr ⟨5, false, 119, rfl, rfl, rfl, by decide⟩) rfl (Grow.Vx.stays _ _) ?_
                refine Grow.grow_row rfl (.inr ⟨5, false, 119, rfl, rfl, rfl, by decide⟩) rfl Try.underlying25 rfl (by kernel_rfl) ?_
                refine Grow.grow_call2 (Φ := fun v w => VersX w v (addL xs ⟨xp, xt, xb⟩)) rfl (.inr ⟨5, false, 119, rfl, rfl, rfl, by decide⟩) Try.func18 (by kernel_rfl) (by kernel_rfl) (Ψ := Grow.Vx (.slice zA xs.length zc) xs) (Ψ' := Grow.Is (.agg #[.int .i64 xp, .string xt, .bool xb])) rfl rfl (Grow_Vk_stays _) (fun v u W _ hv hu => by
                  obtain ⟨rfl, hv⟩ := hv
                  subst hu
                  refine (HA1.out W hv).mono ?_
                  rintro e w' ⟨r, he, ho, hg⟩
                  exact ⟨r, he, hg, ho.x⟩) ?_
                refine Grow.grow_move (.tmp 13) (.inl rfl) (.inr ⟨5, false, 119, rfl, rfl, rfl, by decide⟩) rfl (Grow.Vx.stays _ _) ?_
                refine Grow.grow_row rfl (.inr ⟨5, false, 119, rfl, rfl, rfl, by decide⟩) rfl Try.underlying25 rfl (by kernel_rfl) ?_
                refine Grow.grow_call2 (Φ := fun v w => VersX w v (addL xs ⟨xp, xt, xb⟩)) rfl (.inr ⟨5, false, 119, rfl, rfl, rfl, by decide⟩) Try.func19 (by kernel_rfl) (by kernel_rfl) (Ψ := Grow.Vx (.slice zA xs.length zc) xs) (Ψ' := Grow.Is (.agg #[.int .i64 xp, .string xt, .bool xb])) rfl rfl (Grow_Vk_stays _) (fun v u W _ hv hu => by
                  obtain ⟨rfl, hv⟩ := hv
                  subst hu
                  refine (HA2.out W hv).mono ?_
                  rintro e w' ⟨r, he, ho, hg⟩
                  exact ⟨r, he, hg, ho.x⟩) ?_
                refine Grow.grow_call2 (Φ := Grow.Is (.bool true)) rfl (.inr ⟨5, false, 119, rfl, rfl, rfl, by decide⟩) Try.func13 (by kernel_rfl) (by kernel_rfl) (Ψ := fun v w => VersX w v (addL xs ⟨xp, xt, xb⟩)) (Ψ' := fun v w => VersX w v (addL xs ⟨xp, xt, xb⟩)) rfl rfl (Grow.Is.stays _) (fun v u W _ hv hu => by
                  refine (same_ver v u _ W hv hu (by have := HAL.out; omega)).mono ?_
                  rintro e w' ⟨he, hg⟩
                  exact ⟨_, he, hg, rfl⟩) ?_
                refine Grow.grow_not rfl (.inr ⟨5, false, 119, rfl, rfl, rfl, by decide⟩) rfl ?_
                refine Grow.grow_pick_no rfl (.inl ⟨rfl, rfl⟩) rfl rfl (Grow.Is.stays _) ?_
                intro a1 w8 hg8 hs1 hd1 hu1 hk1
                have h128 : a1.tmps.getD 128 undef = .bool false := hk1 128
                obtain ⟨X, hX, hlay⟩ := Grow.lay_kept_by _ a1 129 _ hs1 hd1 hu1
                rw [hX] at h128
                clear hX hu1 hd1 hs1 hk1 HL1 HL2 HA1 HA2 HAL hal
                subst hlay
                simp only [List.range, List.range.loop, List.map_cons, List.map_nil, List.contains_cons, List.contains_nil, Nat.reduceBEq, Bool.or_false, Bool.or_true, cond_false, cond_true, Array.getD_eq_getD_getElem?, List.getElem?_toArray, List.getElem?_cons_zero, List.getElem?_cons_succ, Option.getD_some, h128]
                clear h128
                have HR9 := hide (HR8.out.trans ((Gr.refl _).drew.trans hg8))
                clear hg8 HR8 HX8 HB8
                go_wp2_with fail
                go_roundw
                case rel => exact ⟨k + 1, by go_num, by omega, HR9⟩
                case measure => simp [intOf]; omega
        · obtain rfl : k = 2 := by omega
          go_wp2_with fail
          go_ret
          exact ⟨rfl, HG6.out.trans HR.out⟩

end Go.Proofs.Ytcghbmpajolgpaa
