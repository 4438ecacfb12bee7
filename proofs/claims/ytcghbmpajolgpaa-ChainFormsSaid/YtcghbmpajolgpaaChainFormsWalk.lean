/-
  The walk of 'ChainForms'.
-/
import Derived.Test.YtcghbmpajolgpaaChFacts
import Derived.Deep.Slices
namespace Go.Proofs.Ytcghbmpajolgpaa
open Go Go.RowKit ChMath KeyMath
set_option maxRecDepth 100000

/-- versions that are written down -/
theorem vers_lit {w W : World} {l : List VerT} {cs : Array Value} (hcs : cs = (l.map verC).flatten.toArray) (hW : w.alloc (.cells cs 25) = W) : VersX W (.slice (some ⟨w.heap.size, 0, none⟩) l.length l.length) l := by
  subst hW hcs
  refine ⟨_, l.length, by rw [List.length_map], by rw [List.length_map]; exact Nat.le_refl _, fun j i r u hj hi => ⟨_, rfl, ?_⟩⟩
  have h := flatten_at (k := 3) (verC_three l) hj hi
  rw [show (⟨w.heap.size, 0, none⟩ : Addr).add (j * 3 + i) = ⟨w.heap.size, j * 3 + i, none⟩ from by unfold Addr.add; split <;> simp_all]
  rw [(Bl.new w _ _).cell]
  simpa using h
def f2 : VerT := ⟨2, ⟨#[97]⟩, false⟩
def f4 : VerT := ⟨4, ⟨#[]⟩, true⟩
def f7 : VerT := ⟨7, ⟨#[98]⟩, false⟩
def fL : List VerT := [f2, f4, f7]
def fM : List Int := [0, 2, 3, 4, 6, 7, 99, -5]
def fN : List Int := [3, 3, 3, 2, 2, 1, 1, 3]
theorem fTrim : ∀ k, (h : k < 8) → ((trimL (fM.getD k 0) fL).length : Int) = fN.getD k 0 ∧ 0 < (trimL (fM.getD k 0) fL).length ∧ (trimL (fM.getD k 0) fL).getD ((trimL (fM.getD k 0) fL).length - 1) noVer = f7 ∧ (trimL (fM.getD k 0) fL).length ≤ 3 := by decide
def fB (k : Nat) : List VerT := match k with
  | 0 => [⟨0, ⟨#[]⟩, false⟩]
  | 1 => [⟨2, ⟨#[]⟩, false⟩, ⟨2, ⟨#[]⟩, false⟩]
  | 2 => [⟨1, ⟨#[120]⟩, true⟩]
  | _ => [⟨1, ⟨#[115, 101, 118, 101, 110, 116, 101, 101, 110, 45, 98, 121, 116, 101, 115, 45, 120]⟩, false⟩]
theorem noText_x : noText ⟨#[120]⟩ = false := by unfold noText; rw [ByteArray.toList_eq]; rfl
theorem fBad : ∀ k, k < 4 → mayL (fB k) = false := by
  intro k hk
  obtain rfl | rfl | rfl | rfl : k = 0 ∨ k = 1 ∨ k = 2 ∨ k = 3 := by omega
  · rfl
  · simp [mayL, fB, mayFrom]
  · simp [mayL, fB, mayFrom, valuedV, noText_x]
  · simp [mayL, fB, mayFrom, valuedV]; decide
theorem fB_len : ∀ k, (fB k).length ≤ 2 := by
  intro k
  unfold fB
  split <;> decide
theorem fB_bnd : ∀ k, VerBnd (fB k) := by
  intro k v hv
  unfold fB at hv
  split at hv <;> simp only [List.mem_cons, List.not_mem_nil, or_false, or_self] at hv
  all_goals
    subst hv
    decide
theorem mayNil : mayL [] = true := rfl

def fC (k : Nat) : Array Value := ((fB k).map verC).flatten.toArray
def fS (b k : Nat) : Value := .slice (some ⟨b + k, 0, none⟩) (fB k).length (fB k).length
/-- the rows that may not be -/
theorem fBads (w : World) : ∃ W, ((((w.alloc (.cells (fC 0) 25)).alloc (.cells (fC 1) 25)).alloc (.cells (fC 2) 25)).alloc (.cells (fC 3) 25)).alloc (.cells #[fS w.heap.size 0, fS w.heap.size 1, fS w.heap.size 2, fS w.heap.size 3] 23) = W ∧ Gr w W ∧
    ∀ k, k < 4 → ∃ v, W.cell? ⟨w.heap.size + 4, k, none⟩ = some v ∧ VersX W v (fB k) := by
  refine ⟨_, rfl, ((((Gr.refl w).alloc _).alloc _).alloc _).alloc _ |>.alloc _, fun k hk => ⟨fS w.heap.size k, ?_, ?_⟩⟩
  · have := (Bl.new ((((w.alloc (.cells (fC 0) 25)).alloc (.cells (fC 1) 25)).alloc (.cells (fC 2) 25)).alloc (.cells (fC 3) 25)) 23 #[fS w.heap.size 0, fS w.heap.size 1, fS w.heap.size 2, fS w.heap.size 3]).cell k
    simp only [World.alloc, Array.size_push] at this ⊢
    rw [this]
    obtain rfl | rfl | rfl | rfl : k = 0 ∨ k = 1 ∨ k = 2 ∨ k = 3 := by omega
    all_goals rfl
  · obtain rfl | rfl | rfl | rfl : k = 0 ∨ k = 1 ∨ k = 2 ∨ k = 3 := by omega
    · exact (vers_lit (w := w) (l := fB 0) rfl rfl).gr ((((Gr.refl _).alloc _).alloc _).alloc _ |>.alloc _)
    · have := vers_lit (w := w.alloc (.cells (fC 0) 25)) (l := fB 1) rfl rfl
      rw [show (w.alloc (.cells (fC 0) 25)).heap.size = w.heap.size + 1 by simp] at this
      exact this.gr ((((Gr.refl _).alloc _).alloc _).alloc _)
    · have := vers_lit (w := (w.alloc (.cells (fC 0) 25)).alloc (.cells (fC 1) 25)) (l := fB 2) rfl rfl
      rw [show ((w.alloc (.cells (fC 0) 25)).alloc (.cells (fC 1) 25)).heap.size = w.heap.size + 2 by simp] at this
      exact this.gr (((Gr.refl _).alloc _).alloc _)
    · have := vers_lit (w := ((w.alloc (.cells (fC 0) 25)).alloc (.cells (fC 1) 25)).alloc (.cells (fC 2) 25)) (l := fB 3) rfl rfl
      rw [show (((w.alloc (.cells (fC 0) 25)).alloc (.cells (fC 1) 25)).alloc (.cells (fC 2) 25)).heap.size = w.heap.size + 3 by simp] at this
      exact this.gr ((Gr.refl _).alloc _)

set_option maxHeartbeats 8000000 in
theorem walk_ChainForms (w : World) :
    Calls Try.prog 5 #[] w fun e w' => e = .returned (.bool true) ∧ Gr w w' := by
  have HP6 := hide (fun W u (h : VersX W u fL) => At_ok u fL 6 W h (by decide))
  have HP1 := hide (fun W u (h : VersX W u fL) => At_ok u fL 1 W h (by decide))
  unfold AtPost at HP6 HP1
  rw [show atV 6 fL = f4 by decide, show isV 6 fL = true by decide] at HP6
  rw [show atV 1 fL = noVer by decide, show isV 1 fL = false by decide] at HP1
  simp only [verA, f4] at HP6
  simp only [verA, noVer, nothing] at HP1
  have HA7 := hide (fun W u (h : VersX W u fL) => Add_ok u fL ⟨7, ⟨#[]⟩, false⟩ W h (by decide))
  have HA8 := hide (fun W u (h : VersX W u fL) => Add_ok u fL ⟨8, ⟨#[]⟩, false⟩ W h (by decide))
  have HMN := hide (fun W => May_ok (.slice none 0 0) [] W (VersX.nil W none 0) (by decide) (fun v h => by simp at h))
  have HLN := hide (fun W => Last_ok (.slice none 0 0) [] W (VersX.nil W none 0) (by decide))
  rw [mayNil] at HMN
  rw [show lastP [] = 0 from rfl] at HLN
  go_enter Try.func5, Try.ntmps5
  go_wp2_with fail
  refine (begun_ok _).mono ?_
  rintro e w1 ⟨rfl, hg1⟩
  go_upto_region 4 with (fail)
  obtain ⟨W3, hW3⟩ : ∃ W3, w1.alloc (.cells #[.int .i64 2, .string ⟨#[97]⟩, .bool false, .int .i64 4, .string ⟨#[]⟩, .bool true, .int .i64 7, .string ⟨#[98]⟩, .bool false] 25) = W3 := ⟨_, rfl⟩
  have hl3 : VersX W3 (.slice (some ⟨w1.heap.size, 0, none⟩) 3 3) fL := vers_lit (l := fL) rfl hW3
  have hg3 : Gr w W3 := by rw [← hW3]; exact hg1.alloc _
  rw [hW3]
  clear hW3 hg1
  go_upto_region 5 with (fail)
  obtain ⟨W4, hW4⟩ : ∃ W4, (W3.alloc (.cells #[.int .i64 0, .int .i64 2, .int .i64 3, .int .i64 4, .int .i64 6, .int .i64 7, .int .i64 99, .int .i64 (-5)] 3)).alloc (.cells #[.int .i64 3, .int .i64 3, .int .i64 3, .int .i64 2, .int .i64 2, .int .i64 1, .int .i64 1, .int .i64 3] 3) = W4 := ⟨_, rfl⟩
  have hbM : ∀ k, k < 8 → W4.cell? ⟨W3.heap.size, k, none⟩ = some (.int .i64 (fM.getD k 0)) := fun k hk => by
    rw [← hW4]
    refine gr_cell ((Gr.refl _).alloc _) _ _ ?_
    rw [(Bl.new W3 _ _).cell]
    obtain rfl | rfl | rfl | rfl | rfl | rfl | rfl | rfl : k = 0 ∨ k = 1 ∨ k = 2 ∨ k = 3 ∨ k = 4 ∨ k = 5 ∨ k = 6 ∨ k = 7 := by omega
    all_goals rfl
  have hbN : ∀ k, k < 8 → W4.cell? ⟨W3.heap.size + 1, k, none⟩ = some (.int .i64 (fN.getD k 0)) := fun k hk => by
    rw [← hW4]
    have := (Bl.new (W3.alloc (.cells #[.int .i64 0, .int .i64 2, .int .i64 3, .int .i64 4, .int .i64 6, .int .i64 7, .int .i64 99, .int .i64 (-5)] 3)) 3 #[.int .i64 3, .int .i64 3, .int .i64 3, .int .i64 2, .int .i64 2, .int .i64 1, .int .i64 1, .int .i64 3]).cell k
    rw [show (W3.alloc (.cells #[.int .i64 0, .int .i64 2, .int .i64 3, .int .i64 4, .int .i64 6, .int .i64 7, .int .i64 99, .int .i64 (-5)] 3)).heap.size = W3.heap.size + 1 by simp] at this
    rw [this]
    obtain rfl | rfl | rfl | rfl | rfl | rfl | rfl | rfl : k = 0 ∨ k = 1 ∨ k = 2 ∨ k = 3 ∨ k = 4 ∨ k = 5 ∨ k = 6 ∨ k = 7 := by omega
    all_goals rfl
  have hg4 : Gr W3 W4 := by rw [← hW4]; exact ((Gr.refl _).alloc _).alloc _
  rw [hW4]
  have HBM := hide hbM
  have HBN := hide hbN
  have HL := hide (hl3.gr hg4)
  have HG := hide (hg3.trans hg4)
  clear hW4 hbM hbN hg3 hg4 hl3
  go_wp2_with fail
  go_loopw [4] (fun i wr => ∃ k : Nat, i = .int .i64 k ∧ k ≤ 8 ∧ Hid (Gr W4 wr)) (fun i _ => 8 - (intOf i).toNat)
  case atStart => exact ⟨0, rfl, by omega, Gr.refl _⟩
  case round =>
    obtain ⟨k, rfl, hk, HR⟩ := hrel
    by_cases hlt : k < 8
    · have hlt' : (k : Int) < 8 := by omega
      have c0 := gr_cell HR.out _ _ (HBM.out k hlt)
      obtain ⟨t1, t2, t3, t4⟩ := fTrim k hlt
      have HT := hide (Trim_ok _ fL (fM.getD k 0) wr (HL.out.gr HR.out) (by decide))
      have HBK := hide (HBN.out k hlt)
      rw [← t1] at HBK
      clear t1
      generalize fM.getD k 0 = mk at c0 t2 t3 t4 HT HBK
      generalize trimL mk fL = ts at t2 t3 t4 HT HBK
      go_wp2_with fail
      refine HT.out.mono ?_
      rintro e w6 ⟨t, rfl, ho, hg6⟩
      have HR6 := hide (HR.out.trans hg6)
      obtain ⟨m, hm⟩ : ∃ m, ts.length = m + 1 := ⟨ts.length - 1, by omega⟩
      have hmk : m < ts.length := by omega
      have t3' : ts[m] = f7 := by
        rw [← t3, hm]
        simp [hmk]
      obtain ⟨ad, tc, hu, q0, q1, q2⟩ := ho.x.at_ hmk
      rw [t3'] at q0 q1 q2
      simp only [f7] at q0 q1 q2
      rw [hm] at hu
      subst hu
      obtain ⟨ld, lc, hlu, p0, p1, p2⟩ := (HL.out.gr HR6.out).at_ (k := 2) (by decide)
      simp only [Value.slice.injEq, Option.some.injEq] at hlu
      obtain ⟨rfl, hl33, rfl⟩ := hlu
      clear hl33
      simp only [Addr.add] at p0 p1 p2
      replace p0 : w6.cell? ⟨w1.heap.size, 6, none⟩ = some (.int .i64 7) := p0
      replace p1 : w6.cell? ⟨w1.heap.size, 7, none⟩ = some (.string ⟨#[98]⟩) := p1
      replace p2 : w6.cell? ⟨w1.heap.size, 8, none⟩ = some (.bool false) := p2
      have n0 := gr_cell HR6.out _ _ HBK.out
      rw [hm] at n0
      push_cast at n0
      have hw : (m : Int) + 1 - 1 = (m : Int) := by omega
      have hm3 : m + 1 ≤ 3 := by omega
      have hmI : (m : Int) < (m : Int) + 1 := by omega
      clear HT HBK ho hg6 c0 t2 t3 t3' t4 hmk HR
      go_wp2_with fail
      go_quiet (fail)
      go_wp2_with fail
      go_roundw
      case rel => exact ⟨k + 1, by go_num, by omega, HR6.out.drewN _⟩
      case measure => simp [intOf]; omega
    · obtain rfl : k = 8 := by omega
      have HL1 := hide (HL.out.gr HR.out)
      have HG1 := hide (HG.out.trans HR.out)
      clear HL HG HR HBM HBN
      go_wp2_with fail
      refine (HP6.out _ _ HL1.out).mono ?_
      rintro e w5 ⟨rfl, hg5⟩
      go_upto_region 12 with (fail)
      obtain ⟨W5, hW5⟩ : ∃ W5, w5.alloc (.cells #[.int .i64 4, .string ⟨#[]⟩, .bool true] 25) = W5 := ⟨_, rfl⟩
      have hb5 : Bl W5 w5.heap.size 25 #[.int .i64 4, .string ⟨#[]⟩, .bool true] := by rw [← hW5]; exact Bl.new _ _ _
      have hG5 : Gr wr W5 := by rw [← hW5]; exact hg5.alloc _
      rw [hW5]
      have HB5 := hide hb5
      have HG5 := hide hG5
      clear hW5 hb5 hG5 hg5
      go_wp2_with fail
      refine (HP1.out _ _ (HL1.out.gr HG5.out)).mono ?_
      rintro e w6 ⟨rfl, hg6⟩
      go_upto_region 13 with (fail)
      obtain ⟨W6, hW6⟩ : ∃ W6, w6.alloc (.cells #[.int .i64 0, .string ⟨#[]⟩, .bool false] 25) = W6 := ⟨_, rfl⟩
      have hG6 : Gr W5 W6 := by rw [← hW6]; exact hg6.alloc _
      rw [hW6]
      have HG6 := hide hG6
      clear hW6 hG6 hg6
      go_upto_region 14 with (fail)
      obtain ⟨W7, hW7, hG7, hB7⟩ := fBads W6
      simp only [fC, fS, fB, verC, List.map_cons, List.map_nil, List.flatten_cons, List.flatten_nil, List.append_nil, List.cons_append, List.nil_append, List.length_cons, List.length_nil, Nat.add_zero, Nat.zero_add, Nat.reduceAdd] at hW7
      rw [hW7]
      have HB7 := hide hB7
      have HG7 := hide (HG6.out.trans hG7)
      clear hW7 hB7 hG7 HG6
      go_wp2_with fail
      go_loopw [11] (fun i wr => ∃ k : Nat, i = .int .i64 k ∧ k ≤ 4 ∧ Hid (Gr W7 wr)) (fun i _ => 4 - (intOf i).toNat)
      case atStart => exact ⟨0, rfl, by omega, Gr.refl _⟩
      case round =>
        obtain ⟨k, rfl, hk4, HR⟩ := hrel
        by_cases hlt : k < 4
        · have hlt' : (k : Int) < 4 := by omega
          obtain ⟨v, hv, hx⟩ := HB7.out k hlt
          have c0 := gr_cell HR.out _ _ hv
          have HM := hide (May_ok v (fB k) wr (hx.gr HR.out) (by have := fB_len k; omega) (fB_bnd k))
          rw [fBad k hlt] at HM
          obtain ⟨vA, vc, hvs, _⟩ := hx.is
          generalize (fB k).length = q at hvs
          subst hvs
          clear hx hv
          go_wp2_with fail
          refine HM.out.mono ?_
          rintro e w8 ⟨rfl, hg8⟩
          have HR8 := hide (HR.out.trans hg8)
          clear hg8 c0 HM HR
          go_wp2_with fail
          go_roundw
          case rel => exact ⟨k + 1, by go_num, by omega, HR8⟩
          case measure => simp [intOf]; omega
        · obtain rfl : k = 4 := by omega
          have hbx := HB5.out.gr (HG7.out.trans HR.out)
          have k2 : wr.cell? ⟨w5.heap.size, 2, none⟩ = some (.bool true) := hbx.cell 2
          have HL9 := hide (HL1.out.gr (HG5.out.trans (HG7.out.trans HR.out)))
          have HG9 := hide (HG1.out.trans (HG5.out.trans (HG7.out.trans HR.out)))
          clear hbx HB5 HG7 HR HL1 HG5 HG1 HB7
          go_wp2_with fail
          refine (HMN.out _).mono ?_
          rintro e w8 ⟨rfl, hg8⟩
          have HL10 := hide (HL9.out.gr hg8)
          have HG10 := hide (HG9.out.trans hg8)
          clear hg8 HL9 HG9 k2
          go_wp2_with fail
          refine (HLN.out _).mono ?_
          rintro e w9 ⟨rfl, rfl⟩
          go_wp2_with fail
          refine (HA7.out _ _ HL10.out).mono ?_
          rintro e w10 ⟨t10, rfl, ho, hg10⟩
          rw [show addL fL ⟨7, ⟨#[]⟩, false⟩ = fL by decide] at ho
          have HL11 := hide (HL10.out.gr hg10)
          have HG11 := hide (HG10.out.trans hg10)
          obtain ⟨A10, c10, hu, _⟩ := ho.x.is
          rw [show fL.length = 3 from rfl] at hu
          subst hu
          clear ho hg10
          go_wp2_with fail
          refine (HA8.out _ _ HL11.out).mono ?_
          rintro e w11 ⟨t11, rfl, ho, hg11⟩
          have HG12 := hide (HG11.out.trans hg11)
          obtain ⟨A11, c11, hu, _⟩ := ho.x.is
          rw [show (addL fL ⟨8, ⟨#[]⟩, false⟩).length = 4 by decide] at hu
          subst hu
          clear ho hg11
          go_wp2_with fail
          go_ret
          exact ⟨rfl, HG12.out⟩

end Go.Proofs.Ytcghbmpajolgpaa
