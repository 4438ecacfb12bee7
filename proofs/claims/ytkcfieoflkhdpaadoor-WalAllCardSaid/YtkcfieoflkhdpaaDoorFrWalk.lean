/-
  frame's reader by its contracts: the walk of 'frame'.
-/
import Derived.Test.YtkcfieoflkhdpaaDoorFrBase
namespace Go.Proofs.YtkcfieoflkhdpaaDoor
open Go.RowKit CrcMath FrameMath
set_option maxRecDepth 100000

/-- a reader in memory -/
def FRdr (w : World) (g : Nat) (A : Option Addr) (n c : Nat) (p : Nat) : Prop := Bl w g 91 #[.slice A n c, .int .i64 p]

/-- what 'frame' comes to, at place p of the bytes l -/
def StepPost (g : Nat) (A : Option Addr) (c : Nat) (l : List UInt8) (p : Nat) (w : World) (e : Ending) (w' : World) : Prop :=
  ∃ (A' : Option Addr) (c' : Nat), e = .returned (.tuple #[.slice A' (takeL (l.drop p)).length c', .bool (takeB (l.drop p))]) ∧ By w' A' c' (takeL (l.drop p)) ∧ New w A' (takeL (l.drop p)) ∧
    FRdr w' g A l.length c (p + (takeK (l.drop p)).toNat) ∧ But w w' g
theorem StepPost.no {g : Nat} {A : Option Addr} {c : Nat} {l : List UInt8} {p : Nat} {w w' : World} (h : Hid (¬ Is (l.drop p))) (hr : FRdr w' g A l.length c p) (hb : But w w' g) :
    StepPost g A c l p w (.returned (.tuple #[.slice none 0 0, .bool false])) w' := by
  obtain ⟨p1, p2, p3⟩ := take_no h.out
  refine ⟨none, 0, by rw [p1, p3]; rfl, by rw [p1]; exact ⟨Rd.nil _ _, Nat.le_refl _, by simp [maxLen], fun _ => rfl⟩, (fun _ _ h => nomatch h), ?_, hb⟩
  rw [p2]
  exact hr
theorem StepPost.yes {g : Nat} {A A' : Option Addr} {c c' N : Nat} {l : List UInt8} {p : Nat} {w w' : World} (h : Hid (Is (l.drop p))) (hN : flen (l.drop p) = N) (hT : (ftext (l.drop p)).length = N)
    (hb' : By w' A' c' (ftext (l.drop p))) (hn : New w A' (ftext (l.drop p))) (hr : FRdr w' g A l.length c (p + (N + 6))) (hb : But w w' g) :
    StepPost g A c l p w (.returned (.tuple #[.slice A' N c', .bool true])) w' := by
  obtain ⟨p1, p2, p3⟩ := take_yes h.out
  refine ⟨A', c', by rw [p1, p3, hT], by rw [p1]; exact hb', by rw [p1]; exact hn, ?_, hb⟩
  rw [p2, hN]
  exact hr

theorem New.cut {w : World} {A : Option Addr} {l m : List UInt8} (h : New w A l) (i c : Nat) (hm : 0 < l.length) : New w (if c = i then A else A.map (·.add i)) m := fun _ ad hA => by
  split at hA
  · exact h hm ad hA
  · rw [Option.map_eq_some_iff] at hA
    obtain ⟨a, h1, rfl⟩ := hA
    rw [add_block]
    exact h hm a h1
theorem FRdr.gr {w w' : World} {g : Nat} {A : Option Addr} {n c p : Nat} (h : FRdr w g A n c p) (hg : Gr w w') : FRdr w' g A n c p := Bl.gr h hg

set_option maxHeartbeats 400000 in
theorem frame_any (g : Nat) (A : Option Addr) (c : Nat) (l : List UInt8) (p : Nat) (w : World) (hr : FRdr w g A l.length c p) (hl : By w A c l) (ho : Off g A l) (hp : p ≤ l.length) (hmax : (l.length : Int) ≤ 140737488351232) :
    Calls Tryd.prog 48 #[.pointer (some ⟨g, 0, none⟩)] w (StepPost g A c l p w) := by
  have c0 : w.cell? ⟨g, 0, none⟩ = some (.slice A l.length c) := hr.cell 0
  have c1 : w.cell? ⟨g, 1, none⟩ = some (.int .i64 (p : Nat)) := hr.cell 1
  have hlc := hl.le
  have hcI : (l.length : Int) ≤ (c : Int) := by omega
  have hpI : (p : Int) ≤ (l.length : Int) := by omega
  have HR := hide hr
  have HL := hide hl
  have HO := hide ho
  have hcut := hl.cut p l.length hp (Nat.le_refl _)
  rw [List.take_of_length_le (by rw [List.length_drop]; exact Nat.le_refl _)] at hcut
  have HC := hide hcut
  have hdl : (l.drop p).length = l.length - p := List.length_drop
  clear hr hl ho hcut hlc
  go_enter Tryd.func48, Tryd.ntmps48
  go_wp2_with fail
  refine wp_region_quiet_lit (by kernel_rfl) (by kernel_rfl) ?_
  repeat (go_big_quiet_step (fail))
  refine wpQuiet_nil ?_
  rintro _ ⟨nq1, rfl⟩
  generalize (if c = p then A else Option.map (fun x => x.add p) A) = A2 at HC ⊢
  obtain ⟨b, hb⟩ : ∃ b, l.drop p = b := ⟨_, rfl⟩
  obtain ⟨C, hC⟩ : ∃ C, c - p = C := ⟨_, rfl⟩
  have HB := hide hb
  rw [hb] at HC hdl
  rw [hC] at HC ⊢
  obtain ⟨R, hRb⟩ : ∃ R, b.length = R := ⟨_, rfl⟩
  rw [hRb] at hdl
  rw [← hdl]
  have hmaxb : (R : Int) ≤ 140737488351232 := by omega
  have HD := hide hRb
  clear hb hC hdl hRb
  by_cases h6 : (R : Int) < 6
  · have hno := hide (p := ¬ Is (l.drop p)) (fun h => by have := h.1; rw [HB.out, HD.out] at this; omega)
    have d1 : decide ((R : Int) < 6) = true := by rw [decide_eq_true_eq]; exact h6
    go_wp2_with fail
    go_ret2
    exact StepPost.no hno HR.out ((But.refl _ _).drewN _)
  · have h6' : (6 : Int) ≤ (R : Int) := by omega
    have d1 : decide ((R : Int) < 6) = false := by rw [decide_eq_false_iff_not]; exact h6
    have hbC := HC.out.le
    have hbCI : (R : Int) ≤ (C : Int) := by have := HD.out; omega
    have h6C : (6 : Int) ≤ (C : Int) := by omega
    have h6b : 6 ≤ b.length := by have := HD.out; omega
    have b2 := hide (HC.out.take 2)
    have b4 : Hid (By w (Option.map (fun x => (⟨x.block, x.off + 2, none⟩ : Addr)) A2) (C - 2) ((b.drop 2).take 4)) := by
      have h := HC.out.cut 2 6 (by omega) (by omega)
      rw [if_neg (by omega)] at h
      exact h
    have b6 : Hid (By w (if C = 6 then A2 else Option.map (fun x => (⟨x.block, x.off + 6, none⟩ : Addr)) A2) (C - 6) (b.drop 6)) := by
      have h := HC.out.cut 6 b.length (by omega) (Nat.le_refl _)
      rw [List.take_of_length_le (by rw [List.length_drop]; exact Nat.le_refl _)] at h
      exact h
    have hN := flen_be h6b
    obtain ⟨N, hNe⟩ : ∃ N, flen b = N := ⟨_, rfl⟩
    rw [hNe] at hN
    have hNlt := beVal_lt (b.take 2)
    rw [hN, List.length_take, Nat.min_eq_left (by omega)] at hNlt
    have hN65 : (N : Int) ≤ 65535 := by omega
    have HN := hide hN
    have HE := hide hNe
    have H2 : Hid (2 = (b.take 2).length) := by unfold Hid; rw [List.length_take]; omega
    clear hbC h6b hN hNe hNlt
    go_wp2_with fail
    refine wp_region_quiet_lit (by kernel_rfl) (by kernel_rfl) ?_
    repeat (go_big_quiet_step (fail))
    refine wpQuiet_nil ?_
    rintro _ ⟨nq2, rfl⟩
    generalize (if C = 6 then A2 else Option.map (fun x => (⟨x.block, x.off + 6, none⟩ : Addr)) A2) = A6 at b6 ⊢
    generalize Option.map (fun x => (⟨x.block, x.off + 2, none⟩ : Addr)) A2 = A4 at b4 ⊢
    go_wp2_with fail
    obtain ⟨W2, hW2⟩ : ∃ x, w.drewN (nq1 + nq2) = x := ⟨_, rfl⟩
    have g2 : Gr w W2 := by rw [← hW2]; exact (Gr.refl w).drewN _
    rw [hW2]
    have G2 := hide g2
    clear hW2 g2
    refine (number_ok A2 2 C (b.take 2) H2.out _ (b2.out.gr G2.out) (by have := H2.out; omega)).mono ?_
    rintro e w1 ⟨rfl, rfl⟩
    rw [HN.out]
    by_cases hbad : 60000 < N
    · have hno := hide (p := ¬ Is (l.drop p)) (fun h => by have := h.2.1; rw [HB.out, HE.out] at this; omega)
      have d2 : decide ((60000 : Int) < (N : Int)) = true := by rw [decide_eq_true_eq]; omega
      go_wp2_with fail
      go_ret2
      exact StepPost.no hno (HR.out.gr G2.out) ((But.refl _ _).grow G2.out)
    · have d2 : decide ((60000 : Int) < (N : Int)) = false := by rw [decide_eq_false_iff_not]; omega
      by_cases hbad2 : R < N + 6
      · have hno := hide (p := ¬ Is (l.drop p)) (fun h => by have := h.2.2.1; rw [HB.out, HE.out, HD.out] at this; omega)
        have d3 : decide (R - 6 < N) = true := by rw [decide_eq_true_eq]; omega
        clear hbad hbad2
        go_wp2_with fail
        go_ret2
        exact StepPost.no hno (HR.out.gr G2.out) ((But.refl _ _).grow G2.out)
      · have d3 : decide (R - 6 < N) = false := by rw [decide_eq_false_iff_not]; omega
        have hTl : (ftext b).length = N := by rw [load_length (by rw [HE.out, HD.out]; omega), HE.out]
        have b7 := hide (b6.out.take N)
        have hft : (b.drop 6).take N = ftext b := by unfold ftext; rw [HE.out]
        have hN60 : (N : Int) ≤ 60000 := by omega
        have hNR : (N : Int) + 6 ≤ (R : Int) := by omega
        rw [hft] at b7
        have HT := hide hTl
        have HF := hide hft
        have hiff := hide (is_iff (b := b) (by rw [HD.out]; omega) (by rw [HE.out]; omega) (by rw [HE.out, HD.out]; omega))
        clear hbad hbad2 hTl hft
        go_wp2_with fail
        have hrw : Rws (w1.alloc (.cells #[.slice A2 2 C, .slice A6 N (C - 6)] 33)) (some ⟨w1.heap.size, 0, none⟩) 2 [b.take 2, ftext b] := by
          have h := rws_lit w1 33 (0, 0) [(A2, C, b.take 2), (A6, C - 6, ftext b)] (by
            intro x hx
            simp only [List.mem_cons, List.not_mem_nil, or_false] at hx
            rcases hx with rfl | rfl
            · exact b2.out.gr G2.out
            · exact b7.out.gr G2.out) (by simp [maxLen])
          simp only [List.map_cons, List.map_nil] at h
          rw [← H2.out, HT.out] at h
          exact h
        refine (Concat_ok _ 2 2 _ rfl _ hrw (by simp) (by simp only [List.flatten_cons, List.flatten_nil, List.length_append, List.append_nil]; rw [← H2.out, HT.out]; omega)).mono ?_
        rintro e w3 ⟨v3, rfl, ho3, hg3⟩
        replace hg3 := ((Gr.refl w1).alloc _).trans hg3
        simp only [List.flatten_cons, List.flatten_nil, List.append_nil] at ho3
        have hle3 : (b.take 2 ++ ftext b).length = 2 + N := by rw [List.length_append, ← H2.out, HT.out]
        have ho3' : OwnE 5 w3 w.heap.size v3 (b.take 2 ++ ftext b) := ho3.base (Nat.le_trans G2.out.size (by simp))
        obtain ⟨A3, c3, rfl, hb3, hn3⟩ := ho3'.by_new
        rw [hle3]
        have G3 := hide (G2.out.trans hg3)
        have HB3 := hide hb3
        have HN3 := hide hn3
        have HL3 := hide hle3
        clear ho3 ho3' hrw hg3 hb3 hn3 hle3
        go_wp2_with fail
        refine (Sum_ok A3 _ c3 _ HL3.out.symm _ HB3.out (by rw [HL3.out]; omega)).mono ?_
        rintro e w4 ⟨rfl, hg4⟩
        have G4 := hide (G3.out.trans hg4)
        have HB4 := hide (HB3.out.gr hg4)
        clear hg4 HB3 G3
        unfold wv
        obtain ⟨S, hS⟩ : ∃ S, (sum (b.take 2 ++ ftext b)).toNat = S := ⟨_, rfl⟩
        rw [hS]
        go_wp2_with fail
        refine (number_ok A4 4 (C - 2) ((b.drop 2).take 4) (by rw [List.length_take, List.length_drop, HD.out]; omega) _ (b4.out.gr G4.out) (by rw [List.length_take]; omega)).mono ?_
        rintro e w5 ⟨rfl, rfl⟩
        obtain ⟨M, hM⟩ : ∃ M, beVal ((b.drop 2).take 4) = M := ⟨_, rfl⟩
        rw [hM]
        have HS := hide hS
        have HM := hide hM
        clear hS hM
        by_cases hsm : S = M
        · have hy := hide (p := Is (l.drop p)) (by rw [HB.out]; exact hiff.out.2 (by rw [HS.out, HM.out]; exact hsm))
          have d4 : ((S : Int) != (M : Int)) = false := by rw [bne_eq_false_iff_eq, hsm]
          have HR5 := hide (HR.out.gr G4.out)
          have e1 : w5.cell? ⟨g, 1, none⟩ = some (.int .i64 (p : Nat)) := HR5.out.cell 1
          have f1 : w5.frozen? ⟨g, 1, none⟩ = false := HR5.out.frozen 1
          clear hsm
          go_wp2_with fail
          all_goals
            have ep : (p : Int) + (6 + (N : Int)) = ((p + (N + 6) : Nat) : Int) := by omega
            rw [ep]
            have hX : ((b.take 2 ++ ftext b).drop 2).take (2 + N - 2) = ftext b := by
              rw [List.drop_left' H2.out.symm, List.take_of_length_le (by rw [HT.out]; omega)]
            have hcut := HB4.out.cut 2 (2 + N) (by omega) (by rw [HL3.out]; exact Nat.le_refl _)
            rw [hX] at hcut
            have hnew := HN3.out.cut 2 c3 (m := ftext b) (by rw [HL3.out]; omega)
            first | rw [if_neg h] at hcut hnew | (rw [if_pos h] at hcut hnew; rw [show c3 - 2 = 0 from by omega] at hcut)
            have hgl := HR.out.lt
            have hbut := (But.refl w5 g).set 1 (.int .i64 ((p + (N + 6) : Nat) : Int))
            have hoff : Off g _ (ftext b) := fun hlt ad hA => by have := hnew hlt ad hA; omega
            clear h
            go_ret2
            exact StepPost.yes hy (by rw [HB.out]; exact HE.out) (by rw [HB.out]; exact HT.out) (by rw [HB.out]; exact ⟨hcut.rd.but hbut hoff, hcut.le, hcut.max, hcut.nil⟩) (by rw [HB.out]; exact hnew) (HR5.out.put 1 _) (((But.refl _ _).grow G4.out).set 1 _)
        · have hno := hide (p := ¬ Is (l.drop p)) (by rw [HB.out]; exact fun h => hsm (by rw [← HS.out, ← HM.out]; exact hiff.out.1 h))
          have d4 : ((S : Int) != (M : Int)) = true := by rw [bne_iff_ne]; omega
          clear hsm
          go_wp2_with fail
          go_ret2
          exact StepPost.no hno (HR.out.gr G4.out) ((But.refl _ _).grow G4.out)

end Go.Proofs.YtkcfieoflkhdpaaDoor
