/-
  The walk of 'SeatOnce'.
-/
import Derived.Test.YtgocapmclhimdaaSeArgs
import Derived.Test.YtgocapmclhimdaaSeBegun
import Derived.Test.YtgocapmclhimdaaQuietIf
namespace Go.Proofs.Ytgocapmclhimdaa
open Go Go.RowKit SeMath
set_option maxRecDepth 100000

def qOf (S : List SeT) (y : Int) : Value := .int .i64 (findS y S).seq
/-- each session's last number -/
def lastC (S : List SeT) : Array Value := #[.int .i64 0, qOf S 1, qOf S 2, qOf S 3, qOf S 4, qOf S 5]
theorem last_at (S : List SeT) {x : Nat} (h1 : 1 ≤ x) (h5 : x ≤ 5) : (lastC S)[x]? = some (qOf S (x : Int)) := by
  obtain rfl | rfl | rfl | rfl | rfl : x = 1 ∨ x = 2 ∨ x = 3 ∨ x = 4 ∨ x = 5 := by omega
  all_goals rfl
theorem last_same {S S' : List SeT} (h : ∀ y : Int, (findS y S').seq = (findS y S).seq) : lastC S' = lastC S := by
  unfold lastC qOf
  rw [h, h, h, h, h]
theorem last_set {S S' : List SeT} {x : Nat} {q : Int} (h1 : 1 ≤ x) (h5 : x ≤ 5) (ho : ∀ y : Int, y ≠ x → findS y S' = findS y S) (hx : (findS (x : Int) S').seq = q) : (lastC S).setIfInBounds x (.int .i64 q) = lastC S' := by
  obtain rfl | rfl | rfl | rfl | rfl : x = 1 ∨ x = 2 ∨ x = 3 ∨ x = 4 ∨ x = 5 := by omega
  all_goals
    unfold lastC qOf
    (try rw [ho 1 (by decide)])
    (try rw [ho 2 (by decide)])
    (try rw [ho 3 (by decide)])
    (try rw [ho 4 (by decide)])
    (try rw [ho 5 (by decide)])
    rw [← hx]
    rfl

set_option maxHeartbeats 4000000 in
theorem walk_SeatOnce (w : World) (v : Value) (ls : List PrT) (h : RowAt 2 w v (ls.map prC)) (hok : ∀ x ∈ ls, PrOk x) (hlen : ls.length ≤ 281474976710656) :
    Calls Try.prog 4 #[v] w fun e w' => e = .returned (.bool true) ∧ Gr w w' := by
  have HR := hide h
  have HOK := hide hok
  have HBE := hide begun_ok
  obtain ⟨A, c, rfl⟩ := pr_is h
  clear h hok
  go_enter Try.func4, Try.ntmps4
  go_wp2_with fail
  refine (HBE.out _).mono ?_
  rintro e w1 ⟨rfl, hg1⟩
  have HG1 := hide hg1
  clear hg1
  by_cases hbig : (60 : Int) < (ls.length : Int)
  · go_wp2_with fail
    go_ret
    exact ⟨rfl, HG1.out⟩
  · have hl60 : ls.length ≤ 60 := by omega
    go_upto_region 7 with (fail)
    obtain ⟨W1, hW1⟩ : ∃ W1, w1.alloc (.cells #[.int .i64 0, .int .i64 0, .int .i64 0, .int .i64 0, .int .i64 0, .int .i64 0] 34) = W1 := ⟨_, rfl⟩
    have hg1 : Gr w1 W1 := by rw [← hW1]; exact (Gr.refl _).alloc _
    have hb1 : Bl W1 w1.heap.size 34 (lastC []) := by rw [← hW1]; exact Bl.new _ _ _
    rw [hW1]
    have HB1 := hide hb1
    have HG2 := hide (HG1.out.trans hg1)
    have hgw := HG1.out.size
    obtain ⟨g, hge⟩ : ∃ g, w1.heap.size = g := ⟨_, rfl⟩
    rw [hge] at HB1 hgw ⊢
    clear hW1 hg1 hb1 HG1 hge hbig
    go_wp2_with fail
    go_loopw [3, 5] (fun u i wr => ∃ (k : Nat) (S : List SeT) (A : Option Addr) (c : Nat), i = .int .i64 k ∧ k ≤ ls.length ∧ u = .slice A S.length c ∧ S.length ≤ k ∧ Hid (SeX wr u S) ∧ Hid (Rise S) ∧ Hid (Bl wr g 34 (lastC S)) ∧ Hid (Gr w wr)) (fun _ i _ => ls.length - (intOf i).toNat)
    case atStart => exact ⟨0, [], none, 0, rfl, Nat.zero_le _, rfl, Nat.le_refl _, hide (SeX.nil _ _ _), hide (by simp [Rise]), HB1, HG2⟩
    case round =>
      obtain ⟨k, S, As, cs, rfl, hk, rfl, hSk, HS, HRI, HB, HG⟩ := hrel
      by_cases hlt : k < ls.length
      · have hlt' : (k : Int) < (ls.length : Int) := by omega
        obtain ⟨ad, c', e1, a0, a1⟩ := pr_at HR.out hlt
        simp only [Value.slice.injEq, true_and] at e1
        obtain ⟨rfl, rfl⟩ := e1
        have hp := HOK.out _ (List.getElem_mem hlt)
        generalize ls[k] = pr at a0 a1 hp
        obtain ⟨a, b⟩ := pr
        obtain ⟨ha, hb⟩ := hp
        simp only at a0 a1 ha hb
        have HA0 : Hid (wr.drew.cell? ((ad.add (k * 2)).add 0) = some (.int .u8 (a : Int))) := hide (by rw [add_zero_]; exact gr_cell (HG.out.drewN 1) _ _ a0)
        have HA1 : Hid (wr.drew.cell? ((ad.add (k * 2)).add 1) = some (.int .u8 (b : Int))) := hide (gr_cell (HG.out.drewN 1) _ _ a1)
        clear a0 a1
        go_wp2_with fail
        refine Grow.wp_region_kept 86 [23, 24, 25, 26, 27, 28, 29, 30, 31, 32, 33, 34, 35, 36, 37, 38, 6, 7] rfl (by kernel_rfl) (by kernel_rfl) (by kernel_rfl) (Grow.Ahead.more (Grow.Ahead.more (Grow.Ahead.none_ _ _) 0 (Grow.Is.stays (.slice (some ad) ls.length c)) (by rfl)) 5 (Grow.Is.stays (.int .i64 (k : Int))) (by rfl)) ?_
        refine Grow.grow_mv (.inl rfl) (.inl ⟨rfl, rfl⟩) rfl ?_
        refine Grow.grow_mv (.inl rfl) (.inl ⟨rfl, rfl⟩) rfl ?_
        refine Grow.grow_see2 (x := .tmp 23) (y := .tmp 24) (z := .pointer (some (ad.add (k * 2)))) (.inl ⟨rfl, rfl⟩) (by simp [Op.operands]) (by simp [Op.operands]) rfl rfl (fun a W _ hx hy => exec_idxPr rfl hx hy hlt W) ?_
        refine Grow.grow_see1 (x := .tmp 25) (z := .pointer (some ((ad.add (k * 2)).add 0))) (.inl ⟨rfl, rfl⟩) (by simp [Op.operands]) rfl (fun a W _ hx => exec_arr (j := 0) rfl hx rfl (by decide) W) ?_
        refine Grow.grow_see1 (x := .tmp 26) (z := .int .u8 (a : Int)) (.inl ⟨rfl, rfl⟩) (by simp [Op.operands]) rfl (fun a W hg hx => exec_ldU8 rfl hx (gr_cell hg _ _ HA0.out)) ?_
        refine Grow.grow_see1 (x := .tmp 27) (z := .int .u8 ((a % 5 : Nat) : Int)) (.inl ⟨rfl, rfl⟩) (by simp [Op.operands]) rfl (fun a W _ hx => exec_rem (m := 5) rfl hx rfl (by decide) (by decide) W) ?_
        refine Grow.grow_see1 (x := .tmp 28) (z := .int .i64 ((a % 5 : Nat) : Int)) (.inl ⟨rfl, rfl⟩) (by simp [Op.operands]) rfl (fun a W _ hx => exec_conv rfl hx (by omega) W) ?_
        refine Grow.grow_see1 (x := .tmp 29) (z := .int .i64 ((1 + a % 5 : Nat) : Int)) (.inl ⟨rfl, rfl⟩) (by simp [Op.operands]) rfl (fun a W _ hy => exec_add (a := 1) rfl rfl hy (by decide) (by omega) W) ?_
        refine Grow.grow_mv (.inl rfl) (.inl ⟨rfl, rfl⟩) rfl ?_
        refine Grow.grow_mv (.inl rfl) (.inl ⟨rfl, rfl⟩) rfl ?_
        refine Grow.grow_see2 (x := .tmp 31) (y := .tmp 32) (z := .pointer (some (ad.add (k * 2)))) (.inl ⟨rfl, rfl⟩) (by simp [Op.operands]) (by simp [Op.operands]) rfl rfl (fun a W _ hx hy => exec_idxPr rfl hx hy hlt W) ?_
        refine Grow.grow_see1 (x := .tmp 33) (z := .pointer (some ((ad.add (k * 2)).add 1))) (.inl ⟨rfl, rfl⟩) (by simp [Op.operands]) rfl (fun a W _ hx => exec_arr (j := 1) rfl hx rfl (by decide) W) ?_
        refine Grow.grow_see1 (x := .tmp 34) (z := .int .u8 (b : Int)) (.inl ⟨rfl, rfl⟩) (by simp [Op.operands]) rfl (fun a W hg hx => exec_ldU8 rfl hx (gr_cell hg _ _ HA1.out)) ?_
        refine Grow.grow_see1 (x := .tmp 35) (z := .int .u8 ((b % 20 : Nat) : Int)) (.inl ⟨rfl, rfl⟩) (by simp [Op.operands]) rfl (fun a W _ hx => exec_rem (m := 20) rfl hx rfl (by decide) (by decide) W) ?_
        refine Grow.grow_see1 (x := .tmp 36) (z := .int .i64 ((b % 20 : Nat) : Int)) (.inl ⟨rfl, rfl⟩) (by simp [Op.operands]) rfl (fun a W _ hx => exec_conv rfl hx (by omega) W) ?_
        refine Grow.grow_see1 (x := .tmp 37) (z := .int .i64 ((1 + b % 20 : Nat) : Int)) (.inl ⟨rfl, rfl⟩) (by simp [Op.operands]) rfl (fun a W _ hy => exec_add (a := 1) rfl rfl hy (by decide) (by omega) W) ?_
        refine Grow.grow_mv (.inr rfl) (.inl ⟨rfl, rfl⟩) rfl ?_
        refine Grow.grow_mv (.inr rfl) (.inl ⟨rfl, rfl⟩) rfl ?_
        intro a1 w3 hg3 hs1 hd1 hu1 hk1
        have h6 : a1.tmps.getD 6 undef = .int .i64 ((1 + a % 5 : Nat) : Int) := hk1 6
        have h7 : a1.tmps.getD 7 undef = .int .i64 ((1 + b % 20 : Nat) : Int) := hk1 7
        obtain ⟨X, hX, hlay⟩ := Grow.lay_kept_by _ a1 86 _ hs1 hd1 hu1
        rw [hX] at h6 h7
        clear hX hu1 hd1 hs1 hk1
        subst hlay
        simp only [List.range, List.range.loop, List.map_cons, List.map_nil, List.contains_cons, List.contains_nil, Nat.reduceBEq, Bool.or_false, Bool.or_true, cond_false, cond_true, Array.getD_eq_getD_getElem?, List.getElem?_toArray, List.getElem?_cons_zero, List.getElem?_cons_succ, Option.getD_some, h6, h7]
        clear h6 h7
        have hg3' : Gr wr w3 := ((Gr.refl wr).drewN 1).trans hg3
        have HS3 := hide (HS.out.gr hg3')
        have HB3 := hide (HB.out.gr hg3')
        have HG3 := hide (HG.out.trans hg3')
        clear hg3 hg3' HA0 HA1 HS HB HG
        obtain ⟨x, hx⟩ : ∃ x, 1 + a % 5 = x := ⟨_, rfl⟩
        obtain ⟨q, hq⟩ : ∃ q, 1 + b % 20 = q := ⟨_, rfl⟩
        have hx1 : 1 ≤ x := by omega
        have hx5 : x ≤ 5 := by omega
        have hq1 : 1 ≤ q := by omega
        rw [hx, hq]
        clear hx hq ha hb
        have HTU := hide (Turn_ok _ S ⟨(x : Int), (q : Int), (k : Int) + 1⟩ w3 HS3.out (by omega) HRI.out)
        have HTB := hide (turn_bigger ⟨(x : Int), (q : Int), (k : Int) + 1⟩ (by simp only; omega) HRI.out)
        have HFO := hide (find_own ⟨(x : Int), (q : Int), (k : Int) + 1⟩ S)
        have HFN := hide (fun y hy => find_other ⟨(x : Int), (q : Int), (k : Int) + 1⟩ (y := y) hy S)
        have HRI2 := hide (turn_rise ⟨(x : Int), (q : Int), (k : Int) + 1⟩ HRI.out)
        have HLE := hide (turn_len ⟨(x : Int), (q : Int), (k : Int) + 1⟩ S)
        unfold TurnPost at HTU
        simp only at HTU HTB HFO HFN
        obtain ⟨z, hz⟩ : ∃ z, (findS (x : Int) S).seq = z := ⟨_, rfl⟩
        have HLA : Hid ((lastC S)[x]? = some (.int .i64 z)) := hide (by rw [last_at S hx1 hx5]; unfold qOf; rw [hz])
        rw [hz] at HTB
        have HZ := hide hz
        generalize hS' : turnL ⟨(x : Int), (q : Int), (k : Int) + 1⟩ S = S' at HTU HFO HFN HRI2 HLE
        generalize hB' : turnB ⟨(x : Int), (q : Int), (k : Int) + 1⟩ S = bo at HTU HTB HFO
        clear hz hS' hB'
        go_wp2_with fail
        refine HTU.out.mono ?_
        rintro e w4 ⟨u4, rfl, ho4, hg4⟩
        have HS4 := hide ho4.x
        have HB4 := hide (HB3.out.gr hg4)
        have HG4 := hide (HG3.out.trans hg4)
        obtain ⟨A4, c4, rfl, _⟩ := ho4.x.is
        have HO4 := hide ho4
        have hg3l := HB3.out.lt
        clear ho4 hg4 HS3 HB3 HG3 HTU
        have hc4 : w4.cell? ⟨g, x, none⟩ = some (.int .i64 z) := by rw [HB4.out.cell]; exact HLA.out
        have hx6 : (x : Int) < 6 := by omega
        have hx0 : (0 : Int) ≤ (x : Int) := by omega
        have hfz : w4.frozen? ⟨g, x, none⟩ = false := HB4.out.frozen x
        by_cases hzq : z < (q : Int)
        · have hbt : bo = true := by rw [HTB.out]; exact decide_eq_true hzq
          subst hbt
          have hFx : findS (x : Int) S' = ⟨(x : Int), (q : Int), (k : Int) + 1⟩ := by have := HFO.out.1; simpa using this
          have HQS : Hid ((findS (x : Int) S').seq = (q : Int)) := hide (by rw [hFx])
          obtain ⟨W5, hW5⟩ : ∃ W5, w4.setCell ⟨g, x, none⟩ (.int .i64 (q : Int)) = W5 := ⟨_, rfl⟩
          have hu5 : But w4 W5 g := by rw [← hW5]; exact (But.refl _ _).set x _
          have HB5 : Hid (Bl W5 g 34 (lastC S')) := hide (by
            rw [← last_set hx1 hx5 HFN.out HQS.out, ← hW5]
            exact HB4.out.put x _)
          have HS5 : Hid (SeX W5 (.slice A4 S'.length c4) S') := hide (SeO.x (OwnR.but HO4.out hu5 hg3l))
          have HG5 : Hid (Gr w W5) := hide (HG4.out.fresh_ hu5 hgw)
          have HFI := hide (Find_ok _ S' (x : Int) W5 HS5.out (by have := HLE.out; omega))
          unfold FindPost at HFI
          rw [hFx, HFO.out.2] at HFI
          simp only [seA] at HFI
          clear hu5 HS4 HB4 HG4 hFx HO4
          go_upto_region 16 with (fail)
          clear hW5 hc4 hfz
          go_wp2_with fail
          refine HFI.out.mono ?_
          rintro e w6 ⟨rfl, hg6⟩
          go_upto_region 17 with (fail)
          obtain ⟨W7, hW7⟩ : ∃ W7, w6.alloc (.cells #[.int .i64 (x : Int), .int .i64 (q : Int), .int .i64 ((k : Int) + 1)] 30) = W7 := ⟨_, rfl⟩
          have hb7 : Bl W7 w6.heap.size 30 #[.int .i64 (x : Int), .int .i64 (q : Int), .int .i64 ((k : Int) + 1)] := by rw [← hW7]; exact Bl.new _ _ _
          have hg7 : Gr W5 W7 := by rw [← hW7]; exact hg6.alloc _
          rw [hW7]
          have HS7 := hide (HS5.out.gr hg7)
          have HB7 := hide (HB5.out.gr hg7)
          have HG7 := hide (HG5.out.trans hg7)
          have k1 : W7.cell? ⟨w6.heap.size, 1, none⟩ = some (.int .i64 (q : Int)) := hb7.cell 1
          have k2 : W7.cell? ⟨w6.heap.size, 2, none⟩ = some (.int .i64 ((k : Int) + 1)) := hb7.cell 2
          have c7 : W7.cell? ⟨g, x, none⟩ = some (.int .i64 (q : Int)) := by rw [HB7.out.cell, last_at S' hx1 hx5]; unfold qOf; rw [HQS.out]
          clear hW7 hb7 hg7 hg6 HS5 HB5 HG5 HFI
          go_wp2_with fail
          go_quiet (fail)
          go_wp2_with fail
          go_roundw
          case rel => exact ⟨k + 1, S', A4, c4, by go_num, by omega, rfl, by have := HLE.out; omega, HS7.out.gr ((Gr.refl _).drewN _), HRI2, HB7.out.drewN _, HG7.out.drewN _⟩
          case measure => simp [intOf]; omega
        · have hbt : bo = false := by rw [HTB.out]; exact decide_eq_false hzq
          subst hbt
          have HQS : Hid ((findS (x : Int) S').seq = z) := hide (by have := HFO.out.1; rw [if_neg (by simp)] at this; rw [this, HZ.out])
          have HB5 : Hid (Bl w4 g 34 (lastC S')) := hide (by
            rw [show lastC S' = lastC S from last_same (fun y => by
              by_cases hy : y = (x : Int)
              · rw [hy, HQS.out, HZ.out]
              · rw [HFN.out y hy])]
            exact HB4.out)
          have HFI := hide (Find_ok _ S' (x : Int) w4 HS4.out (by have := HLE.out; omega))
          unfold FindPost at HFI
          rw [HFO.out.2] at HFI
          have HQ2 := HQS
          generalize findS (x : Int) S' = fo at HFI HQ2
          obtain ⟨ss, sq, pp⟩ := fo
          have hsq : sq = z := HQ2.out
          subst hsq
          simp only [seA] at HFI
          have HS5 := HS4
          have HG5 := HG4
          clear HS4 HB4 HG4 HO4 HQ2 HFO
          go_wp2_with fail
          refine HFI.out.mono ?_
          rintro e w6 ⟨rfl, hg6⟩
          go_upto_region 17 with (fail)
          obtain ⟨W7, hW7⟩ : ∃ W7, w6.alloc (.cells #[.int .i64 ss, .int .i64 sq, .int .i64 pp] 30) = W7 := ⟨_, rfl⟩
          have hb7 : Bl W7 w6.heap.size 30 #[.int .i64 ss, .int .i64 sq, .int .i64 pp] := by rw [← hW7]; exact Bl.new _ _ _
          have hg7 : Gr w4 W7 := by rw [← hW7]; exact hg6.alloc _
          rw [hW7]
          have HS7 := hide (HS5.out.gr hg7)
          have HB7 := hide (HB5.out.gr hg7)
          have HG7 := hide (HG5.out.trans hg7)
          have k1 : W7.cell? ⟨w6.heap.size, 1, none⟩ = some (.int .i64 sq) := hb7.cell 1
          have k2 : W7.cell? ⟨w6.heap.size, 2, none⟩ = some (.int .i64 pp) := hb7.cell 2
          have c7 : W7.cell? ⟨g, x, none⟩ = some (.int .i64 sq) := by rw [HB7.out.cell, last_at S' hx1 hx5]; unfold qOf; rw [HQS.out]
          clear hW7 hb7 hg7 hg6 HS5 HB5 HG5 HFI
          go_wp2_with fail
          go_quiet (fail)
          go_wp2_with fail
          go_roundw
          case rel => exact ⟨k + 1, S', A4, c4, by go_num, by omega, rfl, by have := HLE.out; omega, HS7.out.gr ((Gr.refl _).drewN _), HRI2, HB7.out.drewN _, HG7.out.drewN _⟩
          case measure => simp [intOf]; omega
      · obtain rfl : k = ls.length := by omega
        go_wp2_with fail
        go_ret
        exact ⟨rfl, HG.out⟩
end Go.Proofs.Ytgocapmclhimdaa
