/-
  slices.Equal of seats, seat's Same; the document's SameSeats and FindSeat: by their contracts.
-/
import Derived.Test.YtgocapmclhimdaaSeFns
namespace Go.Proofs.Ytgocapmclhimdaa
open Go Go.RowKit SeMath
set_option maxRecDepth 100000

theorem se_cases (x y : SeT) : x = y ∨ ¬ x.ses = y.ses ∧ x ≠ y ∨ x.ses = y.ses ∧ ¬ x.seq = y.seq ∧ x ≠ y ∨ x.ses = y.ses ∧ x.seq = y.seq ∧ ¬ x.pos = y.pos ∧ x ≠ y := by
  obtain ⟨a, b, c⟩ := x
  obtain ⟨a', b', c'⟩ := y
  simp only [SeT.mk.injEq, ne_eq]
  by_cases h1 : a = a' <;> by_cases h2 : b = b' <;> by_cases h3 : c = c' <;> simp [h1, h2, h3]
/-- so far alike -/
def Like {α : Type} (k : Nat) (a b : List α) : Prop := ∀ i, i < k → a[i]? = b[i]?
theorem Like.all {α : Type} {k : Nat} {a b : List α} (h : Like k a b) (ha : a.length ≤ k) (hb : b.length = a.length) : a = b := by
  refine List.ext_getElem? fun i => ?_
  by_cases hi : i < k
  · exact h i hi
  · rw [List.getElem?_eq_none (by omega), List.getElem?_eq_none (by omega)]
theorem Like.next {α : Type} {k : Nat} {a b : List α} (h : Like k a b) (ha : k < a.length) (hb : k < b.length) (e : a[k] = b[k]) : Like (k + 1) a b := fun i hi => by
  by_cases hk : i < k
  · exact h i hk
  · obtain rfl : i = k := by omega
    rw [List.getElem?_eq_getElem ha, List.getElem?_eq_getElem hb, e]
theorem like_ne {α : Type} {k : Nat} {a b : List α} (ha : k < a.length) (hb : k < b.length) (e : a[k] ≠ b[k]) : a ≠ b := fun h => by subst h; exact e rfl
theorem drewN_more {w wr w' : World} {m : Nat} (h : ∃ k, wr = w.drewN k) (e : w' = wr.drewN m) : ∃ k, w' = w.drewN k := by
  obtain ⟨k, rfl⟩ := h
  exact ⟨k + m, by rw [e]; simp [World.drewN, Nat.add_assoc]⟩

set_option maxHeartbeats 2000000 in
theorem Equal_ok (v u : Value) (a b : List SeT) (w : World) (hv : SeX w v a) (hu : SeX w u b) (hl : a.length ≤ 1000000000) :
    Calls Try.prog 18 #[v, u] w fun e w' => e = .returned (.bool (decide (a = b))) ∧ ∃ m, w' = w.drewN m := by
  have HV := hide hv
  have HU := hide hu
  obtain ⟨A, c, rfl, _⟩ := hv.is
  obtain ⟨B, d, rfl, _⟩ := hu.is
  clear hv hu
  go_enter Try.func18, Try.ntmps18
  by_cases hlen : a.length = b.length
  · have hlen' : (a.length : Int) = (b.length : Int) := by omega
    rw [← hlen] at HU ⊢
    go_wp2_with fail
    go_loopw [13] (fun i wr => ∃ k : Nat, i = .int .i64 k ∧ k ≤ a.length ∧ Hid (Like k a b) ∧ Hid (∃ m, wr = w.drewN m)) (fun i _ => a.length - (intOf i).toNat)
    case atStart => exact ⟨0, rfl, by omega, fun i hi => absurd hi (by omega), ⟨0, rfl⟩⟩
    case round =>
      obtain ⟨k, rfl, hk, HL, HR⟩ := hrel
      have HGR := hide (show Gr w wr by obtain ⟨m, rfl⟩ := HR.out; exact (Gr.refl w).drewN m)
      by_cases hlt : k < a.length
      · have hlt2 : k < b.length := by omega
        have hlt' : (k : Int) < (a.length : Int) := by omega
        obtain ⟨ad, c', e1, a0, a1, a2⟩ := (HV.out.gr HGR.out).at_ hlt
        obtain ⟨bd, d', e2, b0, b1, b2⟩ := (HU.out.gr HGR.out).at_ hlt2
        simp only [Value.slice.injEq, true_and] at e1
        simp only [Value.slice.injEq, hlen, true_and] at e2
        obtain ⟨rfl, rfl⟩ := e1
        obtain ⟨rfl, rfl⟩ := e2
        have HY := hide (fun e => HL.out.next hlt hlt2 e)
        have HN := hide (fun e => like_ne hlt hlt2 e)
        generalize a[k] = x at a0 a1 a2 HY HN
        generalize b[k] = y at b0 b1 b2 HY HN
        obtain ⟨xs, xq, xp⟩ := x
        obtain ⟨ys, yq, yp⟩ := y
        simp only at a0 a1 a2 b0 b1 b2
        rcases se_cases ⟨xs, xq, xp⟩ ⟨ys, yq, yp⟩ with h | ⟨h, hne⟩ | ⟨h, h2, hne⟩ | ⟨h, h2, h3, hne⟩
        · have HL2 := hide (HY.out h)
          simp only [SeT.mk.injEq] at h
          obtain ⟨rfl, rfl, rfl⟩ := h
          clear HY HN
          go_wp2_with fail
          go_quiet (fail)
          go_wp2_with fail
          go_roundw
          case rel => exact ⟨k + 1, by go_num, by omega, HL2, drewN_more HR.out rfl⟩
          case measure => simp [intOf]; omega
        all_goals
          have HL2 := hide (show decide (a = b) = false from decide_eq_false (HN.out hne))
          simp only at h
          (try simp only at h2)
          (try simp only at h3)
          (try subst h)
          (try subst h2)
          (try subst h3)
          clear HY HN hne
          go_wp2_with fail
          go_quiet (fail)
          go_wp2_with fail
          go_ret
          exact ⟨by rw [HL2.out]; rfl, drewN_more HR.out rfl⟩
      · obtain rfl : k = a.length := by omega
        have HE := hide (show decide (a = b) = true from decide_eq_true (HL.out.all (Nat.le_refl _) (by omega)))
        go_wp2_with fail
        go_ret
        exact ⟨by rw [HE.out]; rfl, HR.out⟩
  · have hlen' : ¬ (a.length : Int) = (b.length : Int) := by omega
    have HE := hide (show decide (a = b) = false from decide_eq_false fun e => hlen (by rw [e]))
    go_wp2_with fail
    go_ret
    exact ⟨by rw [HE.out]; rfl, ⟨0, rfl⟩⟩

theorem Same_ok (v u : Value) (a b : List SeT) (w : World) (hv : SeX w v a) (hu : SeX w u b) (hl : a.length ≤ 1000000000) :
    Calls Try.prog 10 #[v, u] w fun e w' => e = .returned (.bool (decide (a = b))) ∧ ∃ m, w' = w.drewN m := by
  have HE := hide (Equal_ok v u a b w hv hu hl)
  obtain ⟨A, c, rfl, _⟩ := hv.is
  obtain ⟨B, d, rfl, _⟩ := hu.is
  clear hv hu
  go_enter Try.func10, Try.ntmps10
  go_wp2_with fail
  refine HE.out.mono ?_
  rintro e w2 ⟨rfl, m, rfl⟩
  go_wp2_with fail
  go_ret
  exact ⟨rfl, m, rfl⟩

set_option maxHeartbeats 2000000 in
theorem RefSame_ok (v u : Value) (a b : List SeT) (w : World) (hv : SeX w v a) (hu : SeX w u b) (hl : a.length ≤ 1000000000) :
    Calls Try.prog 9 #[v, u] w fun e w' => e = .returned (.bool (decide (a = b))) ∧ ∃ m, w' = w.drewN m := by
  have HV := hide hv
  have HU := hide hu
  obtain ⟨A, c, rfl, _⟩ := hv.is
  obtain ⟨B, d, rfl, _⟩ := hu.is
  clear hv hu
  go_enter Try.func9, Try.ntmps9
  by_cases hlen : a.length = b.length
  · have hlen' : (a.length : Int) = (b.length : Int) := by omega
    rw [← hlen] at HU ⊢
    go_wp2_with fail
    go_loopw [5] (fun i wr => ∃ k : Nat, i = .int .i64 k ∧ k ≤ a.length ∧ Hid (Like k a b) ∧ Hid (∃ m, wr = w.drewN m)) (fun i _ => a.length - (intOf i).toNat)
    case atStart => exact ⟨0, rfl, by omega, fun i hi => absurd hi (by omega), ⟨0, rfl⟩⟩
    case round =>
      obtain ⟨k, rfl, hk, HL, HR⟩ := hrel
      have HGR := hide (show Gr w wr by obtain ⟨m, rfl⟩ := HR.out; exact (Gr.refl w).drewN m)
      by_cases hlt : k < a.length
      · have hlt2 : k < b.length := by omega
        have hlt' : (k : Int) < (a.length : Int) := by omega
        obtain ⟨ad, c', e1, a0, a1, a2⟩ := (HV.out.gr HGR.out).at_ hlt
        obtain ⟨bd, d', e2, b0, b1, b2⟩ := (HU.out.gr HGR.out).at_ hlt2
        simp only [Value.slice.injEq, true_and] at e1
        simp only [Value.slice.injEq, hlen, true_and] at e2
        obtain ⟨rfl, rfl⟩ := e1
        obtain ⟨rfl, rfl⟩ := e2
        have HY := hide (fun e => HL.out.next hlt hlt2 e)
        have HN := hide (fun e => like_ne hlt hlt2 e)
        generalize a[k] = x at a0 a1 a2 HY HN
        generalize b[k] = y at b0 b1 b2 HY HN
        obtain ⟨xs, xq, xp⟩ := x
        obtain ⟨ys, yq, yp⟩ := y
        simp only at a0 a1 a2 b0 b1 b2
        rcases se_cases ⟨xs, xq, xp⟩ ⟨ys, yq, yp⟩ with h | ⟨h, hne⟩ | ⟨h, h2, hne⟩ | ⟨h, h2, h3, hne⟩
        · have HL2 := hide (HY.out h)
          simp only [SeT.mk.injEq] at h
          obtain ⟨rfl, rfl, rfl⟩ := h
          clear HY HN
          go_wp2_with fail
          go_quiet (fail)
          go_wp2_with fail
          go_roundw
          case rel => exact ⟨k + 1, by go_num, by omega, HL2, drewN_more HR.out rfl⟩
          case measure => simp [intOf]; omega
        all_goals
          have HL2 := hide (show decide (a = b) = false from decide_eq_false (HN.out hne))
          simp only at h
          (try simp only at h2)
          (try simp only at h3)
          (try subst h)
          (try subst h2)
          (try subst h3)
          clear HY HN hne
          go_wp2_with fail
          go_quiet (fail)
          go_wp2_with fail
          go_ret
          exact ⟨by rw [HL2.out]; rfl, drewN_more HR.out rfl⟩
      · obtain rfl : k = a.length := by omega
        have HE := hide (show decide (a = b) = true from decide_eq_true (HL.out.all (Nat.le_refl _) (by omega)))
        go_wp2_with fail
        go_ret
        exact ⟨by rw [HE.out]; rfl, HR.out⟩
  · have hlen' : ¬ (a.length : Int) = (b.length : Int) := by omega
    have HE := hide (show decide (a = b) = false from decide_eq_false fun e => hlen (by rw [e]))
    go_wp2_with fail
    go_ret
    exact ⟨by rw [HE.out]; rfl, ⟨0, rfl⟩⟩

theorem find_drop (y : Int) {l : List SeT} {k : Nat} (h : k < l.length) : findS y (l.drop k) = (if l[k].ses = y then l[k] else findS y (l.drop (k + 1))) ∧ hasS y (l.drop k) = (if l[k].ses = y then true else hasS y (l.drop (k + 1))) := by
  rw [List.drop_eq_getElem_cons h, findS, hasS]
  exact ⟨rfl, rfl⟩
set_option maxHeartbeats 1000000 in
theorem RefFind_ok (v : Value) (l : List SeT) (y : Int) (w : World) (hv : SeX w v l) (hl : l.length ≤ 1000000000) :
    Calls Try.prog 12 #[v, .int .i64 y] w (FindPost y l w) := by
  have HV := hide hv
  obtain ⟨A, c, rfl, _⟩ := hv.is
  clear hv
  go_enter Try.func12, Try.ntmps12
  go_upto_region 1 with (fail)
  obtain ⟨W1, hW1⟩ : ∃ W1, w.alloc (.cells #[.int .i64 0, .int .i64 0, .int .i64 0] 30) = W1 := ⟨_, rfl⟩
  have hg1 : Gr w W1 := by rw [← hW1]; exact (Gr.refl _).alloc _
  have hb1 : Bl W1 w.heap.size 30 #[.int .i64 0, .int .i64 0, .int .i64 0] := by rw [← hW1]; exact Bl.new _ _ _
  rw [hW1]
  clear hW1
  have HG := hide hg1
  have HB := hide hb1
  have HVV := hide (HV.out.gr hg1)
  have f0 := hb1.frozen 0
  have f1 := hb1.frozen 1
  have f2 := hb1.frozen 2
  have z0 : W1.cell? ⟨w.heap.size, 0, none⟩ = some (.int .i64 0) := hb1.cell 0
  have z1 : W1.cell? ⟨w.heap.size, 1, none⟩ = some (.int .i64 0) := hb1.cell 1
  have z2 : W1.cell? ⟨w.heap.size, 2, none⟩ = some (.int .i64 0) := hb1.cell 2
  clear hg1 hb1 HV
  go_wp2_with fail
  go_loopw [6] (fun i wr => ∃ k : Nat, i = .int .i64 k ∧ k ≤ l.length ∧ Hid (findS y l = findS y (l.drop k) ∧ hasS y l = hasS y (l.drop k)) ∧ wr = W1) (fun i _ => l.length - (intOf i).toNat)
  case atStart => exact ⟨0, rfl, Nat.zero_le _, hide ⟨rfl, rfl⟩, rfl⟩
  case round =>
    obtain ⟨k, rfl, hk, HE, rfl⟩ := hrel
    by_cases hlt : k < l.length
    · have hlt' : (k : Int) < (l.length : Int) := by omega
      obtain ⟨ad, c', e1, a0, a1, a2⟩ := HVV.out.at_ hlt
      simp only [Value.slice.injEq, true_and] at e1
      obtain ⟨rfl, rfl⟩ := e1
      have HS := hide (find_drop y hlt)
      generalize l[k] = x at a0 a1 a2 HS
      obtain ⟨xs, xq, xp⟩ := x
      simp only at a0 a1 a2 HS
      by_cases hx : xs = y
      · subst hx
        have HA : Hid (findS xs l = ⟨xs, xq, xp⟩ ∧ hasS xs l = true) := hide ⟨HE.out.1.trans (HS.out.1.trans (if_pos rfl)), HE.out.2.trans (HS.out.2.trans (if_pos rfl))⟩
        clear HS HE
        go_wp2_with fail
        obtain ⟨W3, hW3⟩ : ∃ W3, ((wr.setCell ⟨w.heap.size, 0, none⟩ (.int .i64 xs)).setCell ⟨w.heap.size, 1, none⟩ (.int .i64 xq)).setCell ⟨w.heap.size, 2, none⟩ (.int .i64 xp) = W3 := ⟨_, rfl⟩
        have hb3 : Bl W3 w.heap.size 30 #[.int .i64 xs, .int .i64 xq, .int .i64 xp] := by rw [← hW3]; exact ((HB.out.put 0 _).put 1 _).put 2 _
        have hu3 : But wr W3 w.heap.size := by rw [← hW3]; exact (((But.refl _ _).set 0 _).set 1 _).set 2 _
        rw [hW3]
        refine bodyPost_ret (results_cell2 rfl _ W3 w.heap.size 30 #[.int .i64 xs, .int .i64 xq, .int .i64 xp] (0, 0) _ rfl hb3 Try.underlying30 rfl (by kernel_rfl)) rfl ?_
        exact ⟨by rw [HA.out.1, HA.out.2]; rfl, HG.out.fresh_ hu3 (Nat.le_refl _)⟩
      · have HR : Hid (findS y l = findS y (l.drop (k + 1)) ∧ hasS y l = hasS y (l.drop (k + 1))) := hide ⟨HE.out.1.trans (HS.out.1.trans (if_neg hx)), HE.out.2.trans (HS.out.2.trans (if_neg hx))⟩
        clear HS HE
        go_wp2_with fail
        go_roundw
        case rel => exact ⟨k + 1, by go_num, by omega, HR, trivial⟩
        case measure => simp [intOf]; omega
    · obtain rfl : k = l.length := by omega
      have HA : Hid (findS y l = noSe ∧ hasS y l = false) := hide ⟨HE.out.1.trans (by rw [List.drop_length]; rfl), HE.out.2.trans (by rw [List.drop_length]; rfl)⟩
      clear HE
      go_wp2_with fail
      obtain ⟨W3, hW3⟩ : ∃ W3, ((wr.setCell ⟨w.heap.size, 0, none⟩ (.int .i64 0)).setCell ⟨w.heap.size, 1, none⟩ (.int .i64 0)).setCell ⟨w.heap.size, 2, none⟩ (.int .i64 0) = W3 := ⟨_, rfl⟩
      have hb3 : Bl W3 w.heap.size 30 #[.int .i64 0, .int .i64 0, .int .i64 0] := by rw [← hW3]; exact ((HB.out.put 0 _).put 1 _).put 2 _
      have hu3 : But wr W3 w.heap.size := by rw [← hW3]; exact (((But.refl _ _).set 0 _).set 1 _).set 2 _
      rw [hW3]
      refine bodyPost_ret (results_cell2 rfl _ W3 w.heap.size 30 #[.int .i64 0, .int .i64 0, .int .i64 0] (0, 0) _ rfl hb3 Try.underlying30 rfl (by kernel_rfl)) rfl ?_
      exact ⟨by rw [HA.out.1, HA.out.2]; rfl, HG.out.fresh_ hu3 (Nat.le_refl _)⟩

end Go.Proofs.Ytgocapmclhimdaa
