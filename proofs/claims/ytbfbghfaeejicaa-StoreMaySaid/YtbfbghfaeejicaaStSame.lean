/-
  slices.Equal of versions, store's same, slices.EqualFunc, store's Same; the document's SameChain and SameStore: by their contracts.
-/
import Derived.Test.YtbfbghfaeejicaaStFns
import Derived.Deep.Cut
namespace Go.Proofs.Ytbfbghfaeejicaa
open Go Go.RowKit ChMath KeyMath StMath
set_option maxRecDepth 100000

theorem ver_cases (x y : VerT) : x = y ∨ ¬ x.pos = y.pos ∧ x ≠ y ∨ x.pos = y.pos ∧ ¬ x.val.toList = y.val.toList ∧ x ≠ y ∨ x.pos = y.pos ∧ x.val = y.val ∧ x.gone = !y.gone ∧ x ≠ y := by
  by_cases h : x = y
  · exact .inl h
  by_cases h1 : x.pos = y.pos
  · by_cases h2 : x.val = y.val
    · refine .inr (.inr (.inr ⟨h1, h2, ?_, h⟩))
      cases hx : x.gone <;> cases hy : y.gone <;> simp_all
      · exact h (by cases x; cases y; simp_all)
      · exact h (by cases x; cases y; simp_all)
    · exact .inr (.inr (.inl ⟨h1, fun e => h2 (list_inj e), h⟩))
  · exact .inr (.inl ⟨h1, h⟩)
/-- so far alike -/
def Like {α : Type} (k : Nat) (a b : List α) : Prop := ∀ i, i < k → a[i]? = b[i]?
theorem Like.all {α : Type} {k : Nat} {a b : List α} (h : Like k a b) (ha : a.length ≤ k) (hb : b.length = a.length) : a = b := by
  refine List.ext_getElem? fun i => ?_
  by_cases hi : i < k
  · exact h i hi
  · rw [List.getElem?_eq_none (by omega), List.getElem?_eq_none (by omega)]
theorem Like.next {α : Type} {k : Nat} {a b : List α} (h : Like k a b) (ha : k < a.length) (hb : k < b.length) (e : a[k] = b[k]) : Like (k + 1) a b := fun i hi => by
  by_cases hk : i < k
  · exact h i hk
  · obtain rfl : i = k := by omega
    rw [List.getElem?_eq_getElem ha, List.getElem?_eq_getElem hb, e]
theorem like_ne {α : Type} {k : Nat} {a b : List α} (ha : k < a.length) (hb : k < b.length) (e : a[k] ≠ b[k]) : a ≠ b := fun h => by subst h; exact e rfl

set_option maxHeartbeats 2000000 in
theorem Equal_ok (v u : Value) (a b : List VerT) (w : World) (hv : VersX w v a) (hu : VersX w u b) (hl : a.length ≤ 1000000000) :
    Calls Try.prog 61 #[v, u] w fun e w' => e = .returned (.bool (decide (a = b))) ∧ Gr w w' := by
  have HV := hide hv
  have HU := hide hu
  obtain ⟨A, c, rfl, _⟩ := hv.is
  obtain ⟨B, d, rfl, _⟩ := hu.is
  clear hv hu
  go_enter Try.func61, Try.ntmps61
  by_cases hlen : a.length = b.length
  · have hlen' : (a.length : Int) = (b.length : Int) := by omega
    rw [← hlen] at HU ⊢
    go_wp2_with fail
    go_loopw [13] (fun i wr => ∃ k : Nat, i = .int .i64 k ∧ k ≤ a.length ∧ Hid (Like k a b) ∧ Hid (Gr w wr)) (fun i _ => a.length - (intOf i).toNat)
    case atStart => exact ⟨0, rfl, by omega, fun i hi => absurd hi (by omega), Gr.refl w⟩
    case round =>
      obtain ⟨k, rfl, hk, HL, HR⟩ := hrel
      by_cases hlt : k < a.length
      · have hlt2 : k < b.length := by omega
        have hlt' : (k : Int) < (a.length : Int) := by omega
        obtain ⟨ad, c', e1, a0, a1, a2⟩ := (HV.out.gr HR.out).at_ hlt
        obtain ⟨bd, d', e2, b0, b1, b2⟩ := (HU.out.gr HR.out).at_ hlt2
        simp only [Value.slice.injEq, true_and] at e1
        simp only [Value.slice.injEq, hlen, true_and] at e2
        obtain ⟨rfl, rfl⟩ := e1
        obtain ⟨rfl, rfl⟩ := e2
        have HY := hide (fun e => HL.out.next hlt hlt2 e)
        have HN := hide (fun e => like_ne hlt hlt2 e)
        generalize a[k] = x at a0 a1 a2 HY HN
        generalize b[k] = y at b0 b1 b2 HY HN
        obtain ⟨xp, xt, xb⟩ := x
        obtain ⟨yp, yt, yb⟩ := y
        simp only at a0 a1 a2 b0 b1 b2
        rcases ver_cases ⟨xp, xt, xb⟩ ⟨yp, yt, yb⟩ with h | ⟨h, hne⟩ | ⟨h, h2, hne⟩ | ⟨h, h2, h3, hne⟩
        · have HL2 := hide (HY.out h)
          simp only [VerT.mk.injEq] at h
          obtain ⟨rfl, rfl, rfl⟩ := h
          clear HY HN
          go_wp2_with fail
          go_quiet (fail)
          go_wp2_with fail
          go_roundw
          case rel => exact ⟨k + 1, by go_num, by omega, HL2, Gr.drewN HR.out _⟩
          case measure => simp [intOf]; omega
        all_goals
          have HL2 := hide (show decide (a = b) = false from decide_eq_false (HN.out hne))
          simp only at h
          (try simp only at h2)
          (try simp only at h3)
          (try subst h)
          (try subst h2)
          (try subst h3)
          clear HY HN hne
          go_wp2_with fail
          go_quiet (fail)
          go_wp2_with fail
          go_ret
          exact ⟨by rw [HL2.out]; rfl, Gr.drewN HR.out _⟩
      · obtain rfl : k = a.length := by omega
        have HE := hide (show decide (a = b) = true from decide_eq_true (HL.out.all (Nat.le_refl _) (by omega)))
        go_wp2_with fail
        go_ret
        exact ⟨by rw [HE.out]; rfl, HR.out⟩
  · have hlen' : ¬ (a.length : Int) = (b.length : Int) := by omega
    have HE := hide (show decide (a = b) = false from decide_eq_false fun e => hlen (by rw [e]))
    go_wp2_with fail
    go_ret
    exact ⟨by rw [HE.out]; rfl, Gr.refl _⟩

theorem drewN_zero (w : World) : w = w.drewN 0 := rfl
set_option maxHeartbeats 2000000 in
/-- the document's: it only draws -/
theorem RefSameV_ok (v u : Value) (a b : List VerT) (w : World) (hv : VersX w v a) (hu : VersX w u b) (hl : a.length ≤ 1000000000) :
    Calls Try.prog 46 #[v, u] w fun e w' => e = .returned (.bool (decide (a = b))) ∧ ∃ m, w' = w.drewN m := by
  have HV := hide hv
  have HU := hide hu
  obtain ⟨A, c, rfl, _⟩ := hv.is
  obtain ⟨B, d, rfl, _⟩ := hu.is
  clear hv hu
  go_enter Try.func46, Try.ntmps46
  by_cases hlen : a.length = b.length
  · have hlen' : (a.length : Int) = (b.length : Int) := by omega
    rw [← hlen] at HU ⊢
    go_wp2_with fail
    go_loopw [5] (fun i wr => ∃ k : Nat, i = .int .i64 k ∧ k ≤ a.length ∧ Hid (Like k a b) ∧ Hid (∃ m, wr = w.drewN m)) (fun i _ => a.length - (intOf i).toNat)
    case atStart => exact ⟨0, rfl, by omega, fun i hi => absurd hi (by omega), ⟨0, rfl⟩⟩
    case round =>
      obtain ⟨k, rfl, hk, HL, HR⟩ := hrel
      have HGR := hide (show Gr w wr by obtain ⟨m, rfl⟩ := HR.out; exact (Gr.refl w).drewN m)
      by_cases hlt : k < a.length
      · have hlt2 : k < b.length := by omega
        have hlt' : (k : Int) < (a.length : Int) := by omega
        obtain ⟨ad, c', e1, a0, a1, a2⟩ := (HV.out.gr HGR.out).at_ hlt
        obtain ⟨bd, d', e2, b0, b1, b2⟩ := (HU.out.gr HGR.out).at_ hlt2
        simp only [Value.slice.injEq, true_and] at e1
        simp only [Value.slice.injEq, hlen, true_and] at e2
        obtain ⟨rfl, rfl⟩ := e1
        obtain ⟨rfl, rfl⟩ := e2
        have HY := hide (fun e => HL.out.next hlt hlt2 e)
        have HN := hide (fun e => like_ne hlt hlt2 e)
        generalize a[k] = x at a0 a1 a2 HY HN
        generalize b[k] = y at b0 b1 b2 HY HN
        obtain ⟨xp, xt, xb⟩ := x
        obtain ⟨yp, yt, yb⟩ := y
        simp only at a0 a1 a2 b0 b1 b2
        rcases ver_cases ⟨xp, xt, xb⟩ ⟨yp, yt, yb⟩ with h | ⟨h, hne⟩ | ⟨h, h2, hne⟩ | ⟨h, h2, h3, hne⟩
        · have HL2 := hide (HY.out h)
          simp only [VerT.mk.injEq] at h
          obtain ⟨rfl, rfl, rfl⟩ := h
          clear HY HN
          go_wp2_with fail
          go_quiet (fail)
          go_wp2_with fail
          go_roundw
          case rel => exact ⟨k + 1, by go_num, by omega, HL2, hide (by obtain ⟨m, rfl⟩ := HR.out; exact ⟨m + nq, by rw [World.drewN_drewN]⟩)⟩
          case measure => simp [intOf]; omega
        all_goals
          have HL2 := hide (show decide (a = b) = false from decide_eq_false (HN.out hne))
          simp only at h
          (try simp only at h2)
          (try simp only at h3)
          (try subst h)
          (try subst h2)
          (try subst h3)
          clear HY HN hne
          go_wp2_with fail
          go_quiet (fail)
          go_wp2_with fail
          go_ret
          exact ⟨by rw [HL2.out]; rfl, by obtain ⟨m, rfl⟩ := HR.out; exact ⟨m + nq, by rw [World.drewN_drewN]⟩⟩
      · obtain rfl : k = a.length := by omega
        have HE := hide (show decide (a = b) = true from decide_eq_true (HL.out.all (Nat.le_refl _) (by omega)))
        go_wp2_with fail
        go_ret
        exact ⟨by rw [HE.out]; rfl, HR.out⟩
  · have hlen' : ¬ (a.length : Int) = (b.length : Int) := by omega
    have HE := hide (show decide (a = b) = false from decide_eq_false fun e => hlen (by rw [e]))
    go_wp2_with fail
    go_ret
    exact ⟨by rw [HE.out]; rfl, 0, rfl⟩

theorem chn_same (k1 k2 : ByteArray) (l1 l2 : List VerT) : decide (ChT.mk k1 l1 = ⟨k2, l2⟩) = (decide (k1 = k2) && decide (l1 = l2)) := by
  rw [Bool.eq_iff_iff]
  simp
set_option maxHeartbeats 1000000 in
theorem same_ok (k1 k2 : ByteArray) (p1 p2 : Value) (l1 l2 : List VerT) (w : World) (h1 : VersX w p1 l1) (h2 : VersX w p2 l2) (hl : l1.length ≤ 1000000) :
    Calls Try.prog 37 #[chA k1 p1, chA k2 p2] w fun e w' => e = .returned (.bool (decide (ChT.mk k1 l1 = ⟨k2, l2⟩))) ∧ Gr w w' := by
  rw [chn_same]
  obtain ⟨z, hz⟩ : ∃ z, (decide (k1 = k2) && decide (l1 = l2)) = z := ⟨_, rfl⟩
  rw [hz]
  have HZ := hide hz
  clear hz
  have H1 := hide h1
  have H2 := hide h2
  have HE := hide (fun W (h : VersX W p1 l1) (h' : VersX W p2 l2) => Equal_ok p1 p2 l1 l2 W h h' (by omega))
  obtain ⟨A, c, rfl, _⟩ := h1.is
  obtain ⟨B, d, rfl, _⟩ := h2.is
  clear h1 h2
  unfold chA
  have hk : k1 = k2 ∨ ¬ k1.toList = k2.toList := by
    by_cases h : k1.toList = k2.toList
    · exact .inl (list_inj h)
    · exact .inr h
  go_enter Try.func37, Try.ntmps37
  go_upto_region 1 with (fail)
  obtain ⟨W1, hW1⟩ : ∃ W1, (w.alloc (.cells #[.string k1, .slice A l1.length c] 54)).alloc (.cells #[.string k2, .slice B l2.length d] 54) = W1 := ⟨_, rfl⟩
  have hg1 : Gr w W1 := by rw [← hW1]; exact ((Gr.refl _).alloc _).alloc _
  have hb1 : Bl W1 w.heap.size 54 #[.string k1, .slice A l1.length c] := by rw [← hW1]; exact (Bl.new _ _ _).gr ((Gr.refl _).alloc _)
  have hb2 : Bl W1 (w.heap.size + 1) 54 #[.string k2, .slice B l2.length d] := by rw [← hW1]; have := Bl.new (w.alloc (.cells #[.string k1, .slice A l1.length c] 54)) 54 #[.string k2, .slice B l2.length d]; simpa using this
  rw [hW1]
  have m0 : W1.cell? ⟨w.heap.size, 0, none⟩ = some (.string k1) := hb1.cell 0
  have m1 : W1.cell? ⟨w.heap.size, 1, none⟩ = some (.slice A l1.length c) := hb1.cell 1
  have n0 : W1.cell? ⟨w.heap.size + 1, 0, none⟩ = some (.string k2) := hb2.cell 0
  have n1 : W1.cell? ⟨w.heap.size + 1, 1, none⟩ = some (.slice B l2.length d) := hb2.cell 1
  have HG1 := hide hg1
  clear hW1 hg1 hb1 hb2
  rcases hk with rfl | hk
  · have HD := hide (show z = decide (l1 = l2) by rw [← HZ.out, decide_eq_true rfl, Bool.true_and])
    go_wp2_with fail
    refine (HE.out _ (H1.out.gr HG1.out) (H2.out.gr HG1.out)).mono ?_
    rintro e w2 ⟨rfl, hg2⟩
    have HG2 := hide (HG1.out.trans hg2)
    clear hg2 m0 m1 n0 n1
    go_wp2_with fail
    go_ret
    exact ⟨by rw [HD.out]; rfl, HG2.out⟩
  · have HD := hide (show z = false by rw [← HZ.out, decide_eq_false (fun e => hk (by rw [e])), Bool.false_and])
    go_wp2_with fail
    go_ret
    exact ⟨by rw [HD.out]; rfl, HG1.out⟩

set_option maxHeartbeats 2000000 in
theorem EqualFunc_ok (v u : Value) (a b : List ChT) (w : World) (hv : ChnsX w v a) (hu : ChnsX w u b) (hl : CsLen a) :
    Calls Try.prog 36 #[v, u, .func (.func 37) #[] #[]] w fun e w' => e = .returned (.bool (decide (a = b))) ∧ Gr w w' := by
  have HV := hide hv
  have HU := hide hu
  have hcl := hl.1
  have HCL := hide hl.2
  obtain ⟨A, c, rfl⟩ := hv.is
  obtain ⟨B, d, rfl⟩ := hu.is
  clear hv hu hl
  by_cases hlen : a.length = b.length
  · obtain ⟨n, hn⟩ : ∃ n, a.length = n := ⟨_, rfl⟩
    rw [← hlen] at HU ⊢
    rw [hn] at HV HU hcl ⊢
    have HLA := hide hn
    have HLB := hide (hlen.symm.trans hn)
    clear hlen hn
    go_enter Try.func36, Try.ntmps36
    go_wp2_with fail
    go_loopw [17] (fun i wr => ∃ k : Nat, i = .int .i64 k ∧ k ≤ n ∧ Hid (Like k a b) ∧ Hid (Gr w wr)) (fun i _ => n - (intOf i).toNat)
    case atStart => exact ⟨0, rfl, by omega, fun i hi => absurd hi (by omega), Gr.refl w⟩
    case round =>
      obtain ⟨k, rfl, hk, HL, HR⟩ := hrel
      by_cases hltn : k < n
      · have hlt : k < a.length := by have := HLA.out; omega
        have hlt2 : k < b.length := by have := HLB.out; omega
        have hlt' : (k : Int) < (n : Int) := by omega
        obtain ⟨ad, c', p, e1, hp, a0, a1⟩ := (HV.out.gr HR.out).at_ hlt
        obtain ⟨bd, d', q, e2, hq, b0, b1⟩ := (HU.out.gr HR.out).at_ hlt2
        simp only [Value.slice.injEq, HLA.out, true_and] at e1
        simp only [Value.slice.injEq, HLB.out, true_and] at e2
        obtain ⟨rfl, rfl⟩ := e1
        obtain ⟨rfl, rfl⟩ := e2
        have HY := hide (fun e => HL.out.next hlt hlt2 e)
        have HN := hide (fun e => like_ne hlt hlt2 e)
        have hcl2 := HCL.out _ (List.getElem_mem hlt)
        generalize a[k] = x at a0 a1 HY HN hp hcl2
        generalize b[k] = y at b0 b1 HY HN hq
        clear hlt hlt2
        obtain ⟨xk, xl⟩ := x
        obtain ⟨yk, yl⟩ := y
        simp only at a0 a1 b0 b1 hp hq hcl2
        have HS := hide (fun W (h : VersX W p xl) (h' : VersX W q yl) => same_ok xk yk p q xl yl W h h' hcl2)
        have HP := hide hp
        have HQ := hide hq
        obtain ⟨pA, pc, rfl, _⟩ := hp.is
        obtain ⟨qA, qc, rfl, _⟩ := hq.is
        unfold chA at HS
        clear hp hq
        have hb0' := gr_cell ((Gr.refl wr).alloc (.cells #[.string xk, .slice pA xl.length pc] 54)) _ _ b0
        have hb1' := gr_cell ((Gr.refl wr).alloc (.cells #[.string xk, .slice pA xl.length pc] 54)) _ _ b1
        go_wp2_with fail
        refine (HS.out _ (HP.out.gr (((Gr.refl _).alloc _).alloc _)) (HQ.out.gr (((Gr.refl _).alloc _).alloc _))).mono ?_
        rintro e w2 ⟨rfl, hg2⟩
        have HR2 := hide (((HR.out.alloc _).alloc _).trans hg2)
        clear hg2 a0 a1 b0 b1 hb0' hb1'
        by_cases hxy : ChT.mk xk xl = ⟨yk, yl⟩
        · have HL2 := hide (HY.out hxy)
          rw [decide_eq_true hxy]
          clear HY HN hxy
          go_wp2_with fail
          go_roundw
          case rel => exact ⟨k + 1, by go_num, by omega, HL2, HR2⟩
          case measure => simp [intOf]; omega
        · have HL2 := hide (show decide (a = b) = false from decide_eq_false (HN.out hxy))
          rw [decide_eq_false hxy]
          clear HY HN hxy
          go_wp2_with fail
          go_ret
          exact ⟨by rw [HL2.out]; rfl, HR2.out⟩
      · obtain rfl : k = n := by omega
        have HE := hide (show decide (a = b) = true from decide_eq_true (HL.out.all (by have := HLA.out; omega) (HLB.out.trans HLA.out.symm)))
        go_wp2_with fail
        go_ret
        exact ⟨by rw [HE.out]; rfl, HR.out⟩
  · have hlen' : ¬ (a.length : Int) = (b.length : Int) := by omega
    go_enter Try.func36, Try.ntmps36
    have HE := hide (show decide (a = b) = false from decide_eq_false fun e => hlen (by rw [e]))
    go_wp2_with fail
    go_ret
    exact ⟨by rw [HE.out]; rfl, Gr.refl _⟩
end Go.Proofs.Ytbfbghfaeejicaa

/-
  store's Same and the document's SameStore by their contracts.
-/
namespace Go.Proofs.Ytbfbghfaeejicaa
open Go Go.RowKit ChMath KeyMath StMath
set_option maxRecDepth 100000

theorem st_same (s t : StT) : decide (s = t) = (decide (s.mark = t.mark) && decide (s.chains = t.chains)) := by
  obtain ⟨c1, m1⟩ := s
  obtain ⟨c2, m2⟩ := t
  rw [Bool.eq_iff_iff]
  simp
  exact And.comm
set_option maxHeartbeats 1000000 in
theorem StSame_ok (s t : StT) (u v : Value) (w : World) (h1 : ChnsX w u s.chains) (h2 : ChnsX w v t.chains) (hl : CsLen s.chains) :
    Calls Try.prog 13 #[.agg #[u, .int .i64 s.mark], .agg #[v, .int .i64 t.mark]] w fun e w' => e = .returned (.bool (decide (s = t))) ∧ Gr w w' := by
  rw [st_same]
  obtain ⟨a, m1⟩ := s
  obtain ⟨b, m2⟩ := t
  simp only at h1 h2 hl ⊢
  obtain ⟨z, hz⟩ : ∃ z, (decide (m1 = m2) && decide (a = b)) = z := ⟨_, rfl⟩
  rw [hz]
  have HZ := hide hz
  clear hz
  have H1 := hide h1
  have H2 := hide h2
  have HE := hide (fun W (h : ChnsX W u a) (h' : ChnsX W v b) => EqualFunc_ok u v a b W h h' hl)
  obtain ⟨A, c, rfl⟩ := h1.is
  obtain ⟨B, d, rfl⟩ := h2.is
  clear h1 h2 hl
  go_enter Try.func13, Try.ntmps13
  go_upto_region 1 with (fail)
  obtain ⟨W1, hW1⟩ : ∃ W1, (w.alloc (.cells #[.slice A a.length c, .int .i64 m1] 26)).alloc (.cells #[.slice B b.length d, .int .i64 m2] 26) = W1 := ⟨_, rfl⟩
  have hg1 : Gr w W1 := by rw [← hW1]; exact ((Gr.refl _).alloc _).alloc _
  have hb1 : Bl W1 w.heap.size 26 #[.slice A a.length c, .int .i64 m1] := by rw [← hW1]; exact (Bl.new _ _ _).gr ((Gr.refl _).alloc _)
  have hb2 : Bl W1 (w.heap.size + 1) 26 #[.slice B b.length d, .int .i64 m2] := by rw [← hW1]; have := Bl.new (w.alloc (.cells #[.slice A a.length c, .int .i64 m1] 26)) 26 #[.slice B b.length d, .int .i64 m2]; simpa using this
  rw [hW1]
  have m0 : W1.cell? ⟨w.heap.size, 0, none⟩ = some (.slice A a.length c) := hb1.cell 0
  have m1' : W1.cell? ⟨w.heap.size, 1, none⟩ = some (.int .i64 m1) := hb1.cell 1
  have n0 : W1.cell? ⟨w.heap.size + 1, 0, none⟩ = some (.slice B b.length d) := hb2.cell 0
  have n1 : W1.cell? ⟨w.heap.size + 1, 1, none⟩ = some (.int .i64 m2) := hb2.cell 1
  have HG1 := hide hg1
  clear hW1 hg1 hb1 hb2
  by_cases hm : m1 = m2
  · have HD := hide (show z = decide (a = b) by rw [← HZ.out, decide_eq_true hm, Bool.true_and])
    go_wp2_with fail
    refine (HE.out _ (H1.out.gr HG1.out) (H2.out.gr HG1.out)).mono ?_
    rintro e w2 ⟨rfl, hg2⟩
    have HG2 := hide (HG1.out.trans hg2)
    clear hg2 m0 m1' n0 n1
    go_wp2_with fail
    go_ret
    exact ⟨by rw [HD.out]; rfl, HG2.out⟩
  · have HD := hide (show z = false by rw [← HZ.out, decide_eq_false hm, Bool.false_and])
    go_wp2_with fail
    go_ret
    exact ⟨by rw [HD.out]; rfl, HG1.out⟩

set_option maxHeartbeats 2000000 in
theorem RefSame_ok (s t : StT) (u v : Value) (w : World) (h1 : ChnsX w u s.chains) (h2 : ChnsX w v t.chains) (hl : CsLen s.chains) :
    Calls Try.prog 20 #[.agg #[u, .int .i64 s.mark], .agg #[v, .int .i64 t.mark]] w fun e w' => e = .returned (.bool (decide (s = t))) ∧ Gr w w' := by
  rw [st_same]
  obtain ⟨a, m1⟩ := s
  obtain ⟨b, m2⟩ := t
  simp only at h1 h2 hl ⊢
  obtain ⟨z, hz⟩ : ∃ z, (decide (m1 = m2) && decide (a = b)) = z := ⟨_, rfl⟩
  rw [hz]
  have HZ := hide hz
  clear hz
  have HV := hide h1
  have HU := hide h2
  have hcl := hl.1
  have HCL := hide hl.2
  obtain ⟨A, c, rfl⟩ := h1.is
  obtain ⟨B, d, rfl⟩ := h2.is
  clear h1 h2 hl
  obtain ⟨n, hn⟩ : ∃ n, a.length = n := ⟨_, rfl⟩
  obtain ⟨n2, hn2⟩ : ∃ n2, b.length = n2 := ⟨_, rfl⟩
  rw [hn] at HV hcl ⊢
  rw [hn2] at HU ⊢
  have HLA := hide hn
  have HLB := hide hn2
  clear hn hn2
  go_enter Try.func20, Try.ntmps20
  go_upto_region 1 with (fail)
  obtain ⟨W1, hW1⟩ : ∃ W1, (w.alloc (.cells #[.slice A n c, .int .i64 m1] 26)).alloc (.cells #[.slice B n2 d, .int .i64 m2] 26) = W1 := ⟨_, rfl⟩
  have hg1 : Gr w W1 := by rw [← hW1]; exact ((Gr.refl _).alloc _).alloc _
  have hb1 : Bl W1 w.heap.size 26 #[.slice A n c, .int .i64 m1] := by rw [← hW1]; exact (Bl.new _ _ _).gr ((Gr.refl _).alloc _)
  have hb2 : Bl W1 (w.heap.size + 1) 26 #[.slice B n2 d, .int .i64 m2] := by rw [← hW1]; have := Bl.new (w.alloc (.cells #[.slice A n c, .int .i64 m1] 26)) 26 #[.slice B n2 d, .int .i64 m2]; simpa using this
  rw [hW1]
  have m0 : W1.cell? ⟨w.heap.size, 0, none⟩ = some (.slice A n c) := hb1.cell 0
  have m1' : W1.cell? ⟨w.heap.size, 1, none⟩ = some (.int .i64 m1) := hb1.cell 1
  have n0 : W1.cell? ⟨w.heap.size + 1, 0, none⟩ = some (.slice B n2 d) := hb2.cell 0
  have n1 : W1.cell? ⟨w.heap.size + 1, 1, none⟩ = some (.int .i64 m2) := hb2.cell 1
  have HG1 := hide hg1
  have HB1 := hide hb1
  have HB2 := hide hb2
  clear hW1 hg1 hb1 hb2
  by_cases hm : m1 = m2
  · by_cases hnn : n = n2
    · subst hm hnn
      have HD := hide (show z = decide (a = b) by rw [← HZ.out, decide_eq_true rfl, Bool.true_and])
      go_wp2_with fail
      clear m0 m1' n0 n1
      go_loopw [5] (fun i wr => ∃ k : Nat, i = .int .i64 k ∧ k ≤ n ∧ Hid (Like k a b) ∧ Hid (Gr W1 wr)) (fun i _ => n - (intOf i).toNat)
      case atStart => exact ⟨0, rfl, by omega, fun i hi => absurd hi (by omega), Gr.refl _⟩
      case round =>
        obtain ⟨k, rfl, hk, HL, HR⟩ := hrel
        have hb1 := HB1.out.gr HR.out
        have hb2 := HB2.out.gr HR.out
        have m0 : wr.cell? ⟨w.heap.size, 0, none⟩ = some (.slice A n c) := hb1.cell 0
        have n0 : wr.cell? ⟨w.heap.size + 1, 0, none⟩ = some (.slice B n d) := hb2.cell 0
        clear hb1 hb2
        by_cases hltn : k < n
        · have hlt : k < a.length := by have := HLA.out; omega
          have hlt2 : k < b.length := by have := HLB.out; omega
          have hlt' : (k : Int) < (n : Int) := by omega
          obtain ⟨ad, c', p, e1, hp, a0, a1⟩ := (HV.out.gr (HG1.out.trans HR.out)).at_ hlt
          obtain ⟨bd, d', q, e2, hq, b0, b1⟩ := (HU.out.gr (HG1.out.trans HR.out)).at_ hlt2
          simp only [Value.slice.injEq, HLA.out, true_and] at e1
          simp only [Value.slice.injEq, HLB.out, true_and] at e2
          obtain ⟨rfl, rfl⟩ := e1
          obtain ⟨rfl, rfl⟩ := e2
          have HY := hide (fun e => HL.out.next hlt hlt2 e)
          have HN := hide (fun e => like_ne hlt hlt2 e)
          have hcl2 := HCL.out _ (List.getElem_mem hlt)
          generalize a[k] = x at a0 a1 HY HN hp hcl2
          generalize b[k] = y at b0 b1 HY HN hq
          clear hlt hlt2
          obtain ⟨xk, xl⟩ := x
          obtain ⟨yk, yl⟩ := y
          simp only at a0 a1 b0 b1 hp hq hcl2
          have HS := hide (fun W (h : VersX W p xl) (h' : VersX W q yl) => RefSameV_ok p q xl yl W h h' (by omega))
          have HP := hide hp
          have HQ := hide hq
          obtain ⟨pA, pc, hpe, _⟩ := hp.is
          obtain ⟨qA, qc, hqe, _⟩ := hq.is
          generalize xl.length = xn at hpe
          generalize yl.length = yn at hqe
          subst hpe hqe
          clear hp hq
          have hkk : xk = yk ∨ ¬ xk.toList = yk.toList := by
            by_cases h : xk.toList = yk.toList
            · exact .inl (list_inj h)
            · exact .inr h
          rcases hkk with rfl | hkk
          · have HC := hide (fun j => HS.out (wr.drewN j) (HP.out.gr ((Gr.refl _).drewN j)) (HQ.out.gr ((Gr.refl _).drewN j)))
            by_cases hxy : xl = yl
            · subst hxy
              have HL2 := hide (HY.out rfl)
              have ht : decide (xl = xl) = true := decide_eq_true rfl
              rw [ht] at HC
              clear HY HN HS ht
              go_wp2_with fail
              go_quiet (refine Calls.quiet_of (HC.out _))
              go_wp2_with fail
              go_roundw
              case rel => exact ⟨k + 1, by go_num, by omega, HL2, HR.out.drewN _⟩
              case measure => simp [intOf]; omega
            · have HL2 := hide (show z = false by rw [HD.out]; exact decide_eq_false (HN.out fun e => hxy (by simpa using e)))
              rw [decide_eq_false hxy] at HC
              clear HY HN HS hxy
              go_wp2_with fail
              go_quiet (refine Calls.quiet_of (HC.out _))
              go_wp2_with fail
              go_ret
              exact ⟨by rw [HL2.out]; rfl, HG1.out.trans (HR.out.drewN _)⟩
          · have HL2 := hide (show z = false by rw [HD.out]; exact decide_eq_false (HN.out fun e => hkk (by simp only [ChT.mk.injEq] at e; rw [e.1])))
            clear HY HN HS
            go_wp2_with fail
            go_quiet (fail)
            go_wp2_with fail
            go_ret
            exact ⟨by rw [HL2.out]; rfl, HG1.out.trans (HR.out.drewN _)⟩
        · obtain rfl : k = n := by omega
          have HE := hide (show z = true by rw [HD.out]; exact decide_eq_true (HL.out.all (by have := HLA.out; omega) (HLB.out.trans HLA.out.symm)))
          go_wp2_with fail
          go_ret
          exact ⟨by rw [HE.out]; rfl, HG1.out.trans HR.out⟩
    · have hnn' : ¬ (n : Int) = (n2 : Int) := by omega
      have HD := hide (show z = false by rw [← HZ.out, decide_eq_false (p := a = b) (fun e => hnn (by rw [← HLA.out, ← HLB.out, e])), Bool.and_false])
      go_wp2_with fail
      go_ret
      exact ⟨by rw [HD.out]; rfl, HG1.out⟩
  · have HD := hide (show z = false by rw [← HZ.out, decide_eq_false hm, Bool.false_and])
    go_wp2_with fail
    go_ret
    exact ⟨by rw [HD.out]; rfl, HG1.out⟩
end Go.Proofs.Ytbfbghfaeejicaa
