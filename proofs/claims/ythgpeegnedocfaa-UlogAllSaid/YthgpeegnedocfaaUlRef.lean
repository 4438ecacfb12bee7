/-
  The document's Term, Has, Newer, by their contracts.
-/
import Derived.Test.YthgpeegnedocfaaUlMath
namespace Go.Proofs.Ythgpeegnedocfaa
open Go Go.RowKit TxnMath KeyMath MsgMath
set_option maxRecDepth 100000

theorem RefTerm_ok (v : Value) (l : List EntT) (i : Int) (w : World) (hv : EntsX Any w v l) (hl : l.length ≤ 1000000000) : Calls Try.prog 12 #[v, .int .i64 i] w fun e w' => e = .returned (.int .i64 (termL l i)) ∧ w' = w := by
  have HV := hide hv
  obtain ⟨A, c, rfl⟩ := hv.is
  clear hv
  by_cases h1 : i < 1
  · rw [term_no (there_no1 (by omega))]
    go_enter Try.func12, Try.ntmps12
    go_wp2_with fail
    go_ret
    exact ⟨rfl, rfl⟩
  by_cases h2 : (l.length : Int) < i
  · rw [term_no (there_no2 (by omega))]
    go_enter Try.func12, Try.ntmps12
    go_wp2_with fail
    go_ret
    exact ⟨rfl, rfl⟩
  obtain ⟨k, rfl⟩ : ∃ k : Nat, i = (k : Int) + 1 := ⟨(i - 1).toNat, by omega⟩
  have hk : k < l.length := by omega
  rw [term_at hk]
  obtain ⟨ad, c', p, e1, _, a0, _⟩ := HV.out.ent hk
  simp only [Value.slice.injEq, true_and] at e1
  obtain ⟨rfl, rfl⟩ := e1
  have e2 : (k : Int) + 1 - 1 = k := by omega
  have w1 : IntKind.i64.wrap (k : Int) = k := IntWalk.i64_in _ (by omega)
  have hkl : (k : Int) < (l.length : Int) := by omega
  generalize l[k].term = tm at a0 ⊢
  go_enter Try.func12, Try.ntmps12
  go_wp2_with fail
  go_ret
  exact ⟨rfl, rfl⟩

theorem RefHas_ok (v : Value) (l : List EntT) (i t : Int) (w : World) (hv : EntsX Any w v l) (hl : l.length ≤ 1000000000) : Calls Try.prog 14 #[v, .int .i64 i, .int .i64 t] w fun e w' => e = .returned (.bool (hasL l i t)) ∧ w' = w := by
  have HV := hide hv
  obtain ⟨A, c, rfl⟩ := hv.is
  clear hv
  by_cases h0 : i = 0
  · subst h0
    rw [show hasL l 0 t = true by simp [hasL]]
    go_enter Try.func14, Try.ntmps14
    go_wp2_with fail
    go_ret
    exact ⟨rfl, rfl⟩
  have hi : (i == 0) = false := beq_no h0
  rw [show hasL l i t = (thereL l i && decide (termL l i = t)) by simp [hasL, h0]]
  by_cases h1 : 1 ≤ i
  rotate_left
  · rw [there_no1 h1, Bool.false_and]
    go_enter Try.func14, Try.ntmps14
    go_wp2_with fail
    go_ret
    exact ⟨rfl, rfl⟩
  by_cases h2 : i ≤ (l.length : Int)
  rotate_left
  · rw [there_no2 h2, Bool.false_and]
    go_enter Try.func14, Try.ntmps14
    go_wp2_with fail
    go_ret
    exact ⟨rfl, rfl⟩
  rw [there_yes h1 h2, Bool.true_and]
  obtain ⟨k, rfl⟩ : ∃ k : Nat, i = (k : Int) + 1 := ⟨(i - 1).toNat, by omega⟩
  have hk : k < l.length := by omega
  rw [term_at hk]
  obtain ⟨ad, c', p, e1, _, a0, _⟩ := HV.out.ent hk
  simp only [Value.slice.injEq, true_and] at e1
  obtain ⟨rfl, rfl⟩ := e1
  have e2 : (k : Int) + 1 - 1 = k := by omega
  have w1 : IntKind.i64.wrap (k : Int) = k := IntWalk.i64_in _ (by omega)
  have hkl : (k : Int) < (l.length : Int) := by omega
  generalize l[k].term = tm at a0 ⊢
  clear h0
  go_enter Try.func14, Try.ntmps14
  go_wp2_with fail
  go_ret
  exact ⟨by simp [Bool.beq_eq_decide_eq], rfl⟩

theorem RefNewer_ok (v : Value) (l : List EntT) (i t : Int) (w : World) (hv : EntsX Any w v l) (hl : l.length ≤ 1000000000) : Calls Try.prog 19 #[v, .int .i64 i, .int .i64 t] w fun e w' => e = .returned (.bool (newerL l i t)) ∧ w' = w := by
  have HM := hide (RefTerm_ok v l l.length w hv hl)
  obtain ⟨A, c, rfl⟩ := hv.is
  clear hv
  unfold newerL
  generalize termL l l.length = tm at HM ⊢
  by_cases h1 : tm < t
  · rw [show (decide (tm < t) || (decide (t = tm) && decide ((l.length : Int) ≤ i))) = true by simp [h1]]
    go_enter Try.func19, Try.ntmps19
    go_wp2_with fail
    refine HM.out.mono ?_
    rintro e w1 ⟨rfl, rfl⟩
    go_wp2_with fail
    go_ret
    exact ⟨rfl, rfl⟩
  · rw [show (decide (tm < t) || (decide (t = tm) && decide ((l.length : Int) ≤ i))) = (decide (t = tm) && decide ((l.length : Int) ≤ i)) by simp [h1]]
    by_cases h2 : t = tm
    · subst h2
      rw [show (decide (t = t) && decide ((l.length : Int) ≤ i)) = decide ((l.length : Int) ≤ i) by simp]
      go_enter Try.func19, Try.ntmps19
      go_wp2_with fail
      refine HM.out.mono ?_
      rintro e w1 ⟨rfl, rfl⟩
      go_wp2_with fail
      go_ret
      exact ⟨by simp, rfl⟩
    · have hb : (t == tm) = false := beq_no h2
      rw [show (decide (t = tm) && decide ((l.length : Int) ≤ i)) = false by simp [h2]]
      go_enter Try.func19, Try.ntmps19
      go_wp2_with fail
      refine HM.out.mono ?_
      rintro e w1 ⟨rfl, rfl⟩
      go_wp2_with fail
      go_ret
      exact ⟨by simp [h1], rfl⟩

end Go.Proofs.Ythgpeegnedocfaa
