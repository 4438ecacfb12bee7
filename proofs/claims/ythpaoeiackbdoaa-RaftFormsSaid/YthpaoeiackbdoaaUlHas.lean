/-
  ulog's there, Term, Has, by their contracts.
-/
import Derived.Test.YthpaoeiackbdoaaUlMath
namespace Go.Proofs.Ythpaoeiackbdoaa
open Go Go.RowKit TxnMath KeyMath MsgMath
set_option maxRecDepth 100000

theorem there_ok (v : Value) (l : List EntT) (i : Int) (w : World) (hv : EntsX Any w v l) : Calls Try.prog 89 #[v, .int .i64 i] w fun e w' => e = .returned (.bool (thereL l i)) ∧ w' = w := by
  obtain ⟨A, c, rfl⟩ := hv.is
  clear hv
  by_cases h1 : 1 ≤ i
  · by_cases h2 : i ≤ (l.length : Int)
    · rw [there_yes h1 h2]
      go_enter Try.func89, Try.ntmps89
      go_wp2_with fail
      go_ret
      exact ⟨rfl, rfl⟩
    · rw [there_no2 h2]
      go_enter Try.func89, Try.ntmps89
      go_wp2_with fail
      go_ret
      exact ⟨rfl, rfl⟩
  · rw [there_no1 h1]
    go_enter Try.func89, Try.ntmps89
    go_wp2_with fail
    go_ret
    exact ⟨rfl, rfl⟩

theorem Term_ok (v : Value) (l : List EntT) (i : Int) (w : World) (hv : EntsX Any w v l) (hl : l.length ≤ 1000000000) : Calls Try.prog 85 #[v, .int .i64 i] w fun e w' => e = .returned (.int .i64 (termL l i)) ∧ w' = w := by
  have HT := hide (there_ok v l i w hv)
  have HV := hide hv
  obtain ⟨A, c, rfl⟩ := hv.is
  clear hv
  obtain ⟨b, hb⟩ : ∃ b, thereL l i = b := ⟨_, rfl⟩
  rw [hb] at HT
  cases b
  · rw [term_no hb]
    clear hb
    go_enter Try.func85, Try.ntmps85
    go_wp2_with fail
    refine HT.out.mono ?_
    rintro e w1 ⟨rfl, rfl⟩
    go_wp2_with fail
    go_ret
    exact ⟨rfl, rfl⟩
  · obtain ⟨h1, h2⟩ := there_at hb
    obtain ⟨k, rfl⟩ : ∃ k : Nat, i = (k : Int) + 1 := ⟨(i - 1).toNat, by omega⟩
    have hk : k < l.length := by omega
    rw [term_at hk]
    obtain ⟨ad, c', p, e1, _, a0, _⟩ := HV.out.ent hk
    simp only [Value.slice.injEq, true_and] at e1
    obtain ⟨rfl, rfl⟩ := e1
    have e2 : (k : Int) + 1 - 1 = k := by omega
    have w1 : IntKind.i64.wrap (k : Int) = k := IntWalk.i64_in _ (by omega)
    have hkl : (k : Int) < (l.length : Int) := by omega
    generalize l[k].term = tm at a0 ⊢
    clear hb h1 h2
    go_enter Try.func85, Try.ntmps85
    go_wp2_with fail
    refine HT.out.mono ?_
    rintro e w1 ⟨rfl, rfl⟩
    go_wp2_with fail
    go_ret
    exact ⟨rfl, rfl⟩

theorem Has_ok (v : Value) (l : List EntT) (i t : Int) (w : World) (hv : EntsX Any w v l) (hl : l.length ≤ 1000000000) : Calls Try.prog 81 #[v, .int .i64 i, .int .i64 t] w fun e w' => e = .returned (.bool (hasL l i t)) ∧ w' = w := by
  have HT := hide (there_ok v l i w hv)
  have HM := hide (Term_ok v l i w hv hl)
  obtain ⟨A, c, rfl⟩ := hv.is
  clear hv
  by_cases h0 : i = 0
  · subst h0
    rw [show hasL l 0 t = true by simp [hasL]]
    clear HT HM
    go_enter Try.func81, Try.ntmps81
    go_wp2_with fail
    go_ret
    exact ⟨rfl, rfl⟩
  · have hi : (i == 0) = false := beq_no h0
    rw [show hasL l i t = (thereL l i && decide (termL l i = t)) by simp [hasL, h0]]
    generalize thereL l i = b at HT ⊢
    generalize termL l i = tm at HM ⊢
    go_enter Try.func81, Try.ntmps81
    cases b
    · clear HM
      go_wp2_with fail
      refine HT.out.mono ?_
      rintro e w1 ⟨rfl, rfl⟩
      go_wp2_with fail
      go_ret
      exact ⟨rfl, rfl⟩
    · go_wp2_with fail
      refine HT.out.mono ?_
      rintro e w1 ⟨rfl, rfl⟩
      go_wp2_with fail
      refine HM.out.mono ?_
      rintro e w1 ⟨rfl, rfl⟩
      go_wp2_with fail
      go_ret
      exact ⟨by simp [Bool.beq_eq_decide_eq], rfl⟩

end Go.Proofs.Ythpaoeiackbdoaa
