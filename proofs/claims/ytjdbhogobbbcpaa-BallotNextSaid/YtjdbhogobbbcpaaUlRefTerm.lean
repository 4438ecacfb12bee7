/-
  The document's Term, by its contract.
-/
import Derived.Test.YtjdbhogobbbcpaaUlMath
namespace Go.Proofs.Ytjdbhogobbbcpaa
open Go Go.RowKit TxnMath KeyMath MsgMath
set_option maxRecDepth 100000

theorem RefTerm_ok (v : Value) (l : List EntT) (i : Int) (w : World) (hv : EntsX Any w v l) (hl : l.length ≤ 1000000000) : Calls Try.prog 18 #[v, .int .i64 i] w fun e w' => e = .returned (.int .i64 (termL l i)) ∧ w' = w := by
  have HV := hide hv
  obtain ⟨A, c, rfl⟩ := hv.is
  clear hv
  by_cases h1 : i < 1
  · rw [term_no (there_no1 (by omega))]
    go_enter Try.func18, Try.ntmps18
    go_wp2_with fail
    go_ret
    exact ⟨rfl, rfl⟩
  by_cases h2 : (l.length : Int) < i
  · rw [term_no (there_no2 (by omega))]
    go_enter Try.func18, Try.ntmps18
    go_wp2_with fail
    go_ret
    exact ⟨rfl, rfl⟩
  obtain ⟨k, rfl⟩ : ∃ k : Nat, i = (k : Int) + 1 := ⟨(i - 1).toNat, by omega⟩
  have hk : k < l.length := by omega
  rw [term_at hk]
  obtain ⟨ad, c', p, e1, _, a0, _⟩ := HV.out.ent hk
  simp only [Value.slice.injEq, true_and] at e1
  obtain ⟨rfl, rfl⟩ := e1
  have e2 : (k : Int) + 1 - 1 = k := by omega
  have w1 : IntKind.i64.wrap (k : Int) = k := IntWalk.i64_in _ (by omega)
  have hkl : (k : Int) < (l.length : Int) := by omega
  generalize l[k].term = tm at a0 ⊢
  go_enter Try.func18, Try.ntmps18
  go_wp2_with fail
  go_ret
  exact ⟨rfl, rfl⟩

end Go.Proofs.Ytjdbhogobbbcpaa
