/-
  A row of numbers that the call owns, behind a pointer: what a heap of numbers is in memory; its Len, Less, Swap.
-/
import Derived.Test.YthpaoeiackbdoaaProg
import Derived.Test.YthpaoeiackbdoaaBaseM
import Derived.Test.YthpaoeiackbdoaaRegDet
import Derived.Test.YthpaoeiackbdoaaIntMem
namespace Go.Proofs.Ythpaoeiackbdoaa
open Go Go.RowKit
set_option maxRecDepth 100000

/-- three worlds, one behind the other -/
def at2 (a b c : World) : Nat → World
  | 0 => a
  | 1 => b
  | _ => c
theorem det_store {P : Program} {ops : Array Oper} {C : Nat → World → Prop} {ws : List Nat} {Q : Act → Nat → Prop} {o : Oper} {rest : List Oper} {i m : Nat} {a : Act} {t : TypeId} {x y : Operand} {p u : Value}
    (hi : ws.contains i = true) (hg : o.guard = none) (ho : o.op = .store t x y) (hx : a.eval x = p) (hy : a.eval y = u)
    (hc : ∀ w, C m w → ∃ w', (Instr.storeAt t p u).run P w = .ok () w' ∧ C (m + 1) w') (hK : Det.wpDet P ops C ws Q rest (i + 1) (a.put o.dst undef) (m + 1)) : Det.wpDet P ops C ws Q (o :: rest) i a m := by
  refine Det.write_ hi hg (fun w hw => ?_) hK
  obtain ⟨w', hr, h2⟩ := hc w hw
  refine ⟨w', ?_, h2⟩
  unfold execOp
  simp only [ho, hx, hy, hr, Sem.run_bind, Result.andThen_ok, Sem.run_pure]

def swapL (l : List Int) (i j : Nat) : List Int := if h : i < l.length ∧ j < l.length then (l.set i l[j]).set j l[i] else l
theorem swapL_eq {l : List Int} {i j : Nat} (hi : i < l.length) (hj : j < l.length) : swapL l i j = (l.set i l[j]).set j l[i] := by
  unfold swapL
  rw [dif_pos ⟨hi, hj⟩]
theorem swapL_len (l : List Int) (i j : Nat) : (swapL l i j).length = l.length := by
  unfold swapL
  split <;> simp

theorem Len_ok (w : World) (B : Nat) (v : Value) (l : List Int) (hv : OwnI w B v l) :
    Calls Try.prog 93 #[v] w fun e w' => e = .returned (.int .i64 l.length) ∧ w' = w := by
  obtain ⟨A, c, rfl, _⟩ := hv.is
  go_enter Try.func93, Try.ntmps93
  go_wp2_with fail
  go_ret
  exact ⟨rfl, rfl⟩

theorem Less_ok (w : World) (B : Nat) (v : Value) (l : List Int) (i j : Nat) (hv : OwnI w B v l) (hi : i < l.length) (hj : j < l.length) :
    Calls Try.prog 113 #[v, .int .i64 i, .int .i64 j] w fun e w' => e = .returned (.bool (decide (l[i] < l[j]))) ∧ ∃ n, w' = w.drewN n := by
  obtain ⟨g, c, rfl, hB, hg, hc, hm, ho⟩ := hv.block_ (by omega)
  have c1 : w.cell? ⟨g, i, none⟩ = some (iv l[i]) := by rw [ho.cellAt i (by omega), ivs_at hi]
  have c2 : w.cell? ⟨g, j, none⟩ = some (iv l[j]) := by rw [ho.cellAt j (by omega), ivs_at hj]
  have hi' : (i : Int) < (l.length : Int) := by omega
  have hj' : (j : Int) < (l.length : Int) := by omega
  clear hv ho
  generalize l[i] = x at c1
  generalize l[j] = y at c2
  unfold iv at c1 c2
  go_enter Try.func113, Try.ntmps113
  go_wp2_with fail
  go_quiet (fail)
  go_wp2_with fail
  go_ret
  exact ⟨by simp, _, rfl⟩

set_option maxHeartbeats 1000000 in
theorem Swap_ok (w : World) (B : Nat) (v : Value) (l : List Int) (i j : Nat) (hv : OwnI w B v l) (hi : i < l.length) (hj : j < l.length) :
    Calls Try.prog 114 #[v, .int .i64 i, .int .i64 j] w fun e w' => e = .returned (.tuple #[]) ∧ OwnI w' B v (swapL l i j) ∧ w.grownBy w' v.ownBlock := by
  obtain ⟨g, c, rfl, hB, hg, hc, hm, ho⟩ := hv.block_ (by omega)
  have c1 : w.cell? ⟨g, i, none⟩ = some (iv l[i]) := by rw [ho.cellAt i (by omega), ivs_at hi]
  have c2 : w.cell? ⟨g, j, none⟩ = some (iv l[j]) := by rw [ho.cellAt j (by omega), ivs_at hj]
  have f1 := ho.frozenAt i
  obtain ⟨o1, g1⟩ := ho.stored i (iv l[j])
  have c3 : (w.setCell ⟨g, i, none⟩ (iv l[j])).cell? ⟨g, j, none⟩ = some (iv ((l.set i l[j])[j]'(by simpa using hj))) := by
    rw [o1.cellAt j (by omega), ← ivs_set, ivs_at (by simpa using hj)]
  have f2 := o1.frozenAt j
  obtain ⟨o2, g2⟩ := o1.stored j (iv l[i])
  have HO : Hid (OwnI ((w.setCell ⟨g, i, none⟩ (iv l[j])).setCell ⟨g, j, none⟩ (iv l[i])) B (.slice (some ⟨g, 0, none⟩) l.length c) (swapL l i j)) := by
    unfold Hid OwnI OwnV
    rw [swapL_eq hi hj, ivs_set, ivs_set]
    simpa [ivs_len] using o2
  have HG : Hid (w.grownBy ((w.setCell ⟨g, i, none⟩ (iv l[j])).setCell ⟨g, j, none⟩ (iv l[i])) (some g)) := 
    ⟨g2.os.trans g1.os, g2.tape.trans g1.tape, g2.output.trans g1.output, Nat.le_trans g1.size g2.size, fun k hk hne => (g2.block k (Nat.lt_of_lt_of_le hk g1.size) hne).trans (g1.block k hk hne)⟩
  clear o1 o2 g1 g2 ho hv
  generalize l[i] = x at *
  generalize l[j] = y at *
  go_enter Try.func114, Try.ntmps114
  go_wp2_with fail
  refine Det.wp_region_det [13, 15] (fun m w' => w' = at2 w.drew (w.drew.setCell ⟨g, i, none⟩ (iv y)) ((w.drew.setCell ⟨g, i, none⟩ (iv y)).setCell ⟨g, j, none⟩ (iv x)) m) (by kernel_rfl) (by kernel_rfl) (by kernel_rfl) rfl ?_
  refine Det.pure rfl rfl (.slice (some ⟨g, 0, none⟩) l.length c) (fun _ => rfl) ?_
  simp only [Act.put, List.setIfInBounds_toArray, List.set_cons_zero, List.set_cons_succ]
  refine Det.pure rfl rfl (.int .i64 i) (fun _ => rfl) ?_
  simp only [Act.put, List.setIfInBounds_toArray, List.set_cons_zero, List.set_cons_succ]
  refine Det.pure rfl rfl (.slice (some ⟨g, 0, none⟩) l.length c) (fun _ => rfl) ?_
  simp only [Act.put, List.setIfInBounds_toArray, List.set_cons_zero, List.set_cons_succ]
  refine Det.pure rfl rfl (.int .i64 j) (fun _ => rfl) ?_
  simp only [Act.put, List.setIfInBounds_toArray, List.set_cons_zero, List.set_cons_succ]
  refine Det.pure rfl rfl (.slice (some ⟨g, 0, none⟩) l.length c) (fun _ => rfl) ?_
  simp only [Act.put, List.setIfInBounds_toArray, List.set_cons_zero, List.set_cons_succ]
  refine Det.pure rfl rfl (.int .i64 j) (fun _ => rfl) ?_
  simp only [Act.put, List.setIfInBounds_toArray, List.set_cons_zero, List.set_cons_succ]
  refine Det.index (k := .i64) (j := j) rfl rfl rfl Try.underlying119 size_int rfl rfl hj ?_
  rw [addr_at]
  simp only [Act.put, List.setIfInBounds_toArray, List.set_cons_zero, List.set_cons_succ]
  refine Det.load (u := iv y) rfl rfl rfl 0 0 (by kernel_rfl) agg_i rfl (fun m' _ hm w hw => by
    obtain rfl : m' = 0 := by omega
    rw [hw]; exact c2) ?_
  simp only [Act.put, List.setIfInBounds_toArray, List.set_cons_zero, List.set_cons_succ]
  refine Det.pure rfl rfl (.slice (some ⟨g, 0, none⟩) l.length c) (fun _ => rfl) ?_
  simp only [Act.put, List.setIfInBounds_toArray, List.set_cons_zero, List.set_cons_succ]
  refine Det.pure rfl rfl (.int .i64 i) (fun _ => rfl) ?_
  simp only [Act.put, List.setIfInBounds_toArray, List.set_cons_zero, List.set_cons_succ]
  refine Det.index (k := .i64) (j := i) rfl rfl rfl Try.underlying119 size_int rfl rfl hi ?_
  rw [addr_at]
  simp only [Act.put, List.setIfInBounds_toArray, List.set_cons_zero, List.set_cons_succ]
  refine Det.load (u := iv x) rfl rfl rfl 0 0 (by kernel_rfl) agg_i rfl (fun m' _ hm w hw => by
    obtain rfl : m' = 0 := by omega
    rw [hw]; exact c1) ?_
  simp only [Act.put, List.setIfInBounds_toArray, List.set_cons_zero, List.set_cons_succ]
  refine Det.index (k := .i64) (j := i) rfl rfl rfl Try.underlying119 size_int rfl rfl hi ?_
  rw [addr_at]
  simp only [Act.put, List.setIfInBounds_toArray, List.set_cons_zero, List.set_cons_succ]
  refine det_store (p := .pointer (some ⟨g, i, none⟩)) (u := iv y) rfl rfl rfl rfl rfl (fun w1 hw => by subst hw; exact ⟨_, run_store1 size_int c1 f1 rfl rfl rfl, rfl⟩) ?_
  simp only [Act.put]
  refine Det.index (k := .i64) (j := j) rfl rfl rfl Try.underlying119 size_int rfl rfl hj ?_
  rw [addr_at]
  simp only [Act.put, List.setIfInBounds_toArray, List.set_cons_zero, List.set_cons_succ]
  refine det_store (p := .pointer (some ⟨g, j, none⟩)) (u := iv x) rfl rfl rfl rfl rfl (fun w1 hw => by subst hw; exact ⟨_, run_store1 size_int c3 f2 rfl rfl rfl, rfl⟩) ?_
  simp only [Act.put]
  refine Det.nil ?_
  intro w' hw'
  subst hw'
  go_wp2_with fail
  go_end0
  have h := HG.out
  exact ⟨rfl, HO.out, ⟨h.os, h.tape, h.output, h.size, h.block⟩⟩

end Go.Proofs.Ythpaoeiackbdoaa
