/-
  Rows of numbers that a statement builds itself.
-/
import Derived.Test.YtjdbhogobbbcpaaBallotBegun
import Derived.Test.YtjdbhogobbbcpaaBallotArgs
namespace Go.Proofs.Ytjdbhogobbbcpaa
open Go Go.RowKit BalMath TxnMath KeyMath MsgMath
set_option maxRecDepth 100000

/-- 'append(m, x)' -/
theorem wpList_pushI {ops : Array Oper} {rest : List Oper} {o : Oper} {a : Act} {Q : Exit → Act → World → Prop} (hgd : o.guard = none) (s x : Operand)
    (ho : o.op = .call { callee := .builtin .append, args := #[s, x], argTypes := #[25, 25] }) {w0 w : World} {v : Value} {l : List Int} (n : Int)
    (hs : a.eval s = v) (hown : OwnI w w0.heap.size v l) (hgr : Gr w0 w) (hx : a.eval x = .slice (some ⟨w.heap.size, 0, none⟩) 1 1) (hl : l.length ≤ 1000)
    (h : ∀ v' w', OwnI w' w0.heap.size v' (l ++ [n]) → Gr w0 w' → wpList Try.prog ops Q rest (a.put o.dst v') w') : wpList Try.prog ops Q (o :: rest) a (w.alloc (.cells #[.int .i64 n] 3)) := by
  obtain ⟨i0, hi, hz0, hz1, hz2⟩ := info_i
  refine wpList_pushV hgd s x 25 ho 3 i0 _ 8 Try.underlying25 hi hz0 hz1 hz2 rfl (u := .int .i64 n) rfl hs hown hgr hx (by rw [ivs_len]; unfold maxLen; omega) (by rw [ivs_len]; omega) ?_
  intro v' w' h1 h2 _
  exact h v' w' (by unfold OwnI; rw [ivs_app]; exact h1) h2
/-- 'append([]int{}, m...)' -/
theorem wpList_copyI {ops : Array Oper} {rest : List Oper} {o : Oper} {a : Act} {Q : Exit → Act → World → Prop} (hgd : o.guard = none) (s x : Operand)
    (ho : o.op = .call { callee := .builtin .append, args := #[s, x], argTypes := #[25, 25] }) {w : World} {v : Value} {l : List Int}
    (hs : a.eval s = .slice (some ⟨w.heap.size, 0, none⟩) 0 0) (hv : IntsX w v l) (hx : a.eval x = v) (hl : l.length ≤ 1000) (hl0 : 0 < l.length)
    (h : ∀ v' w', OwnI w' w.heap.size v' l → Gr w w' → wpList Try.prog ops Q rest (a.put o.dst v') w') : wpList Try.prog ops Q (o :: rest) a (w.alloc (.cells #[] 3)) := by
  obtain ⟨i0, hi, hz0, hz1, hz2⟩ := info_i
  have hv' := hv.gr ((Gr.refl w).alloc (.cells #[] 3))
  obtain ⟨A, c, rfl, h2⟩ := hv'
  rw [ivs_len] at hx
  obtain ⟨ad, rfl, _⟩ := h2.rd 0 (by rw [ivs_len]; exact hl0)
  refine wpList_append_own_at _ hgd s x 25 ho w.heap.size 3 i0 _ 1 8 Try.underlying25 hi hz0 hz1 hz2 rfl (by decide) _ 0 [] hs (World.ownsRow_lit (size := 1) w #[] 0 (Nat.le_refl _) (by unfold maxLen; omega) rfl) ad l.length c (ivs l) hx (by rw [ivs_len]; omega) (fun j u hj => ?_)
    (by intro y hy; obtain ⟨n, _, rfl⟩ := List.mem_map.1 hy; rfl) (by unfold maxLen; omega) (by omega) (by simp) ?_
  · obtain ⟨hj', rfl⟩ := List.getElem?_eq_some_iff.1 hj
    obtain ⟨ad', e1, e2⟩ := h2.rd j hj'
    injection e1 with e1
    subst e1
    exact e2
  · intro v' w' h3 h4 _ _
    refine h v' w' (by unfold OwnI OwnV; rw [ivs_len]; simpa using h3) (((Gr.refl w).alloc _).below.grown h4 (by simp) fun k hk => ?_)
    simp [Value.ownBlock] at hk
    omega

/-- the numbers' values -/
def numL (l : List UInt8) (f : Nat → Nat) : List Int := l.map fun b => ((f b.toNat : Nat) : Int)
theorem numL_len (l : List UInt8) (f : Nat → Nat) : (numL l f).length = l.length := by simp [numL]
theorem numL_more {l : List UInt8} {f : Nat → Nat} {i : Nat} (hi : i < l.length) : numL (l.take (i + 1)) f = numL (l.take i) f ++ [((f l[i].toNat : Nat) : Int)] := by
  unfold numL
  rw [List.take_succ_eq_append_getElem hi, List.map_append]
  rfl
theorem numL_nn (l : List UInt8) (f : Nat → Nat) : ∀ x ∈ numL l f, 0 ≤ x := fun x hx => by
  obtain ⟨b, _, rfl⟩ := List.mem_map.1 hx
  omega
theorem gtN_more {l : List Int} {x : Int} {k : Nat} (hk : k < l.length) : gtN (l.take (k + 1)) x = gtN (l.take k) x + (if x < l[k] then 1 else 0) := by
  unfold gtN
  rw [List.take_succ_eq_append_getElem hk, cnt_push]
  simp [one]
theorem gtN_le (l : List Int) (x : Int) : gtN l x ≤ l.length := List.countP_le_length
theorem geN_set {l : List Int} {j : Nat} {y : Int} (hj : j < l.length) (hy : l[j] ≤ y) (z : Int) : geN l z ≤ geN (l.set j y) z := by
  have h := cnt_set (fun q => decide (z ≤ q)) y hj
  unfold geN
  rw [at_of hj] at h
  unfold one at h
  by_cases h1 : z ≤ l[j]
  · rw [if_pos (by simpa using h1), if_pos (by simp; omega)] at h; omega
  · rw [if_neg (by simpa using h1)] at h; omega
end Go.Proofs.Ytjdbhogobbbcpaa
