/-
  Numbers in memory: a row of the call's own (OwnI), a slice that reads so (IntsX, BoolsX). No function of the program.
-/
import Derived.Test.YthpaoeiackbdoaaProg
import Derived.Test.YthpaoeiackbdoaaMineV
namespace Go.Proofs.Ythpaoeiackbdoaa
open Go Go.RowKit
set_option maxRecDepth 100000

def iv (n : Int) : Value := .int .i64 n
def ivs (l : List Int) : List Value := l.map iv
theorem ivs_len (l : List Int) : (ivs l).length = l.length := by simp [ivs]
theorem ivs_app (l r : List Int) : ivs (l ++ r) = ivs l ++ ivs r := by simp [ivs]
theorem ivs_at {l : List Int} {i : Nat} (h : i < l.length) : (ivs l)[i]? = some (iv l[i]) := by simp [ivs, h]
theorem ivs_set (l : List Int) (i : Nat) (n : Int) : ivs (l.set i n) = (ivs l).set i (iv n) := by simp [ivs]

/-- numbers that the call owns -/
def OwnI (w : World) (B : Nat) (v : Value) (l : List Int) : Prop := OwnV 3 w B v (ivs l)
theorem OwnI.gr {w w' : World} {B : Nat} {v : Value} {l : List Int} (h : OwnI w B v l) (hg : Gr w w') : OwnI w' B v l := OwnV.gr h hg
theorem OwnI.none_ (w : World) (B : Nat) : OwnI w B (.slice none 0 0) [] := OwnV.none_ w B
theorem OwnI.drew {w : World} {B : Nat} {v : Value} {l : List Int} (h : OwnI w B v l) : OwnI w.drew B v l := h
/-- its block -/
theorem OwnI.block_ {w : World} {B : Nat} {v : Value} {l : List Int} (h : OwnI w B v l) (hl : 0 < l.length) : ∃ g c, v = .slice (some ⟨g, 0, none⟩) l.length c ∧ B ≤ g ∧ g < w.heap.size ∧ l.length ≤ c ∧ c ≤ maxLen ∧
    w.ownsRow B 3 1 (.slice (some ⟨g, 0, none⟩) l.length c) l.length (ivs l) := by
  unfold OwnI OwnV at h
  rw [ivs_len] at h
  rcases h.2 with ⟨rfl, hn⟩ | ⟨g, cap, cur, rfl, hb, hg, hnc, hm, hs, ht⟩
  · omega
  · exact ⟨g, cap, rfl, hb, (World.ownsRow.lt h g rfl).2, hnc, hm, h⟩
theorem OwnI.is {w : World} {B : Nat} {v : Value} {l : List Int} (h : OwnI w B v l) : ∃ A c, v = .slice A l.length c ∧ l.length ≤ c := by
  obtain ⟨A, c, h1, h2, _⟩ := OwnV.is h
  rw [ivs_len] at h1 h2
  exact ⟨A, c, h1, h2⟩

/-- a cell that is a whole variable is stored -/
theorem run_store1 {P : Program} {w : World} {t : TypeId} {ad : Addr} {u v : Value} (hs : ∀ w, (sizeOf t).run P w = .ok 1 w) (hc : w.cell? ad = some u) (hf : w.frozen? ad = false) (hv : v.oneCell' = true) (hvc : v.cells = #[v]) (had : ad.add 0 = ad) :
    (Instr.storeAt t (.pointer (some ad)) v).run P w = .ok () (w.setCell ad v) := by
  have h1 : (store ad v .plain).run P w = .ok () (w.setCell ad v) := by
    rw [run_store P w ad v _ hv]
    simp [hc, hf]
  simp [Instr.storeAt, Instr.sureAddr, storeVar, hs, hvc, storeCells, had, h1]

theorem addr_at (g j : Nat) : (⟨g, 0, none⟩ : Addr).add j = ⟨g, j, none⟩ := by unfold Addr.add; split <;> simp_all
theorem agg_i : ∀ w, (isAgg 3).run Try.prog w = .ok false w := fun w => by kernel_rfl
theorem size_int : ∀ w, (sizeOf 3).run Try.prog w = .ok 1 w := fun w => by kernel_rfl

/-- a slice that reads as these values -/
def ValX (w : World) (v : Value) (xs : List Value) : Prop := ∃ A c, v = .slice A xs.length c ∧ Mine.Vs w A c xs
theorem ValX.gr {w w' : World} {v : Value} {xs : List Value} (h : ValX w v xs) (hg : Gr w w') : ValX w' v xs := by
  obtain ⟨A, c, h1, h2⟩ := h
  exact ⟨A, c, h1, h2.gr hg⟩
def IntsX (w : World) (v : Value) (l : List Int) : Prop := ValX w v (ivs l)
theorem IntsX.gr {w w' : World} {v : Value} {l : List Int} (h : IntsX w v l) (hg : Gr w w') : IntsX w' v l := ValX.gr h hg
theorem OwnI.ints {w : World} {B : Nat} {v : Value} {l : List Int} (h : OwnI w B v l) : IntsX w v l := by
  obtain ⟨A, c, rfl, _⟩ := OwnI.is h
  exact ⟨A, c, by rw [ivs_len], Mine.vs_own h⟩
theorem IntsX.is {w : World} {v : Value} {l : List Int} (h : IntsX w v l) : ∃ A c, v = .slice A l.length c ∧ (l.length : Int) ≤ (c : Int) ∧ ∀ j (hj : j < l.length), ∃ ad, A = some ad ∧ w.cell? (ad.add j) = some (iv l[j]) := by
  obtain ⟨A, c, h1, h2⟩ := h
  rw [ivs_len] at h1
  refine ⟨A, c, h1, by have := h2.le; rw [ivs_len] at this; omega, fun j hj => ?_⟩
  obtain ⟨ad, h3, h4⟩ := h2.rd j (by rw [ivs_len]; exact hj)
  exact ⟨ad, h3, by rw [h4]; simp [ivs]⟩
def bvals (l : List Bool) : List Value := l.map .bool
theorem bvals_len (l : List Bool) : (bvals l).length = l.length := by simp [bvals]
def BoolsX (w : World) (v : Value) (l : List Bool) : Prop := ValX w v (bvals l)
theorem BoolsX.gr {w w' : World} {v : Value} {l : List Bool} (h : BoolsX w v l) (hg : Gr w w') : BoolsX w' v l := ValX.gr h hg
theorem BoolsX.is {w : World} {v : Value} {l : List Bool} (h : BoolsX w v l) : ∃ A c, v = .slice A l.length c ∧ ∀ j (hj : j < l.length), ∃ ad, A = some ad ∧ w.cell? (ad.add j) = some (.bool l[j]) := by
  obtain ⟨A, c, h1, h2⟩ := h
  rw [bvals_len] at h1
  refine ⟨A, c, h1, fun j hj => ?_⟩
  obtain ⟨ad, h3, h4⟩ := h2.rd j (by rw [bvals_len]; exact hj)
  exact ⟨ad, h3, by rw [h4]; simp [bvals]⟩

theorem info_i : ∃ i, Try.prog.info? 3 = some i ∧ i.zero = some (.int .i64 0) ∧ i.size = 1 ∧ i.bytes = 8 := info_parts (by kernel_rfl)

/-- 'append(m, x)' -/
theorem wpList_pushI {ops : Array Oper} {rest : List Oper} {o : Oper} {a : Act} {Q : Exit → Act → World → Prop} (hgd : o.guard = none) (s x : Operand)
    (ho : o.op = .call { callee := .builtin .append, args := #[s, x], argTypes := #[26, 26] }) {w0 w : World} {v : Value} {l : List Int} (n : Int)
    (hs : a.eval s = v) (hown : OwnI w w0.heap.size v l) (hgr : Gr w0 w) (hx : a.eval x = .slice (some ⟨w.heap.size, 0, none⟩) 1 1) (hl : l.length ≤ 1000)
    (h : ∀ v' w', OwnI w' w0.heap.size v' (l ++ [n]) → Gr w0 w' → wpList Try.prog ops Q rest (a.put o.dst v') w') : wpList Try.prog ops Q (o :: rest) a (w.alloc (.cells #[.int .i64 n] 3)) := by
  obtain ⟨i0, hi, hz0, hz1, hz2⟩ := info_i
  refine wpList_pushV hgd s x 26 ho 3 i0 _ 8 Try.underlying26 hi hz0 hz1 hz2 rfl (u := .int .i64 n) rfl hs hown hgr hx (by rw [ivs_len]; unfold maxLen; omega) (by rw [ivs_len]; omega) ?_
  intro v' w' h1 h2 _
  exact h v' w' (by unfold OwnI; rw [ivs_app]; exact h1) h2
/-- 'append([]int{}, m...)' -/
theorem wpList_copyI {ops : Array Oper} {rest : List Oper} {o : Oper} {a : Act} {Q : Exit → Act → World → Prop} (hgd : o.guard = none) (s x : Operand)
    (ho : o.op = .call { callee := .builtin .append, args := #[s, x], argTypes := #[26, 26] }) {w : World} {v : Value} {l : List Int}
    (hs : a.eval s = .slice (some ⟨w.heap.size, 0, none⟩) 0 0) (hv : IntsX w v l) (hx : a.eval x = v) (hl : l.length ≤ 1000) (hl0 : 0 < l.length)
    (h : ∀ v' w', OwnI w' w.heap.size v' l → Gr w w' → wpList Try.prog ops Q rest (a.put o.dst v') w') : wpList Try.prog ops Q (o :: rest) a (w.alloc (.cells #[] 3)) := by
  obtain ⟨i0, hi, hz0, hz1, hz2⟩ := info_i
  have hv' := hv.gr ((Gr.refl w).alloc (.cells #[] 3))
  obtain ⟨A, c, rfl, h2⟩ := hv'
  rw [ivs_len] at hx
  obtain ⟨ad, rfl, _⟩ := h2.rd 0 (by rw [ivs_len]; exact hl0)
  refine wpList_append_own_at _ hgd s x 26 ho w.heap.size 3 i0 _ 1 8 Try.underlying26 hi hz0 hz1 hz2 rfl (by decide) _ 0 [] hs (World.ownsRow_lit (size := 1) w #[] 0 (Nat.le_refl _) (by unfold maxLen; omega) rfl) ad l.length c (ivs l) hx (by rw [ivs_len]; omega) (fun j u hj => ?_)
    (by intro y hy; obtain ⟨n, _, rfl⟩ := List.mem_map.1 hy; rfl) (by unfold maxLen; omega) (by omega) (by simp) ?_
  · obtain ⟨hj', rfl⟩ := List.getElem?_eq_some_iff.1 hj
    obtain ⟨ad', e1, e2⟩ := h2.rd j hj'
    injection e1 with e1
    subst e1
    exact e2
  · intro v' w' h3 h4 _ _
    refine h v' w' (by unfold OwnI OwnV; rw [ivs_len]; simpa using h3) (((Gr.refl w).alloc _).below.grown h4 (by simp) fun k hk => ?_)
    simp [Value.ownBlock] at hk
    omega

end Go.Proofs.Ythpaoeiackbdoaa
