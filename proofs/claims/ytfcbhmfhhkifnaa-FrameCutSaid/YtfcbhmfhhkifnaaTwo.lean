/-
  Two rows of the call's own, side by side: what is put behind one leaves the other as it is. No program.
-/
import Derived.Test.YtfcbhmfhhkifnaaWords2
import Derived.Maps.AppendAt
namespace Go.Proofs.Ytfcbhmfhhkifnaa
open Go.RowKit

/-- values that the call owns, one cell each -/
def OwnV (e : TypeId) (w : World) (B : Nat) (v : Value) (xs : List Value) : Prop := w.ownsRow B e 1 v xs.length xs
/-- not in one block -/
def Sep (v u : Value) : Prop := ∀ k, v.ownBlock = some k → u.ownBlock ≠ some k
theorem Sep.symm {v u : Value} (h : Sep v u) : Sep u v := fun k hu hv => h k hv hu
theorem Sep.none_ (v : Value) (n c : Nat) : Sep v (.slice none n c) := fun k _ h => by cases h
/-- what append has done: nothing but this row has changed, and it stands where it stood, or is new -/
def Put1 (w w' : World) (v v' : Value) : Prop := w.grownBy w' v.ownBlock ∧ (v'.ownBlock = v.ownBlock ∨ ∃ k, v'.ownBlock = some k ∧ w.heap.size ≤ k)
theorem Put1.sep {w w' : World} {v v' u : Value} (h : Put1 w w' v v') (hs : Sep v u) (hu : ∀ k, u.ownBlock = some k → k < w.heap.size) : Sep v' u := by
  rcases h.2 with h2 | ⟨k, h2, hk⟩
  · intro j hj; rw [h2] at hj; exact hs j hj
  · intro j hj hu'
    rw [h2] at hj
    injection hj with hj
    have := hu j hu'
    omega

section
variable {P : Program} {e : TypeId} {w w' : World} {B : Nat} {v : Value} {xs : List Value} {l : List UInt8}

theorem OwnV.none_ (w : World) (B : Nat) : OwnV e w B (.slice none 0 0) [] := World.ownsRow_nil _ _ _ _
theorem OwnV.gr (h : OwnV e w B v xs) (hg : Gr w w') : OwnV e w' B v xs :=
  World.ownsRow.kept (row := none) h ⟨hg.os, hg.tape, hg.output, hg.size, fun k hk _ => hg.block k hk⟩ (by cases hv : v.ownBlock <;> simp)
theorem OwnV.lt (h : OwnV e w B v xs) : ∀ k, v.ownBlock = some k → k < w.heap.size := fun k hk => (World.ownsRow.lt h k hk).2
theorem OwnE.lt (h : OwnE e w B v l) : ∀ k, v.ownBlock = some k → k < w.heap.size := fun k hk => (World.ownsRow.lt h k hk).2
theorem ne_of_sep {u v : Value} (hs : Sep v u) : u.ownBlock = none ∨ u.ownBlock ≠ v.ownBlock := by
  cases hv : u.ownBlock with
  | none => exact .inl rfl
  | some k => exact .inr fun h => hs k h.symm hv
theorem OwnV.beside {u : Value} (h : OwnV e w B u xs) {v' : Value} (hp : Put1 w w' v v') (hs : Sep v u) : OwnV e w' B u xs := World.ownsRow.kept h hp.1 (ne_of_sep hs)
theorem OwnE.beside {u : Value} (h : OwnE e w B u l) {v' : Value} (hp : Put1 w w' v v') (hs : Sep v u) : OwnE e w' B u l := World.ownsRow.kept h hp.1 (ne_of_sep hs)
/-- the row's value -/
theorem OwnV.is (h : OwnV e w B v xs) : ∃ A c, v = .slice A xs.length c ∧ xs.length ≤ c ∧ ∀ j (hj : j < xs.length), ∃ ad, A = some ad ∧ w.cell? (ad.add j) = some xs[j] := by
  have h0 := h
  rcases h.2 with ⟨rfl, hn⟩ | ⟨g, cap, cur, rfl, _, _, hnc, _, _, _⟩
  · exact ⟨none, 0, by rw [hn], by omega, fun j hj => by omega⟩
  · exact ⟨_, cap, rfl, hnc, fun j hj => ⟨_, rfl, World.ownsRow.cells h0 (g := g) rfl j _ (by simp [hj])⟩⟩

/-- one value more: 'append(own, x)', x in a new block of its own -/
theorem wpList_pushV {ops : Array Oper} {rest : List Oper} {o : Oper} {a : Act} {Q : Exit → Act → World → Prop} (hgd : o.guard = none) (s x : Operand) (t : TypeId)
    (ho : o.op = .call { callee := .builtin .append, args := #[s, x], argTypes := #[t, t] }) (e : TypeId) (i : TypeInfo) (z : Value) (nb : Nat) (ht : P.underlying t = some (.slice e)) (hi : P.info? e = some i)
    (hz : i.zero = some z) (hsize : i.size = 1) (hby : i.bytes = nb) (hzs : z.cells.size = 1) {w0 w : World} {u : Value} (hu : u.oneCell' = true)
    (hs : a.eval s = v) (hown : OwnV e w w0.heap.size v xs) (hgr : Gr w0 w)
    (hx : a.eval x = .slice (some ⟨w.heap.size, 0, none⟩) 1 1) (hl : xs.length + 1 ≤ maxLen) (hb : (xs.length + 1) * nb ≤ 140737488355328)
    (h : ∀ v' w', OwnV e w' w0.heap.size v' (xs ++ [u]) → Gr w0 w' → Put1 w w' v v' → wpList P ops Q rest (a.put o.dst v') w') : wpList P ops Q (o :: rest) a (w.alloc (.cells #[u] e)) := by
  have hlt := hown.lt
  refine wpList_append_own_at _ hgd s x t ho w0.heap.size e i z 1 nb ht hi hz hsize hby hzs (by decide) v xs.length xs hs (World.ownsRow.alloc hown _) ⟨w.heap.size, 0, none⟩ 1 1 [u] hx rfl (cell_one_new _ _ _)
    (by intro y hy; simp at hy; subst hy; exact hu) hl hb (Nat.le_trans hgr.size (by simp)) ?_
  intro v' w' g1 g2 _ g4
  refine h v' w' (by unfold OwnV; rw [List.length_append]; exact g1) ((hgr.alloc _).below.grown g2 (Nat.le_trans hgr.size (by simp)) fun k hk => (World.ownsRow.lt hown k hk).1) ⟨?_, ?_⟩
  · refine ⟨g2.os, g2.tape, g2.output, Nat.le_trans (by simp) g2.size, fun k hk hne => ?_⟩
    rw [g2.block k (by simp; omega) hne]
    exact heap_alloc_old w _ hk
  · rcases g4 with g4 | g4
    · exact .inl g4
    · exact .inr ⟨_, g4, by simp⟩

/-- 'append(own, r...)', r bytes that lie somewhere, and what stays -/
theorem wpList_app_at {ops : Array Oper} {rest : List Oper} {o : Oper} {a : Act} {Q : Exit → Act → World → Prop} (hgd : o.guard = none) (sl x : Operand) (t : TypeId)
    (ho : o.op = .call { callee := .builtin .append, args := #[sl, x], argTypes := #[t, t] }) (e : TypeId) (i : TypeInfo) (ht : P.underlying t = some (.slice e)) (hi : P.info? e = some i)
    (hz : i.zero = some (.int .u8 0)) (hsize : i.size = 1) (hby : i.bytes = 1) {w0 w : World} {A : Option Addr} {m c : Nat} {r : List UInt8} (hm : m = r.length)
    (hs : a.eval sl = v) (hown : OwnE e w w0.heap.size v l) (hgr : Gr w0 w) (hx : a.eval x = .slice A m c) (hr : Rd w A r) (hc0 : A = none → c = 0) (hl : l.length + r.length ≤ 1000000000)
    (h : ∀ v' w', OwnE e w' w0.heap.size v' (l ++ r) → Gr w0 w' → Put1 w w' v v' → wpList P ops Q rest (a.put o.dst v') w') : wpList P ops Q (o :: rest) a w := by
  subst hm
  have hcells : ∀ ad, A = some ad → ∀ j u, (bvs r)[j]? = some u → w.cell? (ad.add j) = some u := fun ad hA j u hj => by
    simp only [bvs, List.getElem?_map, Option.map_eq_some_iff] at hj
    obtain ⟨b, hb, rfl⟩ := hj
    obtain ⟨hj', rfl⟩ := List.getElem?_eq_some_iff.1 hb
    obtain ⟨ad', h1, h2⟩ := hr j hj'
    rw [hA] at h1
    injection h1 with h1
    subst h1
    exact h2
  rcases A with _ | ad
  · have hr0 : r = [] := by
      cases r with
      | nil => rfl
      | cons b r => obtain ⟨ad, h1, _⟩ := hr 0 (by simp); cases h1
    subst hr0
    have hc := hc0 rfl
    subst hc
    exact wpList_append_own_none hgd sl x t ho w0.heap.size e i 1 ht hi v l.length (bvs l) hs hown hx (h v w (by simpa using hown) hgr ⟨World.grownBy.refl w _, .inl rfl⟩)
  · refine wpList_append_own_at _ hgd sl x t ho w0.heap.size e i _ 1 1 ht hi hz hsize hby rfl (by decide) v l.length (bvs l) hs hown ad r.length c (bvs r) hx (by simp [bvs]) (hcells ad rfl) (bvs_one _)
      (by unfold maxLen; omega) (by omega) hgr.size ?_
    intro v' w' h1 h2 _ h4
    refine h v' w' (by unfold OwnE; rw [bvs_app, List.length_append]; exact h1) (hgr.below.grown h2 hgr.size fun k hk => (World.ownsRow.lt hown k hk).1) ⟨h2, ?_⟩
    rcases h4 with h4 | h4
    · exact .inl h4
    · exact .inr ⟨_, h4, Nat.le_refl _⟩
end

end Go.Proofs.Ytfcbhmfhhkifnaa
