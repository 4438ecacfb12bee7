/-
  Entries that the call owns as a row; entries cut, and appended. No function of the program.
-/
import Derived.Test.YthpaoeiackbdoaaEntMem
import Derived.Test.YthpaoeiackbdoaaRowCut
namespace Go.Proofs.Ythpaoeiackbdoaa
open Go Go.RowKit TxnMath KeyMath MsgMath
set_option maxRecDepth 100000

theorem entC_len (e : EntT) (p : Value × Value) : (entC e p).length = 6 := rfl
theorem entC_all6 (es : List EntT) (f : Nat → Value × Value) : ∀ r ∈ es.mapIdx fun j e => entC e (f j), r.length = 6 := fun r hr => by
  obtain ⟨j, h, rfl⟩ := List.mem_mapIdx.1 hr
  rfl
/-- a row's value is a slice -/
theorem RowX.sl {X : Nat → Prop} {k : Nat} {w : World} {v : Value} {rs : List (List Value)} (h : RowX X k w v rs) : ∃ A c, v = .slice A rs.length c := by
  obtain ⟨⟨A, c, e, _⟩, _⟩ := h
  exact ⟨A, c, e⟩
theorem slice_one {A : Option Addr} {n c : Nat} : (Value.slice A n c).oneCell' = true := by simp [Value.oneCell']
theorem entC_one {X : Nat → Prop} {w : World} {e : EntT} {p : Value × Value} (h : RowsX X w e.t p) : ∀ u ∈ entC e p, u.oneCell' = true := by
  obtain ⟨A, c, e1⟩ := h.rd.sl
  obtain ⟨B, d, e2⟩ := h.wr.sl
  intro u hu
  simp only [entC, List.mem_cons, List.not_mem_nil, or_false] at hu
  rcases hu with rfl | rfl | rfl | rfl | rfl | rfl
  · simp [Value.oneCell']
  · simp [Value.oneCell']
  · simp [Value.oneCell']
  · simp [Value.oneCell']
  · rw [e1]; exact slice_one
  · rw [e2]; exact slice_one

theorem mapIdx_drop {α β : Type} (l : List α) (F : Nat → α → β) (i : Nat) : (l.mapIdx F).drop i = (l.drop i).mapIdx fun j x => F (i + j) x := by
  refine List.ext_getElem? fun j => ?_
  rw [List.getElem?_drop, List.getElem?_mapIdx, List.getElem?_mapIdx, List.getElem?_drop]
theorem mapIdx_take {α β : Type} (l : List α) (F : Nat → α → β) (i : Nat) : (l.mapIdx F).take i = (l.take i).mapIdx F := by
  refine List.ext_getElem? fun j => ?_
  rw [List.getElem?_take, List.getElem?_mapIdx, List.getElem?_mapIdx, List.getElem?_take]
  split <;> rfl
theorem mapIdx_app {α β : Type} (l r : List α) (F G : Nat → α → β) : l.mapIdx F ++ r.mapIdx G = (l ++ r).mapIdx fun j x => if j < l.length then F j x else G (j - l.length) x := by
  refine List.ext_getElem? fun j => ?_
  rw [List.getElem?_mapIdx, List.getElem?_append, List.getElem?_append, List.length_mapIdx]
  by_cases h : j < l.length
  · rw [if_pos h, if_pos h, List.getElem?_mapIdx, List.getElem?_eq_getElem h]; simp [h]
  · rw [if_neg h, if_neg h, List.getElem?_mapIdx]
    cases r[j - l.length]? <;> simp [h]

theorem EntsX.take {X : Nat → Prop} {w : World} {A : Option Addr} {n c : Nat} {es : List EntT} (h : EntsX X w (.slice A n c) es) (i : Nat) (hi : i ≤ n) : EntsX X w (.slice A i c) (es.take i) := by
  obtain ⟨f, h1, h2⟩ := h
  refine ⟨f, ⟨?_, fun ad m d e hm => ?_⟩, fun j x hj => ?_⟩
  · rw [← mapIdx_take]; exact h1.1.take i hi
  · injection e with e1 e2 e3
    exact h1.2 ad n c (by rw [e1]) (by omega)
  · rw [List.getElem?_take] at hj
    split at hj
    · exact h2 j x hj
    · cases hj
theorem EntsX.drop {X : Nat → Prop} {w : World} {A : Option Addr} {n c : Nat} {es : List EntT} (h : EntsX X w (.slice A n c) es) (i : Nat) (hi : i ≤ n) : EntsX X w (.slice (if c = i then A else A.map (·.add (i * 6))) (n - i) (c - i)) (es.drop i) := by
  obtain ⟨f, h1, h2⟩ := h
  refine ⟨fun j => f (i + j), ⟨?_, fun ad m d e hm => ?_⟩, fun j x hj => ?_⟩
  · rw [← mapIdx_drop es (fun j e => entC e (f j))]; exact h1.1.drop i hi
  · obtain ⟨A', c', e0, hc, _⟩ := h1.1
    simp only [Value.slice.injEq] at e0 e
    obtain ⟨e1, e2, e3⟩ := e
    rw [if_neg (by omega)] at e1
    cases A with
    | none => cases e1
    | some a =>
      simp only [Option.map_some, Option.some.injEq] at e1
      subst e1
      rw [add_block]
      exact h1.2 a n c rfl (by omega)
  · rw [List.getElem?_drop] at hj
    exact h2 _ x hj

/-- entries that the call owns as a row: what they hold lies elsewhere, in X -/
def OwnEnt (X : Nat → Prop) (w : World) (B : Nat) (v : Value) (es : List EntT) : Prop :=
  ∃ f : Nat → Value × Value, OwnR 38 6 w B v (es.mapIdx fun j e => entC e (f j)) ∧ ∀ j e, es[j]? = some e → RowsX (fun k => X k ∧ v.ownBlock ≠ some k) w e.t (f j)
section
variable {X : Nat → Prop} {w w' : World} {B : Nat} {v v' : Value} {es : List EntT}
theorem OwnEnt.none_ (X : Nat → Prop) (w : World) (B : Nat) : OwnEnt X w B (.slice none 0 0) [] := ⟨fun _ => (undef, undef), OwnR.none_ _ _, fun j e hj => by simp at hj⟩
theorem OwnEnt.entsX (h : OwnEnt X w B v es) : EntsX Any w v es := by
  obtain ⟨f, h1, h2⟩ := h
  exact ⟨f, ⟨h1.rowAt, fun _ _ _ _ _ => trivial⟩, fun j e hj => (h2 j e hj).wide fun _ _ => trivial⟩
theorem OwnEnt.is (h : OwnEnt X w B v es) : ∃ A c, v = .slice A es.length c := h.entsX.is
theorem OwnEnt.gr (h : OwnEnt X w B v es) (hg : Gr w w') : OwnEnt X w' B v es := by
  obtain ⟨f, h1, h2⟩ := h
  exact ⟨f, h1.gr hg, fun j e hj => (h2 j e hj).gr hg⟩
theorem OwnEnt.base {B' : Nat} (h : OwnEnt X w B v es) (hB : B' ≤ B) : OwnEnt X w B' v es := by
  obtain ⟨f, h1, h2⟩ := h
  exact ⟨f, h1.base hB, h2⟩
theorem OwnEnt.wide {X' : Nat → Prop} (h : OwnEnt X w B v es) (hx : ∀ j, X j → X' j) : OwnEnt X' w B v es := by
  obtain ⟨f, h1, h2⟩ := h
  exact ⟨f, h1, fun j e hj => (h2 j e hj).wide fun k hk => ⟨hx k hk.1, hk.2⟩⟩
theorem OwnEnt.lt (h : OwnEnt X w B v es) : ∀ g, v.ownBlock = some g → B ≤ g ∧ g < w.heap.size := by
  obtain ⟨f, h1, _⟩ := h
  exact h1.lt
/-- another block has changed -/
theorem OwnEnt.but {g : Nat} (h : OwnEnt X w B v es) (hb : But w w' g) (hg : g < B) (hx : ∀ j, X j → j ≠ g) : OwnEnt X w' B v es := by
  obtain ⟨f, h1, h2⟩ := h
  exact ⟨f, h1.but hb hg, fun j e hj => (h2 j e hj).move fun k hk hX => ⟨hb.block k hk (fun e => hx k hX.1 (by injection e)), hX⟩⟩
theorem OwnR.keep {e : TypeId} {k : Nat} {rs : List (List Value)} (h : OwnR e k w B v rs) (hb : ∀ g, v.ownBlock = some g → w'.heap[g]? = w.heap[g]?) : OwnR e k w' B v rs := by
  refine ⟨h.1, h.2.1, ?_⟩
  rcases h.2.2 with h2 | ⟨g, cap, cur, rfl, h3, h4, h5⟩
  · exact .inl h2
  · exact .inr ⟨g, cap, cur, rfl, h3, by rw [hb g rfl]; exact h4, h5⟩
/-- from the base on nothing has changed -/
theorem OwnEnt.high (h : OwnEnt X w B v es) (hX : ∀ j, X j → B ≤ j) (hb : ∀ j, B ≤ j → j < w.heap.size → w'.heap[j]? = w.heap[j]?) : OwnEnt X w' B v es := by
  obtain ⟨f, h1, h2⟩ := h
  exact ⟨f, h1.keep fun g hg => hb g (h1.lt g hg).1 (h1.lt g hg).2, fun j e hj => (h2 j e hj).move fun k hk hx => ⟨hb k (hX k hx.1) hk, hx⟩⟩
/-- what an own row leaves behind is as it was where that row is not -/
theorem RowsX.put1 {t : TxT} {p : Value × Value} (h : RowsX (fun k => X k ∧ v.ownBlock ≠ some k) w t p) (hp : Put1 w w' v v') : RowsX (fun k => X k ∧ v'.ownBlock ≠ some k) w' t p :=
  h.move fun k hk hX => ⟨hp.1.block k hk (fun e => hX.2 e.symm), hX.1, by
    rcases hp.2 with e | ⟨k', e, hk'⟩
    · rw [e]; exact hX.2
    · rw [e]; intro e2; injection e2 with e2; omega⟩
/-- one more has been put behind -/
theorem ownEnt_pushed {f : Nat → Value × Value} {x : EntT} {p : Value × Value} (h2 : ∀ j e, es[j]? = some e → RowsX (fun k => X k ∧ v.ownBlock ≠ some k) w e.t (f j)) (hx : RowsX (fun k => X k ∧ v.ownBlock ≠ some k) w x.t p)
    (ho : OwnR 38 6 w' B v' ((es.mapIdx fun j e => entC e (f j)) ++ [entC x p])) (hp : Put1 w w' v v') : OwnEnt X w' B v' (es ++ [x]) := by
  refine ⟨fun j => if j < es.length then f j else p, ?_, fun j e hj => ?_⟩
  · have e1 : [entC x p] = [x].mapIdx fun _ e => entC e p := rfl
    rw [e1, mapIdx_app] at ho
    have e2 : ((es ++ [x]).mapIdx fun j y => if j < es.length then entC y (f j) else entC y p) = (es ++ [x]).mapIdx fun j e => entC e (if j < es.length then f j else p) := by
      congr 1
      funext j y
      split <;> rfl
    rw [e2] at ho
    exact ho
  · rw [List.getElem?_append] at hj
    split at hj
    · next h => simp only [h, if_true]; exact (h2 j e hj).put1 hp
    · next h =>
      simp only [h, if_false]
      obtain ⟨_, rfl⟩ : j - es.length < 1 ∧ x = e := by
        have := List.getElem?_eq_some_iff.1 hj
        obtain ⟨h3, h4⟩ := this
        simp only [List.length_singleton] at h3
        exact ⟨h3, by rw [← h4]; simp⟩
      exact hx.put1 hp
/-- others have been put behind -/
theorem ownEnt_apped {f f' : Nat → Value × Value} {qs : List EntT} (h2 : ∀ j e, es[j]? = some e → RowsX (fun k => X k ∧ v.ownBlock ≠ some k) w e.t (f j)) (hx : ∀ j e, qs[j]? = some e → RowsX (fun k => X k ∧ v.ownBlock ≠ some k) w e.t (f' j))
    (ho : OwnR 38 6 w' B v' ((es.mapIdx fun j e => entC e (f j)) ++ qs.mapIdx fun j e => entC e (f' j))) (hp : Put1 w w' v v') : OwnEnt X w' B v' (es ++ qs) := by
  refine ⟨fun j => if j < es.length then f j else f' (j - es.length), ?_, fun j e hj => ?_⟩
  · rw [mapIdx_app] at ho
    have e2 : ((es ++ qs).mapIdx fun j y => if j < es.length then entC y (f j) else entC y (f' (j - es.length))) = (es ++ qs).mapIdx fun j e => entC e (if j < es.length then f j else f' (j - es.length)) := by
      congr 1
      funext j y
      split <;> rfl
    rw [e2] at ho
    exact ho
  · rw [List.getElem?_append] at hj
    split at hj
    · next h => simp only [h, if_true]; exact (h2 j e hj).put1 hp
    · next h => simp only [h, if_false]; exact (hx _ e hj).put1 hp
end
/-- an entry of its own more -/
theorem own_more {X : Nat → Prop} {w wr w3 w4 : World} {B : Nat} {v v' : Value} {es : List EntT} (hg : Gr w wr) (ho : OwnEnt X wr B v es) (hB : w.heap.size ≤ B) (hg3 : Gr wr w3) (hp : Put1 w3 w4 v v') : Gr w w4 := by
  have hv := ho.lt
  have h3 := hg.trans hg3
  exact ⟨hp.1.os.trans h3.os, hp.1.tape.trans h3.tape, hp.1.output.trans h3.output, Nat.le_trans h3.size hp.1.size, fun k hk => (hp.1.block k (by have := h3.size; omega) (fun e => by have := (hv k e.symm).1; omega)).trans (h3.block k hk)⟩
/-- what the call owns lies from its base on -/
theorem OwnR.rowX {e : TypeId} {k : Nat} {w : World} {B : Nat} {v : Value} {rs : List (List Value)} (h : OwnR e k w B v rs) : RowX (fun j => B ≤ j ∧ j < w.heap.size) k w v rs := ⟨h.rowAt, fun ad n c e _ => h.blk ad n c e⟩
theorem OwnTx.rows {w : World} {B : Nat} {v : Value} {t : TxT} (h : OwnTx w B v t) : ∃ p, v = .agg (txC t p).toArray ∧ RowsX (fun j => B ≤ j ∧ j < w.heap.size) w t p := by
  obtain ⟨rv, wv, rfl, h1, h2, _⟩ := h
  exact ⟨(rv, wv), rfl, h1.rowX, h2.rowX⟩
theorem size_ents : ∀ w, (sizeOf (Try.prog.elem 24)).run Try.prog w = .ok 6 w := fun w => by kernel_rfl
theorem info_ent : (Try.prog.info? 38).map (fun i => (i.zero, i.size, i.bytes)) = some (some (.agg #[.int .i64 0, .bool false, .int .i64 0, .int .i64 0, .slice none 0 0, .slice none 0 0]), 6, 80) := by kernel_rfl

/-- one entry more: 'append(own, x)', x in a new block of its own -/
theorem wpList_pushEnt {ops : Array Oper} {rest : List Oper} {o : Oper} {a : Act} {Q : Exit → Act → World → Prop} (hgd : o.guard = none) (s x : Operand)
    (ho : o.op = .call { callee := .builtin .append, args := #[s, x], argTypes := #[24, 24] }) {X : Nat → Prop} {w : World} {B : Nat} {v : Value} {es : List EntT} (y : EntT) (p : Value × Value) {cs : Array Value} (hcs : cs = (entC y p).toArray)
    (hs : a.eval s = v) (hown : OwnEnt X w B v es) (hy : RowsX (fun k => X k ∧ v.ownBlock ≠ some k) w y.t p) (hB : B ≤ w.heap.size)
    (hx : a.eval x = .slice (some ⟨w.heap.size, 0, none⟩) 1 1) (hl : es.length ≤ 1000000000)
    (h : ∀ v' w', OwnEnt X w' B v' (es ++ [y]) → Put1 w w' v v' → wpList Try.prog ops Q rest (a.put o.dst v') w') : wpList Try.prog ops Q (o :: rest) a (w.alloc (.cells cs 38)) := by
  obtain ⟨i0, hi, hz0, hz1, hz2⟩ := info_parts info_ent
  obtain ⟨f, h1, h2⟩ := hown
  refine wpList_pushR hgd s x _ ho 38 i0 _ 6 80 Try.underlying24 hi hz0 hz1 hz2 rfl (by decide) (cs := cs) (by rw [hcs]; rfl) (by rw [hcs]; exact entC_one hy) hs h1 hB hx (by rw [List.length_mapIdx]; unfold maxLen; omega) (by rw [List.length_mapIdx]; omega) (fun v' w' h3 h4 => ?_)
  refine h v' w' (ownEnt_pushed h2 hy ?_ h4) h4
  rw [hcs] at h3
  exact h3
/-- .. with others behind: 'append(own, x...)' -/
theorem wpList_appEnt {ops : Array Oper} {rest : List Oper} {o : Oper} {a : Act} {Q : Exit → Act → World → Prop} (hgd : o.guard = none) (s x : Operand)
    (ho : o.op = .call { callee := .builtin .append, args := #[s, x], argTypes := #[24, 24] }) {X : Nat → Prop} {w : World} {B : Nat} {v u : Value} {es qs : List EntT}
    (hs : a.eval s = v) (hown : OwnEnt X w B v es) (hq : EntsX (fun k => X k ∧ v.ownBlock ≠ some k) w u qs) (hB : B ≤ w.heap.size) (hx : a.eval x = u) (hl : es.length + qs.length ≤ 1000000000)
    (h : ∀ v' w', OwnEnt X w' B v' (es ++ qs) → Put1 w w' v v' → wpList Try.prog ops Q rest (a.put o.dst v') w') : wpList Try.prog ops Q (o :: rest) a w := by
  obtain ⟨i0, hi, hz0, hz1, hz2⟩ := info_parts info_ent
  obtain ⟨f, h1, h2⟩ := hown
  obtain ⟨f', h3, h4⟩ := hq
  refine wpList_appR hgd s x _ ho 38 i0 _ 6 80 Try.underlying24 hi hz0 hz1 hz2 rfl (by decide) hs h1 hB hx h3.1 (entC_all6 _ _) (fun q hq y hy => ?_) (by rw [List.length_mapIdx, List.length_mapIdx]; unfold maxLen; omega) (by rw [List.length_mapIdx, List.length_mapIdx]; omega) (fun v' w' h5 h6 => ?_)
  · obtain ⟨j, hj, rfl⟩ := List.mem_mapIdx.1 hq
    exact entC_one (h4 j _ (List.getElem?_eq_getElem hj)) y hy
  · exact h v' w' (ownEnt_apped h2 h4 h5 h6) h6

/-- '[]api.Entry{}' -/
theorem ownEnt_empty (X : Nat → Prop) (w : World) {B : Nat} (hB : B ≤ w.heap.size) : OwnEnt X (w.alloc (.cells #[] 38)) B (.slice (some ⟨w.heap.size, 0, none⟩) 0 0) [] :=
  ⟨fun _ => (undef, undef), ownR_empty w _ 6 hB, fun j e hj => by simp at hj⟩
/-- what is there lies below the next block -/
theorem EntsX.below {w : World} {v : Value} {es : List EntT} (h : EntsX Any w v es) : EntsX (fun j => j < w.heap.size) w v es := h.move (Moves.same fun _ hj _ => hj)

end Go.Proofs.Ythpaoeiackbdoaa
