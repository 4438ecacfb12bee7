/-
  Maps with strings for keys, as lists of keys and values, rising; over any program. No program of its own.
-/
import Derived.Maps.RangeWalk
import Derived.Maps.Ext
import Derived.Sort.KeysCollected
import Derived.Test.YtkcfieoflkhdpaaDoorBaseW
namespace Go.Proofs.YtkcfieoflkhdpaaDoor.MapS
open Go Go.RowKit Go.Maps Go.ChangeMaps Go.WideElems Go.WideMaps

/-- only blocks of S have changed, and what is new -/
structure Only (S : Nat → Prop) (w w' : World) : Prop where
  os : w'.os = w.os
  tape : w'.tape = w.tape
  output : w'.output = w.output
  size : w.heap.size ≤ w'.heap.size
  block : ∀ i, i < w.heap.size → ¬ S i → w'.heap[i]? = w.heap[i]?

def noB : Nat → Prop := fun _ => False
def onB (g : Nat) : Nat → Prop := fun i => i = g
/-- S, and what is new -/
def ext (S : Nat → Prop) (w w' : World) : Nat → Prop := fun i => S i ∨ (w.heap.size ≤ i ∧ i < w'.heap.size)

section
variable {S T : Nat → Prop} {a b c w w' : World}
theorem Only.refl (S : Nat → Prop) (w : World) : Only S w w := ⟨rfl, rfl, rfl, Nat.le_refl _, fun _ _ _ => rfl⟩
theorem Only.mono (h : Only S a b) (hs : ∀ i, i < a.heap.size → S i → T i) : Only T a b := ⟨h.os, h.tape, h.output, h.size, fun i hi hn => h.block i hi fun hS => hn (hs i hi hS)⟩
theorem Only.trans (h : Only S a b) (k : Only T b c) (hT : ∀ i, i < a.heap.size → T i → S i) : Only S a c :=
  ⟨k.os.trans h.os, k.tape.trans h.tape, k.output.trans h.output, Nat.le_trans h.size k.size, fun i hi hn => (k.block i (Nat.lt_of_lt_of_le hi h.size) fun hb => hn (hT i hi hb)).trans (h.block i hi hn)⟩
theorem Only.of_gr (h : Gr w w') : Only noB w w' := ⟨h.os, h.tape, h.output, h.size, fun i hi _ => h.block i hi⟩
theorem Only.gr (h : Gr w w') (S : Nat → Prop) : Only S w w' := ⟨h.os, h.tape, h.output, h.size, fun i hi _ => h.block i hi⟩
theorem Only.to_gr (h : Only S w w') (hS : ∀ i, i < w.heap.size → ¬ S i) : Gr w w' := ⟨h.os, h.tape, h.output, h.size, fun i hi => h.block i hi (hS i hi)⟩
theorem Only.of_row {o : Option Nat} (h : w.grownBy w' o) (hS : ∀ k, o = some k → S k) : Only S w w' :=
  ⟨h.os, h.tape, h.output, h.size, fun i hi hn => h.block i hi fun e => hn (hS i e.symm)⟩
theorem Only.row {g : Nat} (h : Only (fun i => i = g) w w') : w.grownBy w' (some g) := ⟨h.os, h.tape, h.output, h.size, fun i hi hn => h.block i hi fun e => hn (by rw [e])⟩
theorem Only.alloc (h : Only S a w) (o : Obj) : Only S a (w.alloc o) :=
  ⟨h.os, h.tape, h.output, Nat.le_trans h.size (by simp), fun i hi hn => (Below.heap_alloc w o i (Nat.lt_of_lt_of_le hi h.size)).trans (h.block i hi hn)⟩
theorem Only.drew (h : Only S a w) : Only S a w.drew := ⟨h.os, h.tape, h.output, h.size, h.block⟩
theorem Only.drewN (h : Only S a w) (n : Nat) : Only S a (w.drewN n) := ⟨h.os, h.tape, h.output, h.size, h.block⟩
theorem Only.set (h : Only S a w) {g : Nat} (hg : g < a.heap.size → S g) (i : Nat) (u : Value) : Only S a (w.setCell ⟨g, i, none⟩ u) :=
  ⟨h.os, h.tape, h.output, by simpa [World.setCell] using h.size, fun k hk hn => (Below.heap_setCell w ⟨g, i, none⟩ u k (fun e => hn (by rw [e] at hk ⊢; exact hg hk))).trans (h.block k hk hn)⟩
theorem Only.set1 {g : Nat} (h : Only (onB g) a w) (i : Nat) (u : Value) : Only (onB g) a (w.setCell ⟨g, i, none⟩ u) := h.set (fun _ => rfl) i u
theorem Only.cell (h : Only S w w') {p : Addr} {v : Value} (hc : w.cell? p = some v) (hn : ¬ S p.block) : w'.cell? p = some v := by
  have hl := World.block_lt_of_cell? w _ hc
  rw [World.cell?_of_block (h.block _ hl hn)]
  exact hc
theorem Only.frozen (h : Only S w w') {p : Addr} {v : Value} (hc : w.cell? p = some v) (hn : ¬ S p.block) : w'.frozen? p = w.frozen? p := by
  have hl := World.block_lt_of_cell? w _ hc
  unfold World.frozen?
  rw [h.block _ hl hn]
theorem Only.bl (h : Only S w w') {g : Nat} {t : TypeId} {cs : Array Value} (hb : Bl w g t cs) (hn : ¬ S g) : Bl w' g t cs := (h.block g hb.lt hn).trans hb
theorem ext_left {i : Nat} (h : S i) : ext S w w' i := .inl h
theorem Only.then_ext (h : Only S a b) (k : Only (ext S a b) b c) : Only S a c := h.trans k fun i hi he => by
  rcases he with he | he
  · exact he
  · omega
theorem ext_ext (h : Only S a b) (k : Only T b c) {i : Nat} (hi : ext (ext S a b) b c i) : ext S a c i := by
  have := h.size; have := k.size
  rcases hi with (hi | hi) | hi
  · exact .inl hi
  · exact .inr ⟨hi.1, by omega⟩
  · exact .inr ⟨by omega, hi.2⟩
theorem ext_ext2 (h : a.heap.size ≤ b.heap.size) (k : b.heap.size ≤ c.heap.size) {i : Nat} (hi : ext (ext S a b) b c i) : ext S a c i := by
  rcases hi with (hi | hi) | hi
  · exact .inl hi
  · exact .inr ⟨hi.1, by omega⟩
  · exact .inr ⟨by omega, hi.2⟩
/-- bytes that don't lie in S -/
def Away (S : Nat → Prop) (A : Option Addr) (n : Nat) : Prop := 0 < n → ∀ ad, A = some ad → ¬ S ad.block
theorem Rd.only {A : Option Addr} {l : List UInt8} (h : Rd w A l) (ho : Only S w w') (ha : Away S A l.length) : Rd w' A l := fun j hj => by
  obtain ⟨ad, h1, h2⟩ := h j hj
  exact ⟨ad, h1, ho.cell h2 (by rw [add_block]; exact ha (by omega) _ h1)⟩
theorem By.only {A : Option Addr} {n : Nat} {l : List UInt8} (h : By w A n l) (ho : Only S w w') (ha : Away S A l.length) : By w' A n l := ⟨Rd.only h.rd ho ha, h.le, h.max, h.nil⟩
theorem OwnE.only {e : TypeId} {B : Nat} {v : Value} {l : List UInt8} (h : OwnE e w B v l) (ho : Only S w w') (hv : ∀ k, v.ownBlock = some k → ¬ S k) : OwnE e w' B v l := by
  rcases h.2 with ⟨rfl, hn⟩ | ⟨g, cap, cur, rfl, hb, hg, r⟩
  · exact ⟨h.1, .inl ⟨rfl, hn⟩⟩
  · exact ⟨h.1, .inr ⟨g, cap, cur, rfl, hb, (ho.block g (Array.getElem?_eq_some_iff.1 hg).1 (hv g rfl)).trans hg, r⟩⟩
theorem OwnV.only {e : TypeId} {B : Nat} {v : Value} {xs : List Value} (h : OwnV e w B v xs) (ho : Only S w w') (hv : ∀ k, v.ownBlock = some k → ¬ S k) : OwnV e w' B v xs := by
  rcases h.2 with ⟨rfl, hn⟩ | ⟨g, cap, cur, rfl, hb, hg, r⟩
  · exact ⟨h.1, .inl ⟨rfl, hn⟩⟩
  · exact ⟨h.1, .inr ⟨g, cap, cur, rfl, hb, (ho.block g (Array.getElem?_eq_some_iff.1 hg).1 (hv g rfl)).trans hg, r⟩⟩
end

/-! Keys and values, rising. -/
abbrev KV (α : Type) := List (List UInt8 × α)
section
variable {α β : Type}
def Ris (es : KV α) : Prop := es.Pairwise fun p q => bytesBefore p.1 q.1 = true
def getE (es : KV α) (s : List UInt8) : Option α := (es.find? fun p => p.1 == s).map (·.2)
def delE (s : List UInt8) (es : KV α) : KV α := es.filter fun p => !(p.1 == s)
def insE (x : List UInt8 × α) : KV α → KV α
  | [] => [x]
  | y :: r => if bytesBefore x.1 y.1 then x :: y :: r else y :: insE x r
def putE (s : List UInt8) (v : α) (es : KV α) : KV α := insE (s, v) (delE s es)

theorem insE_map (f : α → β) (x : List UInt8 × α) : ∀ es : KV α, (insE x es).map (fun p => (p.1, f p.2)) = insE (x.1, f x.2) (es.map fun p => (p.1, f p.2))
  | [] => rfl
  | y :: r => by
    simp only [insE, List.map_cons]
    split
    · rfl
    · simp [insE_map f x r]
theorem delE_map (f : α → β) (s : List UInt8) (es : KV α) : (delE s es).map (fun p => (p.1, f p.2)) = delE s (es.map fun p => (p.1, f p.2)) := by
  unfold delE
  rw [List.filter_map]
  rfl
theorem putE_map (f : α → β) (s : List UInt8) (v : α) (es : KV α) : (putE s v es).map (fun p => (p.1, f p.2)) = putE s (f v) (es.map fun p => (p.1, f p.2)) := by
  unfold putE
  rw [insE_map, delE_map]
theorem getE_map (f : α → β) (s : List UInt8) (es : KV α) : getE (es.map fun p => (p.1, f p.2)) s = (getE es s).map f := by
  unfold getE
  rw [List.find?_map, Option.map_map, Option.map_map]
  rfl
theorem Ris.map {es : KV α} (h : Ris es) (f : α → β) : Ris (es.map fun p => (p.1, f p.2)) := List.pairwise_map.2 h
theorem Ris.of_map {es : KV α} (f : α → β) (h : Ris (es.map fun p => (p.1, f p.2))) : Ris es := List.pairwise_map.1 h
theorem ris_nil : Ris ([] : KV α) := List.Pairwise.nil
theorem Ris.del {es : KV α} (h : Ris es) (s : List UInt8) : Ris (delE s es) := h.filter _
theorem mem_insE {x y : List UInt8 × α} : ∀ {es : KV α}, y ∈ insE x es ↔ y = x ∨ y ∈ es
  | [] => by simp [insE]
  | z :: r => by
    simp only [insE]
    split
    · simp
    · simp [mem_insE (es := r)]
      constructor
      · rintro (h | h | h) <;> simp [h]
      · rintro (h | h | h) <;> simp [h]
theorem mem_delE {s : List UInt8} {y : List UInt8 × α} {es : KV α} : y ∈ delE s es ↔ y ∈ es ∧ y.1 ≠ s := by simp [delE]
theorem insE_ris {x : List UInt8 × α} : ∀ {es : KV α}, Ris es → (∀ p ∈ es, p.1 ≠ x.1) → Ris (insE x es)
  | [], _, _ => List.pairwise_singleton _ _
  | y :: r, h, hn => by
    obtain ⟨h1, h2⟩ := List.pairwise_cons.1 h
    simp only [insE]
    split
    · rename_i hb
      refine List.pairwise_cons.2 ⟨fun q hq => ?_, h⟩
      rcases List.mem_cons.1 hq with rfl | hq
      · exact hb
      · exact WideShapes.bytes_trans _ _ _ hb (h1 q hq)
    · rename_i hb
      have hyx : bytesBefore y.1 x.1 = true := by
        rcases WideAt.bytes_total x.1 y.1 (hn y (by simp)).symm with h' | h'
        · exact absurd h' hb
        · exact h'
      refine List.pairwise_cons.2 ⟨fun q hq => ?_, insE_ris h2 fun p hp => hn p (by simp [hp])⟩
      rcases mem_insE.1 hq with rfl | hq
      · exact hyx
      · exact h1 q hq
theorem Ris.put {es : KV α} (h : Ris es) (s : List UInt8) (v : α) : Ris (putE s v es) := insE_ris (h.del s) fun _ hp => (mem_delE.1 hp).2
theorem ris_ne {es : KV α} (h : Ris es) : es.Pairwise fun p q => p.1 ≠ q.1 := h.imp fun {a b} hb e => by rw [e, WideAt.bytes_irrefl] at hb; cases hb
theorem mem_getE {es : KV α} (h : Ris es) {s : List UInt8} {v : α} : getE es s = some v ↔ (s, v) ∈ es := by
  unfold getE
  induction es with
  | nil => simp
  | cons y r ih =>
    obtain ⟨h1, h2⟩ := List.pairwise_cons.1 h
    have ihr := ih h2
    by_cases e : y.1 = s
    · rw [List.find?_cons_of_pos (by simp [e])]
      simp only [Option.map_some, Option.some.injEq, List.mem_cons]
      constructor
      · rintro rfl
        exact .inl (by rw [← e])
      · rintro (e2 | hm)
        · rw [← e2]
        · have := h1 _ hm
          rw [e, WideAt.bytes_irrefl] at this
          cases this
    · rw [List.find?_cons_of_neg (by simpa using e), ihr, List.mem_cons]
      constructor
      · exact .inr
      · rintro (e2 | hm)
        · exact absurd (by rw [← e2]) e
        · exact hm
theorem getE_none {es : KV α} {s : List UInt8} : getE es s = none ↔ ∀ p ∈ es, p.1 ≠ s := by
  unfold getE
  simp
/-- two rising rows with the same members -/
theorem ris_ext : ∀ {a b : KV α}, Ris a → Ris b → (∀ p, p ∈ a ↔ p ∈ b) → a = b
  | [], [], _, _, _ => rfl
  | [], y :: r, _, _, h => absurd ((h y).2 (by simp)) (by simp)
  | y :: r, [], _, _, h => absurd ((h y).1 (by simp)) (by simp)
  | x :: r, y :: q, ha, hb, h => by
    obtain ⟨a1, a2⟩ := List.pairwise_cons.1 ha
    obtain ⟨b1, b2⟩ := List.pairwise_cons.1 hb
    have hxy : x = y := by
      rcases List.mem_cons.1 ((h x).1 (by simp)) with e | hx
      · exact e
      · rcases List.mem_cons.1 ((h y).2 (by simp)) with e | hy
        · exact e.symm
        · have h1 := a1 _ hy
          have h2 := WideShapes.bytes_trans _ _ _ h1 (b1 _ hx)
          rw [WideAt.bytes_irrefl] at h2
          cases h2
    subst hxy
    congr 1
    refine ris_ext a2 b2 fun p => ?_
    constructor
    · intro hp
      rcases List.mem_cons.1 ((h p).1 (List.mem_cons_of_mem _ hp)) with e | hx
      · subst e
        have h1 := a1 _ hp
        rw [WideAt.bytes_irrefl] at h1
        cases h1
      · exact hx
    · intro hp
      rcases List.mem_cons.1 ((h p).2 (List.mem_cons_of_mem _ hp)) with e | hx
      · subst e
        have h1 := b1 _ hp
        rw [WideAt.bytes_irrefl] at h1
        cases h1
      · exact hx
theorem mem_putE {s : List UInt8} {v : α} {es : KV α} {p : List UInt8 × α} : p ∈ putE s v es ↔ p = (s, v) ∨ (p ∈ es ∧ p.1 ≠ s) := by
  unfold putE
  rw [mem_insE, mem_delE]
theorem getE_ext {a b : KV α} (ha : Ris a) (hb : Ris b) (h : ∀ s, getE a s = getE b s) : a = b :=
  ris_ext ha hb fun p => by rw [← mem_getE ha (s := p.1) (v := p.2), ← mem_getE hb (s := p.1) (v := p.2), h]
theorem getE_put {es : KV α} (h : Ris es) (s : List UInt8) (v : α) (k : List UInt8) : getE (putE s v es) k = if k = s then some v else getE es k := by
  by_cases e : k = s
  · subst e
    rw [if_pos rfl]
    exact (mem_getE (h.put _ _)).2 (mem_putE.2 (.inl rfl))
  · rw [if_neg e]
    cases hk : getE es k with
    | some x => exact (mem_getE (h.put _ _)).2 (mem_putE.2 (.inr ⟨(mem_getE h).1 hk, e⟩))
    | none =>
      refine getE_none.2 fun p hp e2 => ?_
      rcases mem_putE.1 hp with rfl | ⟨hp, _⟩
      · exact e e2.symm
      · exact getE_none.1 hk p hp e2
theorem getE_del {es : KV α} (h : Ris es) (s k : List UInt8) : getE (delE s es) k = if k = s then none else getE es k := by
  by_cases e : k = s
  · subst e
    rw [if_pos rfl]
    exact getE_none.2 fun p hp e2 => (mem_delE.1 hp).2 e2
  · rw [if_neg e]
    cases hk : getE es k with
    | some x => exact (mem_getE (h.del _)).2 (mem_delE.2 ⟨(mem_getE h).1 hk, e⟩)
    | none => exact getE_none.2 fun p hp e2 => getE_none.1 hk p (mem_delE.1 hp).1 e2
theorem len_del_le (s : List UInt8) (es : KV α) : (delE s es).length ≤ es.length := List.length_filter_le _ _
theorem len_insE (x : List UInt8 × α) : ∀ es : KV α, (insE x es).length = es.length + 1
  | [] => rfl
  | y :: r => by
    simp only [insE]
    split
    · rfl
    · simp [len_insE x r]
theorem len_put_le (s : List UInt8) (v : α) (es : KV α) : (putE s v es).length ≤ es.length + 1 := by
  unfold putE
  rw [len_insE]
  have := len_del_le s es
  omega
end

/-! A map's block. -/
def rawE (v : Value) : Option (DataW Value × List MemPlace) := some (.held v, [])
def dat (es : KV Value) : DataW Value := .map (es.map fun p => (.string p.1, .held p.2))
/-- block b is a map that holds just these -/
def MapAt (P : Program) (k : TypeId) (w : World) (b : Nat) (es : KV Value) : Prop := w.ownsMap P k rawE b es.length (dat es) ∧ Ris es

theorem dat_insert (x : List UInt8 × Value) : ∀ es : KV Value, DataW.insert (Lit.string x.1, DataW.held x.2) (es.map fun p => (.string p.1, .held p.2)) = (insE x es).map fun p => (.string p.1, .held p.2)
  | [] => rfl
  | y :: r => by
    have e : (Lit.string x.1).before (Lit.string y.1) = bytesBefore x.1 y.1 := rfl
    by_cases hb : bytesBefore x.1 y.1 = true
    · simp only [List.map_cons, insE, DataW.insert, e, hb, if_true]
    · simp only [List.map_cons, insE, DataW.insert, e, hb, dat_insert x r]
      rfl
theorem dat_filter (s : List UInt8) (es : KV Value) : (es.map fun p => ((Lit.string p.1, DataW.held p.2) : Lit × DataW Value)).filter (fun p => !p.1.sameKey (.string s)) = (delE s es).map fun p => (.string p.1, .held p.2) := by
  unfold delE
  rw [List.filter_map]
  rfl
theorem dat_put (s : List UInt8) (v : Value) (es : KV Value) : (dat es).put (.string s) (.held v) = dat (putE s v es) := by
  unfold dat DataW.put putE
  simp only
  rw [dat_filter, ← dat_insert (s, v)]
theorem dat_del (s : List UInt8) (es : KV Value) : (dat es).del (.string s) = dat (delE s es) := by
  unfold dat DataW.del
  simp only
  rw [dat_filter]
theorem dat_at (s : List UInt8) (es : KV Value) (z : Value) : (dat es).atKey (.string s) (.held z) = .held ((getE es s).getD z) := by
  unfold dat DataW.atKey getE
  simp only
  rw [List.find?_map]
  have e : ((fun p : Lit × DataW Value => p.1.sameKey (.string s)) ∘ fun p : List UInt8 × Value => ((Lit.string p.1, DataW.held p.2) : Lit × DataW Value)) = fun p => p.1 == s := rfl
  rw [e]
  cases es.find? (fun p => p.1 == s) <;> rfl
theorem dat_has (s : List UInt8) (es : KV Value) : Maps.has (dat es) (.string s) = (getE es s).isSome := by
  unfold dat getE
  rw [Maps.has_eq, List.any_map, Option.isSome_map, List.isSome_find?]
  rfl
theorem dat_size (es : KV Value) : Maps.size (dat es) = es.length := by simp [dat, Maps.size]
theorem dat_inj {a b : KV Value} (h : dat a = dat b) : a = b := by
  unfold dat at h
  injection h with h
  have hf : ∀ p q : List UInt8 × Value, ((Lit.string p.1, DataW.held p.2) : Lit × DataW Value) = (.string q.1, .held q.2) → p = q := fun p q e => by
    injection e with e1 e2
    injection e1 with e1
    injection e2 with e2
    exact Prod.ext e1 e2
  exact (List.map_inj_right hf).1 h

section
variable {P : Program} {k : TypeId} {w w' : World} {b : Nat} {es : KV Value} {n : Nat}
/-- the bound is just how many there are -/
theorem tight {R : Value → Option (DataW Value × List MemPlace)} {D : DataW Value} (h : w.ownsMap P k R b n D) : w.ownsMap P k R b (Maps.size D) D := by
  obtain ⟨e, clock, hb, F, hs, rfl⟩ := h
  exact ⟨e, clock, hb, F, by simp [Maps.size, length_sorted], rfl⟩
theorem MapAt.mk' (h : w.ownsMap P k rawE b n (dat es)) (hr : Ris es) : MapAt P k w b es := ⟨by have := tight h; rwa [dat_size] at this, hr⟩
theorem MapAt.lt (h : MapAt P k w b es) : b < w.heap.size := World.ownsMap.lt h.1
theorem MapAt.only {S : Nat → Prop} (h : MapAt P k w b es) (ho : Only S w w') (hb : ¬ S b) : MapAt P k w' b es := by
  obtain ⟨⟨e, clock, h1, h2⟩, hr⟩ := h
  exact ⟨⟨e, clock, (ho.block b (Array.getElem?_eq_some_iff.1 h1).1 hb).trans h1, h2⟩, hr⟩
theorem MapAt.gr (h : MapAt P k w b es) (hg : Gr w w') : MapAt P k w' b es := h.only (Only.of_gr hg) (fun e => e)
theorem MapAt.made (w : World) : MapAt P k (w.alloc (.map #[] 0)) w.heap.size [] := ⟨World.ownsMap_made w P k rawE, ris_nil⟩
/-- a block of cells is no map -/
theorem MapAt.ne {g : Nat} {t : TypeId} {cs : Array Value} (h : MapAt P k w b es) (hb : Bl w g t cs) : b ≠ g := by
  rintro rfl
  obtain ⟨⟨e, clock, h1, _⟩, _⟩ := h
  rw [hb] at h1
  cases h1
theorem raw_inv {v v' : Value} {d : DataW Value} {ps : List MemPlace} (h : rawE v = some (d, ps)) (hd : d = .held v') : v = v' := by
  unfold rawE at h
  injection h with h
  injection h with h1 h2
  rw [hd] at h1
  injection h1

theorem MapAt.look {t e : TypeId} (h : MapAt P k w b es) (hk : P.underlying k = some .string) (ht : P.underlying t = some (.map k e)) {z : Value} (hz : (zeroValue e).run P w = .ok z w) {s : ByteArray} (hs : s.size ≤ maxLen) :
    (Instr.lookup t (.map (some b)) (.string s) false).run P w = .ok ((getE es s.data.toList).getD z) w := by
  obtain ⟨v, ps, hrun, hv⟩ := World.ownsMap.lookup h.1 (string_keyed hk) ht hz (zd := .held z) (zp := []) rfl (keyOf_string_mk hk hs)
  rw [dat_at] at hv
  rw [hrun, raw_inv hv rfl]
theorem MapAt.look_ok {t e : TypeId} (h : MapAt P k w b es) (hk : P.underlying k = some .string) (ht : P.underlying t = some (.map k e)) {z : Value} (hz : (zeroValue e).run P w = .ok z w) {s : ByteArray} (hs : s.size ≤ maxLen) :
    (Instr.lookup t (.map (some b)) (.string s) true).run P w = .ok (.tuple #[(getE es s.data.toList).getD z, .bool (getE es s.data.toList).isSome]) w := by
  obtain ⟨v, ps, hrun, hv⟩ := World.ownsMap.look_ok h.1 (string_keyed hk) ht hz (zd := .held z) (zp := []) rfl (keyOf_string_mk hk hs)
  rw [dat_at] at hv
  rw [hrun, raw_inv hv rfl, dat_has]
theorem MapAt.store {t e : TypeId} (h : MapAt P k w b es) (hk : P.underlying k = some .string) (ht : P.underlying t = some (.map k e)) {s : ByteArray} (hs : s.size ≤ maxLen) (hn : es.length < maxLen) (v : Value) :
    ∃ w', (Instr.mapUpdate t (.map (some b)) (.string s) v).run P w = .ok () w' ∧ MapAt P k w' b (putE s.data.toList v es) ∧ w.mapTurned w' b := by
  obtain ⟨w', hrun, h1, h2⟩ := World.ownsMap.store h.1 (string_keyed hk) ht hn (keyOf_string_mk hk hs) (show rawE v = some (.held v, []) from rfl)
  rw [dat_put] at h1
  exact ⟨w', hrun, MapAt.mk' h1 (h.2.put _ _), h2⟩
theorem MapAt.drop {t e : TypeId} (h : MapAt P k w b es) (hk : P.underlying k = some .string) (ht : P.underlying t = some (.map k e)) {s : ByteArray} (hs : s.size ≤ maxLen) (ty : TypeId) :
    ∃ w', (Builtin.delete_ #[t, k] ty #[.map (some b), .string s]).run P w = .ok (.tuple #[]) w' ∧ MapAt P k w' b (delE s.data.toList es) ∧ w.mapTurned w' b := by
  obtain ⟨w', hrun, h1, h2⟩ := World.ownsMap.drop h.1 (string_keyed hk) ht (keyOf_string_mk hk hs) ty
  rw [dat_del] at h1
  exact ⟨w', hrun, MapAt.mk' h1 (h.2.del _), h2⟩
theorem turned_only (h : w.mapTurned w' b) : Only (fun i => i = b) w w' := Only.of_row h.grown fun j e => by injection e with e; exact e.symm
/-- a map turned: no block more -/
theorem turned_size (h : w.mapTurned w' b) : w'.heap.size = w.heap.size := by
  obtain ⟨_, _, _, _, _, rfl⟩ := h
  simp [setBlock]

/-- 'range' under way over a map: 'left' says of which keys the turn is still to come -/
def Rng (P : Program) (k : TypeId) (w : World) (b r : Nat) (es : KV Value) (left : List UInt8 → Bool) (cnt : Nat) : Prop :=
  ∃ L : Lit → Bool, (∀ s, L (.string s) = left s) ∧ w.ranges P k rawE b r es.length (dat es) L cnt ∧ Ris es
theorem Rng.map {r : Nat} {left : List UInt8 → Bool} {cnt : Nat} (h : Rng P k w b r es left cnt) : MapAt P k w b es := by
  obtain ⟨L, _, h1, h2⟩ := h
  exact ⟨h1.owns, h2⟩
theorem Rng.left_eq {r : Nat} {left : List UInt8 → Bool} {cnt : Nat} (h : Rng P k w b r es left cnt) : w.rangeLeft b r = cnt := by
  obtain ⟨L, _, h1, _⟩ := h
  exact h1.left_eq
theorem Rng.lt {r : Nat} {left : List UInt8 → Bool} {cnt : Nat} (h : Rng P k w b r es left cnt) : r < w.heap.size := by
  obtain ⟨L, _, h1, _⟩ := h
  exact h1.lt
theorem Rng.only {S : Nat → Prop} {r : Nat} {left : List UInt8 → Bool} {cnt : Nat} (h : Rng P k w b r es left cnt) (ho : Only S w w') (hb : ¬ S b) (hr : ¬ S r) : Rng P k w' b r es left cnt := by
  obtain ⟨L, h0, h1, h2⟩ := h
  have l1 := h1.owns.lt
  have l2 := h1.lt
  obtain ⟨es', clock, since, seen, c0, hb', F, hs, hD, hr', rest⟩ := h1
  exact ⟨L, h0, ⟨es', clock, since, seen, c0, (ho.block b l1 hb).trans hb', F, hs, hD, (ho.block r l2 hr).trans hr', rest⟩, h2⟩
theorem MapAt.range {t e : TypeId} (h : MapAt P k w b es) (hk : P.underlying k = some .string) (ht : P.underlying t = some (.map k e)) :
    ∃ w', (Instr.range t (.map (some b))).run P w = .ok (.pointer (some ⟨w.heap.size, 0, none⟩)) w' ∧ Rng P k w' b w.heap.size es (fun s => (getE es s).isSome) es.length ∧ Gr w w' ∧ w'.heap.size = w.heap.size + 1 := by
  obtain ⟨w', hrun, h1, h2, h3⟩ := World.ownsMap.range h.1 (string_keyed hk) ht
  rw [dat_size] at h1
  exact ⟨w', hrun, ⟨_, fun s => dat_has s es, h1, h.2⟩, ⟨h2.os, h2.tape, h2.output, h2.size, fun i hi => h2.block i hi (by simp)⟩, h3⟩
theorem Rng.next {r : Nat} {left : List UInt8 → Bool} {cnt : Nat} (h : Rng P k w b r es left cnt) (hk : P.underlying k = some .string) (ty : TypeId) :
    ((∀ s, left s = false) ∧ (Instr.next (.pointer (some ⟨r, 0, none⟩)) false ty).run P w = .ok (.tuple #[.bool false]) w) ∨
    ∃ (s : ByteArray) (v : Value) (w' : World) (cnt' : Nat), s.size ≤ maxLen ∧ left s.data.toList = true ∧ getE es s.data.toList = some v ∧ (Instr.next (.pointer (some ⟨r, 0, none⟩)) false ty).run P w = .ok (.tuple #[.bool true, .string s, v]) w' ∧
      Rng P k w' b r es (fun x => left x && !(x == s.data.toList)) cnt' ∧ cnt' < cnt ∧ w.grownBy w' (some r) ∧ w'.heap.size = w.heap.size ∧ (Instr.entry (.pointer (some ⟨r, 0, none⟩))).run P w' = .ok (.tuple #[.string s, v]) w' := by
  obtain ⟨L, h0, h1, h2⟩ := h
  have hleft : ∀ kl, L kl = true → ∃ p ∈ es, Lit.string p.1 = kl := fun kl hkl => by
    obtain ⟨es', clock, since, seen, c0, hb, F, hs, hD, hr, _, _, _, hl2, _⟩ := h1
    obtain ⟨x, hx, rfl⟩ := hl2 kl hkl
    unfold dat at hD
    injection hD with hD
    have : WideElems.rg P k rawE x ∈ (es'.toList.map (WideElems.rg P k rawE)).foldr DataW.insert [] := mem_sorted.2 (List.mem_map.2 ⟨x, hx, rfl⟩)
    rw [← hD] at this
    obtain ⟨p, hp, e⟩ := List.mem_map.1 this
    exact ⟨p, hp, by rw [← e]⟩
  rcases h1.next (string_keyed hk) ty with ⟨_, h3, hrun⟩ | ⟨key, v, kl, y, w', cnt', hkey, hl, hv, hat, hrun, hrg, hlt, hgr, hsz, hen⟩
  · exact .inl ⟨fun s => by rw [← h0]; exact h3 _, hrun⟩
  · obtain ⟨x, rfl, rfl, hx⟩ := Maps.keyOf_str hk hkey
    obtain ⟨p, hp, e⟩ := hleft _ hl
    injection e with e
    have hg : getE es x = some p.2 := (mem_getE h2).2 (by rw [← e]; exact hp)
    have hvy : v = p.2 := by
      have e2 := hat (.held undef)
      rw [dat_at, hg] at e2
      exact raw_inv (show rawE v = some (y.1, y.2) from hv) e2.symm
    have hsx : (⟨x.toArray⟩ : ByteArray).data.toList = x := by simp
    refine .inr ⟨⟨x.toArray⟩, v, w', cnt', by simpa [ByteArray.size] using hx, by rw [hsx, ← h0]; exact hl, by rw [hsx, hg, hvy], hrun, ⟨_, fun s => ?_, hrg, h2⟩, hlt, hgr, hsz, hen⟩
    show (L (.string s) && !(Lit.string s).sameKey (.string x)) = _
    rw [h0, hsx]
    rfl
end

section
variable {P : Program} {k : TypeId} {w : World} {b : Nat} {es : KV Value} {ops : Array Oper} {rest : List Oper} {o : Oper} {a : Act} {Q : Exit → Act → World → Prop}
/-- 'm[k] = v' at the operation -/
theorem wpList_put_map (hg : o.guard = none) (m x v : Operand) (t : TypeId) (hop : o.op = Op.mapUpdate t m x v) (k e : TypeId) (hk : P.underlying k = some .string) (ht : P.underlying t = some (.map k e))
    (hm : a.eval m = .map (some b)) (h : MapAt P k w b es) (hn : es.length < maxLen) (s : ByteArray) (val : Value) (hx : a.eval x = .string s) (hv : a.eval v = val) (hs : s.size ≤ maxLen)
    (hK : ∀ w', MapAt P k w' b (putE s.data.toList val es) → w.mapTurned w' b → wpList P ops Q rest (a.put o.dst undef) w') : wpList P ops Q (o :: rest) a w := by
  refine wpList_plain hg fun K' hK' => ?_
  obtain ⟨w', hrun, r1, r2⟩ := h.store hk ht hs hn val
  unfold Oper.wp
  simp [execOp, hop, hm, hx, hv, hrun, Result.andThen]
  exact hK' _ _ (hK w' r1 r2)
/-- 'delete(m, k)' at the operation -/
theorem wpList_del_map (hg : o.guard = none) (m x : Operand) (t : TypeId) (k : TypeId) (hop : o.op = Op.call { callee := Callee.builtin Builtin.delete, args := #[m, x], argTypes := #[t, k] }) (e : TypeId) (hk : P.underlying k = some .string) (ht : P.underlying t = some (.map k e))
    (hm : a.eval m = .map (some b)) (h : MapAt P k w b es) (s : ByteArray) (hx : a.eval x = .string s) (hs : s.size ≤ maxLen)
    (hK : ∀ w', MapAt P k w' b (delE s.data.toList es) → w.mapTurned w' b → wpList P ops Q rest (a.put o.dst (.tuple #[])) w') : wpList P ops Q (o :: rest) a w := by
  refine wpList_plain hg fun K' hK' => ?_
  obtain ⟨w', hrun, r1, r2⟩ := h.drop hk ht hs o.type
  unfold Oper.wp
  simp [execOp, hop, resolve, invoke, builtin, hm, hx, hrun, Result.andThen]
  exact hK' _ _ (hK w' r1 r2)
/-- 'range m' at the operation -/
theorem wpList_range_map (hg : o.guard = none) (m : Operand) (t : TypeId) (hop : o.op = Op.range t m) (k e : TypeId) (hk : P.underlying k = some .string) (ht : P.underlying t = some (.map k e)) (hm : a.eval m = .map (some b)) (h : MapAt P k w b es)
    (hK : ∀ w', Rng P k w' b w.heap.size es (fun s => (getE es s).isSome) es.length → Gr w w' → w'.heap.size = w.heap.size + 1 → wpList P ops Q rest (a.put o.dst (.pointer (some ⟨w.heap.size, 0, none⟩))) w') : wpList P ops Q (o :: rest) a w := by
  refine wpList_plain hg fun K' hK' => ?_
  obtain ⟨w', hrun, r1, r2, r3⟩ := h.range hk ht
  unfold Oper.wp
  simp [execOp, hop, hm, hrun, Result.andThen]
  exact hK' _ _ (hK w' r1 r2 r3)
/-- the step of a range over a map -/
theorem wpList_next_map (hg : o.guard = none) (it : Operand) (hop : o.op = Op.next it false) (k : TypeId) (hk : P.underlying k = some .string) (r : Nat) {left : List UInt8 → Bool} {cnt : Nat} {β : Type} (mk : β → Value) (inv : ∀ p ∈ es, ∃ c, p.2 = mk c)
    (hit : a.eval it = .pointer (some ⟨r, 0, none⟩)) (h : Rng P k w b r es left cnt)
    (hDone : (∀ s, left s = false) → wpList P ops Q rest (a.put o.dst (.tuple #[.bool false])) w)
    (hMore : ∀ (s : ByteArray) (c : β) (w' : World) (cnt' : Nat), s.size ≤ maxLen → left s.data.toList = true → getE es s.data.toList = some (mk c) → Rng P k w' b r es (fun x => left x && !(x == s.data.toList)) cnt' → cnt' < cnt →
      w.grownBy w' (some r) → w'.heap.size = w.heap.size → (Instr.entry (.pointer (some ⟨r, 0, none⟩))).run P w' = .ok (.tuple #[.string s, mk c]) w' → wpList P ops Q rest (a.put o.dst (.tuple #[.bool true, .string s, mk c])) w') : wpList P ops Q (o :: rest) a w := by
  refine wpList_plain hg fun K' hK' => ?_
  unfold Oper.wp
  have hr := h.map.2
  rcases h.next hk o.type with ⟨h0, hrun⟩ | ⟨s, v, w', cnt', hs, hl, hv, hrun, hrg, hlt, hgr, hsz, hen⟩
  · simp [execOp, hop, hit, hrun, Result.andThen]
    exact hK' _ _ (hDone h0)
  · obtain ⟨c, hc⟩ := inv _ ((mem_getE hr).1 hv)
    simp only at hc
    subst hc
    simp [execOp, hop, hit, hrun, Result.andThen]
    exact hK' _ _ (hMore s c w' cnt' hs hl hv hrg hlt hgr hsz hen)
end

end Go.Proofs.YtkcfieoflkhdpaaDoor.MapS
