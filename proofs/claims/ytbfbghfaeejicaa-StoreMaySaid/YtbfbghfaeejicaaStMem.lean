/-
  Stores in memory: rows of keys with rows of versions. No function of the program.
-/
import Derived.Test.YtbfbghfaeejicaaChMem
import Derived.Test.YtbfbghfaeejicaaStMath
namespace Go.Proofs.Ytbfbghfaeejicaa
open Go Go.RowKit ChMath KeyMath StMath
set_option maxRecDepth 100000

/-- a key with its versions, and where these lie -/
abbrev It : Type := ChT × Value
def itC (i : It) : List Value := [.string i.1.key, i.2]
def itA (i : It) : Value := .agg #[.string i.1.key, i.2]
/-- a slice of keys with versions that reads so -/
def ItsX (w : World) (v : Value) (is : List It) : Prop := RowAt 2 w v (is.map itC) ∧ ∀ i ∈ is, VersX w i.2 i.1.l
def ChnsX (w : World) (v : Value) (cs : List ChT) : Prop := ∃ is : List It, is.map Prod.fst = cs ∧ ItsX w v is
/-- what is not empty does not lie in this block -/
def NotIn (o : Option Nat) (v : Value) : Prop := ∀ ad n c, v = .slice (some ad) n c → 0 < n → some ad.block ≠ o
/-- a row of the call's own: its versions lie elsewhere -/
def ItsO (w : World) (B : Nat) (v : Value) (is : List It) : Prop := OwnR 54 2 w B v (is.map itC) ∧ ∀ i ∈ is, VersX w i.2 i.1.l ∧ NotIn v.ownBlock i.2
def ChnsO (w : World) (B : Nat) (v : Value) (cs : List ChT) : Prop := ∃ is : List It, is.map Prod.fst = cs ∧ ItsO w B v is

theorem ItsX.gr {w w' : World} {v : Value} {is : List It} (h : ItsX w v is) (hg : Gr w w') : ItsX w' v is := ⟨h.1.gr hg, fun i hi => (h.2 i hi).gr hg⟩
theorem ChnsX.gr {w w' : World} {v : Value} {cs : List ChT} (h : ChnsX w v cs) (hg : Gr w w') : ChnsX w' v cs := by
  obtain ⟨is, e, h⟩ := h
  exact ⟨is, e, h.gr hg⟩
theorem ChnsX.nil (w : World) (A : Option Addr) (c : Nat) : ChnsX w (.slice A 0 c) [] := ⟨[], rfl, ⟨A, c, rfl, Nat.zero_le _, fun j i r u hj _ => by simp at hj⟩, fun i hi => by simp at hi⟩
theorem ChnsX.is {w : World} {v : Value} {cs : List ChT} (h : ChnsX w v cs) : ∃ A c, v = .slice A cs.length c := by
  obtain ⟨is, rfl, h⟩ := h
  obtain ⟨A, c, e, _⟩ := h.1
  rw [List.length_map] at e ⊢
  exact ⟨A, c, e⟩
theorem ChnsX.at_ {w : World} {v : Value} {cs : List ChT} (h : ChnsX w v cs) {k : Nat} (hk : k < cs.length) :
    ∃ ad c p, v = .slice (some ad) cs.length c ∧ VersX w p cs[k].l ∧ w.cell? (ad.add (k * 2)) = some (.string cs[k].key) ∧ w.cell? ⟨(ad.add (k * 2)).block, (ad.add (k * 2)).off + 1, none⟩ = some p := by
  obtain ⟨is, rfl, h1, h2⟩ := h
  rw [List.length_map] at hk
  obtain ⟨ad, c, e, _, h3, h4⟩ := RowAt.cell h1 (j := k) (r := itC is[k]) (by rw [List.getElem?_map, List.getElem?_eq_getElem hk]; rfl) (by simp [itC])
  rw [List.length_map] at e
  have hv := h2 is[k] (List.getElem_mem hk)
  refine ⟨ad, c, is[k].2, by rw [List.length_map]; exact e, ?_, ?_, h4 1 _ (by decide) rfl⟩
  · rw [List.getElem_map]; exact hv
  · rw [List.getElem_map]; exact h3 _ rfl
theorem NotIn.empty (o : Option Nat) (A : Option Addr) (c : Nat) : NotIn o (.slice A 0 c) := fun ad n d e h => by injection e with _ e2; omega
theorem VersX.block {w : World} {l : List VerT} {ad : Addr} {n c : Nat} (h : VersX w (.slice (some ad) n c) l) (hn : 0 < n) : ad.block < w.heap.size := by
  have hl : 0 < l.length := by obtain ⟨A, d, e, _⟩ := h.is; injection e with _ e2; omega
  obtain ⟨ad', c', e, h1, _⟩ := h.at_ hl
  injection e with e1
  injection e1 with e1
  subst e1
  have := World.block_lt_of_cell? w _ h1
  rwa [add_block] at this
theorem VersX.kept {w w' : World} {o : Option Nat} {v : Value} {l : List VerT} (h : VersX w v l) (hn : NotIn o v) (hg : w.grownBy w' o) : VersX w' v l := by
  obtain ⟨A, c, rfl, hc, hr⟩ := h
  refine ⟨A, c, rfl, hc, fun j i r u hj hi => ?_⟩
  obtain ⟨ad, rfl, h2⟩ := hr j i r u hj hi
  refine ⟨ad, rfl, World.grownBy.cell hg h2 ?_⟩
  rw [add_block]
  have := (List.getElem?_eq_some_iff.1 hj).1
  exact hn ad _ c rfl (by omega)
/-- what is there does not lie in a block that comes -/
theorem VersX.notIn {w : World} {v : Value} {l : List VerT} (h : VersX w v l) {k : Nat} (hk : w.heap.size ≤ k) : NotIn (some k) v := fun ad n c e hn e2 => by
  subst e
  have := h.block hn
  injection e2 with e2
  omega
theorem VersO.notIn {w : World} {B : Nat} {v : Value} {l : List VerT} (h : VersO w B v l) {k : Nat} (hk : k < B) : NotIn (some k) v := fun ad n c e _ e2 => by
  subst e
  have := (h.lt ad.block rfl).1
  injection e2 with e2
  omega
theorem NotIn.none_ (v : Value) : NotIn none v := fun ad n c _ _ e => by cases e

theorem ItsO.x {w : World} {B : Nat} {v : Value} {is : List It} (h : ItsO w B v is) : ItsX w v is := ⟨h.1.rowAt, fun i hi => (h.2 i hi).1⟩
theorem ChnsO.x {w : World} {B : Nat} {v : Value} {cs : List ChT} (h : ChnsO w B v cs) : ChnsX w v cs := by
  obtain ⟨is, e, h⟩ := h
  exact ⟨is, e, h.x⟩
theorem ItsO.gr {w w' : World} {B : Nat} {v : Value} {is : List It} (h : ItsO w B v is) (hg : Gr w w') : ItsO w' B v is := ⟨h.1.gr hg, fun i hi => ⟨(h.2 i hi).1.gr hg, (h.2 i hi).2⟩⟩
theorem ChnsO.gr {w w' : World} {B : Nat} {v : Value} {cs : List ChT} (h : ChnsO w B v cs) (hg : Gr w w') : ChnsO w' B v cs := by
  obtain ⟨is, e, h⟩ := h
  exact ⟨is, e, h.gr hg⟩
theorem ChnsO.base {w : World} {B B' : Nat} {v : Value} {cs : List ChT} (h : ChnsO w B v cs) (hB : B' ≤ B) : ChnsO w B' v cs := by
  obtain ⟨is, e, h⟩ := h
  exact ⟨is, e, h.1.base hB, h.2⟩
theorem ChnsO.none_ (w : World) (B : Nat) : ChnsO w B (.slice none 0 0) [] := ⟨[], rfl, OwnR.none_ _ _, fun i hi => by simp at hi⟩
theorem ChnsO.lt {w : World} {B : Nat} {v : Value} {cs : List ChT} (h : ChnsO w B v cs) : ∀ g, v.ownBlock = some g → B ≤ g ∧ g < w.heap.size := by
  obtain ⟨is, e, h⟩ := h
  exact h.1.lt
theorem ChnsO.is {w : World} {B : Nat} {v : Value} {cs : List ChT} (h : ChnsO w B v cs) : ∃ A c, v = .slice A cs.length c := h.x.is
theorem itC_two (is : List It) : ∀ r ∈ is.map itC, r.length = 2 := fun r hr => by obtain ⟨x, _, rfl⟩ := List.mem_map.1 hr; rfl
theorem VersX.one {w : World} {v : Value} {l : List VerT} (h : VersX w v l) : v.oneCell' = true := by
  obtain ⟨A, c, rfl, _⟩ := h.is
  simp [Value.oneCell']
theorem ItsX.one {w : World} {v : Value} {is : List It} (h : ItsX w v is) : ∀ r ∈ is.map itC, ∀ y ∈ r, y.oneCell' = true := fun r hr y hy => by
  obtain ⟨x, hx, rfl⟩ := List.mem_map.1 hr
  simp only [itC, List.mem_cons, List.not_mem_nil, or_false] at hy
  rcases hy with rfl | rfl
  · simp [Value.oneCell']
  · exact (h.2 x hx).one
theorem info_chn : ∃ i, Try.prog.info? 54 = some i ∧ i.zero = some (.agg #[.string ⟨#[]⟩, .slice none 0 0]) ∧ i.size = 2 ∧ i.bytes = 40 := info_parts (by kernel_rfl)
theorem size_chn : ∀ w, (sizeOf (Try.prog.elem 24)).run Try.prog w = .ok 2 w := fun w => by kernel_rfl
/-- what a row leaves behind is as it was where that row is not -/
theorem itsKept {w w' : World} {v v' : Value} {is : List It} (h : ∀ i ∈ is, VersX w i.2 i.1.l ∧ NotIn v.ownBlock i.2) (hp : Put1 w w' v v') : ∀ i ∈ is, VersX w' i.2 i.1.l ∧ NotIn v'.ownBlock i.2 := fun i hi => by
  obtain ⟨h1, h2⟩ := h i hi
  refine ⟨h1.kept h2 hp.1, ?_⟩
  rcases hp.2 with e | ⟨k, e, hk⟩
  · rw [e]; exact h2
  · rw [e]; exact h1.notIn hk
/-- one more behind: 'append(own, x)', x in a new block of its own -/
theorem wpList_pushChn {ops : Array Oper} {rest : List Oper} {o : Oper} {a : Act} {Q : Exit → Act → World → Prop} (hgd : o.guard = none) (s x : Operand)
    (ho : o.op = .call { callee := .builtin .append, args := #[s, x], argTypes := #[24, 24] }) {w : World} {B : Nat} {v : Value} {cs : List ChT} (c : ChT) (p : Value)
    (hs : a.eval s = v) (hown : ChnsO w B v cs) (hy : VersX w p c.l) (hn : NotIn v.ownBlock p) (hB : B ≤ w.heap.size)
    (hx : a.eval x = .slice (some ⟨w.heap.size, 0, none⟩) 1 1) (hl : cs.length ≤ 1000000000)
    (h : ∀ v' w', ChnsO w' B v' (cs ++ [c]) → Put1 w w' v v' → VersX w' p c.l → wpList Try.prog ops Q rest (a.put o.dst v') w') : wpList Try.prog ops Q (o :: rest) a (w.alloc (.cells #[.string c.key, p] 54)) := by
  obtain ⟨i0, hi, hz0, hz1, hz2⟩ := info_chn
  obtain ⟨is, rfl, h1, h2⟩ := hown
  rw [List.length_map] at hl
  refine wpList_pushR hgd s x _ ho 54 i0 _ 2 40 Try.underlying24 hi hz0 hz1 hz2 rfl (by decide) (cs := #[.string c.key, p]) rfl (fun u hu => ?_) hs h1 hB hx (by rw [List.length_map]; unfold maxLen; omega) (by rw [List.length_map]; omega) (fun v' w' h3 h4 => ?_)
  · simp at hu
    rcases hu with rfl | rfl
    · rfl
    · exact hy.one
  · have h5 := itsKept h2 h4
    have h6 := itsKept (is := [(c, p)]) (fun i hi => by rw [List.mem_singleton.1 hi]; exact ⟨hy, hn⟩) h4
    refine h v' w' ⟨is ++ [(c, p)], by simp, by rw [List.map_append]; exact h3, fun i hi => ?_⟩ h4 (h6 (c, p) (by simp)).1
    rcases List.mem_append.1 hi with hi | hi
    · exact h5 i hi
    · exact h6 i hi
/-- .. with others behind: 'append(own, x...)' -/
theorem wpList_appChn {ops : Array Oper} {rest : List Oper} {o : Oper} {a : Act} {Q : Exit → Act → World → Prop} (hgd : o.guard = none) (s x : Operand)
    (ho : o.op = .call { callee := .builtin .append, args := #[s, x], argTypes := #[24, 24] }) {w : World} {B : Nat} {v u : Value} {cs qs : List ChT}
    (hs : a.eval s = v) (hown : ChnsO w B v cs) (hq : ChnsX w u qs) (hqn : ∀ k, v.ownBlock = some k → ∀ is : List It, is.map Prod.fst = qs → ItsX w u is → ∀ i ∈ is, NotIn (some k) i.2) (hB : B ≤ w.heap.size) (hx : a.eval x = u) (hl : cs.length + qs.length ≤ 1000000000)
    (h : ∀ v' w', ChnsO w' B v' (cs ++ qs) → Put1 w w' v v' → wpList Try.prog ops Q rest (a.put o.dst v') w') : wpList Try.prog ops Q (o :: rest) a w := by
  obtain ⟨i0, hi, hz0, hz1, hz2⟩ := info_chn
  obtain ⟨is, rfl, h1, h2⟩ := hown
  obtain ⟨qs', e, h3⟩ := hq
  have h3' := h3.2
  have hqn' := fun k hk => hqn k hk qs' e h3
  subst e
  rw [List.length_map, List.length_map] at hl
  refine wpList_appR hgd s x _ ho 54 i0 _ 2 40 Try.underlying24 hi hz0 hz1 hz2 rfl (by decide) hs h1 hB hx h3.1 (itC_two _) h3.one (by rw [List.length_map, List.length_map]; unfold maxLen; omega) (by rw [List.length_map, List.length_map]; omega) (fun v' w' h5 h6 => ?_)
  have h7 := itsKept h2 h6
  have h8 := itsKept (is := qs') (v := v) (fun i hi => ⟨h3' i hi, by
    cases hv : v.ownBlock with
    | none => exact NotIn.none_ _
    | some k => exact hqn' k hv i hi⟩) h6
  refine h v' w' ⟨is ++ qs', by rw [List.map_append], by rw [List.map_append]; exact h5, fun i hi => ?_⟩ h6
  rcases List.mem_append.1 hi with hi | hi
  · exact h7 i hi
  · exact h8 i hi
/-- nothing but the row has changed -/
theorem Put1.gr {w0 w w' : World} {B : Nat} {v v' : Value} {cs : List ChT} (h : Put1 w w' v v') (ho : ChnsO w B v cs) (hB : w0.heap.size ≤ B) (hg : Gr w0 w) : Gr w0 w' := by
  refine ⟨h.1.os.trans hg.os, h.1.tape.trans hg.tape, h.1.output.trans hg.output, Nat.le_trans hg.size h.1.size, fun j hj => ?_⟩
  rw [h.1.block j (Nat.lt_of_lt_of_le hj hg.size) (fun e => by have := (ho.lt j e.symm).1; omega)]
  exact hg.block j hj
theorem flat_set2 {α : Type} {b : α} : ∀ {rs : List (List α)}, (∀ r ∈ rs, r.length = 2) → ∀ {j : Nat} {a : α} {r : List α}, rs[j]? = some r → r[0]? = some a → rs.flatten.set (j * 2 + 1) b = (rs.set j [a, b]).flatten
  | [], _, j, _, _, h, _ => by simp at h
  | r :: rs, hr, j, a, q, h, ha => by
    have h3 := hr r (by simp)
    match r, h3 with
    | [x, y], _ =>
      rcases j with _ | j
      · simp at h
        subst h
        simp at ha
        simp [ha]
      · have ih := flat_set2 (b := b) (rs := rs) (fun r h => hr r (by simp [h])) (j := j) (by simpa using h) ha
        simp only [List.set_cons_succ, List.flatten_cons, ← ih]
        rw [show (j + 1) * 2 + 1 = j * 2 + 1 + 1 + 1 by omega]
        simp
/-- a key's versions are others now -/
theorem ItsO.stored {w : World} {B g n c : Nat} {is : List It} (h : ItsO w B (.slice (some ⟨g, 0, none⟩) n c) is) (hn : n = is.length) {k : Nat} (hk : k < is.length) {l : List VerT} {u : Value} (hu : VersX w u l) (hun : NotIn (some g) u) :
    ItsO (w.setCell ⟨g, k * 2 + 1, none⟩ u) B (.slice (some ⟨g, 0, none⟩) n c) (is.set k (⟨is[k].1.key, l⟩, u)) ∧ But w (w.setCell ⟨g, k * 2 + 1, none⟩ u) g := by
  subst hn
  have h1 := h.1.2
  rw [List.length_map] at h1
  obtain ⟨o1, g1⟩ := h1.stored (k * 2 + 1) u
  rw [flat_set2 (itC_two is) (j := k) (a := .string is[k].1.key) (r := itC is[k]) (by rw [List.getElem?_map, List.getElem?_eq_getElem hk]; rfl) rfl] at o1
  have e : (is.map itC).set k [.string is[k].1.key, u] = (is.set k (⟨is[k].1.key, l⟩, u)).map itC := by rw [List.map_set]; rfl
  rw [e] at o1
  have hv : ∀ i ∈ is, VersX (w.setCell ⟨g, k * 2 + 1, none⟩ u) i.2 i.1.l ∧ NotIn (Value.slice (some ⟨g, 0, none⟩) is.length c).ownBlock i.2 := itsKept h.2 ⟨g1, .inl rfl⟩
  refine ⟨⟨⟨itC_two _, by rw [List.length_map, List.length_set]; exact o1⟩, fun i hi => ?_⟩, g1⟩
  rcases List.mem_or_eq_of_mem_set hi with hi | hi
  · exact hv i hi
  · rw [hi]; exact ⟨hu.kept hun g1, hun⟩
theorem ItsO.cells {w : World} {B : Nat} {v : Value} {is : List It} (h : ItsO w B v is) {k : Nat} (hk : k < is.length) :
    ∃ g c, v = .slice (some ⟨g, 0, none⟩) is.length c ∧ B ≤ g ∧ g < w.heap.size ∧ is.length ≤ c ∧ w.cell? ⟨g, k * 2, none⟩ = some (.string is[k].1.key) ∧ w.cell? ⟨g, k * 2 + 1, none⟩ = some is[k].2 ∧ ∀ j, w.frozen? ⟨g, j, none⟩ = false := by
  obtain ⟨g, c, e, hB, hg, hc, _⟩ := h.1.block_ (by rw [List.length_map]; omega)
  rw [List.length_map] at e hc
  subst e
  have hj : (is.map itC)[k]? = some (itC is[k]) := by rw [List.getElem?_map, List.getElem?_eq_getElem hk]; rfl
  exact ⟨g, c, rfl, hB, hg, hc, h.1.cell_ (by rw [List.length_map]) (i := 0) hj rfl, h.1.cell_ (by rw [List.length_map]) (i := 1) hj rfl, h.1.frozen_ (by rw [List.length_map])⟩

/-- a store as a value -/
def StX (w : World) (v : Value) (s : StT) : Prop := ∃ u, v = .agg #[u, .int .i64 s.mark] ∧ ChnsX w u s.chains
theorem StX.gr {w w' : World} {v : Value} {s : StT} (h : StX w v s) (hg : Gr w w') : StX w' v s := by
  obtain ⟨u, e, h⟩ := h
  exact ⟨u, e, h.gr hg⟩
/-- versions that are not too long -/
def CsLen (cs : List ChT) : Prop := cs.length ≤ 1000000 ∧ ∀ c ∈ cs, c.l.length ≤ 1000000
end Go.Proofs.Ytbfbghfaeejicaa
