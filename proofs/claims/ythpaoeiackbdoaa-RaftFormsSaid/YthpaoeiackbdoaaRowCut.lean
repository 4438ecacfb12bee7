/-
  Rows whose elements have several cells: cut, and appended. No program.
-/
import Derived.Test.YthpaoeiackbdoaaBaseM
namespace Go.Proofs.Ythpaoeiackbdoaa
open Go Go.RowKit

theorem RowAt.take {k : Nat} {w : World} {A : Option Addr} {n c : Nat} {rs : List (List Value)} (h : RowAt k w (.slice A n c) rs) (i : Nat) (hi : i ≤ n) : RowAt k w (.slice A i c) (rs.take i) := by
  obtain ⟨A', c', e, hc, hr⟩ := h
  simp only [Value.slice.injEq] at e
  obtain ⟨rfl, rfl, rfl⟩ := e
  refine ⟨A, c, by rw [List.length_take, Nat.min_eq_left hi], by rw [List.length_take]; omega, fun j m r u hj hm => ?_⟩
  rw [List.getElem?_take] at hj
  split at hj
  · exact hr j m r u hj hm
  · cases hj
theorem RowAt.drop {k : Nat} {w : World} {A : Option Addr} {n c : Nat} {rs : List (List Value)} (h : RowAt k w (.slice A n c) rs) (i : Nat) (hi : i ≤ n) : RowAt k w (.slice (if c = i then A else A.map (·.add (i * k))) (n - i) (c - i)) (rs.drop i) := by
  obtain ⟨A', c', e, hc, hr⟩ := h
  simp only [Value.slice.injEq] at e
  obtain ⟨rfl, rfl, rfl⟩ := e
  refine ⟨_, _, by rw [List.length_drop], by rw [List.length_drop]; omega, fun j m r u hj hm => ?_⟩
  rw [List.getElem?_drop] at hj
  obtain ⟨ad, rfl, h2⟩ := hr (i + j) m r u hj hm
  have hlt := (List.getElem?_eq_some_iff.1 hj).1
  rw [if_neg (by omega)]
  refine ⟨ad.add (i * k), rfl, ?_⟩
  rw [add_add, show i * k + (j * k + m) = (i + j) * k + m by rw [Nat.add_mul]; omega]
  exact h2
/-- the walk stops here -/
theorem pause {p : Prop} (h : Hid p) : p := h.out
theorem rows_len {k : Nat} : ∀ {l : List (List Value)}, (∀ r ∈ l, r.length = k) → l.flatten.length = l.length * k
  | [], _ => by simp
  | x :: l, h => by
    rw [List.flatten_cons, List.length_append, rows_len (l := l) (fun r hr => h r (by simp [hr])), h x (by simp), List.length_cons, Nat.add_mul]
    omega
/-- the elements' cells, one behind the other -/
theorem RowAt.flat {k : Nat} {w : World} {A : Option Addr} {n c : Nat} {rs : List (List Value)} (h : RowAt k w (.slice A n c) rs) (hq : ∀ r ∈ rs, r.length = k) (hk : 0 < k) : ∀ j u, rs.flatten[j]? = some u → ∃ ad, A = some ad ∧ w.cell? (ad.add j) = some u := by
  obtain ⟨A', c', e, hc, hr⟩ := h
  simp only [Value.slice.injEq] at e
  obtain ⟨rfl, rfl, rfl⟩ := e
  intro j u hj
  have hjl := (List.getElem?_eq_some_iff.1 hj).1
  rw [rows_len hq] at hjl
  have hjd : j / k < rs.length := (Nat.div_lt_iff_lt_mul hk).2 hjl
  have hjm : j % k < (rs[j / k]).length := by rw [hq _ (List.getElem_mem hjd)]; exact Nat.mod_lt _ hk
  have e1 : rs[j / k]? = some rs[j / k] := List.getElem?_eq_getElem hjd
  have e2 : (rs[j / k])[j % k]? = some (rs[j / k])[j % k] := List.getElem?_eq_getElem hjm
  have h3 := flatten_at hq e1 e2
  have e4 : j / k * k + j % k = j := by rw [Nat.mul_comm]; exact Nat.div_add_mod j k
  rw [e4, hj] at h3
  injection h3 with h3
  obtain ⟨ad, hA, h5⟩ := hr _ _ _ _ e1 e2
  rw [e4, ← h3] at h5
  exact ⟨ad, hA, h5⟩

section
variable {P : Program} {e : TypeId} {k : Nat} {w w' : World} {B : Nat} {v : Value} {rs : List (List Value)}

theorem run_append_nil_any (base : Nat) (t ty e : TypeId) (i : TypeInfo) (size : Nat) (ht : P.underlying t = some (.slice e)) (hi : P.info? e = some i) (v : Value) (n c : Nat) (xs : List Value) (hown : w.ownsRow base e size v n xs) :
    (Builtin.append_ #[t, t] ty #[v, .slice none 0 c]).run P w = .ok v w := by
  rcases hown.2 with ⟨rfl, rfl⟩ | ⟨g, cap, cur, rfl, _, _, hnc, _⟩
  · simp [Builtin.append_, run_underlying ht, sizeOf, typeInfo, hi, Builtin.lenOf, Builtin.firstCells]
  · simp [Builtin.append_, run_underlying ht, sizeOf, typeInfo, hi, Builtin.lenOf, Builtin.firstCells, hnc, storeCells]
/-- 'append(own, r...)' -/
theorem run_appR (t ty e : TypeId) (i : TypeInfo) (z : Value) (k nb : Nat) (ht : P.underlying t = some (.slice e)) (hi : P.info? e = some i) (hz : i.zero = some z) (hsize : i.size = k) (hby : i.bytes = nb) (hzs : z.cells.size = k) (hk : 0 < k)
    {w : World} {B : Nat} {v u : Value} {rs qs : List (List Value)} (hown : OwnR e k w B v rs) (hB : B ≤ w.heap.size) (hu : RowAt k w u qs) (hq : ∀ q ∈ qs, q.length = k) (h1 : ∀ q ∈ qs, ∀ y ∈ q, y.oneCell' = true)
    (hl : rs.length + qs.length ≤ maxLen) (hb : (rs.length + qs.length) * nb ≤ 140737488355328) :
    ∃ v' w', (Builtin.append_ #[t, t] ty #[v, u]).run P w = .ok v' w' ∧ OwnR e k w' B v' (rs ++ qs) ∧ Put1 w w' v v' := by
  have hu0 := hu
  obtain ⟨A, c, rfl, hc, _⟩ := hu
  have hfl := hu0.flat hq hk
  have hlen : qs.flatten.length = qs.length * k := rows_len hq
  rcases A with _ | ad
  · have hq0 : qs = [] := by
      cases qs with
      | nil => rfl
      | cons x l =>
        have hx := hq x (by simp)
        have : 0 < (x :: l).flatten.length := by rw [List.flatten_cons, List.length_append]; omega
        obtain ⟨ad, h, _⟩ := hfl 0 _ (List.getElem?_eq_getElem this)
        cases h
    subst hq0
    exact ⟨v, w, run_append_nil_any B t ty e i k ht hi v _ c _ hown.2, by rw [List.append_nil]; exact hown, ⟨rfl, rfl, rfl, Nat.le_refl _, fun _ _ _ => rfl⟩, .inl rfl⟩
  · obtain ⟨v', w', hr, h5, h6, _, h7⟩ := run_append_own_at (P := P) w B t ty e i z k nb ht hi hz hsize hby hzs hk v rs.length rs.flatten hown.2 ad qs.length c qs.flatten hlen (fun j u hj => by obtain ⟨ad', h, h2⟩ := hfl j u hj; injection h with h; subst h; exact h2) (fun u hu => by obtain ⟨q, hq1, hq2⟩ := List.mem_flatten.1 hu; exact h1 q hq1 u hq2) hl hb hB
    refine ⟨v', w', hr, ⟨fun r hr => ?_, by rw [List.length_append, List.flatten_append]; exact h5⟩, h6, ?_⟩
    · rcases List.mem_append.1 hr with hr | hr
      · exact hown.1 r hr
      · exact hq r hr
    · rcases h7 with h7 | h7
      · exact .inl h7
      · exact .inr ⟨_, h7, Nat.le_refl _⟩
theorem wpList_appR {ops : Array Oper} {rest : List Oper} {o : Oper} {a : Act} {Q : Exit → Act → World → Prop} (hgd : o.guard = none) (s x : Operand) (t : TypeId)
    (ho : o.op = .call { callee := .builtin .append, args := #[s, x], argTypes := #[t, t] }) (e : TypeId) (i : TypeInfo) (z : Value) (k nb : Nat) (ht : P.underlying t = some (.slice e)) (hi : P.info? e = some i)
    (hz : i.zero = some z) (hsize : i.size = k) (hby : i.bytes = nb) (hzs : z.cells.size = k) (hk : 0 < k) {w : World} {u : Value} {qs : List (List Value)}
    (hs : a.eval s = v) (hown : OwnR e k w B v rs) (hB : B ≤ w.heap.size) (hx : a.eval x = u) (hu : RowAt k w u qs) (hq : ∀ q ∈ qs, q.length = k) (h1 : ∀ q ∈ qs, ∀ y ∈ q, y.oneCell' = true)
    (hl : rs.length + qs.length ≤ maxLen) (hb : (rs.length + qs.length) * nb ≤ 140737488355328)
    (h : ∀ v' w', OwnR e k w' B v' (rs ++ qs) → Put1 w w' v v' → wpList P ops Q rest (a.put o.dst v') w') : wpList P ops Q (o :: rest) a w := by
  refine wpList_plain hgd fun K hK => ?_
  obtain ⟨v', w', hr, h2, h3⟩ := run_appR (P := P) t o.type e i z k nb ht hi hz hsize hby hzs hk hown hB hu hq h1 hl hb
  unfold Oper.wp execOp
  simp only [ho, resolve, invoke, builtin, Sem.run_bind, Sem.run_pure, Result.andThen_ok, List.map_toArray, List.map_cons, List.map_nil, hs, hx, hr]
  exact hK _ _ (h v' w' h2 h3)
/-- 'x[:j]', 'x[j:]', as they are carried out -/
theorem exec_take {ev : Operand → Value} {o : Oper} {t : TypeId} {x y : Operand} {A : Option Addr} {n c j s : Nat} {w : World} (ho : o.op = .slice t x none (some y) none) (hx : ev x = .slice A n c) (hy : ev y = .int .i64 (j : Int)) (hj : j ≤ c)
    (ht : P.underlying t = some (.slice (P.elem t))) (hsz : ∀ w, (sizeOf (P.elem t)).run P w = .ok s w) : (execOp ev o).run P w = .ok (.value (.slice A j c)) w := by
  have e0 : A.map (fun x => x.add 0) = A := by cases A <;> simp [Addr.add]
  have hrun : (Instr.slice t (.slice A n c) none (some (.int .i64 (j : Int))) none).run P w = .ok (.slice A j c) w := by
    simp [Instr.slice, run_underlying ht, Instr.sliceBounds, Instr.sliceBound, asIntOf, hj, hsz, Result.andThen, e0]
  unfold execOp
  simp only [ho, Option.map_none, Option.map_some, hx, hy]
  rw [Sem.run_bind, run_sliceAt_slice _ _ _ _ _ _ ht, hrun]
  rfl
theorem exec_drop {ev : Operand → Value} {o : Oper} {t : TypeId} {x y : Operand} {A : Option Addr} {n c j s : Nat} {w : World} (ho : o.op = .slice t x (some y) none none) (hx : ev x = .slice A n c) (hy : ev y = .int .i64 (j : Int)) (hj : j ≤ n)
    (ht : P.underlying t = some (.slice (P.elem t))) (hsz : ∀ w, (sizeOf (P.elem t)).run P w = .ok s w) : (execOp ev o).run P w = .ok (.value (.slice (if c = j then A else A.map (·.add (j * s))) (n - j) (c - j))) w := by
  have hrun : (Instr.slice t (.slice A n c) (some (.int .i64 (j : Int))) none none).run P w = .ok (.slice (if c = j then A else A.map (·.add (j * s))) (n - j) (c - j)) w := by
    simp [Instr.slice, run_underlying ht, Instr.sliceBounds, Instr.sliceBound, asIntOf, hj, hsz, Result.andThen]
  unfold execOp
  simp only [ho, Option.map_none, Option.map_some, hx, hy]
  rw [Sem.run_bind, run_sliceAt_slice _ _ _ _ _ _ ht, hrun]
  rfl
/-- an operation of a still region, by its run -/
theorem still_run {ops : Array Oper} {Q : Act → Prop} {a : Act} {o : Oper} {rest : List Oper} (hw : Region.wanted o (yielded ops a.tmps) = true) {u : Value} (hc : (execOp a.eval o).run P w = .ok (.value u) w) (h : wpStill P ops w Q rest (a.put o.dst u)) : wpStill P ops w Q (o :: rest) a := by
  unfold wpStill
  rw [if_pos hw]
  unfold Oper.still
  rw [hc]
  simpa [Oper.stillUpon] using h
/-- the row's own cells are plain -/
theorem OwnR.blk (h : OwnR e k w B v rs) : ∀ ad n c, v = .slice (some ad) n c → B ≤ ad.block ∧ ad.block < w.heap.size := fun ad n c e => h.lt ad.block (by rw [e]; rfl)
/-- '[]T{}' of elements of k cells -/
theorem ownR_empty (w : World) (e : TypeId) (k : Nat) {B : Nat} (hB : B ≤ w.heap.size) : OwnR e k (w.alloc (.cells #[] e)) B (.slice (some ⟨w.heap.size, 0, none⟩) 0 0) [] :=
  ⟨fun r hr => by simp at hr, World.ownsRow_lit w #[] 0 hB (by simp [maxLen]) (by simp)⟩
end

end Go.Proofs.Ythpaoeiackbdoaa
