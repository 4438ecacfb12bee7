/-
  A region whose order is open, that builds on a row of values of its own: 'append(append([]T{}, x[:i]...), ..)'. No program.
-/
import Derived.Test.YthpaoeiackbdoaaBaseM
namespace Go.Proofs.Ythpaoeiackbdoaa.Mine
open Go Go.RowKit Go.Proofs.Ythpaoeiackbdoaa

/-- a slice of these values, a cell each, that does not lie in the row's block -/
structure Vs (w : World) (A : Option Addr) (c : Nat) (xs : List Value) : Prop where
  rd : ∀ j (hj : j < xs.length), ∃ ad, A = some ad ∧ w.cell? (ad.add j) = some xs[j]
  le : xs.length ≤ c
  max : c ≤ maxLen
  nil : A = none → c = 0
theorem Vs.lt {w : World} {A : Option Addr} {c : Nat} {xs : List Value} (h : Vs w A c xs) (hl : 0 < xs.length) {ad : Addr} (hA : A = some ad) : ad.block < w.heap.size := by
  obtain ⟨ad', h1, h2⟩ := h.rd 0 hl
  rw [hA] at h1
  injection h1 with h1
  subst h1
  have := World.block_lt_of_cell? w _ h2
  simpa [add_block] using this
theorem Vs.gr {w w' : World} {A : Option Addr} {c : Nat} {xs : List Value} (h : Vs w A c xs) (hg : Gr w w') : Vs w' A c xs := ⟨fun j hj => by
  obtain ⟨ad, h1, h2⟩ := h.rd j hj
  exact ⟨ad, h1, gr_cell hg _ _ h2⟩, h.le, h.max, h.nil⟩
theorem vs_own {e : TypeId} {w : World} {B : Nat} {A : Option Addr} {n c : Nat} {xs : List Value} (h : OwnV e w B (.slice A n c) xs) : Vs w A c xs := by
  have h0 := h
  rcases h.2 with ⟨h1, hn⟩ | ⟨g, cap, cur, h1, _, _, hnc, hcm, _, _⟩
  · injection h1 with h1 h2 h3
    subst h1
    subst h3
    have : xs = [] := List.eq_nil_of_length_eq_zero hn
    subst this
    exact ⟨fun j hj => absurd hj (by simp), by simp, by simp [maxLen], fun _ => rfl⟩
  · injection h1 with h1 h2 h3
    subst h1
    subst h2
    subst h3
    exact ⟨fun j hj => ⟨_, rfl, World.ownsRow.cells h0 (g := g) rfl j _ (by simp [hj])⟩, hnc, hcm, fun e => by cases e⟩
abbrev SlV (xs : List Value) : Known := fun v w o => ∃ A c, v = .slice A xs.length c ∧ Vs w A c xs ∧ (0 < xs.length → ∀ ad, A = some ad → some ad.block ≠ o)
theorem SlV.stays (xs : List Value) : Stays (SlV xs) := fun _ w o w' o' ⟨A, c, h1, h2, h3⟩ _ hr => by
  refine ⟨A, c, h1, ⟨fun j hj => ?_, h2.le, h2.max, h2.nil⟩, fun hl ad hA e2 => ?_⟩
  · obtain ⟨ad, hA, hc⟩ := h2.rd j hj
    refine ⟨ad, hA, ?_⟩
    have hb : w'.heap[(ad.add j).block]? = w.heap[(ad.add j).block]? := by rw [add_block]; exact hr.gb.block _ (h2.lt (by omega) hA) (h3 (by omega) ad hA)
    rw [World.cell?_of_block hb]
    exact hc
  · rcases hr.at_ with e | ⟨k, e, hk⟩
    · rw [e] at e2
      exact h3 hl ad hA e2
    · rw [e] at e2
      injection e2 with e2
      have := h2.lt hl hA
      omega
/-- the row: these values, of the call's own -/
abbrev RowV (e : TypeId) (B : Nat) (xs : List Value) : Known := fun v w o => OwnV e w B v xs ∧ v.ownBlock = o
theorem RowV.keeps (e : TypeId) (B : Nat) (xs : List Value) : Keeps (RowV e B xs) := fun _ _ _ _ ⟨h1, h2⟩ hg => ⟨h1.gr hg, h2⟩

section
variable {P : Program} {ops : Array Oper} {w0 : World} {n0 : Nat} {Q : (Tmp → Known) → Tmp → Known → Prop} {o : Oper} {rest : List Oper} {K : Tmp → Known} {Φ : Known} {c : Tmp} {C : Known}

/-- the row begins as '[]T{}' -/
theorem chain_lit0 {d : Tmp} {t e : TypeId} (ho : o.op = .buildSlice t 0 #[]) (hd : o.dst = some d) (hg : o.guard = none) (hk : n0 ≤ c) (hr : ∀ w, (Instr.buildSlice t 0 #[]).run P w = .ok (.slice (some ⟨w.heap.size, 0, none⟩) 0 0) (w.alloc (.cells #[] e)))
    (h : wpMine P ops w0 n0 Q rest (upd K (some d) top) d (RowV e w0.heap.size [])) : wpMine P ops w0 n0 Q (o :: rest) K c (fun _ _ o => o = none) := by
  refine chain hd hg (.inr hk) (RowV.keeps e w0.heap.size []) (fun a w ob ob0 hrs hwf _ hC => ?_) h
  have hC' : ob = none := hC
  subst hC'
  unfold doesC execOp
  simp only [ho, List.map_toArray, List.map_nil]
  rw [Sem.run_bind, hr w]
  have hgr : Gr w (w.alloc (.cells #[] e)) := (Gr.refl w).alloc _
  refine ⟨some w.heap.size, ⟨⟨hgr.os, hgr.tape, hgr.output, hgr.size, fun k hk _ => hgr.block k hk⟩, .inr ⟨_, rfl, Nat.le_refl _⟩⟩, fun k hk => ?_, ?_, rfl⟩
  · injection hk with hk
    subst hk
    simp
  · exact World.ownsRow_lit w #[] 0 hrs.gb.size (by simp [maxLen]) rfl
/-- 'append(row, x...)' -/
theorem chain_appV {d : Tmp} {x : Operand} {t e : TypeId} {i : TypeInfo} {z : Value} {nb : Nat} {xs ys : List Value} {B : Nat} (ho : o.op = .call { callee := .builtin .append, args := #[.tmp c, x], argTypes := #[t, t] }) (hd : o.dst = some d) (hg : o.guard = none) (ht : P.underlying t = some (.slice e)) (hi : P.info? e = some i)
    (hz : i.zero = some z) (hsize : i.size = 1) (hby : i.bytes = nb) (hzs : z.cells.size = 1) (hx : Kn K x (SlV ys)) (h1 : ∀ u ∈ ys, u.oneCell' = true) (hl : xs.length + ys.length ≤ 1000000000) (hb : (xs.length + ys.length) * nb ≤ 140737488355328) (hB : B ≤ w0.heap.size)
    (h : wpMine P ops w0 n0 Q rest (upd K (some d) top) d (RowV e B (xs ++ ys))) : wpMine P ops w0 n0 Q (o :: rest) K c (RowV e B xs) := by
  refine chain hd hg (.inl (looks_tmp (by simp [ho, Op.operands, Call.operands]))) (RowV.keeps e B _) (fun a w ob ob0 hrs hwf hlk hC => ?_) h
  obtain ⟨A, c2, h2, h3, h4⟩ : ∃ A c2, a.eval x = .slice A ys.length c2 ∧ Vs w A c2 ys ∧ (0 < ys.length → ∀ ad, A = some ad → some ad.block ≠ ob) := looks_op (Ψ := SlV ys) (by simp [ho, Op.operands, Call.operands]) hx hlk
  obtain ⟨hown, hob⟩ := hC
  have hbase : B ≤ w.heap.size := Nat.le_trans hB hrs.gb.size
  have hcells : ∀ ad, A = some ad → ∀ j u, ys[j]? = some u → w.cell? (ad.add j) = some u := fun ad hA j u hj => by
    obtain ⟨hj', rfl⟩ := List.getElem?_eq_some_iff.1 hj
    obtain ⟨ad', h5, h6⟩ := h3.rd j hj'
    rw [hA] at h5
    injection h5 with h5
    subst h5
    exact h6
  have hs : a.eval (.tmp c) = a.tmps.getD c undef := rfl
  generalize hv : a.tmps.getD c undef = v at hown hob hs
  rcases A with _ | ad
  · have hr0 : ys = [] := by
      cases ys with
      | nil => rfl
      | cons b r => obtain ⟨ad, h5, _⟩ := h3.rd 0 (by simp); cases h5
    subst hr0
    have hc0 := h3.nil rfl
    subst hc0
    have hrun := run_append_owned_none (P := P) (w := w) B t o.type e i 1 ht hi v xs.length xs hown
    unfold doesC execOp
    simp only [ho, resolve, invoke, builtin, Sem.run_bind, Sem.run_pure, Result.andThen_ok, List.map_toArray, List.map_cons, List.map_nil, hs, h2, List.length_nil, hrun]
    exact ⟨ob, RS.refl w ob, hwf, by rw [List.append_nil]; exact hown, hob⟩
  · obtain ⟨v', w', hr, h5, h6, _, h7⟩ := run_append_own_at (P := P) w B t o.type e i z 1 nb ht hi hz hsize hby hzs (by decide) v xs.length xs hown ad ys.length c2 ys (by simp) (hcells ad rfl) h1 (by unfold maxLen; omega) hb hbase
    unfold doesC execOp
    simp only [ho, resolve, invoke, builtin, Sem.run_bind, Sem.run_pure, Result.andThen_ok, List.map_toArray, List.map_cons, List.map_nil, hs, h2, hr]
    have hn : OwnV e w' B v' (xs ++ ys) := by unfold OwnV; rw [List.length_append]; exact h5
    refine ⟨v'.ownBlock, ⟨by rw [← hob]; exact h6, ?_⟩, fun k hk => (World.ownsRow.lt hn k hk).2, hn, rfl⟩
    rcases h7 with h7 | h7
    · exact .inl (by rw [h7, hob])
    · exact .inr ⟨_, h7, Nat.le_refl _⟩
/-- the row is handed on -/
theorem chain_moveV {d : Tmp} {e : TypeId} {B : Nat} {xs : List Value} (ho : o.op = .move (.tmp c) ∨ o.op = .assign (.tmp c)) (hd : o.dst = some d) (hg : o.guard = none) (h : wpMine P ops w0 n0 Q rest (upd K (some d) top) d (RowV e B xs)) : wpMine P ops w0 n0 Q (o :: rest) K c (RowV e B xs) := by
  refine chain hd hg (.inl (looks_tmp (by rcases ho with ho | ho <;> simp [ho, Op.operands]))) (RowV.keeps e B xs) (fun a w ob ob0 _ hwf _ hC => ?_) h
  unfold doesC execOp
  rcases ho with ho | ho <;> rw [ho] <;> exact ⟨ob, RS.refl w ob, hwf, hC⟩
/-- '[]T{x}' -/
theorem lit1V {t e : TypeId} {x : Operand} {u : Value} (ho : o.op = .buildSlice t 1 #[(0, x)]) (hg : o.guard = none) (hd : o.dst ≠ some c) (hx : Kn K x (Is u)) (hr : ∀ w, (Instr.buildSlice t 1 #[(0, u)]).run P w = .ok (.slice (some ⟨w.heap.size, 0, none⟩) 1 1) (w.alloc (.cells #[u] e)))
    (h : wpMine P ops w0 n0 Q rest (upd K o.dst (SlV [u])) c C) : wpMine P ops w0 n0 Q (o :: rest) K c C := by
  refine step hg hd (SlV.stays [u]) (fun a w ob hwf hl => ?_) h
  have h1 : a.eval x = u := looks_op (Ψ := Is u) (by simp [ho, Op.operands]) hx hl
  unfold does execOp
  simp only [ho, List.map_toArray, List.map_cons, List.map_nil, h1]
  rw [Sem.run_bind, hr w]
  refine ⟨(Gr.refl w).alloc _, some ⟨w.heap.size, 0, none⟩, 1, rfl, ⟨fun j hj => ⟨_, rfl, ?_⟩, by simp, by simp [maxLen], fun e => by cases e⟩, fun _ ad hA e2 => ?_⟩
  · have hj0 : j = 0 := by simpa using hj
    subst hj0
    simp [Addr.add]
  · injection hA with hA
    subst hA
    have := hwf _ e2.symm
    simp at this
/-- 'x[:k]' -/
theorem cutV {t : TypeId} {x y : Operand} {xs : List Value} {k : Nat} (ho : o.op = .slice t x none (some y) none) (hg : o.guard = none) (hd : o.dst ≠ some c) (hx : Kn K x (SlV xs)) (hy : Kn K y (Is (.int .i64 k))) (hkl : k ≤ xs.length)
    (ht : P.underlying t = some (.slice (P.elem t))) (hsz : ∀ w, (sizeOf (P.elem t)).run P w = .ok 1 w) (h : wpMine P ops w0 n0 Q rest (upd K o.dst (SlV (xs.take k))) c C) : wpMine P ops w0 n0 Q (o :: rest) K c C := by
  refine step hg hd (SlV.stays _) (fun a w ob _ hl => ?_) h
  obtain ⟨A, c2, h2, h3, h4⟩ : ∃ A c2, a.eval x = .slice A xs.length c2 ∧ Vs w A c2 xs ∧ (0 < xs.length → ∀ ad, A = some ad → some ad.block ≠ ob) := looks_op (Ψ := SlV xs) (by simp [ho, Op.operands]) hx hl
  have h1 : a.eval y = .int .i64 k := looks_op (Ψ := Is (.int .i64 k)) (by simp [ho, Op.operands]) hy hl
  have hle := h3.le
  have hb : k ≤ c2 := by omega
  have e0 : A.map (fun x => x.add 0) = A := by cases A <;> simp [Addr.add]
  have hrun : (Instr.slice t (.slice A xs.length c2) none (some (.int .i64 k)) none).run P w = .ok (.slice A k c2) w := by
    simp [Instr.slice, run_underlying ht, Instr.sliceBounds, Instr.sliceBound, asIntOf, hb, hsz, Result.andThen, e0]
  unfold does execOp
  simp only [ho, Option.map_none, Option.map_some, h1, h2]
  rw [Sem.run_bind, run_sliceAt_slice _ _ _ _ _ _ ht, hrun]
  refine ⟨Gr.refl w, A, c2, by rw [List.length_take, Nat.min_eq_left hkl], ⟨fun j hj => ?_, by rw [List.length_take]; omega, h3.max, h3.nil⟩, fun hl2 ad hA => h4 (by rw [List.length_take] at hl2; omega) ad hA⟩
  rw [List.length_take] at hj
  obtain ⟨ad, e1, e2⟩ := h3.rd j (by omega)
  exact ⟨ad, e1, by rw [List.getElem_take]; exact e2⟩
/-- 'x[k:]' -/
theorem dropV {t : TypeId} {x y : Operand} {xs : List Value} {k : Nat} (ho : o.op = .slice t x (some y) none none) (hg : o.guard = none) (hd : o.dst ≠ some c) (hx : Kn K x (SlV xs)) (hy : Kn K y (Is (.int .i64 k))) (hkl : k ≤ xs.length)
    (ht : P.underlying t = some (.slice (P.elem t))) (hsz : ∀ w, (sizeOf (P.elem t)).run P w = .ok 1 w) (h : wpMine P ops w0 n0 Q rest (upd K o.dst (SlV (xs.drop k))) c C) : wpMine P ops w0 n0 Q (o :: rest) K c C := by
  refine step hg hd (SlV.stays _) (fun a w ob _ hl => ?_) h
  obtain ⟨A, c2, h2, h3, h4⟩ : ∃ A c2, a.eval x = .slice A xs.length c2 ∧ Vs w A c2 xs ∧ (0 < xs.length → ∀ ad, A = some ad → some ad.block ≠ ob) := looks_op (Ψ := SlV xs) (by simp [ho, Op.operands]) hx hl
  have h1 : a.eval y = .int .i64 k := looks_op (Ψ := Is (.int .i64 k)) (by simp [ho, Op.operands]) hy hl
  have hle := h3.le
  have hmx := h3.max
  have hrun : (Instr.slice t (.slice A xs.length c2) (some (.int .i64 k)) none none).run P w = .ok (.slice (if c2 = k then A else A.map (·.add (k * 1))) (xs.length - k) (c2 - k)) w := by
    simp [Instr.slice, run_underlying ht, Instr.sliceBounds, Instr.sliceBound, asIntOf, hkl, hsz, Result.andThen]
  unfold does execOp
  simp only [ho, Option.map_none, Option.map_some, h1, h2]
  rw [Sem.run_bind, run_sliceAt_slice _ _ _ _ _ _ ht, hrun]
  refine ⟨Gr.refl w, _, _, by rw [List.length_drop], ⟨fun j hj => ?_, by rw [List.length_drop]; omega, by omega, fun hn => ?_⟩, fun hl2 ad hA => ?_⟩
  · rw [List.length_drop] at hj
    obtain ⟨ad, e1, e2⟩ := h3.rd (k + j) (by omega)
    rw [if_neg (by omega), e1]
    refine ⟨_, rfl, ?_⟩
    rw [List.getElem_drop, Addr.add_add, Nat.mul_one]
    exact e2
  · split at hn
    · have := h3.nil hn; omega
    · have : A = none := by simpa using hn
      have := h3.nil this
      omega
  · rw [List.length_drop] at hl2
    obtain ⟨ad0, e1, _⟩ := h3.rd 0 (by omega)
    rw [if_neg (by omega), e1] at hA
    injection hA with hA
    rw [← hA, add_block]
    exact h4 (by omega) ad0 e1
end

end Go.Proofs.Ythpaoeiackbdoaa.Mine
