/-
  Rows of the call's own whose elements have several cells: an element is stored, the row is built on in an open region, elements are loaded. No program.
-/
import Derived.Test.YthpaoeiackbdoaaMineV
import Derived.Test.YthpaoeiackbdoaaRegDet
import Derived.Test.YthpaoeiackbdoaaBaseG
import Derived.Lib.ReflectliteSwap
namespace Go.Proofs.Ythpaoeiackbdoaa
open Go Go.RowKit
set_option maxRecDepth 100000

theorem Gr.fresh_ {w wr wz : World} {k : Nat} (h : Gr w wr) (hb : But wr wz k) (hk : w.heap.size ≤ k) : Gr w wz := by
  refine ⟨hb.os.trans h.os, hb.tape.trans h.tape, hb.output.trans h.output, Nat.le_trans h.size hb.size, fun j hj => ?_⟩
  rw [hb.block j (Nat.lt_of_lt_of_le hj h.size) (fun e => by injection e with e; omega)]
  exact h.block j hj
theorem flat_set3 {α : Type} {a b c : α} : ∀ {rs : List (List α)}, (∀ r ∈ rs, r.length = 3) → ∀ {j : Nat}, j < rs.length → ((rs.flatten.set (j * 3) a).set (j * 3 + 1) b).set (j * 3 + 2) c = (rs.set j [a, b, c]).flatten
  | [], _, j, h => by simp at h
  | r :: rs, hr, j, h => by
    have h3 := hr r (by simp)
    match r, h3 with
    | [x, y, z], _ =>
      rcases j with _ | j
      · simp
      · have ih := flat_set3 (a := a) (b := b) (c := c) (rs := rs) (fun r h => hr r (by simp [h])) (j := j) (by simpa using h)
        simp only [List.set_cons_succ, List.flatten_cons, ← ih]
        rw [show (j + 1) * 3 = j * 3 + 1 + 1 + 1 by omega]
        simp [Nat.add_assoc]
/-- an element of three cells is stored in a row of the call's own -/
theorem OwnR.stored3 {e : TypeId} {w : World} {B g n c : Nat} {rs : List (List Value)} (h : OwnR e 3 w B (.slice (some ⟨g, 0, none⟩) n c) rs) (hn : n = rs.length) {j : Nat} (hj : j < rs.length) (x y z : Value) :
    OwnR e 3 (w.setCells g (j * 3) [x, y, z]) B (.slice (some ⟨g, 0, none⟩) n c) (rs.set j [x, y, z]) ∧ w.grownBy (w.setCells g (j * 3) [x, y, z]) (some g) := by
  subst hn
  obtain ⟨o1, g1⟩ := h.2.stored (j * 3) x
  obtain ⟨o2, g2⟩ := o1.stored (j * 3 + 1) y
  obtain ⟨o3, g3⟩ := o2.stored (j * 3 + 2) z
  rw [flat_set3 h.1 hj] at o3
  have hw : w.setCells g (j * 3) [x, y, z] = ((w.setCell ⟨g, j * 3, none⟩ x).setCell ⟨g, j * 3 + 1, none⟩ y).setCell ⟨g, j * 3 + 2, none⟩ z := rfl
  rw [hw]
  refine ⟨⟨fun r hr => ?_, by rw [List.length_set]; exact o3⟩, ?_⟩
  · rcases List.mem_or_eq_of_mem_set hr with h1 | h1
    · exact h.1 r h1
    · rw [h1]; rfl
  · refine ⟨g3.os.trans (g2.os.trans g1.os), g3.tape.trans (g2.tape.trans g1.tape), g3.output.trans (g2.output.trans g1.output), Nat.le_trans g1.size (Nat.le_trans g2.size g3.size), fun k hk hne => ?_⟩
    have s1 := g1.size
    have s2 := g2.size
    rw [g3.block k (by omega) hne, g2.block k (by omega) hne, g1.block k hk hne]
/-- its cells -/
theorem OwnR.cell_ {e : TypeId} {k : Nat} {w : World} {B g n c : Nat} {rs : List (List Value)} (h : OwnR e k w B (.slice (some ⟨g, 0, none⟩) n c) rs) (hn : n = rs.length) {j i : Nat} {r : List Value} {u : Value} (hj : rs[j]? = some r) (hi : r[i]? = some u) : w.cell? ⟨g, j * k + i, none⟩ = some u := by
  subst hn
  have hf := flatten_at h.1 hj hi
  have hlt : j * k + i < rs.length * k := by
    have h1 := (List.getElem?_eq_some_iff.1 hf).1
    have h2 : rs.flatten.length = rs.length * k := h.2.1
    omega
  rw [h.2.cellAt _ hlt]
  exact hf
theorem OwnR.frozen_ {e : TypeId} {k : Nat} {w : World} {B g n c : Nat} {rs : List (List Value)} (h : OwnR e k w B (.slice (some ⟨g, 0, none⟩) n c) rs) (hn : n = rs.length) (j : Nat) : w.frozen? ⟨g, j, none⟩ = false := by
  subst hn
  exact h.2.frozenAt j
theorem OwnR.block_ {e : TypeId} {k : Nat} {w : World} {B : Nat} {v : Value} {rs : List (List Value)} (h : OwnR e k w B v rs) (hl : 0 < rs.length) : ∃ g c, v = .slice (some ⟨g, 0, none⟩) rs.length c ∧ B ≤ g ∧ g < w.heap.size ∧ rs.length ≤ c ∧ c ≤ maxLen := by
  rcases h.2.2 with ⟨rfl, hn⟩ | ⟨g, cap, cur, rfl, hb, hg, hnc, hm, hs, ht⟩
  · omega
  · exact ⟨g, cap, rfl, hb, (World.ownsRow.lt h.2 g rfl).2, hnc, hm⟩
theorem OwnR.front {e : TypeId} {q : Nat} {w : World} {B g n c k : Nat} {rs : List (List Value)} (h : OwnR e q w B (.slice (some ⟨g, 0, none⟩) n c) rs) (hk : k ≤ rs.length) : OwnR e q w B (.slice (some ⟨g, 0, none⟩) k c) (rs.take k) := by
  refine ⟨fun r hr => h.1 r (List.mem_of_mem_take hr), ?_⟩
  have hfl : (rs.take k).flatten = rs.flatten.take (k * q) := by
    have h1 := h.1
    clear h
    induction rs generalizing k with
    | nil => simp
    | cons r rs ih =>
      rcases k with _ | k
      · simp
      · have hr := h1 r (by simp)
        rw [List.take_succ_cons, List.flatten_cons, List.flatten_cons, ih (by simpa using hk) (fun r hr => h1 r (by simp [hr])), Nat.succ_mul, Nat.add_comm, List.take_append, hr, List.take_of_length_le (l := r) (by omega), Nat.add_sub_cancel_left]
  have hlt : (rs.take k).length = k := by rw [List.length_take]; omega
  rw [hlt]
  have hlen : rs.flatten.length = rs.length * q := h.2.1
  refine ⟨by rw [hfl, List.length_take, hlen, Nat.min_eq_left (Nat.mul_le_mul_right _ hk)], ?_⟩
  rcases h.2.2 with ⟨h', _⟩ | ⟨g', cap', cur, h', hb, hg, hnc, hcm, hcs, htake⟩
  · simp at h'
  · simp only [Value.slice.injEq, Option.some.injEq, Addr.mk.injEq, and_true] at h'
    obtain ⟨rfl, rfl, rfl⟩ := h'
    refine .inr ⟨g, c, cur, rfl, hb, hg, by omega, hcm, hcs, ?_⟩
    rw [hfl, ← htake, List.take_take, Nat.min_eq_left (Nat.mul_le_mul_right _ hk)]

end Go.Proofs.Ythpaoeiackbdoaa

namespace Go.Proofs.Ythpaoeiackbdoaa.Det
open Go Go.RowKit Go.Proofs.Ythpaoeiackbdoaa
section
variable {P : Program} {ops : Array Oper} {C : Nat → World → Prop} {ws : List Nat} {Q : Act → Nat → Prop} {o : Oper} {rest : List Oper} {i m : Nat} {a : Act}
/-- 'x[j]' of a slice of elements of k cells -/
theorem index_k {t : TypeId} {x y : Operand} {k : IntKind} {g n c j q : Nat} (hi : ws.contains i = false) (hg : o.guard = none) (ho : o.op = .indexAddr t x y) (ht : P.underlying t = some (.slice (P.elem t))) (hsz : ∀ w, (sizeOf (P.elem t)).run P w = .ok q w)
    (hx : a.eval x = .slice (some ⟨g, 0, none⟩) n c) (hy : a.eval y = .int k (j : Int)) (hj : j < n) (hK : wpDet P ops C ws Q rest (i + 1) (a.put o.dst (.pointer (some ⟨g, j * q, none⟩))) m) : wpDet P ops C ws Q (o :: rest) i a m := by
  refine pure hi (by simp [Region.wanted, hg]) (.pointer (some ⟨g, j * q, none⟩)) (fun w => ?_) hK
  have e : (⟨g, 0, none⟩ : Addr).add (j * q) = ⟨g, j * q, none⟩ := by unfold Addr.add; split <;> simp_all
  unfold execOp
  simp only [ho, hx, hy, Sem.run_bind, run_indexAt_slice w t _ _ _ _ _ ht]
  rw [if_pos (by omega), hsz w]
  simp only [Result.andThen_ok, Int.toNat_natCast, e]
  rfl
/-- a struct is loaded -/
theorem load_r {t : TypeId} {x : Operand} {g s : Nat} {ie : TypeInfo} (cs : List Value) (hi : ws.contains i = false) (hg : o.guard = none) (ho : o.op = .load t x) (lo hi' : Nat) (hB : phB ops ws i lo hi' = true) (hie : P.info? t = some ie) (ha : ∀ w, (isAgg t).run P w = .ok true w) (hl : cs.length = ie.size) (hx : a.eval x = .pointer (some ⟨g, s, none⟩))
    (hc : ∀ m', lo ≤ m' → m' ≤ hi' → ∀ w, C m' w → ∀ k v, cs[k]? = some v → w.cell? ⟨g, s + k, none⟩ = some v) (hK : wpDet P ops C ws Q rest (i + 1) (a.put o.dst (.agg cs.toArray)) m) : wpDet P ops C ws Q (o :: rest) i a m := by
  refine plain hi (by simp [Region.wanted, hg]) lo hi' hB (.agg cs.toArray) (fun m' h1 h2 w hw => ?_) hK
  have hr : (Instr.loadAt t (.pointer (some ⟨g, s, none⟩))).run P w = .ok (.agg cs.toArray) w := by
    simp [Instr.loadAt, Instr.sureAddr, Lib.rl_loadVar_cells (P := P) t ie hie ha g s cs hl w (hc m' h1 h2 w hw)]
  unfold execOp
  simp only [ho, hx, hr, Sem.run_bind, Result.andThen_ok, Sem.run_pure]
/-- a struct is stored -/
theorem store_r {t : TypeId} {x y : Operand} {g s : Nat} {ie : TypeInfo} (cs : List Value) (hi : ws.contains i = true) (hg : o.guard = none) (ho : o.op = .store t x y) (hie : P.info? t = some ie) (hl : cs.length = ie.size) (h1 : ∀ v ∈ cs, v.oneCell' = true) (hx : a.eval x = .pointer (some ⟨g, s, none⟩)) (hy : a.eval y = .agg cs.toArray)
    (hc : ∀ w, C m w → (∀ k, k < cs.length → (w.cell? ⟨g, s + k, none⟩).isSome = true) ∧ (∀ k, k < cs.length → w.frozen? ⟨g, s + k, none⟩ = false) ∧ C (m + 1) (w.setCells g s cs)) (hK : wpDet P ops C ws Q rest (i + 1) (a.put o.dst undef) (m + 1)) : wpDet P ops C ws Q (o :: rest) i a m := by
  refine write_ hi hg (fun w hw => ?_) hK
  obtain ⟨c1, c2, c3⟩ := hc w hw
  refine ⟨_, ?_, c3⟩
  have hr : (Instr.storeAt t (.pointer (some ⟨g, s, none⟩)) (.agg cs.toArray)).run P w = .ok () (w.setCells g s cs) := by
    simp [Instr.storeAt, Instr.sureAddr, Lib.rl_storeVar_cells (P := P) t ie hie g s cs hl h1 w c1 c2]
  unfold execOp
  simp only [ho, hx, hy, hr, Sem.run_bind, Result.andThen_ok, Sem.run_pure]
end
end Go.Proofs.Ythpaoeiackbdoaa.Det

namespace Go.Proofs.Ythpaoeiackbdoaa.Mine
open Go Go.RowKit Go.Proofs.Ythpaoeiackbdoaa
section
variable {P : Program} {ops : Array Oper} {w0 : World} {n0 : Nat} {Q : (Tmp → Known) → Tmp → Known → Prop} {o : Oper} {rest : List Oper} {K : Tmp → Known} {c : Tmp} {C : Known}
/-- the row, of elements of k cells -/
abbrev RowR (e : TypeId) (k B : Nat) (rs : List (List Value)) : Known := fun v w o => OwnR e k w B v rs ∧ v.ownBlock = o
theorem RowR.keeps (e : TypeId) (k B : Nat) (rs : List (List Value)) : Keeps (RowR e k B rs) := fun _ _ _ _ ⟨h1, h2⟩ hg => ⟨h1.gr hg, h2⟩
/-- the row lies in a cell -/
abbrev RowROf (e : TypeId) (k B : Nat) (row : Value) (rs : List (List Value)) : Known := fun _ w o => OwnR e k w B row rs ∧ row.ownBlock = o
theorem RowROf.keeps (e : TypeId) (k B : Nat) (row : Value) (rs : List (List Value)) : Keeps (RowROf e k B row rs) := fun _ _ _ _ ⟨h1, h2⟩ hg => ⟨h1.gr hg, h2⟩
/-- a slice of one element, in a block of its own -/
abbrev Nr (e : TypeId) (cs : List Value) : Known := fun v w o => ∃ g, v = .slice (some ⟨g, 0, none⟩) 1 1 ∧ Bl w g e cs.toArray ∧ some g ≠ o
theorem Nr.stays (e : TypeId) (cs : List Value) : Stays (Nr e cs) := fun v w o w' o' ⟨g, h1, h2, h3⟩ hwf hr => by
  refine ⟨g, h1, (hr.gb.block g h2.lt h3).trans h2, ?_⟩
  rcases hr.at_ with e | ⟨m, e, hm⟩
  · rw [e]; exact h3
  · rw [e]
    intro e2
    injection e2 with e2
    have := h2.lt
    omega
theorem chain_loadR {d : Tmp} {t : TypeId} {x : Operand} {e e' : TypeId} {k B g : Nat} {row : Value} {rs : List (List Value)} (ho : o.op = .load t x) (hd : o.dst = some d) (hg : o.guard = none) (hk : n0 ≤ c) (ha : ∀ w, (isAgg t).run P w = .ok false w) (hx : Kn K x (Bx g e' #[row]))
    (h : wpMine P ops w0 n0 Q rest (upd K (some d) top) d (RowR e k B rs)) : wpMine P ops w0 n0 Q (o :: rest) K c (RowROf e k B row rs) := by
  refine chain hd hg (.inr hk) (RowR.keeps e k B rs) (fun a w ob ob0 _ hwf hl hC => ?_) h
  obtain ⟨h1, h2, h3⟩ : Bx g e' #[row] (a.eval x) w ob := looks_op (Ψ := Bx g e' #[row]) (by simp [ho, Op.operands]) hx hl
  have hc : w.cell? ⟨g, 0, none⟩ = some row := by rw [h2.cell]; rfl
  have hr : (Instr.loadAt t (.pointer (some ⟨g, 0, none⟩))).run P w = .ok row w := by simp [Instr.loadAt, Instr.sureAddr, loadVar, ha w, hc]
  unfold doesC execOp
  simp only [ho, h1]
  rw [Sem.run_bind, hr]
  exact ⟨ob, RS.refl w ob, hwf, hC.1, hC.2⟩
/-- '[]T{x}' -/
theorem lit1R {t e : TypeId} {x : Operand} {u : Value} {cs : List Value} (ho : o.op = .buildSlice t 1 #[(0, x)]) (hg : o.guard = none) (hd : o.dst ≠ some c) (hx : Kn K x (Is u)) (hr : ∀ w, (Instr.buildSlice t 1 #[(0, u)]).run P w = .ok (.slice (some ⟨w.heap.size, 0, none⟩) 1 1) (w.alloc (.cells cs.toArray e)))
    (h : wpMine P ops w0 n0 Q rest (upd K o.dst (Nr e cs)) c C) : wpMine P ops w0 n0 Q (o :: rest) K c C := by
  refine step hg hd (Nr.stays e cs) (fun a w ob hwf hl => ?_) h
  have h1 : a.eval x = u := looks_op (Ψ := Is u) (by simp [ho, Op.operands]) hx hl
  unfold does execOp
  simp only [ho, List.map_toArray, List.map_cons, List.map_nil, h1]
  rw [Sem.run_bind, hr w]
  refine ⟨(Gr.refl w).alloc _, w.heap.size, rfl, Bl.new _ _ _, fun e2 => ?_⟩
  have := hwf _ e2.symm
  omega
/-- 'append(row, x)' -/
theorem chain_appR {d : Tmp} {x : Operand} {t e : TypeId} {i : TypeInfo} {z : Value} {nb k : Nat} {rs : List (List Value)} {cs : List Value} {B : Nat} (ho : o.op = .call { callee := .builtin .append, args := #[.tmp c, x], argTypes := #[t, t] }) (hd : o.dst = some d) (hg : o.guard = none) (ht : P.underlying t = some (.slice e)) (hi : P.info? e = some i)
    (hz : i.zero = some z) (hsize : i.size = k) (hby : i.bytes = nb) (hzs : z.cells.size = k) (hk : 0 < k) (hx : Kn K x (Nr e cs)) (hcs : cs.length = k) (h1 : ∀ u ∈ cs, u.oneCell' = true) (hl : rs.length + 1 ≤ 1000000000) (hb : (rs.length + 1) * nb ≤ 140737488355328) (hB : B ≤ w0.heap.size)
    (h : wpMine P ops w0 n0 Q rest (upd K (some d) top) d (RowR e k B (rs ++ [cs]))) : wpMine P ops w0 n0 Q (o :: rest) K c (RowR e k B rs) := by
  refine chain hd hg (.inl (looks_tmp (by simp [ho, Op.operands, Call.operands]))) (RowR.keeps e k B _) (fun a w ob ob0 hrs hwf hlk hC => ?_) h
  obtain ⟨g, h2, h3, h4⟩ : Nr e cs (a.eval x) w ob := looks_op (Ψ := Nr e cs) (by simp [ho, Op.operands, Call.operands]) hx hlk
  obtain ⟨hown, hob⟩ := hC
  have hbase : B ≤ w.heap.size := Nat.le_trans hB hrs.gb.size
  have hs : a.eval (.tmp c) = a.tmps.getD c undef := rfl
  generalize hv : a.tmps.getD c undef = v at hown hob hs
  obtain ⟨v', w', hr, h5, h6, _, h7⟩ := run_append_own_at (P := P) w B t o.type e i z k nb ht hi hz hsize hby hzs hk v rs.length rs.flatten hown.2 ⟨g, 0, none⟩ 1 1 cs (by rw [hcs]; omega) (fun j u hj => by
    rw [show (⟨g, 0, none⟩ : Addr).add j = ⟨g, j, none⟩ from by unfold Addr.add; split <;> simp_all, h3.cell]; simpa using hj) h1 (by unfold maxLen; omega) hb hbase
  unfold doesC execOp
  simp only [ho, resolve, invoke, builtin, Sem.run_bind, Sem.run_pure, Result.andThen_ok, List.map_toArray, List.map_cons, List.map_nil, hs, h2, hr]
  have hn : OwnR e k w' B v' (rs ++ [cs]) := ⟨fun r hr => by
    rcases List.mem_append.1 hr with h | h
    · exact hown.1 r h
    · simp at h; rw [h, hcs], by rw [List.length_append, List.length_singleton, List.flatten_append, List.flatten_singleton]; exact h5⟩
  refine ⟨v'.ownBlock, ⟨by rw [← hob]; exact h6, ?_⟩, fun k hk => (hn.lt k hk).2, hn, rfl⟩
  rcases h7 with h7 | h7
  · exact .inl (by rw [h7, hob])
  · exact .inr ⟨_, h7, Nat.le_refl _⟩
/-- an operation of one operand whose run is known -/
theorem run1 {x : Operand} {u v : Value} (hg : o.guard = none) (hd : o.dst ≠ some c) (hxo : x ∈ o.op.operands) (hx : Kn K x (Is u)) (hr : ∀ (a : Act) (w : World), a.eval x = u → (execOp a.eval o).run P w = .ok (.value v) w)
    (h : wpMine P ops w0 n0 Q rest (upd K o.dst (Is v)) c C) : wpMine P ops w0 n0 Q (o :: rest) K c C := by
  refine step hg hd (Is.stays v) (fun a w ob _ hl => ?_) h
  have h1 : a.eval x = u := looks_op (Ψ := Is u) hxo hx hl
  unfold does
  rw [hr a w h1]
  exact ⟨Gr.refl w, rfl⟩
end
end Go.Proofs.Ythpaoeiackbdoaa.Mine

namespace Go.Proofs.Ythpaoeiackbdoaa.Grow
open Go Go.RowKit Go.Proofs.Ythpaoeiackbdoaa
/-- a pointer to a struct -/
abbrev Pa (cs : List Value) : Known := fun v w => ∃ g s, v = .pointer (some ⟨g, s, none⟩) ∧ ∀ k u, cs[k]? = some u → w.cell? ⟨g, s + k, none⟩ = some u
theorem Pa.stays (cs : List Value) : Stays (Pa cs) := fun _ _ _ ⟨g, s, h1, h2⟩ hg => ⟨g, s, h1, fun k u hu => gr_cell hg _ _ (h2 k u hu)⟩
/-- a row of structs of the call's own -/
abbrev Rr (e : TypeId) (k B : Nat) (rs : List (List Value)) : Known := fun v w => OwnR e k w B v rs
theorem Rr.stays (e : TypeId) (k B : Nat) (rs : List (List Value)) : Stays (Rr e k B rs) := fun _ _ _ h hg => h.gr hg
section
variable {P : Program} {ops : Array Oper} {w0 : World} {n0 : Nat} {Q : (Tmp → Known) → Prop} {o : Oper} {rest : List Oper} {K : Tmp → Known}
theorem grow_idx_r {t e : TypeId} {x y : Operand} {k : IntKind} {q B : Nat} {rs : List (List Value)} {n : Int} {cs : List Value} (j : Nat) (ho : o.op = .indexAddr t x y) (ht : P.underlying t = some (.slice (P.elem t))) (hsz : ∀ w, (sizeOf (P.elem t)).run P w = .ok q w) (hw : Wanted ops K n0 o true)
    (hx : Kn K x (Rr e q B rs)) (hy : Kn K y (Is (.int k n))) (hn : n = (j : Int)) (hu : rs[j]? = some cs) (h : wpGrow P ops w0 n0 Q rest (upd K o.dst (Pa cs))) : wpGrow P ops w0 n0 Q (o :: rest) K := by
  subst hn
  refine grow_step hw (fun _ => Pa.stays _) (fun a w _ _ hl => ?_) h
  have h1 : OwnR e q w B (a.eval x) rs := looks_op (Ψ := Rr e q B rs) (by simp [ho, Op.operands]) hx hl
  have h2 : a.eval y = .int k (j : Int) := looks_op (Ψ := Is (.int k (j : Int))) (by simp [ho, Op.operands]) hy hl
  have hj : j < rs.length := (List.getElem?_eq_some_iff.1 hu).1
  obtain ⟨g, c, hv, _⟩ := h1.block_ (by omega)
  rw [hv] at h1
  have e0 : (⟨g, 0, none⟩ : Addr).add (j * q) = ⟨g, j * q, none⟩ := by unfold Addr.add; split <;> simp_all
  unfold does execOp
  simp only [ho, hv, h2, Sem.run_bind, run_indexAt_slice w t _ _ _ _ _ ht]
  rw [if_pos (by omega), hsz w]
  simp only [Result.andThen_ok, Int.toNat_natCast, e0]
  exact ⟨Gr.refl w, _, _, rfl, fun i u hi => h1.cell_ rfl hu hi⟩
theorem grow_load_r {t : TypeId} {x : Operand} {ie : TypeInfo} {cs : List Value} (ho : o.op = .load t x) (hie : P.info? t = some ie) (ha : ∀ w, (isAgg t).run P w = .ok true w) (hl : cs.length = ie.size) (hw : Wanted ops K n0 o true) (hx : Kn K x (Pa cs)) (h : wpGrow P ops w0 n0 Q rest (upd K o.dst (Is (.agg cs.toArray)))) : wpGrow P ops w0 n0 Q (o :: rest) K := by
  refine grow_step hw (fun _ => Is.stays _) (fun a w _ _ hk => ?_) h
  obtain ⟨g, s, h1, h2⟩ : Pa cs (a.eval x) w := looks_op (Ψ := Pa cs) (by simp [ho, Op.operands]) hx hk
  have hr : (Instr.loadAt t (.pointer (some ⟨g, s, none⟩))).run P w = .ok (.agg cs.toArray) w := by
    simp [Instr.loadAt, Instr.sureAddr, Lib.rl_loadVar_cells (P := P) t ie hie ha g s cs hl w h2]
  unfold does execOp
  simp only [ho, h1]
  rw [Sem.run_bind, hr]
  exact ⟨Gr.refl w, rfl⟩
end
end Go.Proofs.Ythpaoeiackbdoaa.Grow
