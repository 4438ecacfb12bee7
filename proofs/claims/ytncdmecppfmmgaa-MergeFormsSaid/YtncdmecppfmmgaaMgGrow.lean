/-
  Steps of an open region: an entry is loaded, entries are put into a row, rows into a row.
-/
import Derived.Test.YtncdmecppfmmgaaMgLit
import Derived.Test.YtncdmecppfmmgaaEntGrow
import Derived.Test.YtncdmecppfmmgaaEntOwn
namespace Go.Proofs.Ytncdmecppfmmgaa.Grow
open Go Go.RowKit TxnMath KeyMath MsgMath EpMath MgMath Go.Proofs.Ytncdmecppfmmgaa
set_option maxRecDepth 100000

/-- a pointer to an entry -/
abbrev Ea (e : EntT) : Known := fun v w => ∃ ad p, v = .pointer (some ad) ∧ RowsX Any w e.t p ∧ ∀ j u, (entC e p)[j]? = some u → w.cell? (ad.add j) = some u
theorem Ea.stays (e : EntT) : Stays (Ea e) := fun _ _ _ ⟨a, p, h1, h2, h3⟩ hg => ⟨a, p, h1, h2.gr hg, fun j u hu => gr_cell hg _ _ (h3 j u hu)⟩
/-- an entry -/
abbrev Eg (e : EntT) : Known := fun v w => ∃ p, v = .agg (entC e p).toArray ∧ RowsX Any w e.t p
theorem Eg.stays (e : EntT) : Stays (Eg e) := fun _ _ _ ⟨p, h1, h2⟩ hg => ⟨p, h1, h2.gr hg⟩
/-- logs that read so -/
abbrev Ls (ls : List (List EntT)) : Known := fun v w => LogsX w v ls
theorem Ls.stays (ls : List (List EntT)) : Stays (Ls ls) := fun _ _ _ h hg => h.gr hg

section
variable {ops : Array Oper} {w0 : World} {n0 : Nat} {Q : (Tmp → Known) → Prop} {o : Oper} {rest : List Oper} {K : Tmp → Known} {Φ : Known}
theorem grow_ea {x y : Operand} {l : List EntT} {n : Int} (j : Nat) (hn : n = (j : Int)) {e : EntT} (he : l[j]? = some e) (ho : o.op = .indexAddr 33 x y) (hw : Wanted ops K n0 o true) (hx : Kn K x (En l)) (hy : Kn K y (Is (.int .i64 n)))
    (h : wpGrow Try.prog ops w0 n0 Q rest (upd K o.dst (Ea e))) : wpGrow Try.prog ops w0 n0 Q (o :: rest) K := by
  subst hn
  refine grow_step hw (fun _ => Ea.stays _) (fun a w _ _ hl => ?_) h
  have hb : EntsX Any w (a.eval x) l := looks_op (Ψ := En l) (by simp [ho, Op.operands]) hx hl
  have h2 : a.eval y = .int .i64 (j : Int) := looks_op (Ψ := Is (.int .i64 (j : Int))) (by simp [ho, Op.operands]) hy hl
  obtain ⟨hj, rfl⟩ := List.getElem?_eq_some_iff.1 he
  obtain ⟨ad, c, p, h1, hr, a0, a1, a2, a3, a4, a5⟩ := hb.ent hj
  unfold does execOp
  simp only [ho, h1, h2, Sem.run_bind, run_indexAt_slice w 33 _ _ _ _ _ Try.underlying33]
  rw [if_pos (by omega)]
  have hs : ∀ w, (sizeOf (Try.prog.elem 33)).run Try.prog w = .ok 6 w := size_ent
  rw [hs w]
  simp only [Result.andThen_ok, Int.toNat_natCast]
  refine ⟨Gr.refl w, _, p, rfl, hr, fun i u hu => ?_⟩
  rcases i with _ | _ | _ | _ | _ | _ | i
  · rw [add_zero_]; simp [entC] at hu; subst hu; exact a0
  · simp [entC] at hu; subst hu; exact a1
  · simp [entC] at hu; subst hu; exact a2
  · simp [entC] at hu; subst hu; exact a3
  · simp [entC] at hu; subst hu; exact a4
  · simp [entC] at hu; subst hu; exact a5
  · simp [entC] at hu
theorem agg_ent : ∀ w, (isAgg 43).run Try.prog w = .ok true w := fun w => by kernel_rfl
theorem grow_load_ea {x : Operand} {e : EntT} (ho : o.op = .load 43 x) (hw : Wanted ops K n0 o true) (hx : Kn K x (Ea e)) (h : wpGrow Try.prog ops w0 n0 Q rest (upd K o.dst (Eg e))) : wpGrow Try.prog ops w0 n0 Q (o :: rest) K := by
  refine grow_step hw (fun _ => Eg.stays _) (fun a w _ _ hl => ?_) h
  obtain ⟨ad, p, h1, h2, h3⟩ : Ea e (a.eval x) w := looks_op (Ψ := Ea e) (by simp [ho, Op.operands]) hx hl
  have hl6 := run_loadCells_list (P := Try.prog) w ad (entC e p) h3
  rw [show (entC e p).length = 6 from rfl] at hl6
  have hr : (Instr.loadAt 43 (.pointer (some ad))).run Try.prog w = .ok (.agg (entC e p).toArray) w := by
    simp [Instr.loadAt, Instr.sureAddr, loadVar, agg_ent w, hl6]
  unfold does execOp
  simp only [ho, h1]
  rw [Sem.run_bind, hr]
  exact ⟨Gr.refl w, p, rfl, h2⟩
/-- two slices, whatever they are -/
structure SlT where
  A : Option Addr
  n : Nat
  c : Nat
def pv (q : SlT × SlT) : Value × Value := (.slice q.1.A q.1.n q.1.c, .slice q.2.A q.2.n q.2.c)
theorem pv_of {X : Nat → Prop} {w : World} {t : TxT} {p : Value × Value} (h : RowsX X w t p) : ∃ q, p = pv q := by
  obtain ⟨A1, c1, e1⟩ := h.rd.sl
  obtain ⟨A2, c2, e2⟩ := h.wr.sl
  obtain ⟨p1, p2⟩ := p
  simp only at e1 e2
  exact ⟨(⟨A1, _, c1⟩, ⟨A2, _, c2⟩), by rw [e1, e2]; rfl⟩
theorem entsq_lit {w W : World} {es : List EntT} {qs : List (SlT × SlT)} {cs : Array Value} (hl : qs.length = es.length) (hcs : cs = (List.zipWith (fun e q => entC e (pv q)) es qs).flatten.toArray) (hr : ∀ j (h : j < es.length) (h2 : j < qs.length), RowsX Any w es[j].t (pv qs[j])) (hn : es.length ≤ 1000) (hW : w.alloc (.cells cs 43) = W) :
    EntsX Any W (.slice (some ⟨w.heap.size, 0, none⟩) es.length es.length) es := by
  have hm : es.mapIdx (fun j e => entC e (pv (qs.getD j ⟨⟨none, 0, 0⟩, ⟨none, 0, 0⟩⟩))) = List.zipWith (fun e q => entC e (pv q)) es qs := by
    refine List.ext_getElem (by simp [hl]) fun j h1 h2 => ?_
    have hj : j < es.length := by simpa using h1
    simp [show j < qs.length by omega]
  have h6 : ∀ r ∈ List.zipWith (fun e q => entC e (pv q)) es qs, r.length = 6 := fun r hr => by
    rw [← hm] at hr
    obtain ⟨j, _, rfl⟩ := List.mem_mapIdx.1 hr
    rfl
  have hlen := rows_len (k := 6) h6
  rw [List.length_zipWith, hl, Nat.min_self] at hlen
  have h1 := World.ownsRow_lit (base := w.heap.size) (e := 43) (size := 6) w cs es.length (Nat.le_refl _) (by unfold maxLen; omega) (by rw [hcs]; simpa using hlen)
  have hg : Gr w W := by rw [← hW]; exact (Gr.refl w).alloc _
  rw [hW] at h1
  have hcl : cs.toList = (List.zipWith (fun e q => entC e (pv q)) es qs).flatten := by rw [hcs]
  rw [hcl] at h1
  refine ⟨fun j => pv (qs.getD j ⟨⟨none, 0, 0⟩, ⟨none, 0, 0⟩⟩), ⟨?_, fun _ _ _ _ _ => trivial⟩, fun j e hj => ?_⟩
  · rw [hm]
    have h2 : OwnR 43 6 W w.heap.size (.slice (some ⟨w.heap.size, 0, none⟩) es.length es.length) (List.zipWith (fun e q => entC e (pv q)) es qs) := ⟨h6, by rw [List.length_zipWith, hl, Nat.min_self]; exact h1⟩
    exact h2.rowAt
  · obtain ⟨h2, rfl⟩ := List.getElem?_eq_some_iff.1 hj
    have h3 := (hr j h2 (by omega)).gr hg
    simpa [show j < qs.length by omega] using h3
theorem lit_e3 (w : World) (a b c : EntT) (p q r : SlT × SlT) : (Instr.buildSlice 33 3 #[(0, .agg (entC a (pv p)).toArray), (1, .agg (entC b (pv q)).toArray), (2, .agg (entC c (pv r)).toArray)]).run Try.prog w = .ok (.slice (some ⟨w.heap.size, 0, none⟩) 3 3) (w.alloc (.cells (List.zipWith (fun e q => entC e (pv q)) [a, b, c] [p, q, r]).flatten.toArray 43)) := by kernel_rfl
theorem lit_e4 (w : World) (a b c d : EntT) (p q r s : SlT × SlT) : (Instr.buildSlice 33 4 #[(0, .agg (entC a (pv p)).toArray), (1, .agg (entC b (pv q)).toArray), (2, .agg (entC c (pv r)).toArray), (3, .agg (entC d (pv s)).toArray)]).run Try.prog w = .ok (.slice (some ⟨w.heap.size, 0, none⟩) 4 4) (w.alloc (.cells (List.zipWith (fun e q => entC e (pv q)) [a, b, c, d] [p, q, r, s]).flatten.toArray 43)) := by kernel_rfl
theorem lit_l3 (w : World) (a b c : SlT) : (Instr.buildSlice 24 3 #[(0, .slice a.A a.n a.c), (1, .slice b.A b.n b.c), (2, .slice c.A c.n c.c)]).run Try.prog w = .ok (.slice (some ⟨w.heap.size, 0, none⟩) 3 3) (w.alloc (.cells #[.slice a.A a.n a.c, .slice b.A b.n b.c, .slice c.A c.n c.c] 33)) := by kernel_rfl
theorem grow_e3 {x y z : Operand} {a b c : EntT} (ho : o.op = .buildSlice 33 3 #[(0, x), (1, y), (2, z)]) (hw : Wanted ops K n0 o true) (hx : Kn K x (Eg a)) (hy : Kn K y (Eg b)) (hz : Kn K z (Eg c))
    (h : wpGrow Try.prog ops w0 n0 Q rest (upd K o.dst (En [a, b, c]))) : wpGrow Try.prog ops w0 n0 Q (o :: rest) K := by
  refine grow_step hw (fun _ => En.stays _) (fun ac w _ _ hk => ?_) h
  obtain ⟨p, h1, r1⟩ : Eg a (ac.eval x) w := looks_op (Ψ := Eg a) (by simp [ho, Op.operands]) hx hk
  obtain ⟨q, h2, r2⟩ : Eg b (ac.eval y) w := looks_op (Ψ := Eg b) (by simp [ho, Op.operands]) hy hk
  obtain ⟨r, h3, r3⟩ : Eg c (ac.eval z) w := looks_op (Ψ := Eg c) (by simp [ho, Op.operands]) hz hk
  obtain ⟨p, rfl⟩ := pv_of r1
  obtain ⟨q, rfl⟩ := pv_of r2
  obtain ⟨r, rfl⟩ := pv_of r3
  unfold does execOp
  simp only [ho, List.map_toArray, List.map_cons, List.map_nil, h1, h2, h3]
  rw [Sem.run_bind, lit_e3 w]
  exact ⟨(Gr.refl w).alloc _, entsq_lit (es := [a, b, c]) (qs := [p, q, r]) rfl rfl (fun j h h' => by
    rcases j with _ | _ | _ | j
    · exact r1
    · exact r2
    · exact r3
    · simp at h; omega) (by simp) rfl⟩
theorem grow_e4 {x y z t : Operand} {a b c d : EntT} (ho : o.op = .buildSlice 33 4 #[(0, x), (1, y), (2, z), (3, t)]) (hw : Wanted ops K n0 o true) (hx : Kn K x (Eg a)) (hy : Kn K y (Eg b)) (hz : Kn K z (Eg c)) (ht : Kn K t (Eg d))
    (h : wpGrow Try.prog ops w0 n0 Q rest (upd K o.dst (En [a, b, c, d]))) : wpGrow Try.prog ops w0 n0 Q (o :: rest) K := by
  refine grow_step hw (fun _ => En.stays _) (fun ac w _ _ hk => ?_) h
  obtain ⟨p, h1, r1⟩ : Eg a (ac.eval x) w := looks_op (Ψ := Eg a) (by simp [ho, Op.operands]) hx hk
  obtain ⟨q, h2, r2⟩ : Eg b (ac.eval y) w := looks_op (Ψ := Eg b) (by simp [ho, Op.operands]) hy hk
  obtain ⟨r, h3, r3⟩ : Eg c (ac.eval z) w := looks_op (Ψ := Eg c) (by simp [ho, Op.operands]) hz hk
  obtain ⟨s, h4, r4⟩ : Eg d (ac.eval t) w := looks_op (Ψ := Eg d) (by simp [ho, Op.operands]) ht hk
  obtain ⟨p, rfl⟩ := pv_of r1
  obtain ⟨q, rfl⟩ := pv_of r2
  obtain ⟨r, rfl⟩ := pv_of r3
  obtain ⟨s, rfl⟩ := pv_of r4
  unfold does execOp
  simp only [ho, List.map_toArray, List.map_cons, List.map_nil, h1, h2, h3, h4]
  rw [Sem.run_bind, lit_e4 w]
  exact ⟨(Gr.refl w).alloc _, entsq_lit (es := [a, b, c, d]) (qs := [p, q, r, s]) rfl rfl (fun j h h' => by
    rcases j with _ | _ | _ | _ | j
    · exact r1
    · exact r2
    · exact r3
    · exact r4
    · simp at h; omega) (by simp) rfl⟩
theorem grow_l3 {x y z : Operand} {a b c : List EntT} (ho : o.op = .buildSlice 24 3 #[(0, x), (1, y), (2, z)]) (hw : Wanted ops K n0 o true) (hx : Kn K x (En a)) (hy : Kn K y (En b)) (hz : Kn K z (En c))
    (h : wpGrow Try.prog ops w0 n0 Q rest (upd K o.dst (Ls [a, b, c]))) : wpGrow Try.prog ops w0 n0 Q (o :: rest) K := by
  refine grow_step hw (fun _ => Ls.stays _) (fun ac w _ _ hk => ?_) h
  have r1 : EntsX Any w (ac.eval x) a := looks_op (Ψ := En a) (by simp [ho, Op.operands]) hx hk
  have r2 : EntsX Any w (ac.eval y) b := looks_op (Ψ := En b) (by simp [ho, Op.operands]) hy hk
  have r3 : EntsX Any w (ac.eval z) c := looks_op (Ψ := En c) (by simp [ho, Op.operands]) hz hk
  obtain ⟨A1, c1, h1⟩ := r1.is
  obtain ⟨A2, c2, h2⟩ := r2.is
  obtain ⟨A3, c3, h3⟩ := r3.is
  rw [h1] at r1
  rw [h2] at r2
  rw [h3] at r3
  unfold does execOp
  simp only [ho, List.map_toArray, List.map_cons, List.map_nil, h1, h2, h3]
  rw [Sem.run_bind, lit_l3 w ⟨A1, _, c1⟩ ⟨A2, _, c2⟩ ⟨A3, _, c3⟩]
  have hg : Gr w (w.alloc (.cells #[.slice A1 a.length c1, .slice A2 b.length c2, .slice A3 c.length c3] 33)) := (Gr.refl w).alloc _
  exact ⟨hg, LogsX.of_bl (Bl.new w _ _) rfl rfl (by simp) fun j h h' => by
    rcases j with _ | _ | _ | j
    · exact r1.gr hg
    · exact r2.gr hg
    · exact r3.gr hg
    · simp at h; omega⟩
end
end Go.Proofs.Ytncdmecppfmmgaa.Grow
