/-
  Letters that are written down, in rows; steps of an open region on them.
-/
import Derived.Test.YtpabppoohobjpaaGreatMgUnnamed
import Derived.Great.BuildSlice
namespace Go.Proofs.YtpabppoohobjpaaGreat
open Go Go.RowKit TxnMath KeyMath MsgMath
set_option maxRecDepth 100000

/-- a slice that is written down, of elements of s cells -/
theorem run_lit {P : Program} (w : World) (t e : TypeId) (s : Nat) (hs : 0 < s) (vs : List Value) (ie : TypeInfo) (z : Value) (hu : P.underlying t = some (.slice e)) (hie : P.info? e = some ie) (hz : ie.zero = some z) (hsz : ie.size = s)
    (h1 : ∀ v ∈ vs, v.cells.size = s) (hn : 0 < vs.length) (hsm : vs.length * s ≤ 16777216) :
    (Instr.buildSlice t vs.length ((vs.zipIdx 0).map fun x => (x.2, x.1)).toArray).run P w = .ok (.slice (some ⟨w.heap.size, 0, none⟩) vs.length vs.length) (w.alloc (.cells (vs.flatMap fun v => v.cells.toList).toArray e)) := by
  have hpos : 0 < vs.length * s := Nat.mul_pos hn hs
  refine run_buildSlice w t e vs.length _ _ ie z hu hie hz (by rw [hsz]; omega) (by rw [hsz]; omega) ?_
  rw [hsz]
  exact Great.fill_whole hs vs _ h1 (by simp)
theorem zip_eval (a : Act) (xs : List Operand) : ((((xs.zipIdx 0).map fun x => (x.2, x.1)).toArray).map fun (i, x) => (i, a.eval x)) = ((((xs.map a.eval).zipIdx 0).map fun x => (x.2, x.1)).toArray) := by
  rw [List.zipIdx_map, List.map_map, List.map_toArray, List.map_map]
  rfl
theorem flat_cell {s : Nat} (hs : 0 < s) {vs : List Value} (h1 : ∀ v ∈ vs, v.cells.size = s) {j i : Nat} (hi : i < s) {v u : Value} (hv : vs[j]? = some v) (hu : v.cells[i]? = some u) : (vs.flatMap fun v => v.cells.toList)[j * s + i]? = some u := by
  rw [Great.flat_get hs vs h1]
  have e1 : (j * s + i) / s = j := by rw [Nat.add_comm, Nat.add_mul_div_right _ _ hs, Nat.div_eq_of_lt hi, Nat.zero_add]
  have e2 : (j * s + i) % s = i := by rw [Nat.add_comm, Nat.add_mul_mod_self_right, Nat.mod_eq_of_lt hi]
  rw [e1, e2, hv]
  exact hu

/-- letters side by side, as a slice -/
abbrev Mgs (ls : List MsgT) : Grow.Known := fun v w => ∃ g, v = .slice (some ⟨g, 0, none⟩) ls.length ls.length ∧ ∀ j m, ls[j]? = some m → ∃ r, (∀ i u, (cellsM m r)[i]? = some u → w.cell? ⟨g, j * 24 + i, none⟩ = some u) ∧ MsgR Any w m r
theorem Mgs.stays (ls : List MsgT) : Grow.Stays (Mgs ls) := fun _ _ _ ⟨g, h1, h2⟩ hg => ⟨g, h1, fun j m hj => by
  obtain ⟨r, h3, h4⟩ := h2 j m hj
  exact ⟨r, fun i u hi => gr_cell hg _ _ (h3 i u hi), h4.move (Moves.of_gr hg)⟩⟩
/-- a pointer to a letter -/
abbrev Ma (m : MsgT) : Grow.Known := fun v w => ∃ g s r, v = .pointer (some ⟨g, s, none⟩) ∧ (∀ i u, (cellsM m r)[i]? = some u → w.cell? ⟨g, s + i, none⟩ = some u) ∧ MsgR Any w m r
theorem Ma.stays (m : MsgT) : Grow.Stays (Ma m) := fun _ _ _ ⟨g, s, r, h1, h3, h4⟩ hg => ⟨g, s, r, h1, fun i u hi => gr_cell hg _ _ (h3 i u hi), h4.move (Moves.of_gr hg)⟩
/-- each of these is known to be its letter -/
def KnAll (K : Tmp → Grow.Known) : List Operand → List MsgT → Prop
  | [], [] => True
  | x :: xs, m :: ms => Grow.Kn K x (MgK m) ∧ KnAll K xs ms
  | _, _ => False
theorem KnAll.at_ {K : Tmp → Grow.Known} : ∀ {xs : List Operand} {ls : List MsgT}, KnAll K xs ls → xs.length = ls.length ∧ ∀ (i : Nat) (x : Operand), xs[i]? = some x → ∃ m, ls[i]? = some m ∧ Grow.Kn K x (MgK m)
  | [], [], _ => ⟨rfl, fun i x h => by simp at h⟩
  | x :: xs, m :: ms, h => by
    obtain ⟨h1, h2⟩ := h
    obtain ⟨h3, h4⟩ := KnAll.at_ h2
    refine ⟨by simp [h3], fun i y hy => ?_⟩
    rcases i with _ | i
    · simp at hy
      subst hy
      exact ⟨m, rfl, h1⟩
    · exact h4 i y (by simpa using hy)
  | [], _ :: _, h => h.elim
  | _ :: _, [], h => h.elim
theorem info_msg : ∃ i, Tryz.prog.info? 31 = some i ∧ i.zero = some (.agg (cellsM noMsg ⟨.slice none 0 0, (.slice none 0 0, .slice none 0 0), .slice none 0 0, .slice none 0 0⟩).toArray) ∧ i.size = 24 ∧ i.bytes = (Tryz.prog.bytesOf 31) := info_parts (by kernel_rfl)
theorem msg_size : ∀ w, (sizeOf (Tryz.prog.elem 35)).run Tryz.prog w = .ok 24 w := fun w => by kernel_rfl
theorem msg_agg : ∀ w, (isAgg 31).run Tryz.prog w = .ok true w := fun w => by kernel_rfl
theorem msg_size2 : ∀ w, (sizeOf 31).run Tryz.prog w = .ok 24 w := fun w => by kernel_rfl
theorem run_load_msg (w : World) {g s : Nat} {m : MsgT} {r : Rows5} (h : ∀ i u, (cellsM m r)[i]? = some u → w.cell? ⟨g, s + i, none⟩ = some u) : (Instr.loadAt 31 (.pointer (some ⟨g, s, none⟩))).run Tryz.prog w = .ok (.agg (cellsM m r).toArray) w := by
  have hc := run_loadCells_list (P := Tryz.prog) w ⟨g, s, none⟩ (cellsM m r) (fun k v hk => by
    rw [show (⟨g, s, none⟩ : Addr).add k = ⟨g, s + k, none⟩ from by unfold Addr.add; split <;> simp_all]
    exact h k v hk)
  rw [show (cellsM m r).length = 24 from rfl] at hc
  simp [Instr.loadAt, Instr.sureAddr, loadVar, msg_agg w, hc]

section
variable {ops : Array Oper} {w0 : World} {n0 : Nat} {Q : (Tmp → Grow.Known) → Prop} {o : Oper} {rest : List Oper} {K : Tmp → Grow.Known}
theorem grow_letters {parts : Array (Nat × Operand)} {n : Nat} (xs : List Operand) {ls : List MsgT} (ho : o.op = .buildSlice 35 n parts) (hp : parts = ((xs.zipIdx 0).map fun x => (x.2, x.1)).toArray) (hn : n = xs.length) (hpos : 0 < n) (hmax : n ≤ 1000) (hw : Grow.Wanted ops K n0 o true) (hk : KnAll K xs ls)
    (h : Grow.wpGrow Tryz.prog ops w0 n0 Q rest (Grow.upd K o.dst (Mgs ls))) : Grow.wpGrow Tryz.prog ops w0 n0 Q (o :: rest) K := by
  obtain ⟨i0, hi, hz0, hz1, _⟩ := info_msg
  refine Grow.grow_step hw (fun _ => Mgs.stays _) (fun a w _ _ hl => ?_) h
  obtain ⟨hlen, hat⟩ := hk.at_
  have hv : ∀ (i : Nat) (x : Operand), xs[i]? = some x → ∃ m, ls[i]? = some m ∧ MsgAt w (a.eval x) m := fun i x hx => by
    obtain ⟨m, h1, h2⟩ := hat i x hx
    refine ⟨m, h1, Grow.looks_op (o := o) (Ψ := MgK m) ?_ h2 hl⟩
    rw [ho, hp]
    have hm : x ∈ xs := List.mem_of_getElem? hx
    simp only [Op.operands, List.map_map, List.mem_toArray, List.mem_map]
    obtain ⟨hi', rfl⟩ := List.getElem?_eq_some_iff.1 hx
    exact ⟨(xs[i], i), by rw [List.mk_mem_zipIdx_iff_getElem?]; exact hx, rfl⟩
  have hsz : ∀ v ∈ xs.map a.eval, v.cells.size = 24 := fun v hv' => by
    obtain ⟨x, hx, rfl⟩ := List.mem_map.1 hv'
    obtain ⟨i, hi', rfl⟩ := List.getElem_of_mem hx
    obtain ⟨m, _, r, e, _⟩ := hv i _ (List.getElem?_eq_getElem hi')
    rw [e]
    rfl
  have hr := run_lit (P := Tryz.prog) w 35 31 24 (by decide) (xs.map a.eval) i0 _ Tryz.underlying35 hi hz0 hz1 hsz (by rw [List.length_map]; omega) (by rw [List.length_map]; omega)
  rw [List.length_map, ← zip_eval, ← hp, ← hn] at hr
  unfold Grow.does execOp
  simp only [ho]
  rw [Sem.run_bind, hr]
  have hg : Gr w (w.alloc (.cells ((xs.map a.eval).flatMap fun v => v.cells.toList).toArray 31)) := (Gr.refl w).alloc _
  refine ⟨hg, w.heap.size, by rw [← hlen, hn], fun j m hj => ?_⟩
  have hjl : j < xs.length := by rw [hlen]; exact (List.getElem?_eq_some_iff.1 hj).1
  obtain ⟨m', h1, r, e, hR⟩ := hv j _ (List.getElem?_eq_getElem hjl)
  rw [hj] at h1
  injection h1 with h1
  subst h1
  refine ⟨r, fun i u hu => ?_, hR.move (Moves.of_gr hg)⟩
  have hil : i < 24 := (List.getElem?_eq_some_iff.1 hu).1
  rw [(Bl.new w _ _).cell]
  have hf := flat_cell (s := 24) (by decide) hsz (j := j) (i := i) hil (v := a.eval xs[j]) (u := u) (by rw [List.getElem?_map, List.getElem?_eq_getElem hjl]; rfl) (by rw [e]; simpa [Value.cells] using hu)
  simpa using hf
theorem grow_at_letter {x y : Operand} {ls : List MsgT} {m : MsgT} {n : Int} (k : Nat) (hn : n = (k : Int)) (hm : ls[k]? = some m) (ho : o.op = .indexAddr 35 x y) (hw : Grow.Wanted ops K n0 o true) (hx : Grow.Kn K x (Mgs ls)) (hy : Grow.Kn K y (Grow.Is (.int .i64 n)))
    (h : Grow.wpGrow Tryz.prog ops w0 n0 Q rest (Grow.upd K o.dst (Ma m))) : Grow.wpGrow Tryz.prog ops w0 n0 Q (o :: rest) K := by
  subst hn
  refine Grow.grow_step hw (fun _ => Ma.stays _) (fun a w _ _ hl => ?_) h
  obtain ⟨g, h1, h3⟩ : Mgs ls (a.eval x) w := Grow.looks_op (Ψ := Mgs ls) (by simp [ho, Op.operands]) hx hl
  have h2 : a.eval y = .int .i64 (k : Int) := Grow.looks_op (Ψ := Grow.Is (.int .i64 (k : Int))) (by simp [ho, Op.operands]) hy hl
  have hk : k < ls.length := (List.getElem?_eq_some_iff.1 hm).1
  obtain ⟨r, h4, h5⟩ := h3 k m hm
  have e : (⟨g, 0, none⟩ : Addr).add (k * 24) = ⟨g, k * 24, none⟩ := by unfold Addr.add; split <;> simp_all
  unfold Grow.does execOp
  simp only [ho, h1, h2, Sem.run_bind, run_indexAt_slice w 35 _ _ _ _ _ Tryz.underlying35]
  rw [if_pos (by omega), msg_size w]
  simp only [Result.andThen_ok, Int.toNat_natCast, e]
  exact ⟨Gr.refl w, g, k * 24, r, rfl, h4, h5⟩
theorem grow_load_letter {x : Operand} {m : MsgT} (ho : o.op = .load 31 x) (hw : Grow.Wanted ops K n0 o true) (hx : Grow.Kn K x (Ma m)) (h : Grow.wpGrow Tryz.prog ops w0 n0 Q rest (Grow.upd K o.dst (MgK m))) : Grow.wpGrow Tryz.prog ops w0 n0 Q (o :: rest) K := by
  refine Grow.grow_step hw (fun _ => MgK.stays _) (fun a w _ _ hl => ?_) h
  obtain ⟨g, s, r, h1, h2, h3⟩ : Ma m (a.eval x) w := Grow.looks_op (Ψ := Ma m) (by simp [ho, Op.operands]) hx hl
  unfold Grow.does execOp
  simp only [ho, h1]
  rw [Sem.run_bind, run_load_msg w h2]
  exact ⟨Gr.refl w, r, rfl, h3⟩
/-- a struct that is written down -/
theorem grow_buildK {P : Program} {t : TypeId} {parts : Array (Nat × Operand)} (Ψ : Grow.Known) (ho : o.op = .build t parts) (hw : Grow.Wanted ops K n0 o true) (hst : Grow.Stays Ψ)
    (hr : ∀ (a : Act) (w : World), Gr w0 w → (∀ t, (o.looksAt ops).contains t = true → K t (a.tmps.getD t undef) w) → ∃ cs, P.built t (parts.map fun (i, x) => (i, a.eval x)).toList = some cs ∧ Ψ (.agg cs) w)
    (h : Grow.wpGrow P ops w0 n0 Q rest (Grow.upd K o.dst Ψ)) : Grow.wpGrow P ops w0 n0 Q (o :: rest) K := by
  refine Grow.grow_step hw (fun _ => hst) (fun a w hg _ hl => ?_) h
  obtain ⟨cs, h1, h2⟩ := hr a w hg hl
  unfold Grow.does execOp
  simp only [ho, Sem.run_bind, run_build w t _ cs h1, Result.andThen_ok]
  exact ⟨Gr.refl w, h2⟩
/-- each of these is known to be its value -/
def KnIs (K : Tmp → Grow.Known) : List Operand → List Value → Prop
  | [], [] => True
  | x :: xs, v :: vs => Grow.Kn K x (Grow.Is v) ∧ KnIs K xs vs
  | _, _ => False
theorem KnIs.eval {K : Tmp → Grow.Known} {a : Act} {w : World} (hl : ∀ t, (o.looksAt ops).contains t = true → K t (a.tmps.getD t undef) w) : ∀ {xs : List Operand} {vs : List Value}, (∀ x ∈ xs, x ∈ o.op.operands) → KnIs K xs vs → xs.map a.eval = vs
  | [], [], _, _ => rfl
  | x :: xs, v :: vs, hm, h => by
    have h1 : a.eval x = v := Grow.looks_op (o := o) (Ψ := Grow.Is v) (hm x (by simp)) h.1 hl
    rw [List.map_cons, h1, KnIs.eval hl (fun y hy => hm y (by simp [hy])) h.2]
  | [], _ :: _, _, h => h.elim
  | _ :: _, [], _, h => h.elim
theorem grow_litIs {P : Program} {t e : TypeId} {parts : Array (Nat × Operand)} {n : Nat} (xs : List Operand) (vs : List Value) (cells : Array Value) (Ψ : Grow.Known) (ho : o.op = .buildSlice t n parts) (hp : parts = ((xs.zipIdx 0).map fun x => (x.2, x.1)).toArray) (hw : Grow.Wanted ops K n0 o true) (hk : KnIs K xs vs) (hst : Grow.Stays Ψ)
    (hr : ∀ w, (Instr.buildSlice t n ((vs.zipIdx 0).map fun x => (x.2, x.1)).toArray).run P w = .ok (.slice (some ⟨w.heap.size, 0, none⟩) n n) (w.alloc (.cells cells e)))
    (hΨ : ∀ w g, Bl w g e cells → Ψ (.slice (some ⟨g, 0, none⟩) n n) w) (h : Grow.wpGrow P ops w0 n0 Q rest (Grow.upd K o.dst Ψ)) : Grow.wpGrow P ops w0 n0 Q (o :: rest) K := by
  refine Grow.grow_step hw (fun _ => hst) (fun a w _ _ hl => ?_) h
  have hv := KnIs.eval hl (xs := xs) (vs := vs) (fun x hx => by
    rw [ho, hp]
    simp only [Op.operands, List.map_map, List.mem_toArray, List.mem_map]
    obtain ⟨i, hi', rfl⟩ := List.getElem_of_mem hx
    exact ⟨(xs[i], i), by rw [List.mk_mem_zipIdx_iff_getElem?]; exact List.getElem?_eq_getElem hi', rfl⟩) hk
  have hr' := hr w
  rw [← hv, ← zip_eval, ← hp] at hr'
  unfold Grow.does execOp
  simp only [ho]
  rw [Sem.run_bind, hr']
  exact ⟨(Gr.refl w).alloc _, hΨ _ _ (Bl.new _ _ _)⟩
end

section
variable {ops : Array Oper} {w0 : World} {n0 : Nat} {Q : (Tmp → Grow.Known) → Prop} {o : Oper} {rest : List Oper} {K : Tmp → Grow.Known}
theorem zip_build (a : Act) : ∀ (is : List Nat) (xs : List Operand), (is.zip xs).map (fun (i, x) => (i, a.eval x)) = is.zip (xs.map a.eval)
  | [], _ => rfl
  | _ :: _, [] => rfl
  | i :: is, x :: xs => by simp [zip_build a is xs]
/-- a struct of known parts -/
theorem grow_buildIs {P : Program} {t : TypeId} {parts : Array (Nat × Operand)} (is : List Nat) (xs : List Operand) (vs : List Value) (cs : Array Value) (Ψ : Grow.Known) (ho : o.op = .build t parts) (hp : parts = (is.zip xs).toArray) (hl : is.length = xs.length) (hw : Grow.Wanted ops K n0 o true) (hk : KnIs K xs vs) (hst : Grow.Stays Ψ)
    (hr : P.built t (is.zip vs) = some cs) (hΨ : ∀ w, Ψ (.agg cs) w) (h : Grow.wpGrow P ops w0 n0 Q rest (Grow.upd K o.dst Ψ)) : Grow.wpGrow P ops w0 n0 Q (o :: rest) K := by
  refine grow_buildK Ψ ho hw hst (fun a w _ hlk => ⟨cs, ?_, hΨ w⟩) h
  have hv := KnIs.eval hlk (xs := xs) (vs := vs) (fun x hx => by
    rw [ho, hp]
    simp only [Op.operands, List.mem_toArray, List.mem_map]
    obtain ⟨i, hi', rfl⟩ := List.getElem_of_mem hx
    exact ⟨(is[i]'(by omega), xs[i]), by rw [← List.getElem_zip (h := by simp; omega)]; exact List.getElem_mem _, rfl⟩) hk
  rw [hp, List.map_toArray]
  show P.built t ((is.zip xs).map fun (i, x) => (i, a.eval x)) = some cs
  rw [zip_build, hv]
  exact hr
/-- .. and a slice behind them -/
theorem grow_buildSl {P : Program} {t : TypeId} {parts : Array (Nat × Operand)} (is : List Nat) (xs : List Operand) (vs : List Value) (f : Nat) (y : Operand) (cs : Option Addr → Nat → Nat → Array Value) (Φ Ψ : Grow.Known) (ho : o.op = .build t parts) (hp : parts = (is.zip xs ++ [(f, y)]).toArray) (hl : is.length = xs.length) (hw : Grow.Wanted ops K n0 o true) (hk : KnIs K xs vs) (hy : Grow.Kn K y Φ) (hst : Grow.Stays Ψ)
    (hsl : ∀ v w, Φ v w → ∃ A n c, v = .slice A n c) (hr : ∀ A n c, P.built t (is.zip vs ++ [(f, .slice A n c)]) = some (cs A n c)) (hΨ : ∀ A n c w, Φ (.slice A n c) w → Ψ (.agg (cs A n c)) w) (h : Grow.wpGrow P ops w0 n0 Q rest (Grow.upd K o.dst Ψ)) : Grow.wpGrow P ops w0 n0 Q (o :: rest) K := by
  refine grow_buildK Ψ ho hw hst (fun a w _ hlk => ?_) h
  have hv := KnIs.eval hlk (xs := xs) (vs := vs) (fun x hx => by
    rw [ho, hp]
    simp only [Op.operands, List.mem_toArray, List.mem_map]
    obtain ⟨i, hi', rfl⟩ := List.getElem_of_mem hx
    exact ⟨(is[i]'(by omega), xs[i]), List.mem_append_left _ (by rw [← List.getElem_zip (h := by simp; omega)]; exact List.getElem_mem _), rfl⟩) hk
  have h1 : Φ (a.eval y) w := Grow.looks_op (o := o) (Ψ := Φ) (by
    rw [ho, hp]
    simp only [Op.operands, List.mem_toArray, List.mem_map]
    exact ⟨(f, y), by simp, rfl⟩) hy hlk
  obtain ⟨A, n, c, e⟩ := hsl _ _ h1
  rw [e] at h1
  refine ⟨cs A n c, ?_, hΨ A n c w h1⟩
  rw [hp, List.map_toArray]
  show P.built t ((is.zip xs ++ [(f, y)]).map fun (i, x) => (i, a.eval x)) = some (cs A n c)
  rw [List.map_append, zip_build, hv]
  show P.built t (is.zip vs ++ [(f, a.eval y)]) = some (cs A n c)
  rw [e]
  exact hr A n c
end

/-- rows that lie in a block -/
theorem rows_bl {w : World} {g k : Nat} {e : TypeId} {rs : List (List Value)} (hb : Bl w g e rs.flatten.toArray) (hk : ∀ r ∈ rs, r.length = k) : RowAt k w (.slice (some ⟨g, 0, none⟩) rs.length rs.length) rs := by
  refine ⟨_, rs.length, rfl, Nat.le_refl _, fun j i r u hj hi => ⟨_, rfl, ?_⟩⟩
  have h := flatten_at hk hj hi
  rw [show (⟨g, 0, none⟩ : Addr).add (j * k + i) = ⟨g, j * k + i, none⟩ from by unfold Addr.add; split <;> simp_all, hb.cell]
  simpa using h
/-- an entry whose transaction has no rows -/
def bareC (e : EntT) : List Value := entC e (.slice none 0 0, .slice none 0 0)
theorem ents_bl {w : World} {g : Nat} {es : List EntT} (hb : Bl w g 45 (es.map bareC).flatten.toArray) (hn : ∀ e ∈ es, e.t.reads = [] ∧ e.t.writes = []) : EnK es (.slice (some ⟨g, 0, none⟩) es.length es.length) w := by
  refine ⟨⟨_, _, rfl⟩, fun _ => (.slice none 0 0, .slice none 0 0), ⟨?_, fun _ _ _ _ _ => trivial⟩, fun j e hj => ?_⟩
  · have h := rows_bl (k := 6) hb (fun r hr => by obtain ⟨e, _, rfl⟩ := List.mem_map.1 hr; rfl)
    rw [List.length_map] at h
    have e : (es.mapIdx fun _ e => entC e ((.slice none 0 0, .slice none 0 0) : Value × Value)) = es.map bareC := by
      refine List.ext_getElem (by simp) fun i h1 h2 => ?_
      simp [bareC]
    rw [e]
    exact h
  · obtain ⟨h1, h2⟩ := hn e (List.mem_of_getElem? hj)
    refine ⟨?_, ?_⟩
    · rw [h1]; exact RowX.nil _ _ _
    · rw [h2]; exact RowX.nil _ _ _

end Go.Proofs.YtpabppoohobjpaaGreat
