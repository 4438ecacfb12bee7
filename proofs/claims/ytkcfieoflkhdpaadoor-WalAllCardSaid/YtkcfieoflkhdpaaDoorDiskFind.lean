/-
  Who has a file of a name; how a file is changed: find, change.
-/
import Derived.Test.YtkcfieoflkhdpaaDoorDiskHit
import Derived.StillTailTactics
namespace Go.Proofs.YtkcfieoflkhdpaaDoor.DiskFind
open Go Go.RowKit MapS DiskMem DiskFile DiskHit
set_option maxRecDepth 100000

theorem zero_file (w : World) : (zeroValue 68).run Tryd.prog w = .ok (.pointer none) w := by kernel_rfl

def found (es : List DEnt) (s : ByteArray) : Option DEnt := es.find? fun e => e.name == s.data.toList

/-- what a look-up among the files says -/
theorem look_files {S : Nat → Prop} {w : World} {d room : Nat} {es : List DEnt} {m : Option Nat} (h : DiskAt S w d room es m) {s : ByteArray} (hs : s.size ≤ maxLen) :
    (Instr.lookup 45 (.map m) (.string s) false).run Tryd.prog w = .ok (((found es s).map fun e => ptr e.g).getD (.pointer none)) w := by
  cases m with
  | none =>
    have he := h.nil rfl
    subst he
    exact (Maps.look_nil false (Maps.string_keyed Tryd.underlying9) Tryd.underlying45 (zero_file w) (WideMaps.keyOf_string_mk Tryd.underlying9 hs))
  | some b =>
    rw [(h.mp b rfl).2.look Tryd.underlying9 Tryd.underlying45 (zero_file w) hs, refs_eq]
    rfl

theorem find_none (s : ByteArray) (w : World) : Calls Tryd.prog 34 #[.pointer none, .string s] w fun e w' => e = .returned (.tuple #[.pointer none, .int .i64 1]) ∧ w = w' := by
  go_enter Tryd.func34, Tryd.ntmps34
  go_wp2_with fail
  go_ret2
  exact ⟨rfl, rfl⟩

def foundV (o : Option DEnt) : Value := match o with | none => .tuple #[.pointer none, .int .i64 6] | some e => .tuple #[ptr e.g, .int .i64 0]

set_option maxHeartbeats 400000 in
theorem find_ok {S : Nat → Prop} {w : World} {d room : Nat} {es : List DEnt} {m : Option Nat} (h : DiskAt S w d room es m) {s : ByteArray} (hs : s.size ≤ maxLen) :
    Calls Tryd.prog 34 #[ptr d, .string s] w fun e w' => e = .returned (foundV (found es s)) ∧ w = w' := by
  have c2 := h.bl.cell 2
  simp only [List.getElem?_toArray, List.getElem?_cons_zero, List.getElem?_cons_succ] at c2
  have hl := look_files h hs
  clear h
  unfold ptr at *
  cases hf : found es s with
  | none =>
    rw [hf] at hl
    simp only [Option.map_none, Option.getD_none] at hl
    go_enter Tryd.func34, Tryd.ntmps34
    go_wp2_with fail
    go_ret2
    exact ⟨rfl, rfl⟩
  | some e =>
    rw [hf] at hl
    simp only [Option.map_some, Option.getD_some] at hl
    go_enter Tryd.func34, Tryd.ntmps34
    go_wp2_with fail
    go_ret2
    exact ⟨rfl, rfl⟩

/-- a call of one argument through a function value that bears others -/
theorem wpList_callv {P : Program} {ops : Array Oper} {rest : List Oper} {o : Oper} {a : Act} {w : World} {Q : Exit → Act → World → Prop} (hgd : o.guard = none) (y x : Operand) (ats : Array TypeId) (f : FuncId) (recv : Array Value) (v : Value) {fn : Func}
    (ho : o.op = .call { callee := .value y, args := #[x], argTypes := ats }) (hy : a.eval y = .func (.func f) recv #[]) (hx : a.eval x = v) (hf : P.funcs[f]? = some fn) (hn : (fn.name == "runtime.NumGoroutine") = false) (hb : fn.body.isNone = false)
    {R : Value → World → Prop} (hc : Calls P f (recv ++ #[v]) w fun e w' => ∃ u, e = .returned u ∧ R u w') (h : ∀ u w', R u w' → wpList P ops Q rest (a.put o.dst u) w') : wpList P ops Q (o :: rest) a w := by
  refine wpList_plain hgd fun K hK => ?_
  obtain ⟨dst, op, ty, pos, after, guard⟩ := o
  simp only at ho
  subst ho
  have e : execOp a.eval { dst, op := .call { callee := .value y, args := #[x], argTypes := ats }, type := ty, pos, after, guard } = callFunc f (recv ++ #[v]) := by
    unfold execOp
    simp only [resolve, hy, Deferred.ofValue, invoke, List.map_toArray, List.map_cons, List.map_nil, hx]
    simp
  unfold Oper.wp
  rw [e, Grow.enters hf hn hb]
  refine hc.mono ?_
  rintro e w' ⟨u, rfl, hr⟩
  exact hK _ _ (h u w' hr)

theorem change_nil (s : ByteArray) (t : Value) (w : World) : Calls Tryd.prog 20 #[.pointer none, .string s, t] w fun e w' => e = .returned (.int .i64 1) ∧ w = w' := by
  go_enter Tryd.func20, Tryd.ntmps20
  go_wp2_with (go_at_call 34; refine (find_none s _).mono ?_; rintro e w' ⟨rfl, rfl⟩)
  go_ret
  exact ⟨rfl, rfl⟩

theorem change_no {S : Nat → Prop} {w : World} {d room : Nat} {es : List DEnt} {m : Option Nat} (h : DiskAt S w d room es m) {s : ByteArray} (hs : s.size ≤ maxLen) (hf : found es s = none) (t : Value) :
    Calls Tryd.prog 20 #[ptr d, .string s, t] w fun e w' => e = .returned (.int .i64 6) ∧ w = w' := by
  have H := hide h
  have HF := hide hf
  clear h hf
  go_enter Tryd.func20, Tryd.ntmps20
  go_wp2_with fail
  refine (find_ok H.out hs).mono ?_
  rintro e w' ⟨rfl, rfl⟩
  rw [HF.out]
  unfold foundV
  go_wp2_with fail
  go_ret
  exact ⟨rfl, rfl⟩

theorem map_ne_own {P : Program} {k e : TypeId} {w : World} {b B j : Nat} {es : KV Value} {v : Value} {l : List UInt8} (h : MapAt P k w b es) (ho : OwnE e w B v l) (hj : v.ownBlock = some j) : b ≠ j := by
  rintro rfl
  rcases ho.2 with ⟨rfl, _⟩ | ⟨g, cap, cur, rfl, _, hg, _⟩
  · cases hj
  · injection hj with hj
    subst hj
    exact h.ne hg rfl
theorem ris_names (es : List DEnt) : Ris (es.map abs1) ↔ es.Pairwise fun a b => bytesBefore a.name b.name = true := List.pairwise_map
theorem pair_swap {R : DEnt → DEnt → Prop} {l r : List DEnt} {a b : DEnt} (h : (l ++ a :: r).Pairwise R) (h1 : ∀ x ∈ l, R x a → R x b) (h2 : ∀ x ∈ r, R a x → R b x) : (l ++ b :: r).Pairwise R := by
  rw [List.pairwise_append, List.pairwise_cons] at h ⊢
  obtain ⟨p1, ⟨p2, p3⟩, p4⟩ := h
  refine ⟨p1, ⟨fun x hx => h2 x hx (p2 x hx), p3⟩, fun x hx y hy => ?_⟩
  rcases List.mem_cons.1 hy with rfl | hy
  · exact h1 x hx (p4 x hx a (by simp))
  · exact p4 x hx y (by simp [hy])
theorem used_swap (l r : List DEnt) (a : DEnt) : usedF ((l ++ a :: r).map abs1) = a.f.b.length + usedF ((l ++ r).map abs1) := by
  rw [List.map_append, List.map_cons, usedF_app, usedF_cons, List.map_append, usedF_app]
  simp only [abs1]
  omega

/-- a file was changed, and what is used -/
theorem change_end {S X : Nat → Prop} {w w1 : World} {d room : Nat} {l r : List DEnt} {en : DEnt} {m : Option Nat} (h : DiskAt S w d room (l ++ en :: r) m) {v' : Value} {f' : FileT}
    (hX : ∀ i, X i → ¬ S i) (hroom : f'.b.length + usedF ((l ++ r).map abs1) ≤ room) (h1 : Only (fun i => i = en.g ∨ en.v.ownBlock = some i ∨ X i) w w1) (h2 : FileAt w1 en.g v' f') (h3 : ∀ k, v'.ownBlock = some k → en.v.ownBlock = some k ∨ w.heap.size ≤ k)
    {w2 : World} (hw2 : w2 = (w1.setCell ⟨d, 1, none⟩ (.int .i64 (usedF ((l ++ { en with v := v', f := f' } :: r).map abs1)))).drew) :
    Only (fun i => S i ∨ X i) w w2 ∧ DiskAt (ext S w w2) w2 d room (l ++ { en with v := v', f := f' } :: r) m := by
  have he := h.ent en (by simp)
  have hZ : ∀ i, (i = en.g ∨ en.v.ownBlock = some i ∨ X i) → S i ∨ X i := by
    rintro i (rfl | hi | hi)
    · exact .inl he.g
    · exact .inl (he.v i hi)
    · exact .inr hi
  have o2 : Only (onB d) w1 w2 := by rw [hw2]; exact ((Only.refl _ _).set1 1 _).drew
  have o1 : Only (fun i => S i ∨ X i) w w1 := h1.mono fun i _ hi => hZ i hi
  have ow : Only (fun i => S i ∨ X i) w w2 := o1.trans o2 fun i _ hi => .inl (by rw [show i = d from hi]; exact h.dd)
  have hdZ : ¬ (d = en.g ∨ en.v.ownBlock = some d ∨ X d) := by
    rintro (hi | hi | hi)
    · exact bl_ne h.bl he.file.bl (by decide) hi
    · exact own_ne he.file.own hi h.bl (by decide) rfl
    · exact hX d hi h.dd
  have hd1 := h1.bl h.bl hdZ
  have hap := h.apart
  have hap2 := hap
  rw [List.pairwise_append, List.pairwise_cons] at hap2
  obtain ⟨_, ⟨a2, _⟩, a4⟩ := hap2
  have other : ∀ e ∈ l ++ r, EntAt (ext S w w2) w2 e := by
    intro e hel
    have hee : EntAt S w e := h.ent e (by rcases List.mem_append.1 hel with hh | hh <;> simp [hh])
    have hne : e.g ≠ en.g ∧ ∀ k, e.v.ownBlock = some k → en.v.ownBlock ≠ some k := by
      rcases List.mem_append.1 hel with hh | hh
      · exact ⟨(a4 e hh en (by simp)).1, (a4 e hh en (by simp)).2⟩
      · exact ⟨(a2 e hh).1.symm, fun k hk hk2 => (a2 e hh).2 k hk2 hk⟩
    have e1 : EntAt S w1 e := hee.only h1 (by
      rintro (hi | hi | hi)
      · exact hne.1 hi
      · exact own_ne he.file.own hi hee.file.bl (by decide) rfl
      · exact hX _ hi hee.g) (fun k hk => by
      rintro (hi | hi | hi)
      · exact own_ne hee.file.own hk he.file.bl (by decide) hi
      · exact hne.2 k hk hi
      · exact hX _ hi (hee.v k hk))
    exact (e1.only o2 (fun hi => bl_ne e1.file.bl hd1 (by decide) hi) (fun k hk hi => own_ne e1.file.own hk hd1 (by decide) hi)).mono fun i hi => .inl hi
  refine ⟨ow, ⟨?_, .inl h.dd, fun hm => absurd (h.nil hm) (by simp), fun b hb => ⟨.inl (h.mp b hb).1, ?_⟩, fun e hel => ?_, ?_, ?_, h.hroom, by rw [used_swap]; exact hroom⟩⟩
  · rw [hw2]
    exact hd1.put 1 _
  · have hmb := (h.mp b hb).2
    have e1 : MapAt Tryd.prog 9 w1 b (refs (l ++ en :: r)) := hmb.only h1 (by
      rintro (hi | hi | hi)
      · exact hmb.ne he.file.bl hi
      · exact map_ne_own hmb he.file.own hi rfl
      · exact hX _ hi (h.mp b hb).1)
    have e2 := e1.only o2 (fun hi => e1.ne hd1 hi)
    have e3 : refs (l ++ { en with v := v', f := f' } :: r) = refs (l ++ en :: r) := by simp [refs]
    rw [e3]
    exact e2
  · have hcase : e ∈ l ++ r ∨ e = { en with v := v', f := f' } := by
      rcases List.mem_append.1 hel with hh | hh
      · exact .inl (by simp [hh])
      · rcases List.mem_cons.1 hh with hh | hh
        · exact .inr hh
        · exact .inl (by simp [hh])
    rcases hcase with hh | rfl
    · exact other e hh
    · refine ⟨h2.only o2 (fun hi => bl_ne h2.bl hd1 (by decide) hi) (fun k hk hi => own_ne h2.own hk hd1 (by decide) hi), he.name, .inl he.g, fun k hk => ?_⟩
      rcases h3 k hk with hh | hh
      · exact .inl (he.v k hh)
      · exact .inr ⟨hh, Nat.lt_of_lt_of_le (h2.own.lt k hk) o2.size⟩
  · refine pair_swap hap (fun x hx hR => ⟨hR.1, fun k hk hk2 => ?_⟩) (fun x hx hR => ⟨hR.1, fun k hk hk2 => ?_⟩)
    · rcases h3 k hk2 with hh | hh
      · exact hR.2 k hk hh
      · have := (h.ent x (by simp [hx])).file.own.lt k hk
        omega
    · rcases h3 k hk with hh | hh
      · exact hR.2 k hh hk2
      · have := (h.ent x (by simp [hx])).file.own.lt k hk2
        omega
  · rw [ris_names]
    exact pair_swap ((ris_names _).1 h.ris) (fun _ _ hR => hR) (fun _ _ hR => hR)

/-- the world behind a change -/
def Changed (X S : Nat → Prop) (w : World) (d room : Nat) (es : List DEnt) (m : Option Nat) (code : Int) (Q : World → Prop) (e : Ending) (w' : World) : Prop :=
  e = .returned (.int .i64 code) ∧ Only (fun i => S i ∨ X i) w w' ∧ Q w' ∧ DiskAt (ext S w w') w' d room es m

set_option maxHeartbeats 1000000 in
theorem change_ok {S X : Nat → Prop} {w : World} {d room : Nat} {l r : List DEnt} {en : DEnt} {m : Option Nat} (h : DiskAt S w d room (l ++ en :: r) m) {s : ByteArray} (hs : s.size ≤ maxLen) (hn : en.name = s.data.toList)
    (K : FuncId) (recv : Array Value) {fn : Func} (hf : Tryd.prog.funcs[K]? = some fn) (hg : (fn.name == "runtime.NumGoroutine") = false) (hb : fn.body.isNone = false) (code : Int) (f' : FileT) (Q : World → Prop)
    (hX : ∀ i, X i → ¬ S i) (hroom : f'.b.length + usedF ((l ++ r).map abs1) ≤ room) (hQ : ∀ w1 u, Q w1 → Q (w1.setCell ⟨d, 1, none⟩ u).drew)
    (hc : Calls Tryd.prog K (recv ++ #[ptr en.g]) w (Turned X w en.g en.v code f' Q)) :
    Calls Tryd.prog 20 #[ptr d, .string s, .func (.func K) recv #[]] w fun e w' => ∃ v', Changed X S w d room (l ++ { en with v := v', f := f' } :: r) m code Q e w' := by
  have H := hide h
  have HC : Hid (Calls Tryd.prog K (recv ++ #[.pointer (some ⟨en.g, 0, none⟩)]) w fun e w' => ∃ u, e = .returned u ∧ (u = .int .i64 code ∧ Turned X w en.g en.v code f' Q (.returned (.int .i64 code)) w')) := hide (hc.mono fun e w' ht => ⟨.int .i64 code, ht.1, rfl, rfl, ht.2⟩)
  have HN := hide hn
  have hfo : found (l ++ en :: r) s = some en := by unfold found; rw [← hn]; exact find_split h.ris
  have HF := hide hfo
  have hen := h.ent en (by simp)
  obtain ⟨A, c, hv, hby⟩ := hen.file.own.by_
  have HB : Hid (Bl w en.g 79 #[.slice A en.f.b.length c, .int .i64 en.f.sure]) := hide (by rw [← hv]; exact hen.file.bl)
  have HV := hide hv
  have c0 := HB.out.cell 0
  simp only [List.getElem?_toArray, List.getElem?_cons_zero] at c0
  have hle := hby.le
  have hcm := hby.max
  unfold maxLen at hcm
  clear h hc hn hfo hen hv hby
  go_enter Tryd.func20, Tryd.ntmps20
  go_wp2_with fail
  refine (find_ok H.out hs).mono ?_
  rintro e w' ⟨rfl, rfl⟩
  rw [HF.out]
  unfold foundV ptr
  go_wp2_with (refine wpList_callv rfl (.tmp 24) (.tmp 25) #[68] K recv (.pointer (some ⟨en.g, 0, none⟩)) rfl rfl rfl hf hg hb (R := fun u w' => u = .int .i64 code ∧ Turned X w en.g en.v code f' Q (.returned (.int .i64 code)) w') HC.out ?_)
  rintro u w1 rfl ht
  obtain ⟨_, ⟨v', h1, h2, h3⟩, h4⟩ := ht
  have H1 : Hid (Only (fun i => i = en.g ∨ en.v.ownBlock = some i ∨ X i) w w1) := hide h1
  have H3 := hide h3
  have H4 := hide h4
  have hS : ∀ i, (i = en.g ∨ en.v.ownBlock = some i ∨ X i) → S i ∨ X i := by
    have he := H.out.ent en (by simp)
    rintro i (rfl | hi | hi)
    · exact .inl he.g
    · exact .inl (he.v i hi)
    · exact .inr hi
  have hd : ¬ (d = en.g ∨ en.v.ownBlock = some d ∨ X d) := by
    have he := H.out.ent en (by simp)
    rintro (hi | hi | hi)
    · exact bl_ne H.out.bl he.file.bl (by decide) hi
    · exact own_ne he.file.own hi H.out.bl (by decide) rfl
    · exact hX d hi H.out.dd
  have HD : Hid (Bl w1 d 47 #[.int .i64 room, .int .i64 (usedF ((l ++ en :: r).map abs1)), .map m]) := hide (h1.bl H.out.bl hd)
  have d1 := HD.out.cell 1
  have g1 := HD.out.frozen 1
  simp only [List.getElem?_toArray, List.getElem?_cons_zero, List.getElem?_cons_succ] at d1
  obtain ⟨A', c', hv', hby'⟩ := h2.own.by_
  subst hv'
  have H2 := hide h2
  have e0 := h2.bl.cell 0
  simp only [List.getElem?_toArray, List.getElem?_cons_zero] at e0
  have hle' := hby'.le
  have hcm' := hby'.max
  unfold maxLen at hcm'
  have hu : (usedF ((l ++ en :: r).map abs1) : Int) ≤ 9223372036854775807 := by have := H.out.hroom; have := H.out.hused; omega
  have HEND := hide (fun w2 => change_end H.out hX hroom h1 h2 h3 (w2 := w2))
  have hroom' := H.out.hroom
  have hue : usedF ((l ++ en :: r).map abs1) = en.f.b.length + usedF ((l ++ r).map abs1) := by
    rw [List.map_append, List.map_cons, usedF_app, usedF_cons, List.map_append, usedF_app]
    simp only [abs1]
    omega
  have HU := hide hue
  obtain ⟨u0, hu0⟩ : ∃ u0, u0 = usedF ((l ++ en :: r).map abs1) := ⟨_, rfl⟩
  obtain ⟨u1, hu1⟩ : ∃ u1, u1 = usedF ((l ++ r).map abs1) := ⟨_, rfl⟩
  rw [← hu0] at d1 hu hue HU HD
  rw [← hu1] at hue HU hroom
  have HU0 := hide hu0
  have HU1 := hide hu1
  clear h1 h2 h3 h4 hby' hu0 hu1 hS hd
  have hw1 : IntKind.i64.wrap ((f'.b.length : Int) - en.f.b.length) = (f'.b.length : Int) - en.f.b.length := IntWalk.i64_in _ (by omega)
  have hw2 : IntKind.i64.wrap ((u0 : Int) + ((f'.b.length : Int) - en.f.b.length)) = (u0 : Int) + ((f'.b.length : Int) - en.f.b.length) := IntWalk.i64_in _ (by omega)
  clear hue
  go_wp2_with fail
  go_still_tail 14, (by kernel_rfl)
  change wpList _ _ _ _ _ w1.drew
  go_wp2_with fail
  go_ret
  have ew : (u0 : Int) + ((f'.b.length : Int) - en.f.b.length) = (usedF ((l ++ { en with v := .slice A' f'.b.length c', f := f' } :: r).map abs1) : Nat) := by
    rw [used_swap, ← HU1.out, HU.out]
    simp only
    omega
  rw [ew]
  obtain ⟨k1, k2⟩ := HEND.out _ rfl
  exact ⟨_, rfl, k1, hQ _ _ H4.out, k2⟩

end Go.Proofs.YtkcfieoflkhdpaaDoor.DiskFind
