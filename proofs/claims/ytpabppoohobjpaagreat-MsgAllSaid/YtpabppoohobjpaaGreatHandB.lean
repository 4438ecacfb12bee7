/-
  A letter's lists as fields; what its kind names; its body, handed to a hand, by contract.
-/
import Derived.Test.YtpabppoohobjpaaGreatHandE
import Derived.Laws.OwnMore
namespace Go.Proofs.YtpabppoohobjpaaGreat
open Go Go.RowKit TxnMath KeyMath MsgMath
set_option maxRecDepth 100000

/-! Functions as values. -/
theorem run_fn2 {P : Program} {k : FuncId} {fn : Func} (hf : P.funcs[k]? = some fn) (hn : (fn.name == "runtime.NumGoroutine") = false) (hb : fn.body.isNone = false) (a : Act) (o : Oper) (x y z : Operand) (ats : Array TypeId) (ho : o.op = .call { callee := .value x, args := #[y, z], argTypes := ats })
    (hx : a.eval x = .func (.func k) #[] #[]) (w : World) : (execOp a.eval o).run P w = .ok (.enter k #[a.eval y, a.eval z]) w := by
  obtain ⟨dst, op, ty, pos, after, guard⟩ := o
  simp only at ho
  subst ho
  have e : execOp a.eval { dst, op := .call { callee := .value x, args := #[y, z], argTypes := ats }, type := ty, pos, after, guard } = callFunc k #[a.eval y, a.eval z] := by
    unfold execOp
    simp only [resolve, hx, Deferred.ofValue, invoke, List.map_toArray, List.map_cons, List.map_nil]
    rfl
  rw [e, Grow.enters hf hn hb]
theorem runsAs_fn {P : Program} {k : FuncId} {fn : Func} (hf : P.funcs[k]? = some fn) (hn : (fn.name == "runtime.NumGoroutine") = false) (hb : fn.body.isNone = false) (hv : Value) : RunsAs P (.func (.func k) #[] #[]) hv k hv := by
  intro a o x y z ats ho hx hy w
  rw [run_fn2 hf hn hb a o x y z ats ho hx w, hy]
theorem runsAs_text {hv r : Value} {f : FuncId} (hD : Disp Tryz.prog hv "diwan/msg.text" f r) : RunsAs Tryz.prog (.func (.methodOf 90 "diwan/msg.text") #[] #[]) hv f r := by
  intro a o x y z ats ho hx hy w
  obtain ⟨dst, op, ty, pos, after, guard⟩ := o
  simp only at ho
  subst ho
  have h1 := hD.2 #[a.eval z] w
  obtain ⟨⟨t, v, rfl, _⟩, _⟩ := hD
  unfold execOp
  simp only [resolve, hx, Deferred.ofValue, invoke, List.map_toArray, List.map_cons, List.map_nil, hy]
  rw [Sem.run_bind]
  simp [Sem.run_bind, run_underlying Tryz.underlying90]
  simpa using h1

section
variable {σ : Type} {H : Hand σ} {rd : Prop} {hv : Value} {S : σ → World → Prop} {O : World → Nat → Prop} {wt : σ → Nat}

def entOk (e : EntT) : Prop := I64 e.term ∧ TxLim 1000000 e.t
theorem noTxn_lim : TxLim 1000000 noTxn := ⟨⟨by decide, by decide⟩, ⟨by decide, by decide⟩, Nat.zero_le _, Nat.zero_le _, fun x hx => by simp [noTxn] at hx, fun x hx => by simp [noTxn] at hx⟩
theorem entry_okOne (hH : HandOk Tryz.prog H rd hv S O wt) (s : σ) (x : EntT) (hx : entOk x) : entOk (H.entry s x).1 := by
  unfold Hand.entry
  simp only []
  split
  · exact ⟨hH.i64 _ _ hx.1, hx.2⟩
  · exact ⟨hH.i64 _ _ hx.1, hH.lim _ _ hx.2⟩
theorem entry_wt (hH : HandOk Tryz.prog H rd hv S O wt) (s : σ) (x : EntT) : wt (H.entry s x).2 ≤ wt s + 50000 := by
  have h1 := hH.wNum s x.term
  have h2 := hH.wFlag (H.num s x.term).2 x.shut
  have h3 := hH.wTxn (H.flag (H.num s x.term).2 x.shut).2 x.t
  unfold Hand.entry
  simp only []
  split
  · show wt (H.flag (H.num s x.term).2 x.shut).2 ≤ _; omega
  · show wt (H.txn (H.flag (H.num s x.term).2 x.shut).2 x.t).2 ≤ _; omega
theorem entry_rd (hH : HandOk Tryz.prog H rd hv S O wt) (h : rd) (s : σ) (x : EntT) : (H.entry s x).1 = x := by
  unfold Hand.entry
  simp only []
  split
  · simp [hH.rdNum h, hH.rdFlag h]
  · simp [hH.rdNum h, hH.rdFlag h, hH.rdTxn h]
theorem elt_entry (hH : HandOk Tryz.prog H rd hv S O wt) : EltOk Tryz.prog rd S O wt entC 6 entR entOk noEnt H.entry 88 hv where
  len _ _ := rfl
  pos := by decide
  move h hm := RowsX.move h hm
  zok := ⟨⟨by decide, by decide⟩, noTxn_lim⟩
  zR X w := RowsX.none_ X w
  okOne := entry_okOne hH
  rdOne := entry_rd hH
  wOne := entry_wt hH
  call s w k o x p X hS hw hO hs hX hR hop hx := entry_ok hH s w k o x p X hS hw hO hs hX hR hop hx.1 hx.2

theorem read_okOne (hH : HandOk Tryz.prog H rd hv S O wt) (s : σ) (x : RdT) (hx : RdLim 1000000 x) : RdLim 1000000 (H.read s x).1 := ⟨hH.short _ _ hx.key, hH.short _ _ hx.val, hH.i64 _ _ hx.ver⟩
theorem read_wt (hH : HandOk Tryz.prog H rd hv S O wt) (s : σ) (x : RdT) : wt (H.read s x).2 ≤ wt s + 50000 := by
  have h1 := hH.wText s x.key
  have h2 := hH.wNum (H.text s x.key).2 x.ver
  have h3 := hH.wText (H.num (H.text s x.key).2 x.ver).2 x.val
  have h4 := hH.wFlag (H.text (H.num (H.text s x.key).2 x.ver).2 x.val).2 x.there
  show wt (H.flag (H.text (H.num (H.text s x.key).2 x.ver).2 x.val).2 x.there).2 ≤ _
  omega
theorem read_rd (hH : HandOk Tryz.prog H rd hv S O wt) (h : rd) (s : σ) (x : RdT) : (H.read s x).1 = x := by
  simp [Hand.read, hH.rdNum h, hH.rdFlag h, hH.rdText h]
theorem elt_read (hH : HandOk Tryz.prog H rd hv S O wt) : EltOk Tryz.prog rd S O wt (fun x _ => rdC x) 4 (fun _ _ _ _ => True) (RdLim 1000000) noRd H.read 91 hv where
  len _ _ := rfl
  pos := by decide
  move _ _ := trivial
  zok := ⟨Nat.zero_le _, Nat.zero_le _, ⟨by decide, by decide⟩⟩
  zR _ _ := trivial
  okOne := read_okOne hH
  rdOne := read_rd hH
  wOne := read_wt hH
  call s w k o x _ _ hS hw hO hs _ _ hop hx := (read_ok hH s w k o x hS hw hO hs hop hx).mono fun _ _ ⟨h1, h2, h3⟩ => ⟨h1, h2, (undef, undef), h3, trivial⟩
theorem elt_text (hH : HandOk Tryz.prog H rd hv S O wt) : ∃ f q, Disp Tryz.prog hv "diwan/msg.text" f q ∧ EltOk Tryz.prog rd S O wt (fun x _ => strC x) 1 (fun _ _ _ _ => True) (fun s => s.size ≤ 1000000) nothing H.text f q := by
  obtain ⟨f, q, hD, hC⟩ := hH.text
  exact ⟨f, q, hD, {
    len := fun _ _ => rfl
    pos := by decide
    move := fun _ _ => trivial
    zok := Nat.zero_le _
    zR := fun _ _ => trivial
    okOne := hH.short
    rdOne := hH.rdText
    wOne := fun s x => by have := hH.wText s x; omega
    call := fun s w k o x _ _ hS hw hO hs _ _ hop hx => (hC s w k o x hS (by omega) hO hs hop hx).mono fun _ _ ⟨h1, h2, h3⟩ => ⟨h1, h2, (undef, undef), h3, trivial⟩ }⟩

/-! Rows as lists. -/
theorem mapIdx_const {α β : Type} (g : α → β) (l : List α) : (l.mapIdx fun _ x => g x) = l.map g := by
  apply List.ext_getElem?
  intro j
  rw [List.getElem?_mapIdx, List.getElem?_map]
theorem listX_plain {α : Type} {C : α → List Value} {kc : Nat} {X : Nat → Prop} {w : World} {v : Value} {xs : List α} : ListX (fun x _ => C x) (fun _ _ _ _ => True) kc X w v xs ↔ RowX X kc w v (xs.map C) := by
  constructor
  · rintro ⟨F, h, _⟩
    rwa [mapIdx_const] at h
  · intro h
    exact ⟨fun _ => (undef, undef), by rw [mapIdx_const]; exact h, fun _ _ _ => trivial⟩

/-- a cell of the letter that says where a row is was laid -/
theorem letx_put {O : World → Nat → Prop} {rd : Prop} {g o : Nat} {w w' : World} {m m' : MsgT} {r r' : Rows5} {u : Value} (hb : ∃ cs, Bl w g 61 cs ∧ cs.size = 24) (h3 : Sit w g 0 (cellsM m r)) (hw : Wr O rd g o [u] w w') (hc : cellsM m' r' = (cellsM m r).set o u)
    (hr : MsgR (fun j => ¬ O w' j ∧ j ≠ g) w' m' r') : LetX O w' g m' := by
  obtain ⟨cs, h1, h2⟩ := hb
  obtain ⟨cs', h5, h6⟩ := hw.bl _ _ h1
  refine ⟨r', ⟨cs', h5, h6.trans h2⟩, fun i x hi => ?_, hr⟩
  rw [hc] at hi
  by_cases hio : o = i
  · subst hio
    have hl : o < (cellsM m r).length := by
      have := (List.getElem?_eq_some_iff.1 hi).1
      simpa using this
    rw [List.getElem?_set_self hl] at hi
    injection hi with hi
    subst hi
    have := hw.at_ 0 u rfl
    simpa using this
  · rw [List.getElem?_set_ne hio] at hi
    rw [hw.out (0 + i) (by simp; omega)]
    exact h3 i x hi
theorem sit_at {w : World} {g o : Nat} {l : List Value} {u : Value} (h : Sit w g 0 l) (hu : l[o]? = some u) : Sit w g o [u] := by
  intro i x hi
  match i, hi with
  | 0, hi =>
    simp at hi
    subst hi
    have := h o u hu
    simpa using this

set_option maxHeartbeats 400000 in
theorem fld_entries (hH : HandOk Tryz.prog H rd hv S O wt) (s : σ) (m : MsgT) (w : World) (g : Nat) (hS : S s w) (hw : wt s ≤ 200000000) (hL : LetX O w g m) (hO : ¬ O w g) (hz : ∀ x ∈ m.entries, entOk x) (hn : m.entries.length ≤ 1000) (hfree : rd ∨ (H.size s m.entries.length 4).1 ≠ m.entries.length ∨ m.entries = []) :
    Calls Tryz.prog 72 #[.pointer (some ⟨g, 0, none⟩), hv] w (FldPost O rd S g w (H.fld .entries s m)) := by
  obtain ⟨q, hb, h3, h4⟩ := hL
  have hE := elt_entry hH
  have hF := runsAs_fn (P := Tryz.prog) Tryz.func88 (by kernel_rfl) (by kernel_rfl) hv
  have HC := hide (listE_ok hH hE hF rfl s m.entries w g 9 4 q.e hS hw hO (sit_at h3 rfl) (by obtain ⟨cs, h1, h2⟩ := hb; exact ⟨_, cs, h1, by omega⟩) h4.e hz hn (by decide) hfree)
  have HB := hide hb
  have H3 := hide h3
  have H4 := hide h4
  clear hb h3 h4 hS hw hO hz hn hfree hE hF
  go_enter Tryz.func72, Tryz.ntmps72
  go_wp2_with fail
  refine HC.out.mono ?_
  rintro e w' ⟨rfl, hS', v, hW, hX⟩
  have hmv := H4.out.move hW.hr.stays
  have HF := hide (show FldPost O rd S g w (H.fld .entries s m) (.returned (.tuple #[])) w' from ⟨rfl, hS', letx_put (r' := { q with e := v }) HB.out H3.out hW rfl ⟨hX, hmv.p, hmv.k, hmv.g⟩, hW.hr⟩)
  clear hS' hW hX hmv HC HB H3 H4
  go_wp2_with fail
  go_end0
  exact HF.out

set_option maxHeartbeats 400000 in
theorem fld_keys (hH : HandOk Tryz.prog H rd hv S O wt) (s : σ) (m : MsgT) (w : World) (g : Nat) (hS : S s w) (hw : wt s ≤ 200000000) (hL : LetX O w g m) (hO : ¬ O w g) (hz : ∀ x ∈ m.keys, x.size ≤ 1000000) (hn : m.keys.length ≤ 1000) (hfree : rd ∨ (H.size s m.keys.length 6).1 ≠ m.keys.length ∨ m.keys = []) :
    Calls Tryz.prog 81 #[.pointer (some ⟨g, 0, none⟩), hv] w (FldPost O rd S g w (H.fld .keys s m)) := by
  obtain ⟨q, hb, h3, h4⟩ := hL
  obtain ⟨fq, qq, hD, hE⟩ := elt_text hH
  have hF := runsAs_text hD
  have hmf := run_mk Tryz.prog
  have HC := hide (listS_ok hH hE hF rfl s m.keys w g 21 6 q.k hS hw hO (sit_at h3 rfl) (by obtain ⟨cs, h1, h2⟩ := hb; exact ⟨_, cs, h1, by omega⟩) (listX_plain.2 h4.k) hz hn (by decide) hfree)
  have HB := hide hb
  have H3 := hide h3
  have H4 := hide h4
  clear hb h3 h4 hS hw hO hz hn hfree hE hF
  go_enter Tryz.func81, Tryz.ntmps81
  go_wp2_with fail
  refine HC.out.mono ?_
  rintro e w' ⟨rfl, hS', v, hW, hX⟩
  have hmv := H4.out.move hW.hr.stays
  have HF := hide (show FldPost O rd S g w (H.fld .keys s m) (.returned (.tuple #[])) w' from ⟨rfl, hS', letx_put (r' := { q with k := v }) HB.out H3.out hW rfl ⟨hmv.e, hmv.p, listX_plain.1 hX, hmv.g⟩, hW.hr⟩)
  clear hS' hW hX hmv HC HB H3 H4
  go_wp2_with fail
  go_end0
  exact HF.out

set_option maxHeartbeats 400000 in
theorem fld_got (hH : HandOk Tryz.prog H rd hv S O wt) (s : σ) (m : MsgT) (w : World) (g : Nat) (hS : S s w) (hw : wt s ≤ 200000000) (hL : LetX O w g m) (hO : ¬ O w g) (hz : ∀ x ∈ m.got, RdLim 1000000 x) (hn : m.got.length ≤ 1000) (hfree : rd ∨ (H.size s m.got.length 64).1 ≠ m.got.length ∨ m.got = []) :
    Calls Tryz.prog 83 #[.pointer (some ⟨g, 0, none⟩), hv] w (FldPost O rd S g w (H.fld .got s m)) := by
  obtain ⟨q, hb, h3, h4⟩ := hL
  have hE := elt_read hH
  have hF := runsAs_fn (P := Tryz.prog) Tryz.func91 (by kernel_rfl) (by kernel_rfl) hv
  have HC := hide (listR_ok hH hE hF rfl s m.got w g 22 64 q.g hS hw hO (sit_at h3 rfl) (by obtain ⟨cs, h1, h2⟩ := hb; exact ⟨_, cs, h1, by omega⟩) (listX_plain.2 h4.g) hz hn (by decide) hfree)
  have HB := hide hb
  have H3 := hide h3
  have H4 := hide h4
  clear hb h3 h4 hS hw hO hz hn hfree hE hF
  go_enter Tryz.func83, Tryz.ntmps83
  go_wp2_with fail
  refine HC.out.mono ?_
  rintro e w' ⟨rfl, hS', v, hW, hX⟩
  have hmv := H4.out.move hW.hr.stays
  have HF := hide (show FldPost O rd S g w (H.fld .got s m) (.returned (.tuple #[])) w' from ⟨rfl, hS', letx_put (r' := { q with g := v }) HB.out H3.out hW rfl ⟨hmv.e, hmv.p, hmv.k, listX_plain.1 hX⟩, hW.hr⟩)
  clear hS' hW hX hmv HC HB H3 H4
  go_wp2_with fail
  go_end0
  exact HF.out
end

end Go.Proofs.YtpabppoohobjpaaGreat

/-
  What a letter's kind names, by contract.
-/
namespace Go.Proofs.YtpabppoohobjpaaGreat
open Go Go.RowKit TxnMath KeyMath MsgMath
set_option maxRecDepth 100000

/-- the method that hands a field over -/
def fidF : Fld → FuncId
  | .term => 67
  | .index => 68
  | .logTerm => 69
  | .commit => 71
  | .ok => 70
  | .ses => 76
  | .seq => 77
  | .pos => 74
  | .shard => 75
  | .span => 78
  | .fromKey => 79
  | .toKey => 80
  | .t => 73
  | .err => 82
  | .entries => 72
  | .keys => 81
  | .got => 83
  | _ => 0
def fnv (f : Fld) : Value := .func (.func (fidF f)) #[] #[]
def NamedPost (w : World) (k : Int) (e : Ending) (w' : World) : Prop := ∃ v, e = .returned v ∧ OwnV 95 w' w.heap.size v ((named k).map fnv) ∧ Gr w w'

theorem named_lit (w : World) (k : Int) (cs : Array Value) (n : Nat) (hn : n ≤ 100) (hs : cs.size = n) (hc : cs.toList = (named k).map fnv) : NamedPost w k (.returned (.slice (some ⟨w.heap.size, 0, none⟩) n n)) (w.alloc (.cells cs 95)) := by
  refine ⟨_, rfl, ?_, (Gr.refl w).alloc _⟩
  unfold OwnV
  rw [← hc, show cs.toList.length = n by simpa using hs]
  exact World.ownsRow_lit w cs n (Nat.le_refl _) (by unfold maxLen; omega) (by omega)


set_option maxHeartbeats 400000 in
theorem named1_ok (w : World) : Calls Tryz.prog 55 #[.int .i64 1] w (NamedPost w 1) := by
  have HP := hide (named_lit w 1 #[.func (.func 67) #[] #[], .func (.func 68) #[] #[], .func (.func 69) #[] #[]] 3 (by decide) rfl rfl)
  go_enter Tryz.func55, Tryz.ntmps55
  go_wp2_with fail
  go_ret
  exact HP.out

set_option maxHeartbeats 400000 in
theorem named2_ok (w : World) : Calls Tryz.prog 55 #[.int .i64 2] w (NamedPost w 2) := by
  have HP := hide (named_lit w 2 #[.func (.func 67) #[] #[], .func (.func 70) #[] #[]] 2 (by decide) rfl rfl)
  go_enter Tryz.func55, Tryz.ntmps55
  go_wp2_with fail
  go_ret
  exact HP.out

set_option maxHeartbeats 400000 in
theorem named3_ok (w : World) : Calls Tryz.prog 55 #[.int .i64 3] w (NamedPost w 3) := by
  have HP := hide (named_lit w 3 #[.func (.func 67) #[] #[], .func (.func 68) #[] #[], .func (.func 69) #[] #[], .func (.func 71) #[] #[], .func (.func 72) #[] #[]] 5 (by decide) rfl rfl)
  go_enter Tryz.func55, Tryz.ntmps55
  go_wp2_with fail
  go_ret
  exact HP.out

set_option maxHeartbeats 400000 in
theorem named4_ok (w : World) : Calls Tryz.prog 55 #[.int .i64 4] w (NamedPost w 4) := by
  have HP := hide (named_lit w 4 #[.func (.func 67) #[] #[], .func (.func 70) #[] #[], .func (.func 68) #[] #[]] 3 (by decide) rfl rfl)
  go_enter Tryz.func55, Tryz.ntmps55
  go_wp2_with fail
  go_ret
  exact HP.out

set_option maxHeartbeats 400000 in
theorem named5_ok (w : World) : Calls Tryz.prog 55 #[.int .i64 5] w (NamedPost w 5) := by
  have HP := hide (named_lit w 5 #[.func (.func 73) #[] #[]] 1 (by decide) rfl rfl)
  go_enter Tryz.func55, Tryz.ntmps55
  go_wp2_with fail
  go_ret
  exact HP.out

set_option maxHeartbeats 400000 in
theorem named6_ok (w : World) : Calls Tryz.prog 55 #[.int .i64 6] w (NamedPost w 6) := by
  have HP := hide (named_lit w 6 #[.func (.func 74) #[] #[], .func (.func 75) #[] #[]] 2 (by decide) rfl rfl)
  go_enter Tryz.func55, Tryz.ntmps55
  go_wp2_with fail
  go_ret
  exact HP.out

set_option maxHeartbeats 400000 in
theorem named7_ok (w : World) : Calls Tryz.prog 55 #[.int .i64 7] w (NamedPost w 7) := by
  have HP := hide (named_lit w 7 #[.func (.func 74) #[] #[], .func (.func 75) #[] #[], .func (.func 70) #[] #[]] 3 (by decide) rfl rfl)
  go_enter Tryz.func55, Tryz.ntmps55
  go_wp2_with fail
  go_ret
  exact HP.out

set_option maxHeartbeats 400000 in
theorem named8_ok (w : World) : Calls Tryz.prog 55 #[.int .i64 8] w (NamedPost w 8) := by
  have HP := hide (named_lit w 8 #[.func (.func 76) #[] #[], .func (.func 77) #[] #[], .func (.func 74) #[] #[], .func (.func 75) #[] #[], .func (.func 78) #[] #[], .func (.func 79) #[] #[], .func (.func 80) #[] #[], .func (.func 81) #[] #[]] 8 (by decide) rfl rfl)
  go_enter Tryz.func55, Tryz.ntmps55
  go_wp2_with fail
  go_ret
  exact HP.out

theorem info_fn : (Tryz.prog.info? 95).map (fun i => (i.zero, i.size, i.bytes)) = some (some .nilFunc, 1, 8) := by kernel_rfl

set_option maxHeartbeats 400000 in
theorem named9_ok (w : World) : Calls Tryz.prog 55 #[.int .i64 9] w (NamedPost w 9) := by
  obtain ⟨i0, hi, hz0, hz1, hz2⟩ := info_cells info_fn
  have C8 := hide (named8_ok w)
  go_enter Tryz.func55, Tryz.ntmps55
  go_wp2_with fail
  refine C8.out.mono ?_
  rintro e w1 ⟨v, rfl, hown, hg⟩
  have hlen : ((named 8).map fnv).length = 8 := rfl
  have HOWN := hide (show w1.ownsRow w.heap.size 95 1 v 8 ((named 8).map fnv) from hown)
  have HG := hide hg
  have hsz := hg.size
  clear hown hg hlen C8
  go_wp2_with (at_builtin; refine (show ∀ p, Stop p → p from fun _ h => h) _ ?_)
  change wpList _ _ _ _ _ _
  refine wpList_append_own _ rfl (.tmp 30) (.tmp 31) _ rfl w.heap.size 95 i0 .nilFunc 1 8 Tryz.underlying93 hi hz0 hz1 hz2 rfl (by decide) v 8 ((named 8).map fnv) rfl (HOWN.out.alloc _) ⟨w1.heap.size, 0, none⟩ 2 2 [fnv .err, fnv .got] rfl rfl ?_ ?_ (by unfold maxLen; omega) (by omega) (by simp; omega) ?_
  · intro j u hj
    have hb := Bl.new w1 95 #[fnv .err, fnv .got]
    match j, hj with
    | 0, hj => exact (hb.cell 0).trans hj
    | 1, hj => exact (hb.cell 1).trans hj
  · intro u hu
    simp at hu
    rcases hu with rfl | rfl <;> rfl
  · intro v' w' h1 h2 _
    have HF := hide (show NamedPost w 9 (.returned v') w' from ⟨v', rfl, h1, (HG.out.alloc _).below.grown h2 (Nat.le_trans hsz (by simp)) fun k hk => (World.ownsRow.lt HOWN.out k hk).1⟩)
    clear h1 h2 HG HOWN
    go_wp2_with fail
    go_ret
    exact HF.out

set_option maxHeartbeats 400000 in
theorem named0_ok (k : Int) (hk : named k = []) (w : World) : Calls Tryz.prog 55 #[.int .i64 k] w (NamedPost w k) := by
  have HP := hide (show NamedPost w k (.returned (.slice none 0 0)) w from ⟨_, rfl, by rw [hk]; exact OwnV.none_ _ _, Gr.refl w⟩)
  have d1 : ¬ k = 1 := fun h => by rw [h] at hk; revert hk; decide
  have d2 : ¬ k = 2 := fun h => by rw [h] at hk; revert hk; decide
  have d3 : ¬ k = 3 := fun h => by rw [h] at hk; revert hk; decide
  have d4 : ¬ k = 4 := fun h => by rw [h] at hk; revert hk; decide
  have d5 : ¬ k = 5 := fun h => by rw [h] at hk; revert hk; decide
  have d6 : ¬ k = 6 := fun h => by rw [h] at hk; revert hk; decide
  have d7 : ¬ k = 7 := fun h => by rw [h] at hk; revert hk; decide
  have d8 : ¬ k = 8 := fun h => by rw [h] at hk; revert hk; decide
  have d9 : ¬ k = 9 := fun h => by rw [h] at hk; revert hk; decide
  clear hk
  go_enter Tryz.func55, Tryz.ntmps55
  go_wp2_with fail
  go_ret
  exact HP.out

end Go.Proofs.YtpabppoohobjpaaGreat

/-
  A letter's body, handed to a hand, by contract.
-/
namespace Go.Proofs.YtpabppoohobjpaaGreat
open Go Go.RowKit TxnMath KeyMath MsgMath
set_option maxRecDepth 100000

theorem named_ok (k : Int) (w : World) : Calls Tryz.prog 55 #[.int .i64 k] w (NamedPost w k) := by
  by_cases h1 : k = 1
  · subst h1; exact named1_ok w
  by_cases h2 : k = 2
  · subst h2; exact named2_ok w
  by_cases h3 : k = 3
  · subst h3; exact named3_ok w
  by_cases h4 : k = 4
  · subst h4; exact named4_ok w
  by_cases h5 : k = 5
  · subst h5; exact named5_ok w
  by_cases h6 : k = 6
  · subst h6; exact named6_ok w
  by_cases h7 : k = 7
  · subst h7; exact named7_ok w
  by_cases h8 : k = 8
  · subst h8; exact named8_ok w
  by_cases h9 : k = 9
  · subst h9; exact named9_ok w
  refine named0_ok k ?_ w
  unfold named
  rw [if_neg h1, if_neg h2, if_neg h3, if_neg h4, if_neg h5, if_neg h6, if_neg h7, if_neg h8, if_neg h9]

theorem run_app {σ : Type} (H : Hand σ) : ∀ (l r : List Fld) (s : σ) (m : MsgT), H.run (l ++ r) s m = H.run r (H.run l s m).2 (H.run l s m).1
  | [], _, _, _ => rfl
  | f :: l, r, s, m => by
    simp only [List.cons_append, Hand.run]
    exact run_app H l r _ _
theorem run_take {σ : Type} (H : Hand σ) {l : List Fld} {k : Nat} (hk : k < l.length) (s : σ) (m : MsgT) : H.run (l.take (k + 1)) s m = H.fld l[k] (H.run (l.take k) s m).2 (H.run (l.take k) s m).1 := by
  rw [List.take_succ_eq_append_getElem hk, run_app]
  rfl

/-- bounds of a letter; tk: is its T bounded? -/
structure MsgLim (tk : Bool) (m : MsgT) : Prop where
  kind : I64 m.kind
  frm : I64 m.frm
  to : I64 m.to
  part : I64 m.part
  term : I64 m.term
  index : I64 m.index
  logTerm : I64 m.logTerm
  commit : I64 m.commit
  ses : I64 m.ses
  seq : I64 m.seq
  pos : I64 m.pos
  shard : I64 m.shard
  err : I64 m.err
  en : m.entries.length ≤ 100
  ent : ∀ e ∈ m.entries, entOk e
  tt : tk = true → TxLim 1000000 m.t
  fk : m.fromKey.size ≤ 1000000
  tk_ : m.toKey.size ≤ 1000000
  kn : m.keys.length ≤ 100
  ks : ∀ x ∈ m.keys, x.size ≤ 1000000
  gn : m.got.length ≤ 100
  gs : ∀ x ∈ m.got, RdLim 1000000 x

/-- the lists of these fields may be gone through -/
def Free {σ : Type} (H : Hand σ) (rd : Prop) (l : List Fld) (m : MsgT) : Prop :=
  rd ∨ (∀ s n k, (H.size s n k).1 = 0) ∨ ((.entries ∈ l → m.entries = []) ∧ (.keys ∈ l → m.keys = []) ∧ (.got ∈ l → m.got = []))

section
variable {σ : Type} {H : Hand σ} {rd : Prop} {hv : Value} {S : σ → World → Prop} {O : World → Nat → Prop} {wt : σ → Nat}

theorem Free.next {f : Fld} {l : List Fld} {s : σ} {m : MsgT} (h : Free H rd (f :: l) m) (hf : f ∉ l) : Free H rd l (H.fld f s m).1 := by
  rcases h with h | h | ⟨h1, h2, h3⟩
  · exact .inl h
  · exact .inr (.inl h)
  · refine .inr (.inr ⟨fun h => ?_, fun h => ?_, fun h => ?_⟩)
    · have hm := h1 (List.mem_cons_of_mem _ h)
      have hne : f ≠ .entries := fun e => hf (e ▸ h)
      cases f <;> first | exact absurd rfl hne | exact hm
    · have hm := h2 (List.mem_cons_of_mem _ h)
      have hne : f ≠ .keys := fun e => hf (e ▸ h)
      cases f <;> first | exact absurd rfl hne | exact hm
    · have hm := h3 (List.mem_cons_of_mem _ h)
      have hne : f ≠ .got := fun e => hf (e ▸ h)
      cases f <;> first | exact absurd rfl hne | exact hm

theorem sized_len {α : Type} (zero : α) (n : Nat) (l : List α) : (sized zero n l).length = n := by
  unfold sized
  split
  · rename_i h; exact h.symm
  · simp
theorem sized_ok {α : Type} {ok : α → Prop} {zero : α} {n : Nat} {l : List α} (hz : ok zero) (hl : ∀ x ∈ l, ok x) : ∀ x ∈ sized zero n l, ok x := by
  unfold sized
  split
  · exact hl
  · intro x hx
    obtain ⟨_, rfl⟩ := List.mem_replicate.1 hx
    exact hz
theorem list_lim (hH : HandOk Tryz.prog H rd hv S O wt) {α : Type} {ok : α → Prop} {zero : α} {one : σ → α → α × σ} (hz : ok zero) (ho : ∀ s x, ok x → ok (one s x).1) (most : Nat) (hm : most ≤ 100) (s : σ) (l : List α) (hn : l.length ≤ 100) (hl : ∀ x ∈ l, ok x) :
    (H.list zero one most s l).1.length ≤ 100 ∧ ∀ x ∈ (H.list zero one most s l).1, ok x := by
  unfold Hand.list
  refine ⟨?_, many_ok ho _ _ (sized_ok hz hl)⟩
  rw [many_len, sized_len]
  rcases hH.few s l.length most with h | h <;> omega
theorem list_wt (hH : HandOk Tryz.prog H rd hv S O wt) {α : Type} {zero : α} {one : σ → α → α × σ} (ho : ∀ s x, wt (one s x).2 ≤ wt s + 50000) (most : Nat) (hm : most ≤ 100) (s : σ) (l : List α) (hn : l.length ≤ 100) : wt (H.list zero one most s l).2 ≤ wt s + 5100000 := by
  unfold Hand.list
  have h1 := many_wt ho (sized zero (H.size s l.length most).1 l) (H.size s l.length most).2
  have h2 := hH.wSize s l.length most
  rw [sized_len] at h1
  have h3 : (H.size s l.length most).1 * 50000 ≤ 100 * 50000 := Nat.mul_le_mul_right _ (by rcases hH.few s l.length most with h | h <;> omega)
  omega

theorem MsgLim.fld (hH : HandOk Tryz.prog H rd hv S O wt) {tk : Bool} {m : MsgT} (h : MsgLim tk m) (f : Fld) (s : σ) : MsgLim tk (H.fld f s m).1 := by
  cases f with
  | kind => exact { h with kind := hH.i64 _ _ h.kind }
  | frm => exact { h with frm := hH.i64 _ _ h.frm }
  | to => exact { h with to := hH.i64 _ _ h.to }
  | part => exact { h with part := hH.i64 _ _ h.part }
  | term => exact { h with term := hH.i64 _ _ h.term }
  | index => exact { h with index := hH.i64 _ _ h.index }
  | logTerm => exact { h with logTerm := hH.i64 _ _ h.logTerm }
  | commit => exact { h with commit := hH.i64 _ _ h.commit }
  | ses => exact { h with ses := hH.i64 _ _ h.ses }
  | seq => exact { h with seq := hH.i64 _ _ h.seq }
  | pos => exact { h with pos := hH.i64 _ _ h.pos }
  | shard => exact { h with shard := hH.i64 _ _ h.shard }
  | err => exact { h with err := hH.i64 _ _ h.err }
  | ok => exact { h with }
  | span => exact { h with }
  | fromKey => exact { h with fk := hH.short _ _ h.fk }
  | toKey => exact { h with tk_ := hH.short _ _ h.tk_ }
  | t => exact { h with tt := fun e => hH.lim _ _ (h.tt e) }
  | entries =>
    have := list_lim hH (elt_entry hH).zok (entry_okOne hH) 4 (by decide) s m.entries h.en h.ent
    exact { h with en := this.1, ent := this.2 }
  | keys =>
    have := list_lim hH (ok := fun x : ByteArray => x.size ≤ 1000000) (zero := nothing) (Nat.zero_le _) hH.short 6 (by decide) s m.keys h.kn h.ks
    exact { h with kn := this.1, ks := this.2 }
  | got =>
    have := list_lim hH (elt_read hH).zok (read_okOne hH) 64 (by decide) s m.got h.gn h.gs
    exact { h with gn := this.1, gs := this.2 }
theorem fld_wt (hH : HandOk Tryz.prog H rd hv S O wt) {tk : Bool} {m : MsgT} (h : MsgLim tk m) (f : Fld) (s : σ) : wt (H.fld f s m).2 ≤ wt s + 5100000 := by
  cases f with
  | kind => have := hH.wNum s m.kind; show wt (H.num s m.kind).2 ≤ _; omega
  | frm => have := hH.wNum s m.frm; show wt (H.num s m.frm).2 ≤ _; omega
  | to => have := hH.wNum s m.to; show wt (H.num s m.to).2 ≤ _; omega
  | part => have := hH.wNum s m.part; show wt (H.num s m.part).2 ≤ _; omega
  | term => have := hH.wNum s m.term; show wt (H.num s m.term).2 ≤ _; omega
  | index => have := hH.wNum s m.index; show wt (H.num s m.index).2 ≤ _; omega
  | logTerm => have := hH.wNum s m.logTerm; show wt (H.num s m.logTerm).2 ≤ _; omega
  | commit => have := hH.wNum s m.commit; show wt (H.num s m.commit).2 ≤ _; omega
  | ses => have := hH.wNum s m.ses; show wt (H.num s m.ses).2 ≤ _; omega
  | seq => have := hH.wNum s m.seq; show wt (H.num s m.seq).2 ≤ _; omega
  | pos => have := hH.wNum s m.pos; show wt (H.num s m.pos).2 ≤ _; omega
  | shard => have := hH.wNum s m.shard; show wt (H.num s m.shard).2 ≤ _; omega
  | err => have := hH.wNum s m.err; show wt (H.num s m.err).2 ≤ _; omega
  | ok => have := hH.wFlag s m.ok; show wt (H.flag s m.ok).2 ≤ _; omega
  | span => have := hH.wFlag s m.span; show wt (H.flag s m.span).2 ≤ _; omega
  | fromKey => have := hH.wText s m.fromKey; show wt (H.text s m.fromKey).2 ≤ _; omega
  | toKey => have := hH.wText s m.toKey; show wt (H.text s m.toKey).2 ≤ _; omega
  | t => have := hH.wTxn s m.t; show wt (H.txn s m.t).2 ≤ _; omega
  | entries => exact list_wt hH (entry_wt hH) 4 (by decide) s m.entries h.en
  | keys => exact list_wt hH (fun s x => by have := hH.wText s x; omega) 6 (by decide) s m.keys h.kn
  | got => exact list_wt hH (read_wt hH) 64 (by decide) s m.got h.gn

/-- a field that a kind names, by its method -/
def bodyF : List Fld := [.term, .index, .logTerm, .commit, .ok, .ses, .seq, .pos, .shard, .span, .fromKey, .toKey, .t, .err, .entries, .keys, .got]
theorem fld_any (hH : HandOk Tryz.prog H rd hv S O wt) (f : Fld) (hf : f ∈ bodyF) {tk : Bool} (s : σ) (m : MsgT) (w : World) (g : Nat) (l : List Fld) (hS : S s w) (hw : wt s ≤ 200000000) (hL : LetX O w g m) (hO : ¬ O w g) (hm : MsgLim tk m) (ht : f = .t → tk = true) (hfr : Free H rd (f :: l) m) :
    (∀ (a : Act) (o : Oper) (x y z : Operand) (ats : Array TypeId), o.op = .call { callee := .value x, args := #[y, z], argTypes := ats } → a.eval x = fnv f → ∀ w, (execOp a.eval o).run Tryz.prog w = .ok (.enter (fidF f) #[a.eval y, a.eval z]) w) ∧
      Calls Tryz.prog (fidF f) #[.pointer (some ⟨g, 0, none⟩), hv] w (FldPost O rd S g w (H.fld f s m)) := by
  have hfre : ∀ {α : Type} (xs : List α) (most : Nat), (.inl () = (.inl () : Unit ⊕ Unit)) → (rd ∨ (∀ s n k, (H.size s n k).1 = 0) ∨ xs = []) → rd ∨ (H.size s xs.length most).1 ≠ xs.length ∨ xs = [] := by
    intro α xs most _ h
    rcases h with h | h | h
    · exact .inl h
    · cases xs with
      | nil => exact .inr (.inr rfl)
      | cons x l => exact .inr (.inl (by rw [h]; simp))
    · exact .inr (.inr h)
  simp only [bodyF, List.mem_cons, List.not_mem_nil, or_false] at hf
  rcases hf with rfl | rfl | rfl | rfl | rfl | rfl | rfl | rfl | rfl | rfl | rfl | rfl | rfl | rfl | rfl | rfl | rfl
  · exact ⟨run_fn2 (P := Tryz.prog) Tryz.func67 (by kernel_rfl) (by kernel_rfl), fld_term hH s m w g hS (by omega) hL hO hm.term⟩
  · exact ⟨run_fn2 (P := Tryz.prog) Tryz.func68 (by kernel_rfl) (by kernel_rfl), fld_index hH s m w g hS (by omega) hL hO hm.index⟩
  · exact ⟨run_fn2 (P := Tryz.prog) Tryz.func69 (by kernel_rfl) (by kernel_rfl), fld_logTerm hH s m w g hS (by omega) hL hO hm.logTerm⟩
  · exact ⟨run_fn2 (P := Tryz.prog) Tryz.func71 (by kernel_rfl) (by kernel_rfl), fld_commit hH s m w g hS (by omega) hL hO hm.commit⟩
  · exact ⟨run_fn2 (P := Tryz.prog) Tryz.func70 (by kernel_rfl) (by kernel_rfl), fld_ok hH s m w g hS (by omega) hL hO⟩
  · exact ⟨run_fn2 (P := Tryz.prog) Tryz.func76 (by kernel_rfl) (by kernel_rfl), fld_session hH s m w g hS (by omega) hL hO hm.ses⟩
  · exact ⟨run_fn2 (P := Tryz.prog) Tryz.func77 (by kernel_rfl) (by kernel_rfl), fld_seq hH s m w g hS (by omega) hL hO hm.seq⟩
  · exact ⟨run_fn2 (P := Tryz.prog) Tryz.func74 (by kernel_rfl) (by kernel_rfl), fld_pos hH s m w g hS (by omega) hL hO hm.pos⟩
  · exact ⟨run_fn2 (P := Tryz.prog) Tryz.func75 (by kernel_rfl) (by kernel_rfl), fld_shard hH s m w g hS (by omega) hL hO hm.shard⟩
  · exact ⟨run_fn2 (P := Tryz.prog) Tryz.func78 (by kernel_rfl) (by kernel_rfl), fld_span hH s m w g hS (by omega) hL hO⟩
  · exact ⟨run_fn2 (P := Tryz.prog) Tryz.func79 (by kernel_rfl) (by kernel_rfl), fld_fromKey hH s m w g hS (by omega) hL hO hm.fk⟩
  · exact ⟨run_fn2 (P := Tryz.prog) Tryz.func80 (by kernel_rfl) (by kernel_rfl), fld_toKey hH s m w g hS (by omega) hL hO hm.tk_⟩
  · exact ⟨run_fn2 (P := Tryz.prog) Tryz.func73 (by kernel_rfl) (by kernel_rfl), fld_t hH s m w g hS (by omega) hL hO (hm.tt (ht rfl))⟩
  · exact ⟨run_fn2 (P := Tryz.prog) Tryz.func82 (by kernel_rfl) (by kernel_rfl), fld_err hH s m w g hS (by omega) hL hO hm.err⟩
  · exact ⟨run_fn2 (P := Tryz.prog) Tryz.func72 (by kernel_rfl) (by kernel_rfl), fld_entries hH s m w g hS hw hL hO hm.ent (by have := hm.en; omega) (hfre _ _ rfl (hfr.imp id fun h => h.imp id fun h => h.1 (by simp)))⟩
  · exact ⟨run_fn2 (P := Tryz.prog) Tryz.func81 (by kernel_rfl) (by kernel_rfl), fld_keys hH s m w g hS hw hL hO hm.ks (by have := hm.kn; omega) (hfre _ _ rfl (hfr.imp id fun h => h.imp id fun h => h.2.1 (by simp)))⟩
  · exact ⟨run_fn2 (P := Tryz.prog) Tryz.func83 (by kernel_rfl) (by kernel_rfl), fld_got hH s m w g hS hw hL hO hm.gs (by have := hm.gn; omega) (hfre _ _ rfl (hfr.imp id fun h => h.imp id fun h => h.2.2 (by simp)))⟩

/-- where the body stands behind k fields -/
structure BodyAt (H : Hand σ) (rd : Prop) (S : σ → World → Prop) (O : World → Nat → Prop) (wt : σ → Nat) (tk : Bool) (g : Nat) (s : σ) (m : MsgT) (l : List Fld) (w0 : World) (k : Nat) (w : World) : Prop where
  st : S (H.run (l.take k) s m).2 w
  let_ : LetX O w g (H.run (l.take k) s m).1
  hr : Hr O rd (· = g) w0 w
  lim : MsgLim tk (H.run (l.take k) s m).1
  free : Free H rd (l.drop k) (H.run (l.take k) s m).1
  wt_ : wt (H.run (l.take k) s m).2 ≤ wt s + k * 5100000
theorem BodyAt.next (hH : HandOk Tryz.prog H rd hv S O wt) {tk : Bool} {g : Nat} {s : σ} {m : MsgT} {l : List Fld} {w0 w w' : World} {k : Nat} (h : BodyAt H rd S O wt tk g s m l w0 k w) (hk : k < l.length) (hn : l.Nodup) {e : Ending}
    (hp : FldPost O rd S g w (H.fld l[k] (H.run (l.take k) s m).2 (H.run (l.take k) s m).1) e w') : BodyAt H rd S O wt tk g s m l w0 (k + 1) w' := by
  obtain ⟨_, h1, h2, h3⟩ := hp
  refine ⟨by rw [run_take H hk]; exact h1, by rw [run_take H hk]; exact h2, h.hr.trans h3, by rw [run_take H hk]; exact h.lim.fld hH _ _, ?_, ?_⟩
  · rw [run_take H hk]
    have hf := h.free
    rw [List.drop_eq_getElem_cons hk] at hf
    refine hf.next fun hm => ?_
    have hn2 : (l.drop k).Nodup := (List.drop_sublist k l).nodup hn
    rw [List.drop_eq_getElem_cons hk] at hn2
    exact (List.nodup_cons.1 hn2).1 hm
  · rw [run_take H hk]
    have h4 := fld_wt hH h.lim l[k] (H.run (l.take k) s m).2
    have h5 := h.wt_
    omega
theorem named_body (k : Int) : (∀ f ∈ named k, f ∈ bodyF) ∧ (named k).Nodup ∧ (named k).length ≤ 10 ∧ (Fld.t ∈ named k → k = 5) := by
  unfold named askRead bodyF
  by_cases h1 : k = 1
  · subst h1; decide
  by_cases h2 : k = 2
  · subst h2; decide
  by_cases h3 : k = 3
  · subst h3; decide
  by_cases h4 : k = 4
  · subst h4; decide
  by_cases h5 : k = 5
  · subst h5; decide
  by_cases h6 : k = 6
  · subst h6; decide
  by_cases h7 : k = 7
  · subst h7; decide
  by_cases h8 : k = 8
  · subst h8; decide
  by_cases h9 : k = 9
  · subst h9; decide
  rw [if_neg h1, if_neg h2, if_neg h3, if_neg h4, if_neg h5, if_neg h6, if_neg h7, if_neg h8, if_neg h9]
  simp

set_option maxHeartbeats 1000000 in
theorem body_ok (hH : HandOk Tryz.prog H rd hv S O wt) (s : σ) (m : MsgT) (w : World) (g : Nat) (hS : S s w) (hw : wt s ≤ 1000000) (hL : LetX O w g m) (hO : ¬ O w g) (hm : MsgLim (decide (m.kind = 5)) m) (hfr : Free H rd (named m.kind) m) :
    Calls Tryz.prog 31 #[.pointer (some ⟨g, 0, none⟩), hv] w (FldPost O rd S g w (H.body s m)) := by
  have c0 : w.cell? ⟨g, 0, none⟩ = some (.int .i64 m.kind) := (hL.sit1 0 _ (fun _ => rfl)).head
  have CN := hide (named_ok m.kind)
  have HB := hide (show H.body s m = H.run (named m.kind) s m from rfl)
  obtain ⟨hb1, hb2, hb3, hb4⟩ := named_body m.kind
  have HT := hide (fun (f : Fld) (hf : f ∈ named m.kind) (e : f = .t) => (show decide (m.kind = 5) = true from decide_eq_true (hb4 (e ▸ hf))))
  have HM := hide hm
  have HFR := hide hfr
  have HBF := hide hb1
  have HND := hide hb2
  have HLL := hide hb3
  have hgl := hL.lt
  have HL := hide hL
  have HS := hide hS
  generalize hk : m.kind = kd at c0 CN HB HT HM HFR HBF HND HLL
  obtain ⟨L, hLL⟩ : ∃ L, named kd = L := ⟨_, rfl⟩
  obtain ⟨tk, htk⟩ : ∃ tk, decide (kd = 5) = tk := ⟨_, rfl⟩
  rw [hLL] at HB HT HFR HBF HND HLL
  rw [htk] at HT HM
  have HLE := hide hLL
  clear hm hfr hb1 hb2 hb3 hb4 hL hS hk hLL htk
  go_enter Tryz.func31, Tryz.ntmps31
  go_wp2_with fail
  refine (CN.out w).mono ?_
  rintro e w1 ⟨v, rfl, hown, hg⟩
  rw [HLE.out] at hown
  have hown0 := hown
  obtain ⟨A, c, rfl, hlc, hcell⟩ := hown.is
  have hlen : (L.map fnv).length = L.length := List.length_map _
  have hcell' : ∀ j (hj : j < L.length), ∃ ad, A = some ad ∧ w1.cell? (ad.add j) = some (fnv L[j]) := fun j hj => by
    obtain ⟨ad, h1, h2⟩ := hcell j (by rw [hlen]; exact hj)
    exact ⟨ad, h1, by rw [h2, List.getElem_map]⟩
  have hlow := fun k hk => (World.ownsRow.lt hown0 k hk).1
  rw [hlen] at hlow hlc ⊢
  obtain ⟨hS1, ho1⟩ := hH.gr HS.out hg
  have HO1 := hide (show ¬ O w1 g from fun h => hO ((ho1 g).1 h))
  have HB0 := hide (show BodyAt H rd S O wt tk g s m L w 0 w1 from ⟨hS1, HL.out.gr hg ho1, Hr.of_gr hg ho1, HM.out, HFR.out, by simp [Hand.run]⟩)
  have HCELL := hide (show ∀ j (hj : j < L.length) wr, Hr O rd (· = g) w1 wr → ∃ ad, A = some ad ∧ wr.cell? (ad.add j) = some (fnv L[j]) from by
    intro j hj wr hr
    obtain ⟨ad, h1, h2⟩ := hcell' j hj
    have hb := World.block_lt_of_cell? w1 _ h2
    rw [add_block] at hb
    subst h1
    have h3 := hlow ad.block rfl
    refine ⟨ad, rfl, (World.cell?_of_block (show wr.heap[(ad.add j).block]? = w1.heap[(ad.add j).block]? from ?_)).trans h2⟩
    rw [add_block]
    exact hr.block _ hb (fun h => by have := hH.lt HS.out ((ho1 _).1 h); omega) (.inr (by omega)))
  have HW0 := hide (show Hr O rd (· = g) w1 w1 from Hr.refl _ _ _ _)
  have hgl1 : g < w1.heap.size := Nat.lt_of_lt_of_le hgl hg.size
  clear hown hown0 hlc hcell hlen hcell' hlow hS1 ho1 hg CN c0 HL HS
  obtain ⟨n, hn⟩ : ∃ n, L.length = n := ⟨_, rfl⟩
  rw [hn]
  have HN := hide hn
  have hn10 : n ≤ 10 := by have := HLL.out; omega
  clear hn
  go_wp2_with fail
  go_loopw [12] (fun i wr => ∃ k : Nat, i = .int .i64 k ∧ k ≤ n ∧ BodyAt H rd S O wt tk g s m L w k wr ∧ Hr O rd (· = g) w1 wr) (fun i _ => n - (intOf i).toNat)
  case atStart => exact ⟨0, rfl, by omega, HB0.out, HW0.out⟩
  case round =>
    obtain ⟨k, rfl, hk, hB, hR⟩ := hrel
    by_cases hlt : k < n
    · have hlt' : (k : Int) < (n : Int) := by omega
      have hkl : k < L.length := by have := HN.out; omega
      obtain ⟨ad, rfl, ck⟩ := HCELL.out k hkl wr hR
      have hmem := List.getElem_mem hkl
      have hOr : ¬ O wr g := hR.own g hgl1 HO1.out
      have hwt := hB.wt_
      have hfree := hB.free
      rw [List.drop_eq_getElem_cons hkl] at hfree
      obtain ⟨hrun, hcall⟩ := fld_any hH L[k] (HBF.out _ hmem) _ _ wr g _ hB.st (by omega) hB.let_ hOr hB.lim (HT.out _ hmem) hfree
      have HC := hide hcall
      have HRUN := hide hrun
      have HBB := hide hB
      have HNX := hide (fun e w' hp => hB.next hH hkl HND.out (w' := w') (e := e) hp)
      have HRR := hide hR
      generalize hfv : fnv L[k] = fv at ck HRUN
      generalize hid : fidF L[k] = id at HC HRUN
      generalize H.fld L[k] (H.run (L.take k) s m).2 (H.run (L.take k) s m).1 = x at HC HNX
      clear hcall hrun hB hfree hwt hOr hmem hkl hR hfv hid
      go_wp2_with (with_reducible refine stop_value rfl ?_)
      change wpList _ _ _ _ _ _
      refine wpList_enter rfl (HRUN.out _ _ (.tmp 16) (.tmp 17) (.tmp 18) _ rfl rfl _) HC.out ?_
      intro e w3 hp
      have he := hp.1
      subst he
      refine ⟨_, rfl, ?_⟩
      have HB3 := hide (HNX.out _ _ hp)
      have HR3 := hide (HRR.out.trans hp.2.2.2)
      clear hp HC ck
      go_wp2_with fail
      go_roundw
      case rel => exact ⟨k + 1, by go_num, by omega, HB3.out, HR3.out⟩
      case measure => simp [intOf]; omega
    · obtain rfl : n = k := by omega
      have HF := hide (show FldPost O rd S g w (H.body s m) (.returned (.tuple #[])) wr from by
        have h1 := hB.st
        have h2 := hB.let_
        rw [← HN.out, List.take_length] at h1 h2
        rw [HB.out]
        exact ⟨rfl, h1, h2, hB.hr⟩)
      clear hB hR
      go_wp2_with fail
      go_end0
      exact HF.out
end

end Go.Proofs.YtpabppoohobjpaaGreat
