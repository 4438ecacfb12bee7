/-
  The statements' made: a letter that may be. (Written by tools/genMsgMade.py.)
-/
import Derived.Test.YtpabppoohobjpaaGreatMgBareM
import Derived.Test.YtpabppoohobjpaaGreatPlayLog
import Derived.Test.YtpabppoohobjpaaGreatPlayMay
namespace Go.Proofs.YtpabppoohobjpaaGreat
open Go Go.RowKit TxnMath KeyMath MsgMath NumPlain
set_option maxRecDepth 100000

/-- what a made letter keeps -/
structure MdOk (m : MsgT) : Prop where
  may : mayM m = true
  bnd : MsgBnd m
  vers : MsgVers m
/-- from, to, part -/
structure MdHd (fr tt pt : Int) : Prop where
  f : 1 ≤ fr ∧ fr ≤ 5
  t : 1 ≤ tt ∧ tt ≤ 5
  ne : fr ≠ tt
  p : 0 ≤ pt ∧ pt < 3
theorem mdHd (f q p : Nat) (hf : f < 5) (hq : q < 4) (hp : p < 3) : MdHd (1 + (f : Int)) (1 + ((1 + (f : Int)) + (q : Int)) % 5) (p : Int) :=
  ⟨by omega, by omega, by omega, by omega⟩

theorem txP_versL (l : List UInt8) (n most : Nat) : ∀ x ∈ (txP l n most).1.reads, x.ver < ((max most 1 : Nat) : Int) := by
  have h := (manyP_all (one := rdP l (max most 1)) (p := fun x => decide (x.ver < ((max most 1 : Nat) : Int))) (f := fun x => x.key)
    (fun k n => by
      have hv := pickV_lt l n (max most 1) (by omega)
      unfold rdP
      split
      · split <;> (simp only [decide_eq_true_eq]; omega)
      · simp only [decide_eq_true_eq]; omega) (fun k n => (rdP_ok l (max most 1) k n).2)
    (pickKeys keysL (pickV l (pickN l (pickN l n)) 64) 3) (pickN l (pickN l (pickN l n)))).1
  intro x hx
  rw [List.all_eq_true] at h
  have := h x hx
  simpa using this
/-- a made transaction -/
structure MdTx (t : TxT) : Prop where
  may : mayT t = true
  ver : VersOk t
  rd : t.reads.all rdB = true
theorem txP_md (l : List UInt8) (n most : Nat) (hm : most ≤ 1000) : MdTx (txP l n most).1 := by
  have hmay := txP_may l n most
  have hv := txP_versL l n most
  refine ⟨hmay, fun x hx => by have := hv x hx; omega, ?_⟩
  obtain ⟨h1, _⟩ := mayT_parts hmay
  rw [List.all_eq_true]
  intro x hx
  have h2 := rdOk_parts (h1 x hx)
  have h3 := hv x hx
  unfold rdB okN
  simp only [Bool.and_eq_true, decide_eq_true_eq]
  omega
theorem MdTx.bnd {t : TxT} (h : MdTx t) : TxBnd t := (mayT_lim h.may h.ver).bnd
theorem noTxn_may : mayT noTxn = false := by decide +kernel
theorem noTxn_vers : VersOk noTxn := fun x hx => by cases hx
/-- a made entry -/
structure MdEn (e : EntT) : Prop where
  q : entQ e = true
  ver : VersOk e.t
  bnd : TxBnd e.t
theorem logP_md (l : List UInt8) (n : Nat) : ∀ k, k ≤ 900 → ∀ e ∈ (logP l n k).1, MdEn e
  | 0, _, e, he => by simp [logP] at he
  | k + 1, hk, e, he => by
    have ht := (logP_term l n k).2.1
    have h1 := (logP_term l n k).1
    rw [logP] at he
    rcases List.mem_append.1 he with he | he
    · exact logP_md l n k (by omega) e he
    · rw [List.mem_singleton] at he
      subst he
      obtain ⟨e1, e2, e3⟩ := entP_term l k (logP l n k).2.1 (logP l n k).2.2
      have hok : okN (entP l k (logP l n k).2.1 (logP l n k).2.2).1.term = true := by
        rw [e1]
        unfold okN
        simp only [Bool.and_eq_true, decide_eq_true_eq]
        omega
      have hx : MdEn (entP l k (logP l n k).2.1 (logP l n k).2.2).1 := by
        refine ⟨?_, ?_, ?_⟩
        · unfold entQ
          rw [hok, Bool.and_true]
          unfold mayEntR entP
          split
          · simp
          · simp only [Bool.false_eq_true, if_false]
            exact txP_may _ _ _
        · unfold entP
          split
          · exact noTxn_vers
          · exact (txP_md l _ (k + 1) (by omega)).ver
        · unfold entP
          split
          · exact noTxn_lim.bnd
          · exact (txP_md l _ (k + 1) (by omega)).bnd
      exact hx
/-- made keys -/
theorem picked_rise6_all : (List.range 64).all (fun b => risingK (pickKeys keysL b 6)) = true := by kernel_rfl
theorem picked_rise6 (l : List UInt8) (n : Nat) : risingK (pickKeys keysL (pickV l n 64) 6) = true :=
  List.all_eq_true.1 picked_rise6_all _ (List.mem_range.2 (pickV_lt l n 64 (by decide)))

/-- whatever the kind -/
theorem md_gen {m : MsgT} (hk : 1 ≤ m.kind ∧ m.kind ≤ 9) (H : MdHd m.frm m.to m.part) (hb : m = bareM m) (hn : ∀ z ∈ nums8 m, 0 ≤ z ∧ z ≤ 1000000) (hs : m.shard < 3)
    (he : m.entries.length ≤ 4 ∧ ∀ e ∈ m.entries, MdEn e) (ht : m.t = noTxn ∧ m.kind ≠ 5 ∨ MdTx m.t) (hks : m.keys.length ≤ 6 ∧ risingK m.keys = true) (hf : m.fromKey.size ≤ 8 ∧ m.toKey.size ≤ 8)
    (hg : m.got.length ≤ 6 ∧ m.got.all rdB = true ∧ risingK (m.got.map (·.key)) = true) (hr : 0 ≤ m.err ∧ m.err ≤ 6) : MdOk m := by
  have hvt : VersOk m.t := by
    rcases ht with h | h
    · rw [h.1]; exact noTxn_vers
    · exact h.ver
  have hbt : TxBnd m.t := by
    rcases ht with h | h
    · rw [h.1]; exact noTxn_lim.bnd
    · exact h.bnd
  refine ⟨?_, ⟨by have := he.1; omega, fun e h => (he.2 e h).bnd, hbt, by have := hf.1; omega, by have := hf.2; omega, by have := hks.1; omega, fun s h => ?_, by have := hg.1; omega, fun x h => ?_⟩, ⟨hvt, fun e h => (he.2 e h).ver⟩⟩
  · have h1 : badHead m = false := by
      have := H.f
      have := H.t
      have := H.ne
      have := H.p
      rw [Bool.eq_false_iff]
      simp only [badHead, ne_eq, Bool.or_eq_true, decide_eq_true_eq, beq_iff_eq]
      omega
    have h2 : (nums8 m).all okN = true := by
      rw [List.all_eq_true]
      intro z hz
      have := hn z hz
      unfold okN
      simp only [Bool.and_eq_true, decide_eq_true_eq]
      omega
    have h3 : m.entries.all entQ = true := by
      rw [List.all_eq_true]
      exact fun e h => (he.2 e h).q
    have h4 : tailR m = true := by
      have h5 : (!(m.kind == 5) || mayT m.t) = true := by
        rcases ht with h | h
        · have : (m.kind == 5) = false := by rw [beq_eq_false_iff_ne]; exact h.2
          rw [this]; rfl
        · rw [h.may]; simp
      unfold tailR
      rw [h5, hks.2, hg.2.2]
      simp only [Bool.and_eq_true, decide_eq_true_eq, Bool.and_true]
      have := he.1
      have := hks.1
      have := hg.1
      omega
    rw [may_ref, h1, decide_eq_true hb, h2, h3, hg.2.1, h4]
    rfl
  · have := mayK_size (rising_may hks.2 s h)
    omega
  · have := mayK_size (rising_may hg.2.2 x.key (List.mem_map.2 ⟨x, h, rfl⟩))
    omega
def MadePostL (A : Option Addr) (c : Nat) (l : List UInt8) (w : World) (e : Ending) (w' : World) : Prop := e = .returned (.pointer (some ⟨w.heap.size, 0, none⟩)) ∧ Gr w w' ∧ Pk w' w.heap.size A c l 0

theorem MadeL_ok (A : Option Addr) (c : Nat) (l : List UInt8) (w : World) (hby : By w A c l) : Calls Tryz.prog 18 #[.slice A l.length c] w (MadePostL A c l w) := by
  go_enter Tryz.func18, Tryz.ntmps18
  have hgr : Gr w (w.alloc (.cells #[.slice A l.length c, .int .i64 0] 75)) := (Gr.refl w).alloc _
  have hP : MadePostL A c l w (.returned (.pointer (some ⟨w.heap.size, 0, none⟩))) (w.alloc (.cells #[.slice A l.length c, .int .i64 0] 75)) :=
    ⟨rfl, hgr, Bl.new _ _ _, hby.gr hgr, hby.rd.off, Nat.zero_le _⟩
  have HP := hide hP
  clear hP hgr
  go_wp2_with fail
  go_ret
  exact HP.out

def MdPost (w : World) (e : Ending) (w' : World) : Prop := ∃ u m, e = .returned u ∧ MsgAt w' u m ∧ Gr w w' ∧ MdOk m
/-- the picks at g, the result's cell at r -/
structure MdP (w wr : World) (r g : Nat) (A : Option Addr) (c : Nat) (l : List UInt8) (n : Nat) : Prop where
  ord : w.heap.size ≤ r ∧ r < g
  gr : Gr w wr
  pk : Pk wr g A c l n
  res : Bl wr r 31 zeroCs
/-- the letter's box at B -/
structure MdS (w wr : World) (r g B : Nat) (A : Option Addr) (c : Nat) (l : List UInt8) (n : Nat) (cs : Array Value) : Prop where
  p : MdP w wr r g A c l n
  low : Low B g A l
  box : Bl wr B 31 cs
section
variable {w wr wz : World} {r g B : Nat} {A : Option Addr} {c : Nat} {l : List UInt8} {n n' : Nat} {cs cs' : Array Value}
theorem MdP.but (h : MdP w wr r g A c l n) (hb : But wr wz g) (hp : Pk wz g A c l n') : MdP w wz r g A c l n' :=
  ⟨h.ord, h.gr.fresh hb (by have := h.ord; omega), hp, h.res.but_ hb (by have := h.ord; omega)⟩
theorem MdS.but (h : MdS w wr r g B A c l n cs) (hb : But wr wz g) (hp : Pk wz g A c l n') : MdS w wz r g B A c l n' cs :=
  ⟨h.p.but hb hp, h.low, h.box.but_ hb (by have := h.low.at_; omega)⟩
theorem MdS.put (h : MdS w wr r g B A c l n cs) (hb : But wr wz B) (hx : Bl wz B 31 cs') : MdS w wz r g B A c l n cs' := by
  have h1 := h.p.ord
  have h2 := h.low.at_
  have h3 := h.box.lt
  exact ⟨⟨h1, h.p.gr.fresh hb (by omega), h.p.pk.high h.low (fun j hj => hb.block j (by omega) (fun e => by injection e with e; omega)), h.p.res.but_ hb (by omega)⟩, h.low, hx⟩
theorem MdS.gr (h : MdS w wr r g B A c l n cs) (hg : Gr wr wz) : MdS w wz r g B A c l n cs :=
  ⟨⟨h.p.ord, h.p.gr.trans hg, h.p.pk.gr hg, h.p.res.gr hg⟩, h.low, h.box.gr hg⟩
theorem MdS.start (h : MdP w wr r g A c l n) (hg : Gr wr wz) (hx : Bl wz wr.heap.size 31 cs) : MdS w wz r g wr.heap.size A c l n cs :=
  ⟨⟨h.ord, h.gr.trans hg, h.pk.gr hg, h.res.gr hg⟩, h.pk.low, hx⟩
def mdC (w : World) (r g B : Nat) (A : Option Addr) (c : Nat) (l : List UInt8) (n n' : Nat) (cs cs' : Array Value) : Nat → World → Prop
  | 0, w' => MdS w w' r g B A c l n cs
  | 1, w' => MdS w w' r g B A c l n' cs
  | _ + 2, w' => MdS w w' r g B A c l n' cs'
theorem mdC_cell {m : Nat} {wa : World} (h : mdC w r g B A c l n n' cs cs' m wa) (hm : m ≤ 1) (i : Nat) : wa.cell? ⟨B, i, none⟩ = cs[i]? := by
  match m, hm with
  | 0, _ => exact h.box.cell i
  | 1, _ => exact h.box.cell i
end
section
variable {P : Program} {ops : Array Oper} {ws : List Nat} {C : Nat → World → Prop} {Q : Act → Nat → Prop} {o : Oper} {rest : List Oper} {i m : Nat} {a : Act}
open Det in
theorem Det.int_ {b : BinOp} {xt rt : TypeId} {x y : Operand} {k : IntKind} {p q : Int} {c : Value} (hi : ws.contains i = false) (hg : o.guard = none) (ho : o.op = .binOp b xt x y rt) (hx : a.eval x = .int k p) (hy : a.eval y = .int k q)
    (hr : binOp b xt (.int k p) (.int k q) = Pure.pure c) (hK : wpDet P ops C ws Q rest (i + 1) (a.put o.dst c) m) : wpDet P ops C ws Q (o :: rest) i a m :=
  Det.pure hi (by simp [Region.wanted, hg]) c (fun w => by
    have h1 : (do eqGuard b xt x y (.int k p) (.int k q); binOp b xt (.int k p) (.int k q) : Sem Value).run P w = .ok c w := Grow.run_with_guard (by simp) (by simp) (by rw [hr]; rfl)
    unfold execOp
    rw [ho]
    simp only [hx, hy]
    rw [Sem.run_bind, h1]
    rfl) hK
open Det in
/-- a call that writes -/
theorem Det.call2w {f : FuncId} {x y : Operand} {ats : Array TypeId} {fn : Func} {v u1 u2 : Value} (hi : ws.contains i = true) (hg : o.guard = none) (ho : o.op = .call { callee := .value (.func f), args := #[x, y], argTypes := ats }) (hf : P.funcs[f]? = some fn) (hn : (fn.name == "runtime.NumGoroutine") = false) (hb : fn.body.isNone = false)
    (hx : a.eval x = u1) (hy : a.eval y = u2) (hc : ∀ w, C m w → Calls P f #[u1, u2] w fun e w' => e = .returned v ∧ C (m + 1) w') (hK : wpDet P ops C ws Q rest (i + 1) (a.put o.dst v) (m + 1)) : wpDet P ops C ws Q (o :: rest) i a m := by
  show dStep P .any ops C ws i o _ a m
  unfold dStep
  rw [if_pos hi]
  refine ⟨hg, v, fun w hw => ?_, hK⟩
  obtain ⟨dst, op, ty, pos, after, guard⟩ := o
  simp only at ho
  subst ho
  unfold effAt
  rw [execOp_call_go, Grow.enters hf hn hb]
  show Calls P f _ w _
  have := hc w hw
  simp only [List.map_toArray, List.map_cons, List.map_nil, hx, hy]
  exact this
end
theorem add_i64_ (t : TypeId) (a b : Int) (h0 : -9223372036854775808 ≤ a + b) (h1 : a + b ≤ 9223372036854775807) : binOp .add t (.int .i64 a) (.int .i64 b) = pure (.int .i64 (a + b)) := by
  rw [binOp_add]
  unfold Op.intArith
  have : IntKind.i64.wrap (a + b) = a + b := by simp [IntKind.wrap, IntKind.bits, IntKind.signed]; omega
  simp only [this]
theorem rem_i64_ (t : TypeId) (a b : Int) (h0 : 0 ≤ a) (hb : 0 < b ∧ b ≤ 1000000) : binOp .rem t (.int .i64 a) (.int .i64 b) = pure (.int .i64 (a % b)) := by
  rw [binOp_rem]
  unfold Op.intDiv
  have hz : ¬ b = 0 := by omega
  simp [hz, Int.tmod_eq_emod_of_nonneg h0]
section
variable {w wa : World} {r g B : Nat} {A : Option Addr} {c : Nat} {l : List UInt8} {n n' : Nat} {cs cs' : Array Value}
theorem mdC_store {o : Oper} {a : Act} {t : TypeId} {x y : Operand} {j : Nat} {z : Int} (ha : ∀ w, (sizeOf t).run Tryz.prog w = .ok 1 w) (ho : o.op = .store t x y) (hx : a.eval x = .pointer (some ⟨B, j, none⟩)) (hy : a.eval y = .int .i64 z)
    (h : MdS w wa r g B A c l n cs) {old : Value} (hj : cs[j]? = some old) : (execOp a.eval o).run Tryz.prog wa = .ok .skip (wa.setCell ⟨B, j, none⟩ (.int .i64 z)) := by
  have c1 : wa.cell? ⟨B, j, none⟩ = some old := (h.box.cell j).trans hj
  unfold execOp
  simp only [ho, hx, hy, Sem.run_bind, run_st_int wa _ ha _ _ c1 (h.box.frozen j), Result.andThen_ok]
  rfl
theorem mdC_put (h : MdS w wa r g B A c l n cs) (j : Nat) (v : Value) (he : cs.setIfInBounds j v = cs') : MdS w (wa.setCell ⟨B, j, none⟩ v) r g B A c l n cs' :=
  h.put ((But.refl wa B).set j v) (he ▸ h.box.put j v)
end
/-- what lies above the box -/
theorem moves_but {B k : Nat} {w w' : World} (hb : But w w' k) (hk : k ≤ B) : Moves (fun j => B < j) (fun j => B < j) w w' := fun j hj hX => ⟨hb.block j hj (fun e => by injection e with e; omega), hX⟩
theorem OwnV.keysX {e : TypeId} {w : World} {B B' : Nat} {v : Value} {ks : List ByteArray} (h : OwnV e w B v (ks.map Value.string)) (hB : B' < B) : RowX (fun j => B' < j) 1 w v (ks.map strC) := by
  have h2 : OwnR e 1 w B v (ks.map strC) := ⟨fun r hr => by obtain ⟨x, _, rfl⟩ := List.mem_map.1 hr; rfl, by
    have e1 : (ks.map strC).flatten = ks.map Value.string := by
      clear h
      induction ks with
      | nil => rfl
      | cons x t ih => rw [List.map_cons, List.flatten_cons, ih]; rfl
    have e2 : (ks.map strC).length = (ks.map Value.string).length := by simp
    rw [e1, e2]
    exact h⟩
  exact h2.rowX.wide fun j hj => by omega
theorem OwnEnt.above {w : World} {B B' : Nat} {v : Value} {es : List EntT} (h : OwnEnt (fun k => B ≤ k) w B v es) (hB : B' < B) : EntsX (fun j => B' < j) w v es := by
  obtain ⟨f, h1, h2⟩ := h
  exact ⟨f, h1.rowX.wide fun j hj => by omega, fun j e hj => (h2 j e hj).wide fun k hk => by have := hk.1; omega⟩
theorem OwnTx.above {w : World} {B B' : Nat} {v : Value} {t : TxT} (h : OwnTx w B v t) (hB : B' < B) : ∃ p, v = .agg (txC t p).toArray ∧ RowsX (fun j => B' < j) w t p := by
  obtain ⟨p, h1, h2⟩ := h.rows
  exact ⟨p, h1, h2.wide fun j hj => by omega⟩
theorem MdS.fin {w wr : World} {r g B : Nat} {A : Option Addr} {c : Nat} {l : List UInt8} {n : Nat} {cs : Array Value} {m : MsgT} {q : Rows5} (h : MdS w wr r g B A c l n cs) (hm : MsgR (fun j => B < j) wr m q) (hc : cs = (cellsM m q).toArray) (ho : MdOk m) :
    MsgAt (wr.setRow r cs) (.agg cs) m ∧ Gr w (wr.setRow r cs) ∧ MdOk m := by
  have h1 := h.p.ord
  have h2 := h.low.at_
  have hb := But.row wr r cs
  exact ⟨⟨q, by rw [hc], (hm.move (moves_but hb (by omega))).wide fun _ _ => trivial⟩, h.p.gr.fresh hb h1.1, ho⟩
theorem rise_nil : risingK [] = true := by decide +kernel
theorem no_size : nothing.size ≤ 8 := by decide
theorem mdTx_parts {t : TxT} (h : MdTx t) : t.reads.length ≤ 6 ∧ risingK (t.reads.map (·.key)) = true := by
  obtain ⟨h1, h2, h3, h4, h5, h6, h7, h8, h9, h10⟩ := mayT_parts h.may
  exact ⟨by omega, h9⟩


set_option maxHeartbeats 16000000 in
theorem Md_ok (A : Option Addr) (c : Nat) (l : List UInt8) (hlen : (l.length : Int) ≤ 1000000000) (w : World) (hby : By w A c l) : Calls Tryz.prog 9 #[.slice A l.length c] w (MdPost w) := by
  have HBY := hide hby
  clear hby
  go_enter Tryz.func9, Tryz.ntmps9
  go_upto_region 1 with (fail)
  obtain ⟨W, hW⟩ : ∃ W, w.alloc (.cells zeroCs 31) = W := ⟨_, rfl⟩
  have hgW : Gr w W := by rw [← hW]; exact (Gr.refl _).alloc _
  have hrW : Bl W w.heap.size 31 zeroCs := by rw [← hW]; exact Bl.new _ _ _
  change (Code.region 1 _ false).wp _ _ _ (w.alloc (.cells zeroCs 31))
  rw [hW]
  clear hW
  have hlow : w.heap.size < W.heap.size := hrW.lt
  obtain ⟨r, hr⟩ : ∃ r, w.heap.size = r := ⟨_, rfl⟩
  have HR := hide (show w.heap.size ≤ r by omega)
  rw [hr] at hrW hlow ⊢
  clear hr
  go_wp2_with fail
  refine (MadeL_ok A c l W (HBY.out.gr hgW)).mono ?_
  rintro e w1 ⟨rfl, hg1, hp1⟩
  obtain ⟨g, hg⟩ : ∃ g, W.heap.size = g := ⟨_, rfl⟩
  rw [hg] at hp1 hlow ⊢
  have HP1 := hide (show MdP w w1 r g A c l 0 from ⟨⟨HR.out, hlow⟩, hgW.trans hg1, hp1, hrW.gr hg1⟩)
  clear hg hp1 hg1 hgW hrW hlow HR
  go_wp2_with fail
  refine (Num_ok g A c l 0 9 (by decide) (by decide) hlen w1 HP1.out.pk).mono ?_
  rintro e w2 ⟨rfl, hb, hp⟩
  have HP2 := hide (HP1.out.but hb hp)
  have hkd := pickV_lt l 0 9 (by decide)
  obtain ⟨kd, ekd⟩ : ∃ q, pickV l 0 9 = q := ⟨_, rfl⟩
  obtain ⟨n1, en1⟩ : ∃ q, pickN l 0 = q := ⟨_, rfl⟩
  rw [en1] at HP2
  rw [ekd] at hkd ⊢
  clear hb hp ekd en1 HP1
  go_wp2_with fail
  refine (Num_ok g A c l n1 5 (by decide) (by decide) hlen w2 HP2.out.pk).mono ?_
  rintro e w3 ⟨rfl, hb, hp⟩
  have HP3 := hide (HP2.out.but hb hp)
  have hfr := pickV_lt l n1 5 (by decide)
  obtain ⟨fr, efr⟩ : ∃ q, pickV l n1 5 = q := ⟨_, rfl⟩
  obtain ⟨n2, en2⟩ : ∃ q, pickN l n1 = q := ⟨_, rfl⟩
  rw [en2] at HP3
  rw [efr] at hfr ⊢
  clear hb hp efr en2 HP2
  go_wp2_with fail
  refine (Num_ok g A c l n2 3 (by decide) (by decide) hlen w3 HP3.out.pk).mono ?_
  rintro e w4 ⟨rfl, hb, hp⟩
  have HP4 := hide (HP3.out.but hb hp)
  have hpt := pickV_lt l n2 3 (by decide)
  obtain ⟨pt, ept⟩ : ∃ q, pickV l n2 3 = q := ⟨_, rfl⟩
  obtain ⟨n3, en3⟩ : ∃ q, pickN l n2 = q := ⟨_, rfl⟩
  rw [en3] at HP4
  rw [ept] at hpt ⊢
  clear hb hp ept en3 HP3
  have hbu : Tryz.prog.built 31 [(0, .int .i64 (1 + (kd : Int))), (1, .int .i64 (1 + (fr : Int))), (3, .int .i64 (pt : Int))] = some #[.int .i64 (1 + (kd : Int)), .int .i64 (1 + (fr : Int)), .int .i64 0, .int .i64 (pt : Int), .int .i64 0, .int .i64 0, .int .i64 0, .int .i64 0, .bool false, .slice none 0 0, .int .i64 0, .int .i64 0, .slice none 0 0, .slice none 0 0, .int .i64 0, .int .i64 0, .int .i64 0, .int .i64 0, .bool false, .string ⟨#[]⟩, .string ⟨#[]⟩, .slice none 0 0, .slice none 0 0, .int .i64 0] := by kernel_rfl
  have HBN := hide (Bl.new w4 31 zeroCs)
  go_upto_region 3 with (first
    | refine wpList_build_to rfl 31 _ (by with_reducible rfl) #[.int .i64 (1 + (kd : Int)), .int .i64 (1 + (fr : Int)), .int .i64 0, .int .i64 (pt : Int), .int .i64 0, .int .i64 0, .int .i64 0, .int .i64 0, .bool false, .slice none 0 0, .int .i64 0, .int .i64 0, .slice none 0 0, .slice none 0 0, .int .i64 0, .int .i64 0, .int .i64 0, .int .i64 0, .bool false, .string ⟨#[]⟩, .string ⟨#[]⟩, .slice none 0 0, .slice none 0 0, .int .i64 0] hbu ?_
    | refine wpList_store_row rfl 31 (.tmp 4) (.tmp 18) (by with_reducible rfl) w4.heap.size #[.int .i64 (1 + (kd : Int)), .int .i64 (1 + (fr : Int)), .int .i64 0, .int .i64 (pt : Int), .int .i64 0, .int .i64 0, .int .i64 0, .int .i64 0, .bool false, .slice none 0 0, .int .i64 0, .int .i64 0, .slice none 0 0, .slice none 0 0, .int .i64 0, .int .i64 0, .int .i64 0, .int .i64 0, .bool false, .string ⟨#[]⟩, .string ⟨#[]⟩, .slice none 0 0, .slice none 0 0, .int .i64 0] rfl rfl 31 zeroCs HBN.out (by kernel_rfl) rfl (by simp [Value.oneCell']) ?_
    | fail)
  obtain ⟨V, hV⟩ : ∃ V, (w4.alloc (.cells zeroCs 31)).setRow w4.heap.size #[.int .i64 (1 + (kd : Int)), .int .i64 (1 + (fr : Int)), .int .i64 0, .int .i64 (pt : Int), .int .i64 0, .int .i64 0, .int .i64 0, .int .i64 0, .bool false, .slice none 0 0, .int .i64 0, .int .i64 0, .slice none 0 0, .slice none 0 0, .int .i64 0, .int .i64 0, .int .i64 0, .int .i64 0, .bool false, .string ⟨#[]⟩, .string ⟨#[]⟩, .slice none 0 0, .slice none 0 0, .int .i64 0] = V := ⟨_, rfl⟩
  have hbV : Bl V w4.heap.size 31 #[.int .i64 (1 + (kd : Int)), .int .i64 (1 + (fr : Int)), .int .i64 0, .int .i64 (pt : Int), .int .i64 0, .int .i64 0, .int .i64 0, .int .i64 0, .bool false, .slice none 0 0, .int .i64 0, .int .i64 0, .slice none 0 0, .slice none 0 0, .int .i64 0, .int .i64 0, .int .i64 0, .int .i64 0, .bool false, .string ⟨#[]⟩, .string ⟨#[]⟩, .slice none 0 0, .slice none 0 0, .int .i64 0] := by rw [← hV]; exact HBN.out.row #[.int .i64 (1 + (kd : Int)), .int .i64 (1 + (fr : Int)), .int .i64 0, .int .i64 (pt : Int), .int .i64 0, .int .i64 0, .int .i64 0, .int .i64 0, .bool false, .slice none 0 0, .int .i64 0, .int .i64 0, .slice none 0 0, .slice none 0 0, .int .i64 0, .int .i64 0, .int .i64 0, .int .i64 0, .bool false, .string ⟨#[]⟩, .string ⟨#[]⟩, .slice none 0 0, .slice none 0 0, .int .i64 0]
  have hgV : Gr w4 V := by rw [← hV]; exact ((Gr.refl w4).alloc _).fresh (But.row _ _ _) (Nat.le_refl _)
  change (Code.region 3 _ true).wp _ _ _ ((w4.alloc (.cells zeroCs 31)).setRow w4.heap.size #[.int .i64 (1 + (kd : Int)), .int .i64 (1 + (fr : Int)), .int .i64 0, .int .i64 (pt : Int), .int .i64 0, .int .i64 0, .int .i64 0, .int .i64 0, .bool false, .slice none 0 0, .int .i64 0, .int .i64 0, .slice none 0 0, .slice none 0 0, .int .i64 0, .int .i64 0, .int .i64 0, .int .i64 0, .bool false, .string ⟨#[]⟩, .string ⟨#[]⟩, .slice none 0 0, .slice none 0 0, .int .i64 0])
  rw [hV]
  clear hV HBN hbu
  have HS4 := hide (MdS.start HP4.out hgV hbV)
  obtain ⟨B, hB⟩ : ∃ B, w4.heap.size = B := ⟨_, rfl⟩
  rw [hB] at HS4 ⊢
  clear hB hbV hgV HP4
  have hq := pickV_lt l n3 4 (by decide)
  have HN := hide (fun (wa : World) (cc : Array Value) (h : MdS w wa r g B A c l n3 cc) => (Num_ok g A c l n3 4 (by decide) (by decide) hlen wa h.p.pk).mono fun e wb h2 => (⟨h2.1, h.but h2.2.1 h2.2.2⟩ : e = .returned (.int .i64 (pickV l n3 4 : Nat)) ∧ MdS w wb r g B A c l (pickN l n3) cc))
  obtain ⟨q4, e4⟩ : ∃ q, pickV l n3 4 = q := ⟨_, rfl⟩
  obtain ⟨n4, en4⟩ : ∃ q, pickN l n3 = q := ⟨_, rfl⟩
  rw [e4, en4] at HN
  rw [e4] at hq
  clear e4 en4
  refine Det.wp_region_det [3, 8] (mdC w r g B A c l n3 n4 #[.int .i64 (1 + (kd : Int)), .int .i64 (1 + (fr : Int)), .int .i64 0, .int .i64 (pt : Int), .int .i64 0, .int .i64 0, .int .i64 0, .int .i64 0, .bool false, .slice none 0 0, .int .i64 0, .int .i64 0, .slice none 0 0, .slice none 0 0, .int .i64 0, .int .i64 0, .int .i64 0, .int .i64 0, .bool false, .string ⟨#[]⟩, .string ⟨#[]⟩, .slice none 0 0, .slice none 0 0, .int .i64 0] #[.int .i64 (1 + (kd : Int)), .int .i64 (1 + (fr : Int)), .int .i64 (1 + ((1 + (fr : Int)) + (q4 : Int)) % 5), .int .i64 (pt : Int), .int .i64 0, .int .i64 0, .int .i64 0, .int .i64 0, .bool false, .slice none 0 0, .int .i64 0, .int .i64 0, .slice none 0 0, .slice none 0 0, .int .i64 0, .int .i64 0, .int .i64 0, .int .i64 0, .bool false, .string ⟨#[]⟩, .string ⟨#[]⟩, .slice none 0 0, .slice none 0 0, .int .i64 0]) (by kernel_rfl) (by kernel_rfl) (by kernel_rfl) (show MdS _ _ _ _ _ _ _ _ _ _ from HS4.out.gr (Gr.drew (Gr.refl V))) ?_
  refine Det.field_c (g := B) (j := 1) rfl rfl rfl rfl (fun w => by kernel_rfl) ?_
  simp only [Act.put, List.setIfInBounds_toArray, List.set_cons_zero, List.set_cons_succ]
  refine Det.load (u := .int .i64 (1 + (fr : Int))) rfl rfl rfl 0 1 (by kernel_rfl) (fun w => by kernel_rfl) rfl (fun m' _ hm wa hw => mdC_cell hw hm 1) ?_
  simp only [Act.put, List.setIfInBounds_toArray, List.set_cons_zero, List.set_cons_succ]
  refine Det.pure rfl rfl (.pointer (some ⟨g, 0, none⟩)) (fun _ => rfl) ?_
  simp only [Act.put, List.setIfInBounds_toArray, List.set_cons_zero, List.set_cons_succ]
  refine Det.call2w (v := .int .i64 (q4 : Int)) rfl rfl rfl Tryz.func19 (by kernel_rfl) (by kernel_rfl) rfl rfl (fun wa hw => HN.out wa _ hw) ?_
  simp only [Act.put, List.setIfInBounds_toArray, List.set_cons_zero, List.set_cons_succ]
  refine Det.int_ (c := .int .i64 ((1 + (fr : Int)) + (q4 : Int))) rfl rfl rfl rfl rfl (add_i64_ _ _ _ (by omega) (by omega)) ?_
  simp only [Act.put, List.setIfInBounds_toArray, List.set_cons_zero, List.set_cons_succ]
  refine Det.int_ (c := .int .i64 (((1 + (fr : Int)) + (q4 : Int)) % 5)) rfl rfl rfl rfl rfl (rem_i64_ _ _ 5 (by omega) (by decide)) ?_
  simp only [Act.put, List.setIfInBounds_toArray, List.set_cons_zero, List.set_cons_succ]
  refine Det.int_ (c := .int .i64 (1 + ((1 + (fr : Int)) + (q4 : Int)) % 5)) rfl rfl rfl rfl rfl (add_i64_ _ _ _ (by omega) (by omega)) ?_
  simp only [Act.put, List.setIfInBounds_toArray, List.set_cons_zero, List.set_cons_succ]
  refine Det.field_c (g := B) (j := 2) rfl rfl rfl rfl (fun w => by kernel_rfl) ?_
  simp only [Act.put, List.setIfInBounds_toArray, List.set_cons_zero, List.set_cons_succ]
  refine Det.write_ rfl rfl (fun wa hw => ⟨_, mdC_store (fun w => by kernel_rfl) rfl rfl rfl hw rfl, mdC_put hw 2 _ rfl⟩) ?_
  simp only [Act.put]
  refine Det.nil ?_
  intro w5 hC
  have HS5 := hide (show MdS w w5 r g B A c l n4 #[.int .i64 (1 + (kd : Int)), .int .i64 (1 + (fr : Int)), .int .i64 (1 + ((1 + (fr : Int)) + (q4 : Int)) % 5), .int .i64 (pt : Int), .int .i64 0, .int .i64 0, .int .i64 0, .int .i64 0, .bool false, .slice none 0 0, .int .i64 0, .int .i64 0, .slice none 0 0, .slice none 0 0, .int .i64 0, .int .i64 0, .int .i64 0, .int .i64 0, .bool false, .string ⟨#[]⟩, .string ⟨#[]⟩, .slice none 0 0, .slice none 0 0, .int .i64 0] from hC)
  have HD := hide (mdHd fr q4 pt hfr hq hpt)
  have HFL := hide (show 0 ≤ 1 + ((1 + (fr : Int)) + (q4 : Int)) % 5 ∧ 1 + ((1 + (fr : Int)) + (q4 : Int)) % 5 ≤ 5 by omega)
  clear hC HN HS4 hq
  go_wp2_with fail
  refine (Num_ok g A c l n4 200 (by decide) (by decide) hlen w5 HS5.out.p.pk).mono ?_
  rintro e w6 ⟨rfl, hb, hp⟩
  have HS6 := hide (HS5.out.but hb hp)
  have hav := pickV_lt l n4 200 (by decide)
  obtain ⟨av, eav⟩ : ∃ q, pickV l n4 200 = q := ⟨_, rfl⟩
  obtain ⟨n5, en5⟩ : ∃ q, pickN l n4 = q := ⟨_, rfl⟩
  rw [en5] at HS6
  rw [eav] at hav ⊢
  clear hb hp eav en5 HS5
  go_wp2_with fail
  refine (Num_ok g A c l n5 200 (by decide) (by decide) hlen w6 HS6.out.p.pk).mono ?_
  rintro e w7 ⟨rfl, hb, hp⟩
  have HS7 := hide (HS6.out.but hb hp)
  have hbv := pickV_lt l n5 200 (by decide)
  obtain ⟨bv, ebv⟩ : ∃ q, pickV l n5 200 = q := ⟨_, rfl⟩
  obtain ⟨n6, en6⟩ : ∃ q, pickN l n5 = q := ⟨_, rfl⟩
  rw [en6] at HS7
  rw [ebv] at hbv ⊢
  clear hb hp ebv en6 HS6
  go_wp2_with fail
  refine (Num_ok g A c l n6 9 (by decide) (by decide) hlen w7 HS7.out.p.pk).mono ?_
  rintro e w8 ⟨rfl, hb, hp⟩
  have HS8 := hide (HS7.out.but hb hp)
  have hcv := pickV_lt l n6 9 (by decide)
  obtain ⟨cv, ecv⟩ : ∃ q, pickV l n6 9 = q := ⟨_, rfl⟩
  obtain ⟨n7, en7⟩ : ∃ q, pickN l n6 = q := ⟨_, rfl⟩
  rw [en7] at HS8
  rw [ecv] at hcv ⊢
  clear hb hp ecv en7 HS7
  go_upto_region 5 with (fail)
  have c0 := HS8.out.box.cell 0
  obtain ⟨kk, hkk⟩ : ∃ z : Int, 1 + (kd : Int) = z := ⟨_, rfl⟩
  obtain ⟨ff, hff⟩ : ∃ z : Int, 1 + (fr : Int) = z := ⟨_, rfl⟩
  rw [hff] at HS8 HFL HD
  obtain ⟨tt, htt⟩ : ∃ z : Int, 1 + (ff + (q4 : Int)) % 5 = z := ⟨_, rfl⟩
  rw [htt] at HS8 HFL HD
  rw [hkk] at HS8 c0
  change w8.cell? ⟨B, 0, none⟩ = some (.int .i64 kk) at c0
  go_upto_region 7 with (fail)
  clear c0
  have hkk2 : kk = 1 ∨ kk = 2 ∨ kk = 3 ∨ kk = 4 ∨ kk = 5 ∨ kk = 6 ∨ kk = 7 ∨ kk = 8 ∨ kk = 9 := by omega
  clear hkk hff htt hkd hfr hpt
  rcases hkk2 with rfl | rfl | rfl | rfl | rfl | rfl | rfl | rfl | rfl
  · skip
    have k4 := HS8.out.box.cell 4
    have f4 := HS8.out.box.frozen 4
    change w8.cell? ⟨B, 4, none⟩ = some (.int .i64 0) at k4
    have k5 := HS8.out.box.cell 5
    have f5 := HS8.out.box.frozen 5
    change w8.cell? ⟨B, 5, none⟩ = some (.int .i64 0) at k5
    have k6 := HS8.out.box.cell 6
    have f6 := HS8.out.box.frozen 6
    change w8.cell? ⟨B, 6, none⟩ = some (.int .i64 0) at k6
    go_upto_region 23 with (fail)
    clear k4 f4 k5 f5 k6 f6
    obtain ⟨W5, hW5⟩ : ∃ W5, (((w8.setCell ⟨B, 4, none⟩ (.int .i64 (av : Int))).setCell ⟨B, 5, none⟩ (.int .i64 (300 * (bv : Int)))).setCell ⟨B, 6, none⟩ (.int .i64 (cv : Int))) = W5 := ⟨_, rfl⟩
    obtain ⟨cz, hcz⟩ : ∃ cz : Array Value, #[.int .i64 1, .int .i64 ff, .int .i64 tt, .int .i64 (pt : Int), .int .i64 (av : Int), .int .i64 (300 * (bv : Int)), .int .i64 (cv : Int), .int .i64 0, .bool false, .slice none 0 0, .int .i64 0, .int .i64 0, .slice none 0 0, .slice none 0 0, .int .i64 0, .int .i64 0, .int .i64 0, .int .i64 0, .bool false, .string ⟨#[]⟩, .string ⟨#[]⟩, .slice none 0 0, .slice none 0 0, .int .i64 0] = cz := ⟨_, rfl⟩
    have hbx : Bl W5 B 31 cz := by rw [← hW5, ← hcz]; exact (((HS8.out.box.put 4 _).put 5 _).put 6 _)
    have hbu : But w8 W5 B := by rw [← hW5]; exact ((((But.refl w8 B).set 4 _).set 5 _).set 6 _)
    have hsz : (Tryz.prog.info? 31).map (·.size) = some cz.size := by rw [← hcz]; kernel_rfl
    have hos := hide (show 24 = cz.size by rw [← hcz]; rfl)
    have hone : cz.all (·.oneCell') = true := by rw [← hcz]; simp [Value.oneCell']
    rw [hW5]
    clear hW5
    have HS9 := hide (HS8.out.put hbu hbx)
    have HF := hide (HS9.out.fin (m := ⟨1, ff, tt, (pt : Int), (av : Int), (300 * (bv : Int)), (cv : Int), 0, false, [], noTxn, 0, 0, 0, 0, false, nothing, nothing, [], [], 0⟩) (q := ⟨.slice none 0 0, (.slice none 0 0, .slice none 0 0), .slice none 0 0, .slice none 0 0⟩) ⟨EntsX.nil _ _, RowsX.none_ _ _, RowX.nil _ _ _, RowX.nil _ _ _⟩ (by rw [← hcz]; rfl)
      (md_gen ⟨show (1 : Int) ≤ 1 by decide, show (1 : Int) ≤ 9 by decide⟩ HD.out (by unfold bareM; rfl) (fun z hz => by simp only [nums8, List.mem_cons, List.not_mem_nil, or_false] at hz; omega) (show (0 : Int) < 3 by decide) ⟨Nat.zero_le _, fun e he => by cases he⟩ (.inl ⟨rfl, show (1 : Int) ≠ 5 by decide⟩) ⟨Nat.zero_le _, rise_nil⟩ ⟨no_size, no_size⟩ ⟨Nat.zero_le _, rfl, rise_nil⟩ ⟨show (0 : Int) ≤ 0 by decide, show (0 : Int) ≤ 6 by decide⟩))
    have hx1 := HS9.out.box
    have hr1 := HS9.out.p.res
    have HB4 := hide (hr1.row cz)
    clear HS9 hbu hbx HS8 HD HFL HBY hcz
    go_wp2_with (first
      | refine wpList_load_row rfl 31 (.tmp 4) (by with_reducible rfl) B rfl 31 _ (0, 0) _ hx1 Tryz.underlying31 rfl hsz ?_
      | refine wpList_store_row rfl 31 (.tmp 2) (.tmp 137) (by with_reducible rfl) r cz rfl rfl 31 _ hr1 hsz hos.out hone ?_)
    exact bodyPost_ret (results_cell_row rfl _ _ r 31 cz (0, 0) _ rfl HB4.out Tryz.underlying31 rfl hsz) rfl ⟨_, _, rfl, HF.out⟩
  · skip
    have k4 := HS8.out.box.cell 4
    have f4 := HS8.out.box.frozen 4
    change w8.cell? ⟨B, 4, none⟩ = some (.int .i64 0) at k4
    have k8 := HS8.out.box.cell 8
    have f8 := HS8.out.box.frozen 8
    change w8.cell? ⟨B, 8, none⟩ = some (.bool false) at k8
    go_upto_region 23 with (fail)
    clear k4 f4 k8 f8
    obtain ⟨W5, hW5⟩ : ∃ W5, ((w8.setCell ⟨B, 4, none⟩ (.int .i64 (av : Int))).setCell ⟨B, 8, none⟩ (.bool (decide ((cv : Int) > 4)))) = W5 := ⟨_, rfl⟩
    obtain ⟨cz, hcz⟩ : ∃ cz : Array Value, #[.int .i64 2, .int .i64 ff, .int .i64 tt, .int .i64 (pt : Int), .int .i64 (av : Int), .int .i64 0, .int .i64 0, .int .i64 0, .bool (decide ((cv : Int) > 4)), .slice none 0 0, .int .i64 0, .int .i64 0, .slice none 0 0, .slice none 0 0, .int .i64 0, .int .i64 0, .int .i64 0, .int .i64 0, .bool false, .string ⟨#[]⟩, .string ⟨#[]⟩, .slice none 0 0, .slice none 0 0, .int .i64 0] = cz := ⟨_, rfl⟩
    have hbx : Bl W5 B 31 cz := by rw [← hW5, ← hcz]; exact ((HS8.out.box.put 4 _).put 8 _)
    have hbu : But w8 W5 B := by rw [← hW5]; exact (((But.refl w8 B).set 4 _).set 8 _)
    have hsz : (Tryz.prog.info? 31).map (·.size) = some cz.size := by rw [← hcz]; kernel_rfl
    have hos := hide (show 24 = cz.size by rw [← hcz]; rfl)
    have hone : cz.all (·.oneCell') = true := by rw [← hcz]; simp [Value.oneCell']
    rw [hW5]
    clear hW5
    have HS9 := hide (HS8.out.put hbu hbx)
    have HF := hide (HS9.out.fin (m := ⟨2, ff, tt, (pt : Int), (av : Int), 0, 0, 0, (decide ((cv : Int) > 4)), [], noTxn, 0, 0, 0, 0, false, nothing, nothing, [], [], 0⟩) (q := ⟨.slice none 0 0, (.slice none 0 0, .slice none 0 0), .slice none 0 0, .slice none 0 0⟩) ⟨EntsX.nil _ _, RowsX.none_ _ _, RowX.nil _ _ _, RowX.nil _ _ _⟩ (by rw [← hcz]; rfl)
      (md_gen ⟨show (1 : Int) ≤ 2 by decide, show (2 : Int) ≤ 9 by decide⟩ HD.out (by unfold bareM; rfl) (fun z hz => by simp only [nums8, List.mem_cons, List.not_mem_nil, or_false] at hz; omega) (show (0 : Int) < 3 by decide) ⟨Nat.zero_le _, fun e he => by cases he⟩ (.inl ⟨rfl, show (2 : Int) ≠ 5 by decide⟩) ⟨Nat.zero_le _, rise_nil⟩ ⟨no_size, no_size⟩ ⟨Nat.zero_le _, rfl, rise_nil⟩ ⟨show (0 : Int) ≤ 0 by decide, show (0 : Int) ≤ 6 by decide⟩))
    have hx1 := HS9.out.box
    have hr1 := HS9.out.p.res
    have HB4 := hide (hr1.row cz)
    clear HS9 hbu hbx HS8 HD HFL HBY hcz
    go_wp2_with (first
      | refine wpList_load_row rfl 31 (.tmp 4) (by with_reducible rfl) B rfl 31 _ (0, 0) _ hx1 Tryz.underlying31 rfl hsz ?_
      | refine wpList_store_row rfl 31 (.tmp 2) (.tmp 137) (by with_reducible rfl) r cz rfl rfl 31 _ hr1 hsz hos.out hone ?_)
    exact bodyPost_ret (results_cell_row rfl _ _ r 31 cz (0, 0) _ rfl HB4.out Tryz.underlying31 rfl hsz) rfl ⟨_, _, rfl, HF.out⟩
  · skip
    go_wp2_with fail
    refine (Num_ok g A c l n7 99 (by decide) (by decide) hlen w8 HS8.out.p.pk).mono ?_
    rintro e x0 ⟨rfl, hb, hp⟩
    have hlt := HS8.out.low.at_
    have HA0 := hide (HS8.out.but hb hp)
    have hcm := pickV_lt l n7 99 (by decide)
    obtain ⟨cm, ecm⟩ : ∃ q, pickV l n7 99 = q := ⟨_, rfl⟩
    obtain ⟨m0, em0⟩ : ∃ q, pickN l n7 = q := ⟨_, rfl⟩
    rw [em0] at HA0
    rw [ecm] at hcm ⊢
    clear hb hp ecm em0 HS8 hlt
    go_wp2_with fail
    refine (Num_ok g A c l m0 5 (by decide) (by decide) hlen x0 HA0.out.p.pk).mono ?_
    rintro e x1 ⟨rfl, hb, hp⟩
    have hlt := HA0.out.low.at_
    have HA1 := hide (HA0.out.but hb hp)
    have hnl := pickV_lt l m0 5 (by decide)
    obtain ⟨nl, enl⟩ : ∃ q, pickV l m0 5 = q := ⟨_, rfl⟩
    obtain ⟨m1, em1⟩ : ∃ q, pickN l m0 = q := ⟨_, rfl⟩
    rw [em1] at HA1
    rw [enl] at hnl ⊢
    clear hb hp enl em1 HA0 hlt
    go_wp2_with fail
    refine (Log_ok g A c l m1 nl (by omega) hlen x1 HA1.out.p.pk).mono ?_
    rintro e x2 ⟨ev, rfl, ho, hb, hp⟩
    have hlt := HA1.out.low.at_
    have HA2 := hide (HA1.out.but hb hp)
    have hE := ho.above HA1.out.box.lt
    obtain ⟨eA, eC, hv⟩ := ho.is
    have hM := logP_md l m1 nl (by omega)
    have hL := logP_len l m1 nl
    obtain ⟨es, hes⟩ : ∃ es, (logP l m1 nl).1 = es := ⟨_, rfl⟩
    obtain ⟨m2, em2⟩ : ∃ q, (logP l m1 nl).2.2 = q := ⟨_, rfl⟩
    rw [hes] at hE hM hL hv
    rw [em2] at HA2
    subst hv
    have HE := hide hE
    have HM := hide hM
    have HL := hide (show es.length ≤ 4 by omega)
    clear hb hp hE hM hL hes em2 HA1 hlt ho
    have k4 := HA2.out.box.cell 4
    have f4 := HA2.out.box.frozen 4
    change x2.cell? ⟨B, 4, none⟩ = some (.int .i64 0) at k4
    have k5 := HA2.out.box.cell 5
    have f5 := HA2.out.box.frozen 5
    change x2.cell? ⟨B, 5, none⟩ = some (.int .i64 0) at k5
    have k6 := HA2.out.box.cell 6
    have f6 := HA2.out.box.frozen 6
    change x2.cell? ⟨B, 6, none⟩ = some (.int .i64 0) at k6
    have k7 := HA2.out.box.cell 7
    have f7 := HA2.out.box.frozen 7
    change x2.cell? ⟨B, 7, none⟩ = some (.int .i64 0) at k7
    have k9 := HA2.out.box.cell 9
    have f9 := HA2.out.box.frozen 9
    change x2.cell? ⟨B, 9, none⟩ = some (.slice none 0 0) at k9
    go_upto_region 23 with (fail)
    clear k4 f4 k5 f5 k6 f6 k7 f7 k9 f9
    obtain ⟨W5, hW5⟩ : ∃ W5, (((((x2.setCell ⟨B, 4, none⟩ (.int .i64 (av : Int))).setCell ⟨B, 5, none⟩ (.int .i64 (300 * (bv : Int)))).setCell ⟨B, 6, none⟩ (.int .i64 (cv : Int))).setCell ⟨B, 7, none⟩ (.int .i64 (cm : Int))).setCell ⟨B, 9, none⟩ (.slice eA es.length eC)) = W5 := ⟨_, rfl⟩
    obtain ⟨cz, hcz⟩ : ∃ cz : Array Value, #[.int .i64 3, .int .i64 ff, .int .i64 tt, .int .i64 (pt : Int), .int .i64 (av : Int), .int .i64 (300 * (bv : Int)), .int .i64 (cv : Int), .int .i64 (cm : Int), .bool false, .slice eA es.length eC, .int .i64 0, .int .i64 0, .slice none 0 0, .slice none 0 0, .int .i64 0, .int .i64 0, .int .i64 0, .int .i64 0, .bool false, .string ⟨#[]⟩, .string ⟨#[]⟩, .slice none 0 0, .slice none 0 0, .int .i64 0] = cz := ⟨_, rfl⟩
    have hbx : Bl W5 B 31 cz := by rw [← hW5, ← hcz]; exact (((((HA2.out.box.put 4 _).put 5 _).put 6 _).put 7 _).put 9 _)
    have hbu : But x2 W5 B := by rw [← hW5]; exact ((((((But.refl x2 B).set 4 _).set 5 _).set 6 _).set 7 _).set 9 _)
    have hsz : (Tryz.prog.info? 31).map (·.size) = some cz.size := by rw [← hcz]; kernel_rfl
    have hos := hide (show 24 = cz.size by rw [← hcz]; rfl)
    have hone : cz.all (·.oneCell') = true := by rw [← hcz]; simp [Value.oneCell']
    rw [hW5]
    clear hW5
    have HS9 := hide (HA2.out.put hbu hbx)
    have HF := hide (HS9.out.fin (m := ⟨3, ff, tt, (pt : Int), (av : Int), (300 * (bv : Int)), (cv : Int), (cm : Int), false, es, noTxn, 0, 0, 0, 0, false, nothing, nothing, [], [], 0⟩) (q := ⟨.slice eA es.length eC, (.slice none 0 0, .slice none 0 0), .slice none 0 0, .slice none 0 0⟩) ⟨(HE.out.move (moves_but hbu (Nat.le_refl _))), RowsX.none_ _ _, RowX.nil _ _ _, RowX.nil _ _ _⟩ (by rw [← hcz]; rfl)
      (md_gen ⟨show (1 : Int) ≤ 3 by decide, show (3 : Int) ≤ 9 by decide⟩ HD.out (by unfold bareM; rfl) (fun z hz => by simp only [nums8, List.mem_cons, List.not_mem_nil, or_false] at hz; omega) (show (0 : Int) < 3 by decide) ⟨show es.length ≤ 4 from HL.out, HM.out⟩ (.inl ⟨rfl, show (3 : Int) ≠ 5 by decide⟩) ⟨Nat.zero_le _, rise_nil⟩ ⟨no_size, no_size⟩ ⟨Nat.zero_le _, rfl, rise_nil⟩ ⟨show (0 : Int) ≤ 0 by decide, show (0 : Int) ≤ 6 by decide⟩))
    have hx1 := HS9.out.box
    have hr1 := HS9.out.p.res
    have HB4 := hide (hr1.row cz)
    clear HS9 hbu hbx HA2 HD HFL HBY hcz
    go_wp2_with (first
      | refine wpList_load_row rfl 31 (.tmp 4) (by with_reducible rfl) B rfl 31 _ (0, 0) _ hx1 Tryz.underlying31 rfl hsz ?_
      | refine wpList_store_row rfl 31 (.tmp 2) (.tmp 137) (by with_reducible rfl) r cz rfl rfl 31 _ hr1 hsz hos.out hone ?_)
    exact bodyPost_ret (results_cell_row rfl _ _ r 31 cz (0, 0) _ rfl HB4.out Tryz.underlying31 rfl hsz) rfl ⟨_, _, rfl, HF.out⟩
  · skip
    have k4 := HS8.out.box.cell 4
    have f4 := HS8.out.box.frozen 4
    change w8.cell? ⟨B, 4, none⟩ = some (.int .i64 0) at k4
    have k8 := HS8.out.box.cell 8
    have f8 := HS8.out.box.frozen 8
    change w8.cell? ⟨B, 8, none⟩ = some (.bool false) at k8
    have k5 := HS8.out.box.cell 5
    have f5 := HS8.out.box.frozen 5
    change w8.cell? ⟨B, 5, none⟩ = some (.int .i64 0) at k5
    go_upto_region 23 with (fail)
    clear k4 f4 k8 f8 k5 f5
    obtain ⟨W5, hW5⟩ : ∃ W5, (((w8.setCell ⟨B, 4, none⟩ (.int .i64 (av : Int))).setCell ⟨B, 8, none⟩ (.bool (decide ((cv : Int) > 4)))).setCell ⟨B, 5, none⟩ (.int .i64 (300 * (bv : Int)))) = W5 := ⟨_, rfl⟩
    obtain ⟨cz, hcz⟩ : ∃ cz : Array Value, #[.int .i64 4, .int .i64 ff, .int .i64 tt, .int .i64 (pt : Int), .int .i64 (av : Int), .int .i64 (300 * (bv : Int)), .int .i64 0, .int .i64 0, .bool (decide ((cv : Int) > 4)), .slice none 0 0, .int .i64 0, .int .i64 0, .slice none 0 0, .slice none 0 0, .int .i64 0, .int .i64 0, .int .i64 0, .int .i64 0, .bool false, .string ⟨#[]⟩, .string ⟨#[]⟩, .slice none 0 0, .slice none 0 0, .int .i64 0] = cz := ⟨_, rfl⟩
    have hbx : Bl W5 B 31 cz := by rw [← hW5, ← hcz]; exact (((HS8.out.box.put 4 _).put 8 _).put 5 _)
    have hbu : But w8 W5 B := by rw [← hW5]; exact ((((But.refl w8 B).set 4 _).set 8 _).set 5 _)
    have hsz : (Tryz.prog.info? 31).map (·.size) = some cz.size := by rw [← hcz]; kernel_rfl
    have hos := hide (show 24 = cz.size by rw [← hcz]; rfl)
    have hone : cz.all (·.oneCell') = true := by rw [← hcz]; simp [Value.oneCell']
    rw [hW5]
    clear hW5
    have HS9 := hide (HS8.out.put hbu hbx)
    have HF := hide (HS9.out.fin (m := ⟨4, ff, tt, (pt : Int), (av : Int), (300 * (bv : Int)), 0, 0, (decide ((cv : Int) > 4)), [], noTxn, 0, 0, 0, 0, false, nothing, nothing, [], [], 0⟩) (q := ⟨.slice none 0 0, (.slice none 0 0, .slice none 0 0), .slice none 0 0, .slice none 0 0⟩) ⟨EntsX.nil _ _, RowsX.none_ _ _, RowX.nil _ _ _, RowX.nil _ _ _⟩ (by rw [← hcz]; rfl)
      (md_gen ⟨show (1 : Int) ≤ 4 by decide, show (4 : Int) ≤ 9 by decide⟩ HD.out (by unfold bareM; rfl) (fun z hz => by simp only [nums8, List.mem_cons, List.not_mem_nil, or_false] at hz; omega) (show (0 : Int) < 3 by decide) ⟨Nat.zero_le _, fun e he => by cases he⟩ (.inl ⟨rfl, show (4 : Int) ≠ 5 by decide⟩) ⟨Nat.zero_le _, rise_nil⟩ ⟨no_size, no_size⟩ ⟨Nat.zero_le _, rfl, rise_nil⟩ ⟨show (0 : Int) ≤ 0 by decide, show (0 : Int) ≤ 6 by decide⟩))
    have hx1 := HS9.out.box
    have hr1 := HS9.out.p.res
    have HB4 := hide (hr1.row cz)
    clear HS9 hbu hbx HS8 HD HFL HBY hcz
    go_wp2_with (first
      | refine wpList_load_row rfl 31 (.tmp 4) (by with_reducible rfl) B rfl 31 _ (0, 0) _ hx1 Tryz.underlying31 rfl hsz ?_
      | refine wpList_store_row rfl 31 (.tmp 2) (.tmp 137) (by with_reducible rfl) r cz rfl rfl 31 _ hr1 hsz hos.out hone ?_)
    exact bodyPost_ret (results_cell_row rfl _ _ r 31 cz (0, 0) _ rfl HB4.out Tryz.underlying31 rfl hsz) rfl ⟨_, _, rfl, HF.out⟩
  · skip
    go_wp2_with fail
    refine (Txn_ok g A c l n7 9 (by decide) hlen w8 HS8.out.p.pk).mono ?_
    rintro e x0 ⟨tv, rfl, ho, hb, hp⟩
    have hlt := HS8.out.low.at_
    have HA0 := hide (HS8.out.but hb hp)
    obtain ⟨⟨p1, p2⟩, htv, hX⟩ := ho.above HS8.out.box.lt
    have hM := txP_md l n7 9 (by decide)
    obtain ⟨tx, htx⟩ : ∃ tx, (txP l n7 9).1 = tx := ⟨_, rfl⟩
    obtain ⟨m0, em0⟩ : ∃ q, (txP l n7 9).2 = q := ⟨_, rfl⟩
    rw [htx] at htv hX hM
    rw [em0] at HA0
    obtain ⟨A1, c1, e1⟩ := hX.rd.sl
    obtain ⟨A2, c2, e2⟩ := hX.wr.sl
    generalize hm1 : List.length _ = l1 at e1
    generalize hm2 : List.length _ = l2 at e2
    simp only at e1 e2
    subst e1 e2
    replace htv : tv = .agg #[.int .i64 tx.ses, .int .i64 tx.seq, .slice A1 l1 c1, .slice A2 l2 c2] := htv
    subst htv
    have HX := hide hX
    have HM := hide hM
    clear hb hp hX hM htx em0 HS8 hlt ho hm1 hm2
    have hfd : ∀ w, (Instr.field 27 (.agg #[.int .i64 tx.ses, .int .i64 tx.seq, .slice A1 l1 c1, .slice A2 l2 c2]) 2).run Tryz.prog w = .ok (.slice A1 l1 c1) w := fun w => by kernel_rfl
    have k10 := HA0.out.box.cell 10
    have f10 := HA0.out.box.frozen 10
    change x0.cell? ⟨B, 10, none⟩ = some (.int .i64 0) at k10
    have k11 := HA0.out.box.cell 11
    have f11 := HA0.out.box.frozen 11
    change x0.cell? ⟨B, 11, none⟩ = some (.int .i64 0) at k11
    have k12 := HA0.out.box.cell 12
    have f12 := HA0.out.box.frozen 12
    change x0.cell? ⟨B, 12, none⟩ = some (.slice none 0 0) at k12
    have k13 := HA0.out.box.cell 13
    have f13 := HA0.out.box.frozen 13
    change x0.cell? ⟨B, 13, none⟩ = some (.slice none 0 0) at k13
    go_upto_region 23 with (fail)
    clear k10 f10 k11 f11 k12 f12 k13 f13
    obtain ⟨W5, hW5⟩ : ∃ W5, ((((x0.setCell ⟨B, 10, none⟩ (.int .i64 tx.ses)).setCell ⟨B, 11, none⟩ (.int .i64 tx.seq)).setCell ⟨B, 12, none⟩ (.slice A1 l1 c1)).setCell ⟨B, 13, none⟩ (.slice A2 l2 c2)) = W5 := ⟨_, rfl⟩
    obtain ⟨cz, hcz⟩ : ∃ cz : Array Value, #[.int .i64 5, .int .i64 ff, .int .i64 tt, .int .i64 (pt : Int), .int .i64 0, .int .i64 0, .int .i64 0, .int .i64 0, .bool false, .slice none 0 0, .int .i64 tx.ses, .int .i64 tx.seq, .slice A1 l1 c1, .slice A2 l2 c2, .int .i64 0, .int .i64 0, .int .i64 0, .int .i64 0, .bool false, .string ⟨#[]⟩, .string ⟨#[]⟩, .slice none 0 0, .slice none 0 0, .int .i64 0] = cz := ⟨_, rfl⟩
    have hbx : Bl W5 B 31 cz := by rw [← hW5, ← hcz]; exact ((((HA0.out.box.put 10 _).put 11 _).put 12 _).put 13 _)
    have hbu : But x0 W5 B := by rw [← hW5]; exact (((((But.refl x0 B).set 10 _).set 11 _).set 12 _).set 13 _)
    have hsz : (Tryz.prog.info? 31).map (·.size) = some cz.size := by rw [← hcz]; kernel_rfl
    have hos := hide (show 24 = cz.size by rw [← hcz]; rfl)
    have hone : cz.all (·.oneCell') = true := by rw [← hcz]; simp [Value.oneCell']
    rw [hW5]
    clear hW5
    have HS9 := hide (HA0.out.put hbu hbx)
    have HF := hide (HS9.out.fin (m := ⟨5, ff, tt, (pt : Int), 0, 0, 0, 0, false, [], tx, 0, 0, 0, 0, false, nothing, nothing, [], [], 0⟩) (q := ⟨.slice none 0 0, (.slice A1 l1 c1, .slice A2 l2 c2), .slice none 0 0, .slice none 0 0⟩) ⟨EntsX.nil _ _, (HX.out.move (moves_but hbu (Nat.le_refl _))), RowX.nil _ _ _, RowX.nil _ _ _⟩ (by rw [← hcz]; rfl)
      (md_gen ⟨show (1 : Int) ≤ 5 by decide, show (5 : Int) ≤ 9 by decide⟩ HD.out (by unfold bareM; rfl) (fun z hz => by simp only [nums8, List.mem_cons, List.not_mem_nil, or_false] at hz; omega) (show (0 : Int) < 3 by decide) ⟨Nat.zero_le _, fun e he => by cases he⟩ (.inr HM.out) ⟨Nat.zero_le _, rise_nil⟩ ⟨no_size, no_size⟩ ⟨Nat.zero_le _, rfl, rise_nil⟩ ⟨show (0 : Int) ≤ 0 by decide, show (0 : Int) ≤ 6 by decide⟩))
    have hx1 := HS9.out.box
    have hr1 := HS9.out.p.res
    have HB4 := hide (hr1.row cz)
    clear HS9 hbu hbx HA0 HD HFL HBY hcz
    go_wp2_with (first
      | refine wpList_load_row rfl 31 (.tmp 4) (by with_reducible rfl) B rfl 31 _ (0, 0) _ hx1 Tryz.underlying31 rfl hsz ?_
      | refine wpList_store_row rfl 31 (.tmp 2) (.tmp 137) (by with_reducible rfl) r cz rfl rfl 31 _ hr1 hsz hos.out hone ?_)
    exact bodyPost_ret (results_cell_row rfl _ _ r 31 cz (0, 0) _ rfl HB4.out Tryz.underlying31 rfl hsz) rfl ⟨_, _, rfl, HF.out⟩
  · skip
    have k16 := HS8.out.box.cell 16
    have f16 := HS8.out.box.frozen 16
    change w8.cell? ⟨B, 16, none⟩ = some (.int .i64 0) at k16
    have k17 := HS8.out.box.cell 17
    have f17 := HS8.out.box.frozen 17
    change w8.cell? ⟨B, 17, none⟩ = some (.int .i64 0) at k17
    go_upto_region 23 with (fail)
    clear k16 f16 k17 f17
    obtain ⟨W5, hW5⟩ : ∃ W5, ((w8.setCell ⟨B, 16, none⟩ (.int .i64 (300 * (bv : Int)))).setCell ⟨B, 17, none⟩ (.int .i64 ((cv : Int) % 3))) = W5 := ⟨_, rfl⟩
    obtain ⟨cz, hcz⟩ : ∃ cz : Array Value, #[.int .i64 6, .int .i64 ff, .int .i64 tt, .int .i64 (pt : Int), .int .i64 0, .int .i64 0, .int .i64 0, .int .i64 0, .bool false, .slice none 0 0, .int .i64 0, .int .i64 0, .slice none 0 0, .slice none 0 0, .int .i64 0, .int .i64 0, .int .i64 (300 * (bv : Int)), .int .i64 ((cv : Int) % 3), .bool false, .string ⟨#[]⟩, .string ⟨#[]⟩, .slice none 0 0, .slice none 0 0, .int .i64 0] = cz := ⟨_, rfl⟩
    have hbx : Bl W5 B 31 cz := by rw [← hW5, ← hcz]; exact ((HS8.out.box.put 16 _).put 17 _)
    have hbu : But w8 W5 B := by rw [← hW5]; exact (((But.refl w8 B).set 16 _).set 17 _)
    have hsz : (Tryz.prog.info? 31).map (·.size) = some cz.size := by rw [← hcz]; kernel_rfl
    have hos := hide (show 24 = cz.size by rw [← hcz]; rfl)
    have hone : cz.all (·.oneCell') = true := by rw [← hcz]; simp [Value.oneCell']
    rw [hW5]
    clear hW5
    have HS9 := hide (HS8.out.put hbu hbx)
    have HF := hide (HS9.out.fin (m := ⟨6, ff, tt, (pt : Int), 0, 0, 0, 0, false, [], noTxn, 0, 0, (300 * (bv : Int)), ((cv : Int) % 3), false, nothing, nothing, [], [], 0⟩) (q := ⟨.slice none 0 0, (.slice none 0 0, .slice none 0 0), .slice none 0 0, .slice none 0 0⟩) ⟨EntsX.nil _ _, RowsX.none_ _ _, RowX.nil _ _ _, RowX.nil _ _ _⟩ (by rw [← hcz]; rfl)
      (md_gen ⟨show (1 : Int) ≤ 6 by decide, show (6 : Int) ≤ 9 by decide⟩ HD.out (by unfold bareM; rfl) (fun z hz => by simp only [nums8, List.mem_cons, List.not_mem_nil, or_false] at hz; omega) (show (cv : Int) % 3 < 3 by omega) ⟨Nat.zero_le _, fun e he => by cases he⟩ (.inl ⟨rfl, show (6 : Int) ≠ 5 by decide⟩) ⟨Nat.zero_le _, rise_nil⟩ ⟨no_size, no_size⟩ ⟨Nat.zero_le _, rfl, rise_nil⟩ ⟨show (0 : Int) ≤ 0 by decide, show (0 : Int) ≤ 6 by decide⟩))
    have hx1 := HS9.out.box
    have hr1 := HS9.out.p.res
    have HB4 := hide (hr1.row cz)
    clear HS9 hbu hbx HS8 HD HFL HBY hcz
    go_wp2_with (first
      | refine wpList_load_row rfl 31 (.tmp 4) (by with_reducible rfl) B rfl 31 _ (0, 0) _ hx1 Tryz.underlying31 rfl hsz ?_
      | refine wpList_store_row rfl 31 (.tmp 2) (.tmp 137) (by with_reducible rfl) r cz rfl rfl 31 _ hr1 hsz hos.out hone ?_)
    exact bodyPost_ret (results_cell_row rfl _ _ r 31 cz (0, 0) _ rfl HB4.out Tryz.underlying31 rfl hsz) rfl ⟨_, _, rfl, HF.out⟩
  · skip
    have k16 := HS8.out.box.cell 16
    have f16 := HS8.out.box.frozen 16
    change w8.cell? ⟨B, 16, none⟩ = some (.int .i64 0) at k16
    have k17 := HS8.out.box.cell 17
    have f17 := HS8.out.box.frozen 17
    change w8.cell? ⟨B, 17, none⟩ = some (.int .i64 0) at k17
    have k8 := HS8.out.box.cell 8
    have f8 := HS8.out.box.frozen 8
    change w8.cell? ⟨B, 8, none⟩ = some (.bool false) at k8
    go_upto_region 23 with (fail)
    clear k16 f16 k17 f17 k8 f8
    obtain ⟨W5, hW5⟩ : ∃ W5, (((w8.setCell ⟨B, 16, none⟩ (.int .i64 (300 * (bv : Int)))).setCell ⟨B, 17, none⟩ (.int .i64 ((cv : Int) % 3))).setCell ⟨B, 8, none⟩ (.bool (decide ((av : Int) > 100)))) = W5 := ⟨_, rfl⟩
    obtain ⟨cz, hcz⟩ : ∃ cz : Array Value, #[.int .i64 7, .int .i64 ff, .int .i64 tt, .int .i64 (pt : Int), .int .i64 0, .int .i64 0, .int .i64 0, .int .i64 0, .bool (decide ((av : Int) > 100)), .slice none 0 0, .int .i64 0, .int .i64 0, .slice none 0 0, .slice none 0 0, .int .i64 0, .int .i64 0, .int .i64 (300 * (bv : Int)), .int .i64 ((cv : Int) % 3), .bool false, .string ⟨#[]⟩, .string ⟨#[]⟩, .slice none 0 0, .slice none 0 0, .int .i64 0] = cz := ⟨_, rfl⟩
    have hbx : Bl W5 B 31 cz := by rw [← hW5, ← hcz]; exact (((HS8.out.box.put 16 _).put 17 _).put 8 _)
    have hbu : But w8 W5 B := by rw [← hW5]; exact ((((But.refl w8 B).set 16 _).set 17 _).set 8 _)
    have hsz : (Tryz.prog.info? 31).map (·.size) = some cz.size := by rw [← hcz]; kernel_rfl
    have hos := hide (show 24 = cz.size by rw [← hcz]; rfl)
    have hone : cz.all (·.oneCell') = true := by rw [← hcz]; simp [Value.oneCell']
    rw [hW5]
    clear hW5
    have HS9 := hide (HS8.out.put hbu hbx)
    have HF := hide (HS9.out.fin (m := ⟨7, ff, tt, (pt : Int), 0, 0, 0, 0, (decide ((av : Int) > 100)), [], noTxn, 0, 0, (300 * (bv : Int)), ((cv : Int) % 3), false, nothing, nothing, [], [], 0⟩) (q := ⟨.slice none 0 0, (.slice none 0 0, .slice none 0 0), .slice none 0 0, .slice none 0 0⟩) ⟨EntsX.nil _ _, RowsX.none_ _ _, RowX.nil _ _ _, RowX.nil _ _ _⟩ (by rw [← hcz]; rfl)
      (md_gen ⟨show (1 : Int) ≤ 7 by decide, show (7 : Int) ≤ 9 by decide⟩ HD.out (by unfold bareM; rfl) (fun z hz => by simp only [nums8, List.mem_cons, List.not_mem_nil, or_false] at hz; omega) (show (cv : Int) % 3 < 3 by omega) ⟨Nat.zero_le _, fun e he => by cases he⟩ (.inl ⟨rfl, show (7 : Int) ≠ 5 by decide⟩) ⟨Nat.zero_le _, rise_nil⟩ ⟨no_size, no_size⟩ ⟨Nat.zero_le _, rfl, rise_nil⟩ ⟨show (0 : Int) ≤ 0 by decide, show (0 : Int) ≤ 6 by decide⟩))
    have hx1 := HS9.out.box
    have hr1 := HS9.out.p.res
    have HB4 := hide (hr1.row cz)
    clear HS9 hbu hbx HS8 HD HFL HBY hcz
    go_wp2_with (first
      | refine wpList_load_row rfl 31 (.tmp 4) (by with_reducible rfl) B rfl 31 _ (0, 0) _ hx1 Tryz.underlying31 rfl hsz ?_
      | refine wpList_store_row rfl 31 (.tmp 2) (.tmp 137) (by with_reducible rfl) r cz rfl rfl 31 _ hr1 hsz hos.out hone ?_)
    exact bodyPost_ret (results_cell_row rfl _ _ r 31 cz (0, 0) _ rfl HB4.out Tryz.underlying31 rfl hsz) rfl ⟨_, _, rfl, HF.out⟩
  · skip
    go_wp2_with fail
    refine (Keys_ok g A c l n7 6 (by decide) hlen w8 HS8.out.p.pk).mono ?_
    rintro e x0 ⟨kv, rfl, ho, hb, hp⟩
    have hlt := HS8.out.low.at_
    have HA0 := hide (HS8.out.but hb hp)
    have hKL := pickKeys_len keysL (pickV l n7 64) 6
    have hKR := picked_rise6 l n7
    obtain ⟨ks, hks⟩ : ∃ ks, pickKeys keysL (pickV l n7 64) 6 = ks := ⟨_, rfl⟩
    obtain ⟨m0, em0⟩ : ∃ q, pickN l n7 = q := ⟨_, rfl⟩
    rw [hks] at ho hKL hKR
    rw [em0] at HA0
    have HK := hide (ho.keysX HS8.out.box.lt)
    obtain ⟨kA, kC, hv, _⟩ := ho.is
    rw [List.length_map] at hv
    subst hv
    have HKL := hide (show ks.length ≤ 6 ∧ risingK ks = true from ⟨hKL, hKR⟩)
    clear hb hp hks em0 HS8 hlt ho hKL hKR
    have k14 := HA0.out.box.cell 14
    have f14 := HA0.out.box.frozen 14
    change x0.cell? ⟨B, 14, none⟩ = some (.int .i64 0) at k14
    have k15 := HA0.out.box.cell 15
    have f15 := HA0.out.box.frozen 15
    change x0.cell? ⟨B, 15, none⟩ = some (.int .i64 0) at k15
    have k16 := HA0.out.box.cell 16
    have f16 := HA0.out.box.frozen 16
    change x0.cell? ⟨B, 16, none⟩ = some (.int .i64 0) at k16
    have k17 := HA0.out.box.cell 17
    have f17 := HA0.out.box.frozen 17
    change x0.cell? ⟨B, 17, none⟩ = some (.int .i64 0) at k17
    have k18 := HA0.out.box.cell 18
    have f18 := HA0.out.box.frozen 18
    change x0.cell? ⟨B, 18, none⟩ = some (.bool false) at k18
    have k19 := HA0.out.box.cell 19
    have f19 := HA0.out.box.frozen 19
    change x0.cell? ⟨B, 19, none⟩ = some (.string ⟨#[]⟩) at k19
    have k20 := HA0.out.box.cell 20
    have f20 := HA0.out.box.frozen 20
    change x0.cell? ⟨B, 20, none⟩ = some (.string ⟨#[]⟩) at k20
    have k21 := HA0.out.box.cell 21
    have f21 := HA0.out.box.frozen 21
    change x0.cell? ⟨B, 21, none⟩ = some (.slice none 0 0) at k21
    go_upto_region 23 with (fail)
    clear k14 f14 k15 f15 k16 f16 k17 f17 k18 f18 k19 f19 k20 f20 k21 f21
    obtain ⟨W5, hW5⟩ : ∃ W5, ((((((((x0.setCell ⟨B, 14, none⟩ (.int .i64 (av : Int))).setCell ⟨B, 15, none⟩ (.int .i64 (cv : Int))).setCell ⟨B, 16, none⟩ (.int .i64 (300 * (bv : Int)))).setCell ⟨B, 17, none⟩ (.int .i64 ((cv : Int) % 3))).setCell ⟨B, 18, none⟩ (.bool ((av : Int) % 2 == 0))).setCell ⟨B, 19, none⟩ (.string ⟨#[97]⟩)).setCell ⟨B, 20, none⟩ (.string ⟨#[122]⟩)).setCell ⟨B, 21, none⟩ (.slice kA ks.length kC)) = W5 := ⟨_, rfl⟩
    obtain ⟨cz, hcz⟩ : ∃ cz : Array Value, #[.int .i64 8, .int .i64 ff, .int .i64 tt, .int .i64 (pt : Int), .int .i64 0, .int .i64 0, .int .i64 0, .int .i64 0, .bool false, .slice none 0 0, .int .i64 0, .int .i64 0, .slice none 0 0, .slice none 0 0, .int .i64 (av : Int), .int .i64 (cv : Int), .int .i64 (300 * (bv : Int)), .int .i64 ((cv : Int) % 3), .bool ((av : Int) % 2 == 0), .string ⟨#[97]⟩, .string ⟨#[122]⟩, .slice kA ks.length kC, .slice none 0 0, .int .i64 0] = cz := ⟨_, rfl⟩
    have hbx : Bl W5 B 31 cz := by rw [← hW5, ← hcz]; exact ((((((((HA0.out.box.put 14 _).put 15 _).put 16 _).put 17 _).put 18 _).put 19 _).put 20 _).put 21 _)
    have hbu : But x0 W5 B := by rw [← hW5]; exact (((((((((But.refl x0 B).set 14 _).set 15 _).set 16 _).set 17 _).set 18 _).set 19 _).set 20 _).set 21 _)
    have hsz : (Tryz.prog.info? 31).map (·.size) = some cz.size := by rw [← hcz]; kernel_rfl
    have hos := hide (show 24 = cz.size by rw [← hcz]; rfl)
    have hone : cz.all (·.oneCell') = true := by rw [← hcz]; simp [Value.oneCell']
    rw [hW5]
    clear hW5
    have HS9 := hide (HA0.out.put hbu hbx)
    have HF := hide (HS9.out.fin (m := ⟨8, ff, tt, (pt : Int), 0, 0, 0, 0, false, [], noTxn, (av : Int), (cv : Int), (300 * (bv : Int)), ((cv : Int) % 3), ((av : Int) % 2 == 0), (⟨#[97]⟩ : ByteArray), (⟨#[122]⟩ : ByteArray), ks, [], 0⟩) (q := ⟨.slice none 0 0, (.slice none 0 0, .slice none 0 0), .slice kA ks.length kC, .slice none 0 0⟩) ⟨EntsX.nil _ _, RowsX.none_ _ _, (HK.out.move (moves_but hbu (Nat.le_refl _)) (strC_pos _)), RowX.nil _ _ _⟩ (by rw [← hcz]; rfl)
      (md_gen ⟨show (1 : Int) ≤ 8 by decide, show (8 : Int) ≤ 9 by decide⟩ HD.out (by unfold bareM; rfl) (fun z hz => by simp only [nums8, List.mem_cons, List.not_mem_nil, or_false] at hz; omega) (show (cv : Int) % 3 < 3 by omega) ⟨Nat.zero_le _, fun e he => by cases he⟩ (.inl ⟨rfl, show (8 : Int) ≠ 5 by decide⟩) HKL.out ⟨show (ByteArray.mk #[97]).size ≤ 8 by decide, show (ByteArray.mk #[122]).size ≤ 8 by decide⟩ ⟨Nat.zero_le _, rfl, rise_nil⟩ ⟨show (0 : Int) ≤ 0 by decide, show (0 : Int) ≤ 6 by decide⟩))
    have hx1 := HS9.out.box
    have hr1 := HS9.out.p.res
    have HB4 := hide (hr1.row cz)
    clear HS9 hbu hbx HA0 HD HFL HBY hcz
    go_wp2_with (first
      | refine wpList_load_row rfl 31 (.tmp 4) (by with_reducible rfl) B rfl 31 _ (0, 0) _ hx1 Tryz.underlying31 rfl hsz ?_
      | refine wpList_store_row rfl 31 (.tmp 2) (.tmp 137) (by with_reducible rfl) r cz rfl rfl 31 _ hr1 hsz hos.out hone ?_)
    exact bodyPost_ret (results_cell_row rfl _ _ r 31 cz (0, 0) _ rfl HB4.out Tryz.underlying31 rfl hsz) rfl ⟨_, _, rfl, HF.out⟩
  · skip
    go_wp2_with fail
    refine (Keys_ok g A c l n7 6 (by decide) hlen w8 HS8.out.p.pk).mono ?_
    rintro e x0 ⟨kv, rfl, ho, hb, hp⟩
    have hlt := HS8.out.low.at_
    have HA0 := hide (HS8.out.but hb hp)
    have hKL := pickKeys_len keysL (pickV l n7 64) 6
    have hKR := picked_rise6 l n7
    obtain ⟨ks, hks⟩ : ∃ ks, pickKeys keysL (pickV l n7 64) 6 = ks := ⟨_, rfl⟩
    obtain ⟨m0, em0⟩ : ∃ q, pickN l n7 = q := ⟨_, rfl⟩
    rw [hks] at ho hKL hKR
    rw [em0] at HA0
    have HK := hide (ho.keysX HS8.out.box.lt)
    obtain ⟨kA, kC, hv, _⟩ := ho.is
    rw [List.length_map] at hv
    subst hv
    have HKL := hide (show ks.length ≤ 6 ∧ risingK ks = true from ⟨hKL, hKR⟩)
    clear hb hp hks em0 HS8 hlt ho hKL hKR
    go_wp2_with fail
    refine (Txn_ok g A c l m0 9 (by decide) hlen x0 HA0.out.p.pk).mono ?_
    rintro e x1 ⟨tv, rfl, ho, hb, hp⟩
    have hlt := HA0.out.low.at_
    have HA1 := hide (HA0.out.but hb hp)
    have HK := hide (HK.out.move (moves_but hb (Nat.le_of_lt hlt)) (strC_pos _))
    obtain ⟨⟨p1, p2⟩, htv, hX⟩ := ho.above HA0.out.box.lt
    have hM := txP_md l m0 9 (by decide)
    obtain ⟨tx, htx⟩ : ∃ tx, (txP l m0 9).1 = tx := ⟨_, rfl⟩
    obtain ⟨m1, em1⟩ : ∃ q, (txP l m0 9).2 = q := ⟨_, rfl⟩
    rw [htx] at htv hX hM
    rw [em1] at HA1
    obtain ⟨A1, c1, e1⟩ := hX.rd.sl
    obtain ⟨A2, c2, e2⟩ := hX.wr.sl
    generalize hm1 : List.length _ = l1 at e1
    generalize hm2 : List.length _ = l2 at e2
    simp only at e1 e2
    subst e1 e2
    replace htv : tv = .agg #[.int .i64 tx.ses, .int .i64 tx.seq, .slice A1 l1 c1, .slice A2 l2 c2] := htv
    subst htv
    have HX := hide hX
    have HM := hide hM
    clear hb hp hX hM htx em1 HA0 hlt ho hm1 hm2
    have hfd : ∀ w, (Instr.field 27 (.agg #[.int .i64 tx.ses, .int .i64 tx.seq, .slice A1 l1 c1, .slice A2 l2 c2]) 2).run Tryz.prog w = .ok (.slice A1 l1 c1) w := fun w => by kernel_rfl
    go_wp2_with fail
    refine (Num_ok g A c l m1 7 (by decide) (by decide) hlen x1 HA1.out.p.pk).mono ?_
    rintro e x2 ⟨rfl, hb, hp⟩
    have hlt := HA1.out.low.at_
    have HA2 := hide (HA1.out.but hb hp)
    have HK := hide (HK.out.move (moves_but hb (Nat.le_of_lt hlt)) (strC_pos _))
    have HX := hide (HX.out.move (moves_but hb (Nat.le_of_lt hlt)))
    have her := pickV_lt l m1 7 (by decide)
    obtain ⟨er, eer⟩ : ∃ q, pickV l m1 7 = q := ⟨_, rfl⟩
    obtain ⟨m2, em2⟩ : ∃ q, pickN l m1 = q := ⟨_, rfl⟩
    rw [em2] at HA2
    rw [eer] at her ⊢
    clear hb hp eer em2 HA1 hlt
    have k14 := HA2.out.box.cell 14
    have f14 := HA2.out.box.frozen 14
    change x2.cell? ⟨B, 14, none⟩ = some (.int .i64 0) at k14
    have k15 := HA2.out.box.cell 15
    have f15 := HA2.out.box.frozen 15
    change x2.cell? ⟨B, 15, none⟩ = some (.int .i64 0) at k15
    have k16 := HA2.out.box.cell 16
    have f16 := HA2.out.box.frozen 16
    change x2.cell? ⟨B, 16, none⟩ = some (.int .i64 0) at k16
    have k17 := HA2.out.box.cell 17
    have f17 := HA2.out.box.frozen 17
    change x2.cell? ⟨B, 17, none⟩ = some (.int .i64 0) at k17
    have k21 := HA2.out.box.cell 21
    have f21 := HA2.out.box.frozen 21
    change x2.cell? ⟨B, 21, none⟩ = some (.slice none 0 0) at k21
    have k22 := HA2.out.box.cell 22
    have f22 := HA2.out.box.frozen 22
    change x2.cell? ⟨B, 22, none⟩ = some (.slice none 0 0) at k22
    have k23 := HA2.out.box.cell 23
    have f23 := HA2.out.box.frozen 23
    change x2.cell? ⟨B, 23, none⟩ = some (.int .i64 0) at k23
    go_upto_region 23 with (fail)
    clear k14 f14 k15 f15 k16 f16 k17 f17 k21 f21 k22 f22 k23 f23
    obtain ⟨W5, hW5⟩ : ∃ W5, (((((((x2.setCell ⟨B, 14, none⟩ (.int .i64 (av : Int))).setCell ⟨B, 15, none⟩ (.int .i64 (cv : Int))).setCell ⟨B, 16, none⟩ (.int .i64 (300 * (bv : Int)))).setCell ⟨B, 17, none⟩ (.int .i64 ((cv : Int) % 3))).setCell ⟨B, 21, none⟩ (.slice kA ks.length kC)).setCell ⟨B, 22, none⟩ (.slice A1 l1 c1)).setCell ⟨B, 23, none⟩ (.int .i64 (er : Int))) = W5 := ⟨_, rfl⟩
    obtain ⟨cz, hcz⟩ : ∃ cz : Array Value, #[.int .i64 9, .int .i64 ff, .int .i64 tt, .int .i64 (pt : Int), .int .i64 0, .int .i64 0, .int .i64 0, .int .i64 0, .bool false, .slice none 0 0, .int .i64 0, .int .i64 0, .slice none 0 0, .slice none 0 0, .int .i64 (av : Int), .int .i64 (cv : Int), .int .i64 (300 * (bv : Int)), .int .i64 ((cv : Int) % 3), .bool false, .string ⟨#[]⟩, .string ⟨#[]⟩, .slice kA ks.length kC, .slice A1 l1 c1, .int .i64 (er : Int)] = cz := ⟨_, rfl⟩
    have hbx : Bl W5 B 31 cz := by rw [← hW5, ← hcz]; exact (((((((HA2.out.box.put 14 _).put 15 _).put 16 _).put 17 _).put 21 _).put 22 _).put 23 _)
    have hbu : But x2 W5 B := by rw [← hW5]; exact ((((((((But.refl x2 B).set 14 _).set 15 _).set 16 _).set 17 _).set 21 _).set 22 _).set 23 _)
    have hsz : (Tryz.prog.info? 31).map (·.size) = some cz.size := by rw [← hcz]; kernel_rfl
    have hos := hide (show 24 = cz.size by rw [← hcz]; rfl)
    have hone : cz.all (·.oneCell') = true := by rw [← hcz]; simp [Value.oneCell']
    rw [hW5]
    clear hW5
    have HS9 := hide (HA2.out.put hbu hbx)
    have HF := hide (HS9.out.fin (m := ⟨9, ff, tt, (pt : Int), 0, 0, 0, 0, false, [], noTxn, (av : Int), (cv : Int), (300 * (bv : Int)), ((cv : Int) % 3), false, nothing, nothing, ks, tx.reads, (er : Int)⟩) (q := ⟨.slice none 0 0, (.slice none 0 0, .slice none 0 0), .slice kA ks.length kC, .slice A1 l1 c1⟩) ⟨EntsX.nil _ _, RowsX.none_ _ _, (HK.out.move (moves_but hbu (Nat.le_refl _)) (strC_pos _)), ((HX.out.move (moves_but hbu (Nat.le_refl _))).rd)⟩ (by rw [← hcz]; rfl)
      (md_gen ⟨show (1 : Int) ≤ 9 by decide, show (9 : Int) ≤ 9 by decide⟩ HD.out (by unfold bareM; rfl) (fun z hz => by simp only [nums8, List.mem_cons, List.not_mem_nil, or_false] at hz; omega) (show (cv : Int) % 3 < 3 by omega) ⟨Nat.zero_le _, fun e he => by cases he⟩ (.inl ⟨rfl, show (9 : Int) ≠ 5 by decide⟩) HKL.out ⟨no_size, no_size⟩ ⟨show tx.reads.length ≤ 6 from (mdTx_parts HM.out).1, HM.out.rd, (mdTx_parts HM.out).2⟩ ⟨show (0 : Int) ≤ (er : Int) by omega, show (er : Int) ≤ 6 by omega⟩))
    have hx1 := HS9.out.box
    have hr1 := HS9.out.p.res
    have HB4 := hide (hr1.row cz)
    clear HS9 hbu hbx HA2 HD HFL HBY hcz
    go_wp2_with (first
      | refine wpList_load_row rfl 31 (.tmp 4) (by with_reducible rfl) B rfl 31 _ (0, 0) _ hx1 Tryz.underlying31 rfl hsz ?_
      | refine wpList_store_row rfl 31 (.tmp 2) (.tmp 137) (by with_reducible rfl) r cz rfl rfl 31 _ hr1 hsz hos.out hone ?_)
    exact bodyPost_ret (results_cell_row rfl _ _ r 31 cz (0, 0) _ rfl HB4.out Tryz.underlying31 rfl hsz) rfl ⟨_, _, rfl, HF.out⟩
end Go.Proofs.YtpabppoohobjpaaGreat
