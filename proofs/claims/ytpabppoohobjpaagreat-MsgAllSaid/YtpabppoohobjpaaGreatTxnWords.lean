/-
  Words for transactions in memory, over any program that has them.
-/
import Derived.Test.YtpabppoohobjpaaGreatTxnRows
import Derived.Test.YtpabppoohobjpaaGreatKeyWords
import Derived.Test.YtpabppoohobjpaaGreatNumPutOwn
import Derived.Test.YtpabppoohobjpaaGreatTxnMath
import Derived.Test.YtpabppoohobjpaaGreatBaseM
import Derived.Test.YtpabppoohobjpaaGreatBaseW
namespace Go.Proofs.YtpabppoohobjpaaGreat
open Go Go.RowKit TxnMath KeyMath NumPlain TakeMath
set_option maxRecDepth 100000

def touchT (t : TxT) (s n : Int) : Bool := t.reads.any (fun x => shardK x.key n == s) || t.writes.any (fun x => shardK x.key n == s)
/-- is shard s one of the reads'? -/
def readIn (t : TxT) (n : Int) (s : Nat) : Bool := t.reads.any fun x => shardK x.key n == (s : Int)
/-- the reads' shards below k -/
def readsTo (t : TxT) (n : Int) (k : Nat) : List Nat := (List.range k).filter (readIn t n)
def readsOf (t : TxT) (n : Int) : List Nat := readsTo t n (max n 1).toNat

theorem info_i64 : (Tryz.prog.info? 3).map (fun i => (i.zero, i.size, i.bytes)) = some (some (.int .i64 0), 1, 8) := by kernel_rfl

theorem readsTo_more (t : TxT) (n : Int) (k : Nat) : readsTo t n (k + 1) = if readIn t n k = true then readsTo t n k ++ [k] else readsTo t n k := by
  unfold readsTo
  rw [List.range_succ, List.filter_append]
  by_cases h : readIn t n k = true
  · rw [if_pos h, List.filter_cons_of_pos h]; rfl
  · rw [if_neg h, List.filter_cons_of_neg h]; simp
theorem readsTo_len (t : TxT) (n : Int) (k : Nat) : (readsTo t n k).length ≤ k := by
  unfold readsTo
  have := List.length_filter_le (readIn t n) (List.range k)
  rwa [List.length_range] at this

def natV (j : Nat) : Value := .int .i64 (j : Int)
/-- a row of numbers, whoever owns it -/
def NatsAt (w : World) (v : Value) (l : List Nat) : Prop := ∃ A c, v = .slice A l.length c ∧ ∀ j (h : j < l.length), ∃ ad, A = some ad ∧ w.cell? (ad.add j) = some (.int .i64 (l[j] : Int))
theorem OwnV.nats {e : TypeId} {w : World} {B : Nat} {v : Value} {l : List Nat} (h : OwnV e w B v (l.map natV)) : NatsAt w v l := by
  obtain ⟨A, c, h1, _, h2⟩ := h.is
  rw [List.length_map] at h1
  refine ⟨A, c, h1, fun j hj => ?_⟩
  obtain ⟨ad, h3, h4⟩ := h2 j (by rwa [List.length_map])
  exact ⟨ad, h3, by rw [h4, List.getElem_map]; rfl⟩
theorem NatsAt.gr {w w' : World} {v : Value} {l : List Nat} (h : NatsAt w v l) (hg : Gr w w') : NatsAt w' v l := by
  obtain ⟨A, c, h1, h2⟩ := h
  refine ⟨A, c, h1, fun j hj => ?_⟩
  obtain ⟨ad, h3, h4⟩ := h2 j hj
  exact ⟨ad, h3, gr_cell hg _ _ h4⟩

theorem OwnV.strs {e : TypeId} {w : World} {B : Nat} {v : Value} {l : List ByteArray} (h : OwnV e w B v (l.map Value.string)) (hl : ∀ s ∈ l, s.size ≤ maxLen) : ∃ A c, v = .slice A l.length c ∧ Strs w A c l := by
  have h0 := h
  rcases h.2 with ⟨rfl, hn⟩ | ⟨g, cap, cur, rfl, _, _, hnc, hm, _, _⟩
  · rw [List.length_map] at hn
    have : l = [] := List.eq_nil_of_length_eq_zero hn
    subst this
    exact ⟨none, 0, rfl, fun j hj => absurd hj (by simp), by simp, by simp [maxLen], hl⟩
  · rw [List.length_map] at hnc ⊢
    exact ⟨_, cap, rfl, fun j hj => ⟨_, rfl, World.ownsRow.cells h0 (g := g) rfl j _ (by simp [hj])⟩, hnc, hm, hl⟩

theorem empty_no {s : ByteArray} (h : ¬ s.toList = []) : empty s = false := by
  unfold empty nothing
  rw [beq_eq_false_iff_ne, ByteArray.toList_eq ⟨#[]⟩]
  exact h
theorem empty_yes {s : ByteArray} (h : s.toList = []) : empty s = true := by
  unfold empty nothing
  rw [beq_iff_eq, ByteArray.toList_eq ⟨#[]⟩]
  exact h
theorem isEmpty_no {l : List UInt8} (h : ¬ l = []) : l.isEmpty = false := by
  cases l
  · exact absurd rfl h
  · rfl
/-- how a read may be or not, as the code asks -/
theorem rd_way (x : RdT) : (x.ver < 0 ∧ rdOk x = false) ∨ (¬ x.ver < 0 ∧ (16 : Int) < (x.val.size : Int) ∧ rdOk x = false) ∨
    (¬ x.ver < 0 ∧ ¬ (16 : Int) < (x.val.size : Int) ∧ x.there = false ∧ ¬ x.val.toList = [] ∧ rdOk x = false) ∨ (¬ x.ver < 0 ∧ ¬ (16 : Int) < (x.val.size : Int) ∧ x.there = true ∧ x.ver = 0 ∧ rdOk x = false) ∨
    (¬ x.ver < 0 ∧ ¬ (16 : Int) < (x.val.size : Int) ∧ x.there = false ∧ x.val.toList = [] ∧ rdOk x = true) ∨ (¬ x.ver < 0 ∧ ¬ (16 : Int) < (x.val.size : Int) ∧ x.there = true ∧ ¬ x.ver = 0 ∧ rdOk x = true) := by
  by_cases h1 : x.ver < 0
  · exact .inl ⟨h1, by unfold rdOk; rw [decide_eq_true h1]; rfl⟩
  by_cases h2 : (16 : Int) < (x.val.size : Int)
  · exact .inr (.inl ⟨h1, h2, by unfold rdOk; rw [decide_eq_true (show 16 < x.val.size by omega)]; simp⟩)
  have e : rdOk x = (!(!x.there && !empty x.val) && !(x.there && x.ver == 0)) := by unfold rdOk; rw [decide_eq_false h1, decide_eq_false (show ¬ 16 < x.val.size by omega)]; rfl
  rw [e]
  cases h3 : x.there
  · by_cases h4 : x.val.toList = []
    · exact .inr (.inr (.inr (.inr (.inl ⟨h1, h2, rfl, h4, by rw [empty_yes h4]; rfl⟩))))
    · exact .inr (.inr (.inl ⟨h1, h2, rfl, h4, by rw [empty_no h4]; rfl⟩))
  · by_cases h4 : x.ver = 0
    · exact .inr (.inr (.inr (.inl ⟨h1, h2, rfl, h4, by rw [h4]; rfl⟩)))
    · exact .inr (.inr (.inr (.inr (.inr ⟨h1, h2, rfl, h4, by rw [beq_no h4]; rfl⟩))))
theorem wr_way (x : WrT) : ((16 : Int) < (x.val.size : Int) ∧ wrOk x = false) ∨ (¬ (16 : Int) < (x.val.size : Int) ∧ x.gone = true ∧ ¬ x.val.toList = [] ∧ wrOk x = false) ∨
    (¬ (16 : Int) < (x.val.size : Int) ∧ x.gone = true ∧ x.val.toList = [] ∧ wrOk x = true) ∨ (¬ (16 : Int) < (x.val.size : Int) ∧ x.gone = false ∧ wrOk x = true) := by
  by_cases h2 : (16 : Int) < (x.val.size : Int)
  · exact .inl ⟨h2, by unfold wrOk; rw [decide_eq_true (show 16 < x.val.size by omega)]; rfl⟩
  have e : wrOk x = !(x.gone && !empty x.val) := by unfold wrOk; rw [decide_eq_false (show ¬ 16 < x.val.size by omega)]; rfl
  rw [e]
  cases h3 : x.gone
  · exact .inr (.inr (.inr ⟨h2, rfl, rfl⟩))
  · by_cases h4 : x.val.toList = []
    · exact .inr (.inr (.inl ⟨h2, rfl, h4, by rw [empty_yes h4]; rfl⟩))
    · exact .inr (.inl ⟨h2, rfl, h4, by rw [empty_no h4]; rfl⟩)
theorem may_rd {t : TxT} (h : t.reads.all rdOk = false) : mayT t = false := by unfold mayT; rw [h]; rfl
theorem may_wr {t : TxT} (h : t.writes.all wrOk = false) : mayT t = false := by unfold mayT; rw [h, Bool.and_false]; rfl
theorem may_rest {t : TxT} (h1 : t.reads.all rdOk = true) (h2 : t.writes.all wrOk = true) : mayT t = (decide (1 ≤ t.ses) && decide (t.ses ≤ 9) && decide (1 ≤ t.seq) && decide (t.seq ≤ 1000) && decide (t.reads.length ≤ 6) && decide (t.writes.length ≤ 4) && risingK (t.reads.map (·.key)) && risingK (t.writes.map (·.key))) := by
  unfold mayT
  rw [h1, h2]
  rfl
theorem map_take_more {α β : Type} {l : List α} (f : α → β) {k : Nat} (hk : k < l.length) : (l.take (k + 1)).map f = (l.take k).map f ++ [f l[k]] := by
  rw [List.take_succ_eq_append_getElem hk, List.map_append]
  rfl

theorem putZ_of {z : Int} (h : 0 ≤ z) : putZ z = natOf z := by unfold putZ natOf; rw [if_neg (by omega)]
theorem natOf_len (z : Int) : (natOf z).length ≤ 10 := (putN_len _).2
theorem txtOf_len (s : ByteArray) : (txtOf s).length ≤ 265 := by
  unfold txtOf putT
  split
  · simp
  · have := (putN_len s.data.toList.length).2
    rw [List.length_append]
    omega
theorem encR_len (x : RdT) : (encR x).length ≤ 541 := by
  unfold encR
  have h1 := txtOf_len x.key
  have h2 := txtOf_len x.val
  have h3 := natOf_len x.ver
  simp only [List.length_append, List.length_singleton]
  omega
theorem encW_len (x : WrT) : (encW x).length ≤ 531 := by
  unfold encW
  have h1 := txtOf_len x.key
  have h2 := txtOf_len x.val
  simp only [List.length_append, List.length_singleton]
  omega
theorem flat_len {α : Type} (f : α → List UInt8) (M : Nat) (h : ∀ x, (f x).length ≤ M) : ∀ l : List α, (l.flatMap f).length ≤ M * l.length
  | [] => by simp
  | x :: l => by
    have h1 := h x
    have h2 := flat_len f M h l
    rw [List.flatMap_cons, List.length_append, List.length_cons, Nat.mul_succ]
    omega
theorem flat_more {α : Type} (f : α → List UInt8) {l : List α} {k : Nat} (hk : k < l.length) : (l.take (k + 1)).flatMap f = (l.take k).flatMap f ++ f l[k] := by
  rw [List.take_succ_eq_append_getElem hk, List.flatMap_append]
  simp

/-- ahead of the reads -/
def encA (t : TxT) : List UInt8 := natOf t.ses ++ natOf t.seq ++ putN t.reads.length
theorem encA_len (t : TxT) : (encA t).length ≤ 30 := by
  unfold encA
  have h1 := natOf_len t.ses
  have h2 := natOf_len t.seq
  have h3 := (putN_len t.reads.length).2
  simp only [List.length_append]
  omega

theorem lit_byte (w : World) (b : UInt8) : (Instr.buildSlice 22 1 #[(0, bv b)]).run Tryz.prog w = .ok (.slice (some ⟨w.heap.size, 0, none⟩) 1 1) (w.alloc (.cells #[bv b] 5)) := by kernel_rfl
theorem none_keeps : Mine.Keeps (fun _ _ o => o = none) := fun _ _ _ _ h _ => h

def TakenPost (w : World) (l : List UInt8) (e : Ending) (w' : World) : Prop :=
  ∃ v, e = .returned (.tuple #[v, .int .i64 (takenK l : Int), .bool (takenB l)]) ∧ TxAt w' v (takenT l) ∧ Gr w w'

/-- three results, the first of them a variable that lies in memory -/
theorem results_cell3 {P : Program} {fn : Func} {p q r : Tmp} {ty : TypeId} (h : fn.results = #[.cell p ty, .tmp q, .tmp r]) (tmps : Array Value) (w : World) (g : Nat) (t : TypeId) (cs : Array Value) (fr : Nat × Nat) (d : TypeDesc)
    (hp : tmps.getD p undef = .pointer (some ⟨g, 0, none⟩)) (hg : w.heap[g]? = some (.cells cs t fr)) (hu : P.underlying ty = some d) (hd : (match d with | .struct _ | .array _ _ => true | _ => false) = true) (hi : (P.info? ty).map (·.size) = some cs.size) :
    (results fn tmps).run P w = .ok (.tuple #[.agg cs, tmps.getD q undef, tmps.getD r undef]) w := by
  have hp' : tmps[p]?.getD undef = .pointer (some ⟨g, 0, none⟩) := by simpa using hp
  simp [results, h, hp', asAddr, run_loadVar_row w g t ty cs fr d hg hu hd hi]
/-- a conversion in a region that is walked once, under a condition that holds -/
theorem quiet_conv_if {P : Program} {ops : Array Oper} {C : World → Prop} {Q : Act → Prop} {a : Act} {o : Oper} {rest : List Oper} (hw : Region.wanted o (yielded ops a.tmps) = true) (src dst : TypeId) (x : Operand) (ho : o.op = .convert src dst x)
    {v u : Value} (hx : a.eval x = v) (hc : ∀ w, C w → (convert src dst v).run P w = .ok u w) (h : wpQuiet P ops C Q rest (a.put o.dst u)) : wpQuiet P ops C Q (o :: rest) a := by
  unfold wpQuiet
  rw [if_pos hw]
  refine ⟨u, fun w hw => ?_, h⟩
  unfold Oper.quietAt execOp
  simp [ho, hx, hc w hw, Oper.quietUpon, Result.andThen]
theorem bs_ne_ {a b : List UInt8} (h : a ≠ b) : ((bs a).toList == (bs b).toList) = false := by
  rw [Grow.str_eq, decide_eq_false_iff_not]
  exact fun e => h (bs_inj e)
theorem agg_bytes : ∀ w, (isAgg 22).run Tryz.prog w = .ok false w := fun w => by kernel_rfl

end Go.Proofs.YtpabppoohobjpaaGreat
