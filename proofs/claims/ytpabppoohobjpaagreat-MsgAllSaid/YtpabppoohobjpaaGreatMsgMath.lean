/-
  The letters of layer 6, as plain values; what goes through one, thing by thing.
-/
import Derived.Test.YtpabppoohobjpaaGreatTxnWords
import Derived.Test.YtpabppoohobjpaaGreatEntMem
namespace Go.Proofs.YtpabppoohobjpaaGreat.MsgMath
open Go NumPlain KeyMath TxnMath

structure MsgT where
  kind : Int
  frm : Int
  to : Int
  part : Int
  term : Int
  index : Int
  logTerm : Int
  commit : Int
  ok : Bool
  entries : List EntT
  t : TxT
  ses : Int
  seq : Int
  pos : Int
  shard : Int
  span : Bool
  fromKey : ByteArray
  toKey : ByteArray
  keys : List ByteArray
  got : List RdT
  err : Int
deriving DecidableEq

def noMsg : MsgT := ⟨0, 0, 0, 0, 0, 0, 0, 0, false, [], noTxn, 0, 0, 0, 0, false, nothing, nothing, [], [], 0⟩
def noEnt : EntT := ⟨0, false, noTxn⟩
def noRd : RdT := ⟨nothing, 0, nothing, false⟩

/-- what goes through a letter, one thing behind the other; σ: where it stands -/
structure Hand (σ : Type) where
  num : σ → Int → Int × σ
  flag : σ → Bool → Bool × σ
  text : σ → ByteArray → ByteArray × σ
  txn : σ → TxT → TxT × σ
  size : σ → Nat → Nat → Nat × σ

section
variable {σ : Type} (H : Hand σ)

def many {α : Type} (one : σ → α → α × σ) : σ → List α → List α × σ
  | s, [] => ([], s)
  | s, x :: l => ((one s x).1 :: (many one (one s x).2 l).1, (many one (one s x).2 l).2)
/-- a list of as many as the hand says -/
def sized {α : Type} (zero : α) (n : Nat) (l : List α) : List α := if n = l.length then l else List.replicate n zero
def Hand.list {α : Type} (zero : α) (one : σ → α → α × σ) (most : Nat) (s : σ) (l : List α) : List α × σ :=
  many one (H.size s l.length most).2 (sized zero (H.size s l.length most).1 l)

def Hand.entry (s : σ) (e : EntT) : EntT × σ :=
  let a := H.num s e.term
  let b := H.flag a.2 e.shut
  if b.1 = true then (⟨a.1, b.1, e.t⟩, b.2) else (⟨a.1, b.1, (H.txn b.2 e.t).1⟩, (H.txn b.2 e.t).2)
def Hand.read (s : σ) (x : RdT) : RdT × σ :=
  let a := H.text s x.key
  let b := H.num a.2 x.ver
  let c := H.text b.2 x.val
  let d := H.flag c.2 x.there
  (⟨a.1, b.1, c.1, d.1⟩, d.2)
end

inductive Fld where
  | kind | frm | to | part | term | index | logTerm | commit | ok | entries | t | ses | seq | pos | shard | span | fromKey | toKey | keys | got | err
deriving DecidableEq

def Hand.fld {σ : Type} (H : Hand σ) : Fld → σ → MsgT → MsgT × σ
  | .kind, s, m => ({ m with kind := (H.num s m.kind).1 }, (H.num s m.kind).2)
  | .frm, s, m => ({ m with frm := (H.num s m.frm).1 }, (H.num s m.frm).2)
  | .to, s, m => ({ m with to := (H.num s m.to).1 }, (H.num s m.to).2)
  | .part, s, m => ({ m with part := (H.num s m.part).1 }, (H.num s m.part).2)
  | .term, s, m => ({ m with term := (H.num s m.term).1 }, (H.num s m.term).2)
  | .index, s, m => ({ m with index := (H.num s m.index).1 }, (H.num s m.index).2)
  | .logTerm, s, m => ({ m with logTerm := (H.num s m.logTerm).1 }, (H.num s m.logTerm).2)
  | .commit, s, m => ({ m with commit := (H.num s m.commit).1 }, (H.num s m.commit).2)
  | .ok, s, m => ({ m with ok := (H.flag s m.ok).1 }, (H.flag s m.ok).2)
  | .entries, s, m => ({ m with entries := (H.list noEnt H.entry 4 s m.entries).1 }, (H.list noEnt H.entry 4 s m.entries).2)
  | .t, s, m => ({ m with t := (H.txn s m.t).1 }, (H.txn s m.t).2)
  | .ses, s, m => ({ m with ses := (H.num s m.ses).1 }, (H.num s m.ses).2)
  | .seq, s, m => ({ m with seq := (H.num s m.seq).1 }, (H.num s m.seq).2)
  | .pos, s, m => ({ m with pos := (H.num s m.pos).1 }, (H.num s m.pos).2)
  | .shard, s, m => ({ m with shard := (H.num s m.shard).1 }, (H.num s m.shard).2)
  | .span, s, m => ({ m with span := (H.flag s m.span).1 }, (H.flag s m.span).2)
  | .fromKey, s, m => ({ m with fromKey := (H.text s m.fromKey).1 }, (H.text s m.fromKey).2)
  | .toKey, s, m => ({ m with toKey := (H.text s m.toKey).1 }, (H.text s m.toKey).2)
  | .keys, s, m => ({ m with keys := (H.list nothing H.text 6 s m.keys).1 }, (H.list nothing H.text 6 s m.keys).2)
  | .got, s, m => ({ m with got := (H.list noRd H.read 64 s m.got).1 }, (H.list noRd H.read 64 s m.got).2)
  | .err, s, m => ({ m with err := (H.num s m.err).1 }, (H.num s m.err).2)

def Hand.run {σ : Type} (H : Hand σ) : List Fld → σ → MsgT → MsgT × σ
  | [], s, m => (m, s)
  | f :: l, s, m => H.run l (H.fld f s m).2 (H.fld f s m).1

def headF : List Fld := [.kind, .frm, .to, .part]
def askRead : List Fld := [.ses, .seq, .pos, .shard, .span, .fromKey, .toKey, .keys]
/-- the fields that a kind names -/
def named (k : Int) : List Fld :=
  if k = 1 then [.term, .index, .logTerm] else
  if k = 2 then [.term, .ok] else
  if k = 3 then [.term, .index, .logTerm, .commit, .entries] else
  if k = 4 then [.term, .ok, .index] else
  if k = 5 then [.t] else
  if k = 6 then [.pos, .shard] else
  if k = 7 then [.pos, .shard, .ok] else
  if k = 8 then askRead else
  if k = 9 then askRead ++ [.err, .got] else []

def Hand.head {σ : Type} (H : Hand σ) : σ → MsgT → MsgT × σ := H.run headF
def Hand.body {σ : Type} (H : Hand σ) (s : σ) (m : MsgT) : MsgT × σ := H.run (named m.kind) s m

/-! The three hands. -/
def eraser : Hand Unit where
  num _ _ := (0, ())
  flag _ _ := (false, ())
  text _ _ := (nothing, ())
  txn _ _ := (noTxn, ())
  size _ _ _ := (0, ())
/-- writes behind what it has written -/
def writer : Hand (List UInt8) where
  num l z := (z, l ++ putZ z)
  flag l b := (b, l ++ putZ (if b then 1 else 0))
  text l s := (s, l ++ txtOf s)
  txn l t := (t, l ++ putTx t)
  size l n _ := (n, l ++ putZ n)
def takeOr {α : Type} (zero : α) (l : List UInt8) : Option (α × List UInt8) → α × List UInt8
  | some r => r
  | none => (zero, l)
def nextN (l : List UInt8) : Int × List UInt8 := takeOr 0 l (numOf l)
/-- reads from the front of what it has ahead of it -/
def reader : Hand (List UInt8) where
  num l _ := nextN l
  flag l _ := ((nextN l).1 == 1, (nextN l).2)
  text l _ := takeOr nothing l (textOf l)
  txn l _ := takeOr noTxn l (txOf l)
  size l _ most := (if (most : Int) < (nextN l).1 then 0 else (nextN l).1.toNat, (nextN l).2)

/-! Lists, element by element. -/
theorem many_app {σ α : Type} (one : σ → α → α × σ) : ∀ (l r : List α) (s : σ), many one s (l ++ r) = ((many one s l).1 ++ (many one (many one s l).2 r).1, (many one (many one s l).2 r).2)
  | [], r, s => by simp [many]
  | x :: l, r, s => by
    simp only [List.cons_append, many]
    rw [many_app one l r]
theorem many_len {σ α : Type} (one : σ → α → α × σ) : ∀ (l : List α) (s : σ), (many one s l).1.length = l.length
  | [], _ => rfl
  | x :: l, s => by simp [many, many_len one l]
theorem many_take {σ α : Type} (one : σ → α → α × σ) {l : List α} {k : Nat} (hk : k < l.length) (s : σ) :
    many one s (l.take (k + 1)) = ((many one s (l.take k)).1 ++ [(one (many one s (l.take k)).2 l[k]).1], (one (many one s (l.take k)).2 l[k]).2) := by
  rw [List.take_succ_eq_append_getElem hk, many_app]
  simp [many]
theorem many_same {σ α : Type} {one : σ → α → α × σ} (h : ∀ s x, (one s x).1 = x) : ∀ (l : List α) (s : σ), (many one s l).1 = l
  | [], _ => rfl
  | x :: l, s => by simp [many, h, many_same h l]
theorem many_ok {σ α : Type} {one : σ → α → α × σ} {ok : α → Prop} (h : ∀ s x, ok x → ok (one s x).1) : ∀ (l : List α) (s : σ), (∀ x ∈ l, ok x) → ∀ x ∈ (many one s l).1, ok x
  | [], _, _ => by simp [many]
  | x :: l, s, hl => by
    intro y hy
    simp only [many, List.mem_cons] at hy
    rcases hy with rfl | hy
    · exact h _ _ (hl x (by simp))
    · exact many_ok h l _ (fun z hz => hl z (by simp [hz])) y hy
theorem many_wt {σ α : Type} {one : σ → α → α × σ} {wt : σ → Nat} {M : Nat} (h : ∀ s x, wt (one s x).2 ≤ wt s + M) : ∀ (l : List α) (s : σ), wt (many one s l).2 ≤ wt s + l.length * M
  | [], _ => by simp [many]
  | x :: l, s => by
    have h1 := h s x
    have h2 := many_wt h l (one s x).2
    simp only [many, List.length_cons]
    rw [Nat.succ_mul]
    omega
/-- the row when k of its elements have been gone through -/
def rowNow {σ α : Type} (one : σ → α → α × σ) (s : σ) (l : List α) (k : Nat) : List α := (many one s (l.take k)).1 ++ l.drop k
theorem rowNow_zero {σ α : Type} (one : σ → α → α × σ) (s : σ) (l : List α) : rowNow one s l 0 = l := by simp [rowNow, many]
theorem rowNow_all {σ α : Type} (one : σ → α → α × σ) (s : σ) (l : List α) : rowNow one s l l.length = (many one s l).1 := by simp [rowNow]
theorem rowNow_at {σ α : Type} (one : σ → α → α × σ) (s : σ) {l : List α} {k : Nat} (hk : k < l.length) : (rowNow one s l k)[k]? = some l[k] := by
  unfold rowNow
  have h := many_len one (l.take k) s
  rw [List.length_take] at h
  rw [List.getElem?_append_right (by omega), h, List.getElem?_drop, List.getElem?_eq_getElem (by omega)]
  congr 1
  congr 1
  omega
theorem rowNow_next {σ α : Type} (one : σ → α → α × σ) (s : σ) {l : List α} {k : Nat} (hk : k < l.length) (j : Nat) :
    (rowNow one s l (k + 1))[j]? = if j = k then some (one (many one s (l.take k)).2 l[k]).1 else (rowNow one s l k)[j]? := by
  have h := many_len one (l.take k) s
  rw [List.length_take, Nat.min_eq_left (by omega)] at h
  unfold rowNow
  rw [many_take one hk]
  simp only [List.append_assoc, List.singleton_append]
  rw [List.drop_eq_getElem_cons hk]
  rcases Nat.lt_trichotomy j k with hj | hj | hj
  · rw [if_neg (by omega), List.getElem?_append_left (by omega), List.getElem?_append_left (by omega)]
  · subst hj
    rw [if_pos rfl, List.getElem?_append_right (by omega), h, Nat.sub_self]
    rfl
  · rw [if_neg (by omega), List.getElem?_append_right (by omega), List.getElem?_append_right (by omega), h]
    obtain ⟨d, hd⟩ : ∃ d, j - k = d + 1 := ⟨j - k - 1, by omega⟩
    rw [hd]
    simp
    rw [show k + 1 + d = k + (d + 1) from by omega]
theorem rowNow_len {σ α : Type} (one : σ → α → α × σ) (s : σ) (l : List α) (k : Nat) : (rowNow one s l k).length = l.length := by
  unfold rowNow
  rw [List.length_append, many_len, List.length_take, List.length_drop]
  omega

/-- what a letter has that its kind does not name -/
def restOf (m : MsgT) : MsgT := (eraser.head () (eraser.body () m).1).1

end Go.Proofs.YtpabppoohobjpaaGreat.MsgMath

/-
  Letters in memory: their rows, and where these lie.
-/
namespace Go.Proofs.YtpabppoohobjpaaGreat
open Go Go.RowKit TxnMath KeyMath MsgMath
set_option maxRecDepth 100000

def strC (s : ByteArray) : List Value := [.string s]
theorem strC_pos (l : List ByteArray) : ∀ r ∈ l.map strC, 0 < r.length := fun r hr => by obtain ⟨x, _, rfl⟩ := List.mem_map.1 hr; simp [strC]

/-- where a letter's five rows are: entries, reads, writes, keys, got -/
structure Rows5 where
  e : Value
  p : Value × Value
  k : Value
  g : Value
def cellsM (m : MsgT) (r : Rows5) : List Value :=
  [.int .i64 m.kind, .int .i64 m.frm, .int .i64 m.to, .int .i64 m.part, .int .i64 m.term, .int .i64 m.index, .int .i64 m.logTerm, .int .i64 m.commit, .bool m.ok, r.e, .int .i64 m.t.ses, .int .i64 m.t.seq, r.p.1, r.p.2,
    .int .i64 m.ses, .int .i64 m.seq, .int .i64 m.pos, .int .i64 m.shard, .bool m.span, .string m.fromKey, .string m.toKey, r.k, r.g, .int .i64 m.err]
structure MsgR (X : Nat → Prop) (w : World) (m : MsgT) (r : Rows5) : Prop where
  e : EntsX X w r.e m.entries
  p : RowsX X w m.t r.p
  k : RowX X 1 w r.k (m.keys.map strC)
  g : RowX X 4 w r.g (m.got.map rdC)
theorem MsgR.move {X X' : Nat → Prop} {w w' : World} {m : MsgT} {r : Rows5} (h : MsgR X w m r) (hm : Moves X X' w w') : MsgR X' w' m r := ⟨h.e.move hm, h.p.move hm, h.k.move hm (strC_pos _), h.g.move hm (rdC_pos _)⟩
theorem MsgR.wide {X X' : Nat → Prop} {w : World} {m : MsgT} {r : Rows5} (h : MsgR X w m r) (hx : ∀ j, X j → X' j) : MsgR X' w m r := ⟨h.e.wide hx, h.p.wide hx, h.k.wide hx, h.g.wide hx⟩
/-- a letter as a value -/
def MsgX (X : Nat → Prop) (w : World) (v : Value) (m : MsgT) : Prop := ∃ r, v = .agg (cellsM m r).toArray ∧ MsgR X w m r
abbrev MsgAt (w : World) (v : Value) (m : MsgT) : Prop := MsgX Any w v m
theorem MsgX.gr {X : Nat → Prop} {w w' : World} {v : Value} {m : MsgT} (h : MsgX X w v m) (hg : Gr w w') : MsgX X w' v m := by
  obtain ⟨r, e, h⟩ := h
  exact ⟨r, e, h.move (Moves.of_gr hg)⟩

/-- cells side by side -/
def Sit (w : World) (k o : Nat) (l : List Value) : Prop := ∀ i u, l[i]? = some u → w.cell? ⟨k, o + i, none⟩ = some u
theorem Sit.bl {w : World} {k : Nat} {t : TypeId} {cs : List Value} (h : Bl w k t cs.toArray) : Sit w k 0 cs := fun i u hi => by
  rw [Nat.zero_add, h.cell i]
  simpa using hi
theorem Sit.head {w : World} {k o : Nat} {u : Value} {l : List Value} (h : Sit w k o (u :: l)) : w.cell? ⟨k, o, none⟩ = some u := h 0 u rfl
theorem Sit.tail {w : World} {k o : Nat} {u : Value} {l : List Value} (h : Sit w k o (u :: l)) : Sit w k (o + 1) l := fun i x hi => by
  have := h (i + 1) x (by simpa using hi)
  rwa [show o + (i + 1) = o + 1 + i from by omega] at this
theorem Sit.app {w : World} {k o : Nat} {l r : List Value} (h : Sit w k o l) (h2 : Sit w k (o + l.length) r) : Sit w k o (l ++ r) := fun i u hi => by
  rcases Nat.lt_or_ge i l.length with hl | hl
  · rw [List.getElem?_append_left hl] at hi
    exact h i u hi
  · rw [List.getElem?_append_right hl] at hi
    have := h2 _ u hi
    rwa [show o + l.length + (i - l.length) = o + i from by omega] at this
theorem Sit.left {w : World} {k o : Nat} {l r : List Value} (h : Sit w k o (l ++ r)) : Sit w k o l := fun i u hi => h i u (by rw [List.getElem?_append_left (List.getElem?_eq_some_iff.1 hi).1]; exact hi)
theorem Sit.right {w : World} {k o : Nat} {l r : List Value} (h : Sit w k o (l ++ r)) : Sit w k (o + l.length) r := fun i u hi => by
  have := h (l.length + i) u (by rw [List.getElem?_append_right (by omega)]; simpa using hi)
  rwa [show o + (l.length + i) = o + l.length + i from by omega] at this
theorem Sit.of_block {w w' : World} {k o : Nat} {l : List Value} (h : Sit w k o l) (hb : w'.heap[k]? = w.heap[k]?) : Sit w' k o l := fun i u hi => by
  exact (World.cell?_of_block (show w'.heap[(⟨k, o + i, none⟩ : Addr).block]? = w.heap[(⟨k, o + i, none⟩ : Addr).block]? from hb)).trans (h i u hi)
theorem Sit.lt {w : World} {k o : Nat} {u : Value} {l : List Value} (h : Sit w k o (u :: l)) : k < w.heap.size := World.block_lt_of_cell? w _ h.head

end Go.Proofs.YtpabppoohobjpaaGreat
