/-
  The letters of layer 6, as plain values; in memory: their rows, and where these lie. No function of the program.
-/
import Derived.Test.YthpaoeiackbdoaaEntMem
namespace Go.Proofs.Ythpaoeiackbdoaa.MsgMath
open Go NumPlain KeyMath TxnMath

structure MsgT where
  kind : Int
  frm : Int
  to : Int
  part : Int
  term : Int
  index : Int
  logTerm : Int
  commit : Int
  ok : Bool
  entries : List EntT
  t : TxT
  ses : Int
  seq : Int
  pos : Int
  shard : Int
  span : Bool
  fromKey : ByteArray
  toKey : ByteArray
  keys : List ByteArray
  got : List RdT
  err : Int
deriving DecidableEq

def noMsg : MsgT := ⟨0, 0, 0, 0, 0, 0, 0, 0, false, [], noTxn, 0, 0, 0, 0, false, nothing, nothing, [], [], 0⟩
def noEnt : EntT := ⟨0, false, noTxn⟩
def noRd : RdT := ⟨nothing, 0, nothing, false⟩

end Go.Proofs.Ythpaoeiackbdoaa.MsgMath

namespace Go.Proofs.Ythpaoeiackbdoaa
open Go Go.RowKit TxnMath KeyMath MsgMath
set_option maxRecDepth 100000

def strC (s : ByteArray) : List Value := [.string s]
theorem strC_pos (l : List ByteArray) : ∀ r ∈ l.map strC, 0 < r.length := fun r hr => by obtain ⟨x, _, rfl⟩ := List.mem_map.1 hr; simp [strC]

/-- where a letter's five rows are: entries, reads, writes, keys, got -/
structure Rows5 where
  e : Value
  p : Value × Value
  k : Value
  g : Value
def cellsM (m : MsgT) (r : Rows5) : List Value :=
  [.int .i64 m.kind, .int .i64 m.frm, .int .i64 m.to, .int .i64 m.part, .int .i64 m.term, .int .i64 m.index, .int .i64 m.logTerm, .int .i64 m.commit, .bool m.ok, r.e, .int .i64 m.t.ses, .int .i64 m.t.seq, r.p.1, r.p.2,
    .int .i64 m.ses, .int .i64 m.seq, .int .i64 m.pos, .int .i64 m.shard, .bool m.span, .string m.fromKey, .string m.toKey, r.k, r.g, .int .i64 m.err]
structure MsgR (X : Nat → Prop) (w : World) (m : MsgT) (r : Rows5) : Prop where
  e : EntsX X w r.e m.entries
  p : RowsX X w m.t r.p
  k : RowX X 1 w r.k (m.keys.map strC)
  g : RowX X 4 w r.g (m.got.map rdC)
theorem MsgR.move {X X' : Nat → Prop} {w w' : World} {m : MsgT} {r : Rows5} (h : MsgR X w m r) (hm : Moves X X' w w') : MsgR X' w' m r := ⟨h.e.move hm, h.p.move hm, h.k.move hm (strC_pos _), h.g.move hm (rdC_pos _)⟩
theorem MsgR.wide {X X' : Nat → Prop} {w : World} {m : MsgT} {r : Rows5} (h : MsgR X w m r) (hx : ∀ j, X j → X' j) : MsgR X' w m r := ⟨h.e.wide hx, h.p.wide hx, h.k.wide hx, h.g.wide hx⟩
/-- a letter as a value -/
def MsgX (X : Nat → Prop) (w : World) (v : Value) (m : MsgT) : Prop := ∃ r, v = .agg (cellsM m r).toArray ∧ MsgR X w m r
abbrev MsgAt (w : World) (v : Value) (m : MsgT) : Prop := MsgX Any w v m
theorem MsgX.gr {X : Nat → Prop} {w w' : World} {v : Value} {m : MsgT} (h : MsgX X w v m) (hg : Gr w w') : MsgX X w' v m := by
  obtain ⟨r, e, h⟩ := h
  exact ⟨r, e, h.move (Moves.of_gr hg)⟩

/-- cells side by side -/
def Sit (w : World) (k o : Nat) (l : List Value) : Prop := ∀ i u, l[i]? = some u → w.cell? ⟨k, o + i, none⟩ = some u
theorem Sit.bl {w : World} {k : Nat} {t : TypeId} {cs : List Value} (h : Bl w k t cs.toArray) : Sit w k 0 cs := fun i u hi => by
  rw [Nat.zero_add, h.cell i]
  simpa using hi
theorem Sit.head {w : World} {k o : Nat} {u : Value} {l : List Value} (h : Sit w k o (u :: l)) : w.cell? ⟨k, o, none⟩ = some u := h 0 u rfl
theorem Sit.tail {w : World} {k o : Nat} {u : Value} {l : List Value} (h : Sit w k o (u :: l)) : Sit w k (o + 1) l := fun i x hi => by
  have := h (i + 1) x (by simpa using hi)
  rwa [show o + (i + 1) = o + 1 + i from by omega] at this
theorem Sit.app {w : World} {k o : Nat} {l r : List Value} (h : Sit w k o l) (h2 : Sit w k (o + l.length) r) : Sit w k o (l ++ r) := fun i u hi => by
  rcases Nat.lt_or_ge i l.length with hl | hl
  · rw [List.getElem?_append_left hl] at hi
    exact h i u hi
  · rw [List.getElem?_append_right hl] at hi
    have := h2 _ u hi
    rwa [show o + l.length + (i - l.length) = o + i from by omega] at this
theorem Sit.left {w : World} {k o : Nat} {l r : List Value} (h : Sit w k o (l ++ r)) : Sit w k o l := fun i u hi => h i u (by rw [List.getElem?_append_left (List.getElem?_eq_some_iff.1 hi).1]; exact hi)
theorem Sit.right {w : World} {k o : Nat} {l r : List Value} (h : Sit w k o (l ++ r)) : Sit w k (o + l.length) r := fun i u hi => by
  have := h (l.length + i) u (by rw [List.getElem?_append_right (by omega)]; simpa using hi)
  rwa [show o + (l.length + i) = o + l.length + i from by omega] at this
theorem Sit.of_block {w w' : World} {k o : Nat} {l : List Value} (h : Sit w k o l) (hb : w'.heap[k]? = w.heap[k]?) : Sit w' k o l := fun i u hi => by
  exact (World.cell?_of_block (show w'.heap[(⟨k, o + i, none⟩ : Addr).block]? = w.heap[(⟨k, o + i, none⟩ : Addr).block]? from hb)).trans (h i u hi)
theorem Sit.lt {w : World} {k o : Nat} {u : Value} {l : List Value} (h : Sit w k o (u :: l)) : k < w.heap.size := World.block_lt_of_cell? w _ h.head

end Go.Proofs.Ythpaoeiackbdoaa
