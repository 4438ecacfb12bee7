/-
  A member of a log of many, as a plain machine: what each of its functions makes of a state and of the letters that it has written. No program.
-/
import Derived.Test.YthpaoeiackbdoaaBalNext
import Derived.Test.YthpaoeiackbdoaaMsgRows
namespace Go.Proofs.Ythpaoeiackbdoaa.RfMath
open Go TxnMath KeyMath MsgMath BalMath Go.Proofs.Ythpaoeiackbdoaa

structure RaftT where
  me : Int
  nodes : Int
  wait : Int
  term : Int
  vote : Int
  log : List EntT
  commit : Int
  role : Int
  leader : Int
  votes : List Bool
  next : List Int
  mtch : List Int
  clock : Int
deriving DecidableEq
/-- a member in its turn: its state, the letters that it has written -/
structure StT where
  r : RaftT
  out : List MsgT

/-- of member i -/
def nthI (l : List Int) (i : Int) : Int := l.getD (i - 1).toNat 0
def putI (l : List Int) (i x : Int) : List Int := l.set (i - 1).toNat x

def sendS (to : Int) (l : MsgT) (s : StT) : StT := { s with out := s.out ++ [{ l with frm := s.r.me, to := to, term := s.r.term }] }
/-- to all others, rising -/
def upTo (f : Int → StT → StT) (s : StT) : Nat → StT
  | 0 => s
  | k + 1 => if (k : Int) + 1 = s.r.me then upTo f s k else f (k + 1) (upTo f s k)
def toAllS (f : Int → StT → StT) (s : StT) : StT := upTo f s s.r.nodes.toNat

def askM (r : RaftT) : MsgT := { noMsg with kind := 1, index := r.log.length, logTerm := termL r.log r.log.length }
def askS (to : Int) (s : StT) : StT := sendS to (askM s.r) s
/-- how many are ahead of what a member is sent -/
def aheadR (r : RaftT) (to : Int) : Int := min (max (nthI r.next to) 1) (r.log.length + 1) - 1
def entM (r : RaftT) (to : Int) : MsgT :=
  { noMsg with kind := 3, index := aheadR r to, logTerm := termL r.log (aheadR r to), commit := r.commit, entries := (r.log.take (min (aheadR r to + 4) r.log.length).toNat).drop (aheadR r to).toNat }
def entS (to : Int) (s : StT) : StT := sendS to (entM s.r to) s
def allS (s : StT) : StT := toAllS entS s

def commitR (r : RaftT) : RaftT := { r with commit := nextL r.mtch r.log r.term r.commit }
/-- e, of its term, at the end -/
def addR (e : EntT) (r : RaftT) : RaftT := commitR { r with log := r.log ++ [{ e with term := r.term }], mtch := putI r.mtch r.me (r.log.length + 1) }
def fullR (r : RaftT) : Bool := decide (200 ≤ r.log.length)
def addS (e : EntT) (s : StT) : StT := if fullR s.r = true then s else allS { s with r := addR e s.r }
def leadR (r : RaftT) : RaftT := { r with role := 2, leader := r.me, clock := 0, next := List.replicate r.nodes.toNat (r.log.length + 1), mtch := putI (List.replicate r.nodes.toNat 0) r.me r.log.length }
def sealE : EntT := ⟨0, true, noTxn⟩
def leadS (s : StT) : StT := if fullR s.r = true then allS { s with r := leadR s.r } else addS sealE { s with r := leadR s.r }
def electedR (r : RaftT) : Bool := decide (majN r.nodes.toNat ≤ manyL r.votes)
def electS (s : StT) : StT := if electedR s.r = true then leadS s else s

def standR (r : RaftT) : RaftT := { r with term := r.term + 1, role := 1, vote := r.me, leader := 0, clock := 0, votes := (List.replicate r.votes.length false).set (r.me - 1).toNat true }
def standS (s : StT) : StT := if electedR (standR s.r) = true then leadS { s with r := standR s.r } else toAllS askS { s with r := standR s.r }
def waitS (s : StT) : StT := if s.r.clock < s.r.wait - 1 then { s with r := { s.r with clock := s.r.clock + 1 } } else standS s
def tickS (s : StT) : StT := if s.r.role = 2 then allS s else waitS s

def turnR (t : Int) (r : RaftT) : RaftT := { r with role := 0, term := t, vote := 0, leader := 0, votes := List.replicate r.votes.length false }
def judgeB (l : MsgT) (r : RaftT) : Bool := (decide (r.vote = 0) || decide (r.vote = l.frm)) && newerL r.log l.index l.logTerm
def judgeS (l : MsgT) (s : StT) : StT :=
  if judgeB l s.r = true then sendS l.frm { noMsg with kind := 2, ok := true } { s with r := { s.r with vote := l.frm, clock := 0 } }
  else sendS l.frm { noMsg with kind := 2 } s
def countS (l : MsgT) (s : StT) : StT := if l.ok = true then electS { s with r := { s.r with votes := s.r.votes.set (l.frm - 1).toNat true } } else s
def voteS (l : MsgT) (s : StT) : StT := if s.r.role = 1 then countS l s else s
def followR (l : MsgT) (r : RaftT) : RaftT := { r with role := 0, leader := l.frm, clock := 0 }
def followS (l : MsgT) (s : StT) : StT :=
  let s1 : StT := { s with r := followR l s.r }
  if hasL s.r.log l.index l.logTerm = true then
    if 200 < (joinL s.r.log l.index l.entries).length then sendS l.frm { noMsg with kind := 4 } s1
    else sendS l.frm { noMsg with kind := 4, ok := true, index := l.index + l.entries.length } { s1 with r := { s1.r with log := joinL s.r.log l.index l.entries, commit := max s.r.commit (min l.commit (l.index + l.entries.length)) } }
  else sendS l.frm { noMsg with kind := 4, index := min (max l.index 1 - 1) s.r.log.length } s1
def entriesS (l : MsgT) (s : StT) : StT := if s.r.role = 2 then s else followS l s
def backR (l : MsgT) (r : RaftT) : RaftT := { r with next := putI r.next l.frm (max (min (nthI r.next l.frm - 2) l.index) (nthI r.mtch l.frm) + 1) }
def matchR (l : MsgT) (r : RaftT) : Int := min (max (nthI r.mtch l.frm) l.index) r.log.length
def gotR (l : MsgT) (r : RaftT) : RaftT := commitR { r with mtch := putI r.mtch l.frm (matchR l r), next := putI r.next l.frm (matchR l r + 1) }
def answerS (l : MsgT) (s : StT) : StT :=
  if l.ok = true then (if matchR l s.r < s.r.log.length then entS l.frm { s with r := gotR l s.r } else { s with r := gotR l s.r })
  else entS l.frm { s with r := backR l s.r }
def appendedS (l : MsgT) (s : StT) : StT := if s.r.role = 2 then answerS l s else s
/-- a letter of a term below -/
def lateS (l : MsgT) (s : StT) : StT :=
  if l.kind = 1 then sendS l.frm { noMsg with kind := 2 } s else if l.kind = 3 then sendS l.frm { noMsg with kind := 4 } s else s
/-- a letter of the term that is now -/
def nowS (l : MsgT) (s : StT) : StT :=
  if l.kind = 1 then judgeS l s else if l.kind = 2 then voteS l s else if l.kind = 3 then entriesS l s else if l.kind = 4 then appendedS l s else s
def turnS (l : MsgT) (s : StT) : StT := if s.r.term < l.term then { s with r := turnR l.term s.r } else s
def takeS (l : MsgT) (s : StT) : StT := if l.term < (turnS l s).r.term then lateS l (turnS l s) else nowS l (turnS l s)
def proposeS (e : EntT) (s : StT) : StT := if s.r.role = 2 then addS e s else s
def proposeB (s : StT) : Bool := decide (s.r.role = 2) && !fullR s.r

/-! What a call tells. -/
def withinB (v a b : Int) : Bool := decide (a ≤ v) && decide (v ≤ b)
def mayFrom (term : Int) : Int → List EntT → Bool
  | _, [] => true
  | p, e :: l => withinB e.term p term && mayFrom term e.term l
def mayLogB (l : List EntT) (term : Int) : Bool := decide (l.length ≤ 200) && mayFrom term 1 l
def mayR (r : RaftT) : Bool :=
  withinB r.nodes 1 5 && withinB r.me 1 r.nodes && withinB r.wait 1 60 && decide (0 ≤ r.term) && withinB r.vote 0 r.nodes && withinB r.leader 0 r.nodes &&
  mayLogB r.log r.term && withinB r.commit 0 r.log.length && withinB r.role 0 2 &&
  decide ((r.votes.length : Int) = r.nodes) && decide ((r.next.length : Int) = r.nodes) && decide ((r.mtch.length : Int) = r.nodes) && decide (0 ≤ r.clock)
def isFor (l : MsgT) (r : RaftT) : Bool := withinB l.frm 1 r.nodes && !decide (l.frm = r.me) && decide (l.to = r.me)
def tickT (r : RaftT) : StT := if mayR r = true then tickS ⟨r, []⟩ else ⟨r, []⟩
def takeB (r : RaftT) (l : MsgT) : Bool := mayR r && isFor l r && decide (l.kind < 5)
def takeT (r : RaftT) (l : MsgT) : StT := if takeB r l = true then takeS l ⟨r, []⟩ else ⟨r, []⟩
def propT (r : RaftT) (e : EntT) : StT := if mayR r = true then proposeS e ⟨r, []⟩ else ⟨r, []⟩
def propB (r : RaftT) : Bool := mayR r && proposeB ⟨r, []⟩
def newR (me nodes wait : Int) : RaftT :=
  if withinB nodes 1 5 = true then ⟨me, nodes, wait, 0, 0, [], 0, 0, 0, List.replicate nodes.toNat false, List.replicate nodes.toNat 0, List.replicate nodes.toNat 0, 0⟩
  else ⟨me, nodes, wait, 0, 0, [], 0, 0, 0, [], [], [], 0⟩
def againR (r : RaftT) : RaftT := { newR r.me r.nodes r.wait with term := r.term, vote := r.vote, log := r.log }

/-- what the walks of a member's functions ask of its state: lists of so many places, numbers that stay numbers -/
structure Rk (r : RaftT) : Prop where
  nodes : 1 ≤ r.nodes ∧ r.nodes ≤ 5
  me : 1 ≤ r.me ∧ r.me ≤ r.nodes
  wait : 1 ≤ r.wait ∧ r.wait ≤ 60
  term : 0 ≤ r.term ∧ r.term ≤ 1152921504606846976
  len : r.log.length ≤ 200
  bnd : ∀ e ∈ r.log, EntBnd e
  commit : 0 ≤ r.commit
  votes : (r.votes.length : Int) = r.nodes
  next : (r.next.length : Int) = r.nodes
  mtch : (r.mtch.length : Int) = r.nodes
  nexts : ∀ x ∈ r.next, 0 ≤ x ∧ x ≤ 1152921504606846976
  mtchs : ∀ x ∈ r.mtch, 0 ≤ x ∧ x ≤ 1000000
  clock : 0 ≤ r.clock

theorem upTo_r {f : Int → StT → StT} (h : ∀ i s, (f i s).r = s.r) (s : StT) : ∀ k, (upTo f s k).r = s.r
  | 0 => rfl
  | k + 1 => by
    unfold upTo
    split
    · exact upTo_r h s k
    · rw [h, upTo_r h s k]
theorem upTo_out {f : Int → StT → StT} (h : ∀ i s, (f i s).out.length = s.out.length + 1) (s : StT) : ∀ k, (upTo f s k).out.length ≤ s.out.length + k
  | 0 => Nat.le_refl _
  | k + 1 => by
    have := upTo_out h s k
    unfold upTo
    split
    · omega
    · rw [h]; omega
theorem send_r (to : Int) (l : MsgT) (s : StT) : (sendS to l s).r = s.r := rfl
theorem send_out (to : Int) (l : MsgT) (s : StT) : (sendS to l s).out.length = s.out.length + 1 := by simp [sendS]
theorem ent_r (to : Int) (s : StT) : (entS to s).r = s.r := rfl
theorem ask_r (to : Int) (s : StT) : (askS to s).r = s.r := rfl
theorem all_r (s : StT) : (allS s).r = s.r := upTo_r ent_r s _

theorem put_len (l : List Int) (i x : Int) : (putI l i x).length = l.length := by simp [putI]
theorem put_mem {l : List Int} {i x y : Int} (h : y ∈ putI l i x) : y ∈ l ∨ y = x := List.mem_or_eq_of_mem_set h
theorem nth_mem {l : List Int} {i : Int} (h1 : 1 ≤ i) (h2 : i ≤ (l.length : Int)) : nthI l i ∈ l := by
  unfold nthI
  rw [List.getD_eq_getElem?_getD, List.getElem?_eq_getElem (by omega)]
  exact List.getElem_mem _

end Go.Proofs.Ythpaoeiackbdoaa.RfMath
