/-
  What Put, Take and All of layer 3 come to, as posts. No program.
-/
import Derived.Test.YtkcfieoflkhdpaaDoorFrameMath
import Derived.Test.YtkcfieoflkhdpaaDoorBaseW
namespace Go.Proofs.YtkcfieoflkhdpaaDoor
open Go.RowKit FrameMath

def putL (l : List UInt8) : List UInt8 := if l.length ≤ 60000 then enc l else []
def putB (l : List UInt8) : Bool := decide (l.length ≤ 60000)
def takeL (b : List UInt8) : List UInt8 := if Is b then ftext b else []
def takeK (b : List UInt8) : Int := if Is b then ((flen b + 6 : Nat) : Int) else 0
def takeB (b : List UInt8) : Bool := decide (Is b)
def allK (b : List UInt8) : Int := ((fspan (all b) : Nat) : Int)

/-- what Put comes to: bytes of its own -/
def PutPost (w : World) (l : List UInt8) (e : Ending) (w' : World) : Prop := ∃ v t, e = .returned (.tuple #[v, .bool (putB l)]) ∧ OwnE t w' w.heap.size v (putL l) ∧ Gr w w'
/-- what Take comes to -/
def TakePost (w : World) (b : List UInt8) (e : Ending) (w' : World) : Prop := ∃ A c, e = .returned (.tuple #[.slice A (takeL b).length c, .int .i64 (takeK b), .bool (takeB b)]) ∧ By w' A c (takeL b) ∧ Gr w w'
/-- what All comes to -/
def AllPost (w : World) (b : List UInt8) (e : Ending) (w' : World) : Prop := ∃ A c, e = .returned (.tuple #[.slice A (all b).length c, .int .i64 (allK b)]) ∧ Rws w' A c (all b) ∧ Gr w w'

theorem putL_yes {l : List UInt8} (h : l.length ≤ 60000) : putL l = enc l ∧ putB l = true := by simp [putL, putB, h]
theorem putL_no {l : List UInt8} (h : ¬ l.length ≤ 60000) : putL l = [] ∧ putB l = false := by simp [putL, putB, h]
theorem take_yes {b : List UInt8} (h : Is b) : takeL b = ftext b ∧ takeK b = ((flen b + 6 : Nat) : Int) ∧ takeB b = true := by simp [takeL, takeK, takeB, h]
theorem take_no {b : List UInt8} (h : ¬ Is b) : takeL b = [] ∧ takeK b = 0 ∧ takeB b = false := by simp [takeL, takeK, takeB, h]

end Go.Proofs.YtkcfieoflkhdpaaDoor
