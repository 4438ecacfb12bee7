/-
  No cell of these rows narrows 'for every input' (looked for: loops, veiled, ifaces, maps, wideKeys, modest, calm, conditions, laid).
  DERIVED. THE GIVEN ROWS OF THIS SEAT. 3 by the template 'for every input the law returns true; each argument reads behind the call as it read before'; 0 by the template 'total and deterministic' (their statements: YtgocapmclhimdaaTotals.lean).
  GIVEN WITH THE SEED: the statements are not yours to turn. If you find one false, say at which input.
  Laid BY PROGRAM, IN A SANDBOX (cutbox-rows.mjs): the forced cells as the released guide's own fill.sh prints them over the translation 9a065781bca61e9d… (all of the seat's roots in one cut). By AI agents, Wed Nov 11 2026. No macro, syntax, notation, axiom, sorry.
-/
import Derived.Test.YtgocapmclhimdaaChecked
import GoSem.Claim
import GoSem.ClaimJoined
import GoSem.ClaimMapViews
import Derived.JoinedTies
import Derived.KernelRfl
namespace Go.Proofs.Ytgocapmclhimdaa
/- THE CELL 'sum', in the pinned program and in every row, IS THE sha256 OF THE DUMP (.gsa) THAT YtgocapmclhimdaaProg.lean LOADS. Nothing in Lean hashes anything: it is a label: what it is worth is what the hold of that sum in a sandbox is worth. -/
noncomputable def Try.pinned : Pinned := { name := "ytgocapmclhimdaa", sum := "9a065781bca61e9dc281e885c388e452deede3914116e22d0571b59c6ec7cb9e", checked := Try.checked }
namespace Rows
def none {H : Type} : Left H := { results := [], args := [] }

/-- 'diwanlaw17.SeatAll': WHATEVER THE INPUT: true; the input reads as it did. -/
def seatAllSpec : ChangeSpec := { name := "seatAll", fn := fun _ => fun
  | [d1, d2, d3, d4] => { results := [.lit (.bool true)], args := [d1, d2, d3, d4] }
  | _ => none }
def seatAllRow : OpenClaim := { program := "ytgocapmclhimdaa", sum := "9a065781bca61e9dc281e885c388e452deede3914116e22d0571b59c6ec7cb9e", func := "diwan/diwanlaw17.SeatAll", spec := "seatAll", inPlace := ["slices.overlaps[diwan/api.Seat]"], unfollowed := true, recurses := true, apart := false }
def SeatAllSaid : Prop := seatAllRow.holds Try.pinned (OpenSpec.ofChange seatAllSpec)

/-- ITS FALSE NEIGHBOUR: 'it returns false'. Refute it at one input. -/
def seatAllWrong : ChangeSpec := { name := "seatAll", fn := fun _ => fun
  | [d1, d2, d3, d4] => { results := [.lit (.bool false)], args := [d1, d2, d3, d4] }
  | _ => none }
def SeatAllWrongFalsely : Prop := seatAllRow.holds Try.pinned (OpenSpec.ofChange seatAllWrong)

/-- 'diwanlaw17.SeatOnce': WHATEVER THE INPUT: true; the input reads as it did. -/
def seatOnceSpec : ChangeSpec := { name := "seatOnce", fn := fun _ => fun
  | [d] => { results := [.lit (.bool true)], args := [d] }
  | _ => none }
def seatOnceRow : OpenClaim := { program := "ytgocapmclhimdaa", sum := "9a065781bca61e9dc281e885c388e452deede3914116e22d0571b59c6ec7cb9e", func := "diwan/diwanlaw17.SeatOnce", spec := "seatOnce", inPlace := ["slices.overlaps[diwan/api.Seat]"], unfollowed := true, recurses := true, apart := false }
def SeatOnceSaid : Prop := seatOnceRow.holds Try.pinned (OpenSpec.ofChange seatOnceSpec)

/-- ITS FALSE NEIGHBOUR: 'it returns false'. Refute it at one input. -/
def seatOnceWrong : ChangeSpec := { name := "seatOnce", fn := fun _ => fun
  | [d] => { results := [.lit (.bool false)], args := [d] }
  | _ => none }
def SeatOnceWrongFalsely : Prop := seatOnceRow.holds Try.pinned (OpenSpec.ofChange seatOnceWrong)

/-- 'diwanlaw17.SeatForms': WHATEVER THE INPUT: true; the input reads as it did. -/
def seatFormsSpec : ChangeSpec := { name := "seatForms", fn := fun _ => fun
  | [] => { results := [.lit (.bool true)], args := [] }
  | _ => none }
def seatFormsRow : OpenClaim := { program := "ytgocapmclhimdaa", sum := "9a065781bca61e9dc281e885c388e452deede3914116e22d0571b59c6ec7cb9e", func := "diwan/diwanlaw17.SeatForms", spec := "seatForms", inPlace := ["slices.overlaps[diwan/api.Seat]"], unfollowed := true, recurses := true, apart := false }
def SeatFormsSaid : Prop := seatFormsRow.holds Try.pinned (OpenSpec.ofChange seatFormsSpec)

/-- ITS FALSE NEIGHBOUR: 'it returns false'. Refute it at one input. -/
def seatFormsWrong : ChangeSpec := { name := "seatForms", fn := fun _ => fun
  | [] => { results := [.lit (.bool false)], args := [] }
  | _ => none }
def SeatFormsWrongFalsely : Prop := seatFormsRow.holds Try.pinned (OpenSpec.ofChange seatFormsWrong)

/- THE SECOND FORM. 'bulk': how many values and letters a reading holds, each counted each time it is reached (what is shared counts as often as it is met; a slice's spare places count too). A statement '..UptoSaid' is the law's where the arguments, and the package variables that the reading takes, are together of bulk at most 1048576: NARROWER than '..Said'. Prove '..Said' where nothing that the law and all that it calls make is longer than what came in: it says more and counts as full. Else prove '..UptoSaid'. A law counts once. -/
mutual
def uptoBulk {H : Type} : DataW H → Nat
  | .lit (.string bytes) => bytes.length + 1
  | .lit _ => 1
  | .nil => 1
  | .ptr d => uptoBulk d + 1
  | .slice elems spare => uptoBulkAll elems + uptoBulkAll spare + 1
  | .agg parts => uptoBulkAll parts + 1
  | .iface _ d => uptoBulk d + 1
  | .map entries => uptoBulkEntries entries + 1
  | .held _ => 1
def uptoBulkAll {H : Type} : List (DataW H) → Nat
  | [] => 0
  | d :: r => uptoBulk d + uptoBulkAll r
def uptoBulkEntries {H : Type} : List (Lit × DataW H) → Nat
  | [] => 0
  | x :: r => uptoBulkEntry x + uptoBulkEntries r
def uptoBulkEntry {H : Type} : Lit × DataW H → Nat
  | (.string bytes, d) => bytes.length + uptoBulk d + 1
  | (_, d) => uptoBulk d + 1
 end
def uptoSmall : (H : Type) → List (DataW H) → Bool := fun _ ds => decide (uptoBulkAll ds ≤ 1048576)
def OpenSpec.upto (s : _root_.Go.ChangeSpec) : _root_.Go.OpenSpec := { _root_.Go.OpenSpec.ofChange s with cond := some uptoSmall }

/-- 'diwanlaw17.SeatAll', WHERE WHAT IT READS IS OF BULK AT MOST 1048576: true; the input reads as it did. -/
def seatAllUptoRow : OpenClaim := { program := "ytgocapmclhimdaa", sum := "9a065781bca61e9dc281e885c388e452deede3914116e22d0571b59c6ec7cb9e", func := "diwan/diwanlaw17.SeatAll", spec := "seatAll", inPlace := ["slices.overlaps[diwan/api.Seat]"], unfollowed := true, recurses := true, apart := false, narrowed := true }
def SeatAllUptoSaid : Prop := seatAllUptoRow.holds Try.pinned (OpenSpec.upto seatAllSpec)

/-- 'diwanlaw17.SeatOnce', WHERE WHAT IT READS IS OF BULK AT MOST 1048576: true; the input reads as it did. -/
def seatOnceUptoRow : OpenClaim := { program := "ytgocapmclhimdaa", sum := "9a065781bca61e9dc281e885c388e452deede3914116e22d0571b59c6ec7cb9e", func := "diwan/diwanlaw17.SeatOnce", spec := "seatOnce", inPlace := ["slices.overlaps[diwan/api.Seat]"], unfollowed := true, recurses := true, apart := false, narrowed := true }
def SeatOnceUptoSaid : Prop := seatOnceUptoRow.holds Try.pinned (OpenSpec.upto seatOnceSpec)

/-- 'diwanlaw17.SeatForms', WHERE WHAT IT READS IS OF BULK AT MOST 1048576: true; the input reads as it did. -/
def seatFormsUptoRow : OpenClaim := { program := "ytgocapmclhimdaa", sum := "9a065781bca61e9dc281e885c388e452deede3914116e22d0571b59c6ec7cb9e", func := "diwan/diwanlaw17.SeatForms", spec := "seatForms", inPlace := ["slices.overlaps[diwan/api.Seat]"], unfollowed := true, recurses := true, apart := false, narrowed := true }
def SeatFormsUptoSaid : Prop := seatFormsUptoRow.holds Try.pinned (OpenSpec.upto seatFormsSpec)

end Rows
end Go.Proofs.Ytgocapmclhimdaa
