/-
  DERIVED. GIVEN WITH THE SEED: THE CARDS: each row of YtkcfieoflkhdpaaDoorRows.lean that lists a variable, with what it lists TIED to the program's text (the seventh form; the later family's looks); each row that meets fmt, with fmt's text TOLD by the authors' own Lean function (tested against real Go, not proved from fmt's source: count such statements apart). THE CARD IS WHAT COUNTS. Prove the row's statement (the work); the ties are given (YtkcfieoflkhdpaaDoorTie.lean); close each card by the builder's one call (the guide's Derived/Test/ToyasCard.lean, 'card_holds'). Laid BY PROGRAM, IN A SANDBOX (cutbox-door.mjs). By AI agents, Wed Nov 11 2026. No macro, syntax, notation, axiom, sorry.
-/
import Derived.Test.YtkcfieoflkhdpaaDoorRows
import GoSem.ClaimSeven
namespace Go.Proofs.YtkcfieoflkhdpaaDoor
namespace Rows

/-- THE TIED CARD OF 'diwanlaw8.WalAll'. -/
def walAllCard : Claim7 := { stood := { row := walAllRow, standIns := [], harness := (true, "7b4e4dadb229a3df986aa0f37e74856d14395bdb5de69c62d791a33d451a0cc3"), looks := false }, kinds := [], alts := [], laidByText := true, laidKinds := [.data, .data, .data], laidTests := true, laidLooks := .later }
def WalAllCardSaid : Prop := Claim7.holds Tryd.pinned (.plain (OpenSpec.ofChange walAllSpec)) walAllCard

/-- THE SECOND FORM's CARD OF 'diwanlaw8.WalAll'. -/
def walAllUptoCard : Claim7 := { stood := { row := walAllUptoRow, standIns := [], harness := (true, "7b4e4dadb229a3df986aa0f37e74856d14395bdb5de69c62d791a33d451a0cc3"), looks := false }, kinds := [], alts := [], laidByText := true, laidKinds := [.data, .data, .data], laidTests := true, laidLooks := .later }
def WalAllUptoCardSaid : Prop := Claim7.holds Tryd.pinned (.plain (OpenSpec.upto walAllSpec)) walAllUptoCard
end Rows
end Go.Proofs.YtkcfieoflkhdpaaDoor
