/-
  No cell of these rows narrows 'for every input' (looked for: loops, veiled, ifaces, maps, wideKeys, modest, calm, conditions, laid).
  DERIVED. THE GIVEN ROWS OF THIS SEAT. 4 by the template 'for every input the law returns true; each argument reads behind the call as it read before'; 0 by the template 'total and deterministic' (their statements: YtjpdhijhmpdbnaaTotals.lean).
  GIVEN WITH THE SEED: the statements are not yours to turn. If you find one false, say at which input.
  Laid BY PROGRAM, IN A SANDBOX (cutbox-rows.mjs): the forced cells as the released guide's own fill.sh prints them over the translation 9a8fd0aa1b57017a… (all of the seat's roots in one cut). By AI agents, Wed Nov 11 2026. No macro, syntax, notation, axiom, sorry.
-/
import Derived.Test.YtjpdhijhmpdbnaaChecked
import GoSem.Claim
import GoSem.ClaimJoined
import GoSem.ClaimMapViews
import Derived.JoinedTies
import Derived.KernelRfl
namespace Go.Proofs.Ytjpdhijhmpdbnaa
/- THE CELL 'sum', in the pinned program and in every row, IS THE sha256 OF THE DUMP (.gsa) THAT YtjpdhijhmpdbnaaProg.lean LOADS. Nothing in Lean hashes anything: it is a label: what it is worth is what the hold of that sum in a sandbox is worth. -/
noncomputable def Try.pinned : Pinned := { name := "ytjpdhijhmpdbnaa", sum := "9a8fd0aa1b57017a2a6bbe7c47b3a6a59dfd569855f191f587636bafccbf44d1", checked := Try.checked }
namespace Rows
def none {H : Type} : Left H := { results := [], args := [] }

/-- 'diwanlaw5.TxnBack': WHATEVER THE INPUT: true; the input reads as it did. -/
def txnBackSpec : ChangeSpec := { name := "txnBack", fn := fun _ => fun
  | [d1, d2, d3] => { results := [.lit (.bool true)], args := [d1, d2, d3] }
  | _ => none }
def txnBackRow : OpenClaim := { program := "ytjpdhijhmpdbnaa", sum := "9a8fd0aa1b57017a2a6bbe7c47b3a6a59dfd569855f191f587636bafccbf44d1", func := "diwan/diwanlaw5.TxnBack", spec := "txnBack", unfollowed := true, recurses := true, apart := false }
def TxnBackSaid : Prop := txnBackRow.holds Try.pinned (OpenSpec.ofChange txnBackSpec)

/-- ITS FALSE NEIGHBOUR: 'it returns false'. Refute it at one input. -/
def txnBackWrong : ChangeSpec := { name := "txnBack", fn := fun _ => fun
  | [d1, d2, d3] => { results := [.lit (.bool false)], args := [d1, d2, d3] }
  | _ => none }
def TxnBackWrongFalsely : Prop := txnBackRow.holds Try.pinned (OpenSpec.ofChange txnBackWrong)

/-- 'diwanlaw5.TxnForms': WHATEVER THE INPUT: true; the input reads as it did. -/
def txnFormsSpec : ChangeSpec := { name := "txnForms", fn := fun _ => fun
  | [] => { results := [.lit (.bool true)], args := [] }
  | _ => none }
def txnFormsRow : OpenClaim := { program := "ytjpdhijhmpdbnaa", sum := "9a8fd0aa1b57017a2a6bbe7c47b3a6a59dfd569855f191f587636bafccbf44d1", func := "diwan/diwanlaw5.TxnForms", spec := "txnForms", unfollowed := true, recurses := true, apart := false }
def TxnFormsSaid : Prop := txnFormsRow.holds Try.pinned (OpenSpec.ofChange txnFormsSpec)

/-- ITS FALSE NEIGHBOUR: 'it returns false'. Refute it at one input. -/
def txnFormsWrong : ChangeSpec := { name := "txnForms", fn := fun _ => fun
  | [] => { results := [.lit (.bool false)], args := [] }
  | _ => none }
def TxnFormsWrongFalsely : Prop := txnFormsRow.holds Try.pinned (OpenSpec.ofChange txnFormsWrong)

/-- 'diwanlaw5.TxnTouch': WHATEVER THE INPUT: true; the input reads as it did. -/
def txnTouchSpec : ChangeSpec := { name := "txnTouch", fn := fun _ => fun
  | [d1, d2] => { results := [.lit (.bool true)], args := [d1, d2] }
  | _ => none }
def txnTouchRow : OpenClaim := { program := "ytjpdhijhmpdbnaa", sum := "9a8fd0aa1b57017a2a6bbe7c47b3a6a59dfd569855f191f587636bafccbf44d1", func := "diwan/diwanlaw5.TxnTouch", spec := "txnTouch", unfollowed := true, recurses := true, apart := false }
def TxnTouchSaid : Prop := txnTouchRow.holds Try.pinned (OpenSpec.ofChange txnTouchSpec)

/-- ITS FALSE NEIGHBOUR: 'it returns false'. Refute it at one input. -/
def txnTouchWrong : ChangeSpec := { name := "txnTouch", fn := fun _ => fun
  | [d1, d2] => { results := [.lit (.bool false)], args := [d1, d2] }
  | _ => none }
def TxnTouchWrongFalsely : Prop := txnTouchRow.holds Try.pinned (OpenSpec.ofChange txnTouchWrong)

/-- 'diwanlaw5.TxnApart': WHATEVER THE INPUT: true; the input reads as it did. -/
def txnApartSpec : ChangeSpec := { name := "txnApart", fn := fun _ => fun
  | [d1, d2] => { results := [.lit (.bool true)], args := [d1, d2] }
  | _ => none }
def txnApartRow : OpenClaim := { program := "ytjpdhijhmpdbnaa", sum := "9a8fd0aa1b57017a2a6bbe7c47b3a6a59dfd569855f191f587636bafccbf44d1", func := "diwan/diwanlaw5.TxnApart", spec := "txnApart", unfollowed := true, recurses := true, apart := false }
def TxnApartSaid : Prop := txnApartRow.holds Try.pinned (OpenSpec.ofChange txnApartSpec)

/-- ITS FALSE NEIGHBOUR: 'it returns false'. Refute it at one input. -/
def txnApartWrong : ChangeSpec := { name := "txnApart", fn := fun _ => fun
  | [d1, d2] => { results := [.lit (.bool false)], args := [d1, d2] }
  | _ => none }
def TxnApartWrongFalsely : Prop := txnApartRow.holds Try.pinned (OpenSpec.ofChange txnApartWrong)

/- THE SECOND FORM. 'bulk': how many values and letters a reading holds, each counted each time it is reached (what is shared counts as often as it is met; a slice's spare places count too). A statement '..UptoSaid' is the law's where the arguments, and the package variables that the reading takes, are together of bulk at most 1048576: NARROWER than '..Said'. Prove '..Said' where nothing that the law and all that it calls make is longer than what came in: it says more and counts as full. Else prove '..UptoSaid'. A law counts once. -/
mutual
def uptoBulk {H : Type} : DataW H → Nat
  | .lit (.string bytes) => bytes.length + 1
  | .lit _ => 1
  | .nil => 1
  | .ptr d => uptoBulk d + 1
  | .slice elems spare => uptoBulkAll elems + uptoBulkAll spare + 1
  | .agg parts => uptoBulkAll parts + 1
  | .iface _ d => uptoBulk d + 1
  | .map entries => uptoBulkEntries entries + 1
  | .held _ => 1
def uptoBulkAll {H : Type} : List (DataW H) → Nat
  | [] => 0
  | d :: r => uptoBulk d + uptoBulkAll r
def uptoBulkEntries {H : Type} : List (Lit × DataW H) → Nat
  | [] => 0
  | x :: r => uptoBulkEntry x + uptoBulkEntries r
def uptoBulkEntry {H : Type} : Lit × DataW H → Nat
  | (.string bytes, d) => bytes.length + uptoBulk d + 1
  | (_, d) => uptoBulk d + 1
 end
def uptoSmall : (H : Type) → List (DataW H) → Bool := fun _ ds => decide (uptoBulkAll ds ≤ 1048576)
def OpenSpec.upto (s : _root_.Go.ChangeSpec) : _root_.Go.OpenSpec := { _root_.Go.OpenSpec.ofChange s with cond := some uptoSmall }

/-- 'diwanlaw5.TxnBack', WHERE WHAT IT READS IS OF BULK AT MOST 1048576: true; the input reads as it did. -/
def txnBackUptoRow : OpenClaim := { program := "ytjpdhijhmpdbnaa", sum := "9a8fd0aa1b57017a2a6bbe7c47b3a6a59dfd569855f191f587636bafccbf44d1", func := "diwan/diwanlaw5.TxnBack", spec := "txnBack", unfollowed := true, recurses := true, apart := false, narrowed := true }
def TxnBackUptoSaid : Prop := txnBackUptoRow.holds Try.pinned (OpenSpec.upto txnBackSpec)

/-- 'diwanlaw5.TxnForms', WHERE WHAT IT READS IS OF BULK AT MOST 1048576: true; the input reads as it did. -/
def txnFormsUptoRow : OpenClaim := { program := "ytjpdhijhmpdbnaa", sum := "9a8fd0aa1b57017a2a6bbe7c47b3a6a59dfd569855f191f587636bafccbf44d1", func := "diwan/diwanlaw5.TxnForms", spec := "txnForms", unfollowed := true, recurses := true, apart := false, narrowed := true }
def TxnFormsUptoSaid : Prop := txnFormsUptoRow.holds Try.pinned (OpenSpec.upto txnFormsSpec)

/-- 'diwanlaw5.TxnTouch', WHERE WHAT IT READS IS OF BULK AT MOST 1048576: true; the input reads as it did. -/
def txnTouchUptoRow : OpenClaim := { program := "ytjpdhijhmpdbnaa", sum := "9a8fd0aa1b57017a2a6bbe7c47b3a6a59dfd569855f191f587636bafccbf44d1", func := "diwan/diwanlaw5.TxnTouch", spec := "txnTouch", unfollowed := true, recurses := true, apart := false, narrowed := true }
def TxnTouchUptoSaid : Prop := txnTouchUptoRow.holds Try.pinned (OpenSpec.upto txnTouchSpec)

/-- 'diwanlaw5.TxnApart', WHERE WHAT IT READS IS OF BULK AT MOST 1048576: true; the input reads as it did. -/
def txnApartUptoRow : OpenClaim := { program := "ytjpdhijhmpdbnaa", sum := "9a8fd0aa1b57017a2a6bbe7c47b3a6a59dfd569855f191f587636bafccbf44d1", func := "diwan/diwanlaw5.TxnApart", spec := "txnApart", unfollowed := true, recurses := true, apart := false, narrowed := true }
def TxnApartUptoSaid : Prop := txnApartUptoRow.holds Try.pinned (OpenSpec.upto txnApartSpec)

end Rows
end Go.Proofs.Ytjpdhijhmpdbnaa
