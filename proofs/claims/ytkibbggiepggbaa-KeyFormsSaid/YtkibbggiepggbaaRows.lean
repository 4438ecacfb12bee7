/-
  No cell of these rows narrows 'for every input' (looked for: loops, veiled, ifaces, maps, wideKeys, modest, calm, conditions, laid).
  DERIVED. THE GIVEN ROWS OF THIS SEAT. 4 by the template 'for every input the law returns true; each argument reads behind the call as it read before'; 0 by the template 'total and deterministic' (their statements: YtkibbggiepggbaaTotals.lean).
  GIVEN WITH THE SEED: the statements are not yours to turn. If you find one false, say at which input.
  Laid BY PROGRAM, IN A SANDBOX (cutbox-rows.mjs): the forced cells as the released guide's own fill.sh prints them over the translation 59aa932a15c10827… (all of the seat's roots in one cut). By AI agents, Wed Nov 11 2026. No macro, syntax, notation, axiom, sorry.
-/
import Derived.Test.YtkibbggiepggbaaChecked
import GoSem.Claim
import GoSem.ClaimJoined
import GoSem.ClaimMapViews
import Derived.JoinedTies
import Derived.KernelRfl
namespace Go.Proofs.Ytkibbggiepggbaa
/- THE CELL 'sum', in the pinned program and in every row, IS THE sha256 OF THE DUMP (.gsa) THAT YtkibbggiepggbaaProg.lean LOADS. Nothing in Lean hashes anything: it is a label: what it is worth is what the hold of that sum in a sandbox is worth. -/
noncomputable def Try.pinned : Pinned := { name := "ytkibbggiepggbaa", sum := "59aa932a15c108271afebeb77402caf65d32517de11838fbc4352f4130201ba2", checked := Try.checked }
namespace Rows
def none {H : Type} : Left H := { results := [], args := [] }

/-- 'diwanlaw4.KeyAll': WHATEVER THE INPUT: true; the input reads as it did. -/
def keyAllSpec : ChangeSpec := { name := "keyAll", fn := fun _ => fun
  | [d1, d2, d3, d4, d5] => { results := [.lit (.bool true)], args := [d1, d2, d3, d4, d5] }
  | _ => none }
def keyAllRow : OpenClaim := { program := "ytkibbggiepggbaa", sum := "59aa932a15c108271afebeb77402caf65d32517de11838fbc4352f4130201ba2", func := "diwan/diwanlaw4.KeyAll", spec := "keyAll", unfollowed := true, recurses := true, apart := false }
def KeyAllSaid : Prop := keyAllRow.holds Try.pinned (OpenSpec.ofChange keyAllSpec)

/-- ITS FALSE NEIGHBOUR: 'it returns false'. Refute it at one input. -/
def keyAllWrong : ChangeSpec := { name := "keyAll", fn := fun _ => fun
  | [d1, d2, d3, d4, d5] => { results := [.lit (.bool false)], args := [d1, d2, d3, d4, d5] }
  | _ => none }
def KeyAllWrongFalsely : Prop := keyAllRow.holds Try.pinned (OpenSpec.ofChange keyAllWrong)

/-- 'diwanlaw4.KeyShards': WHATEVER THE INPUT: true; the input reads as it did. -/
def keyShardsSpec : ChangeSpec := { name := "keyShards", fn := fun _ => fun
  | [d1, d2, d3] => { results := [.lit (.bool true)], args := [d1, d2, d3] }
  | _ => none }
def keyShardsRow : OpenClaim := { program := "ytkibbggiepggbaa", sum := "59aa932a15c108271afebeb77402caf65d32517de11838fbc4352f4130201ba2", func := "diwan/diwanlaw4.KeyShards", spec := "keyShards", unfollowed := true, recurses := true, apart := false }
def KeyShardsSaid : Prop := keyShardsRow.holds Try.pinned (OpenSpec.ofChange keyShardsSpec)

/-- ITS FALSE NEIGHBOUR: 'it returns false'. Refute it at one input. -/
def keyShardsWrong : ChangeSpec := { name := "keyShards", fn := fun _ => fun
  | [d1, d2, d3] => { results := [.lit (.bool false)], args := [d1, d2, d3] }
  | _ => none }
def KeyShardsWrongFalsely : Prop := keyShardsRow.holds Try.pinned (OpenSpec.ofChange keyShardsWrong)

/-- 'diwanlaw4.KeyForms': WHATEVER THE INPUT: true; the input reads as it did. -/
def keyFormsSpec : ChangeSpec := { name := "keyForms", fn := fun _ => fun
  | [] => { results := [.lit (.bool true)], args := [] }
  | _ => none }
def keyFormsRow : OpenClaim := { program := "ytkibbggiepggbaa", sum := "59aa932a15c108271afebeb77402caf65d32517de11838fbc4352f4130201ba2", func := "diwan/diwanlaw4.KeyForms", spec := "keyForms", unfollowed := true, recurses := true, apart := false }
def KeyFormsSaid : Prop := keyFormsRow.holds Try.pinned (OpenSpec.ofChange keyFormsSpec)

/-- ITS FALSE NEIGHBOUR: 'it returns false'. Refute it at one input. -/
def keyFormsWrong : ChangeSpec := { name := "keyForms", fn := fun _ => fun
  | [] => { results := [.lit (.bool false)], args := [] }
  | _ => none }
def KeyFormsWrongFalsely : Prop := keyFormsRow.holds Try.pinned (OpenSpec.ofChange keyFormsWrong)

/-- 'diwanlaw4.KeyWithin': WHATEVER THE INPUT: true; the input reads as it did. -/
def keyWithinSpec : ChangeSpec := { name := "keyWithin", fn := fun _ => fun
  | [d1, d2, d3, d4, d5] => { results := [.lit (.bool true)], args := [d1, d2, d3, d4, d5] }
  | _ => none }
def keyWithinRow : OpenClaim := { program := "ytkibbggiepggbaa", sum := "59aa932a15c108271afebeb77402caf65d32517de11838fbc4352f4130201ba2", func := "diwan/diwanlaw4.KeyWithin", spec := "keyWithin", unfollowed := true, recurses := true, apart := false }
def KeyWithinSaid : Prop := keyWithinRow.holds Try.pinned (OpenSpec.ofChange keyWithinSpec)

/-- ITS FALSE NEIGHBOUR: 'it returns false'. Refute it at one input. -/
def keyWithinWrong : ChangeSpec := { name := "keyWithin", fn := fun _ => fun
  | [d1, d2, d3, d4, d5] => { results := [.lit (.bool false)], args := [d1, d2, d3, d4, d5] }
  | _ => none }
def KeyWithinWrongFalsely : Prop := keyWithinRow.holds Try.pinned (OpenSpec.ofChange keyWithinWrong)

/- THE SECOND FORM. 'bulk': how many values and letters a reading holds, each counted each time it is reached (what is shared counts as often as it is met; a slice's spare places count too). A statement '..UptoSaid' is the law's where the arguments, and the package variables that the reading takes, are together of bulk at most 1048576: NARROWER than '..Said'. Prove '..Said' where nothing that the law and all that it calls make is longer than what came in: it says more and counts as full. Else prove '..UptoSaid'. A law counts once. -/
mutual
def uptoBulk {H : Type} : DataW H → Nat
  | .lit (.string bytes) => bytes.length + 1
  | .lit _ => 1
  | .nil => 1
  | .ptr d => uptoBulk d + 1
  | .slice elems spare => uptoBulkAll elems + uptoBulkAll spare + 1
  | .agg parts => uptoBulkAll parts + 1
  | .iface _ d => uptoBulk d + 1
  | .map entries => uptoBulkEntries entries + 1
  | .held _ => 1
def uptoBulkAll {H : Type} : List (DataW H) → Nat
  | [] => 0
  | d :: r => uptoBulk d + uptoBulkAll r
def uptoBulkEntries {H : Type} : List (Lit × DataW H) → Nat
  | [] => 0
  | x :: r => uptoBulkEntry x + uptoBulkEntries r
def uptoBulkEntry {H : Type} : Lit × DataW H → Nat
  | (.string bytes, d) => bytes.length + uptoBulk d + 1
  | (_, d) => uptoBulk d + 1
 end
def uptoSmall : (H : Type) → List (DataW H) → Bool := fun _ ds => decide (uptoBulkAll ds ≤ 1048576)
def OpenSpec.upto (s : _root_.Go.ChangeSpec) : _root_.Go.OpenSpec := { _root_.Go.OpenSpec.ofChange s with cond := some uptoSmall }

/-- 'diwanlaw4.KeyAll', WHERE WHAT IT READS IS OF BULK AT MOST 1048576: true; the input reads as it did. -/
def keyAllUptoRow : OpenClaim := { program := "ytkibbggiepggbaa", sum := "59aa932a15c108271afebeb77402caf65d32517de11838fbc4352f4130201ba2", func := "diwan/diwanlaw4.KeyAll", spec := "keyAll", unfollowed := true, recurses := true, apart := false, narrowed := true }
def KeyAllUptoSaid : Prop := keyAllUptoRow.holds Try.pinned (OpenSpec.upto keyAllSpec)

/-- 'diwanlaw4.KeyShards', WHERE WHAT IT READS IS OF BULK AT MOST 1048576: true; the input reads as it did. -/
def keyShardsUptoRow : OpenClaim := { program := "ytkibbggiepggbaa", sum := "59aa932a15c108271afebeb77402caf65d32517de11838fbc4352f4130201ba2", func := "diwan/diwanlaw4.KeyShards", spec := "keyShards", unfollowed := true, recurses := true, apart := false, narrowed := true }
def KeyShardsUptoSaid : Prop := keyShardsUptoRow.holds Try.pinned (OpenSpec.upto keyShardsSpec)

/-- 'diwanlaw4.KeyForms', WHERE WHAT IT READS IS OF BULK AT MOST 1048576: true; the input reads as it did. -/
def keyFormsUptoRow : OpenClaim := { program := "ytkibbggiepggbaa", sum := "59aa932a15c108271afebeb77402caf65d32517de11838fbc4352f4130201ba2", func := "diwan/diwanlaw4.KeyForms", spec := "keyForms", unfollowed := true, recurses := true, apart := false, narrowed := true }
def KeyFormsUptoSaid : Prop := keyFormsUptoRow.holds Try.pinned (OpenSpec.upto keyFormsSpec)

/-- 'diwanlaw4.KeyWithin', WHERE WHAT IT READS IS OF BULK AT MOST 1048576: true; the input reads as it did. -/
def keyWithinUptoRow : OpenClaim := { program := "ytkibbggiepggbaa", sum := "59aa932a15c108271afebeb77402caf65d32517de11838fbc4352f4130201ba2", func := "diwan/diwanlaw4.KeyWithin", spec := "keyWithin", unfollowed := true, recurses := true, apart := false, narrowed := true }
def KeyWithinUptoSaid : Prop := keyWithinUptoRow.holds Try.pinned (OpenSpec.upto keyWithinSpec)

end Rows
end Go.Proofs.Ytkibbggiepggbaa
