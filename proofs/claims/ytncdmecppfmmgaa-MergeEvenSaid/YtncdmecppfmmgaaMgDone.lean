/-
  merge's All, Head, First by their contracts: what the statements take of the program.
-/
import Derived.Test.YtncdmecppfmmgaaMgAllOk
import Derived.Test.YtncdmecppfmmgaaMgHeadOk
import Derived.Test.YtncdmecppfmmgaaMgSame
namespace Go.Proofs.Ytncdmecppfmmgaa
open Go Go.RowKit TxnMath KeyMath MsgMath EpMath MgMath

theorem All_ok (v : Value) (ls : List (List EntT)) (w : World) (hv : LogsX w v ls) (hl : ls.length ≤ 10) (hn : ∀ p, (lg ls p).length ≤ 100) (hb : ∀ p, ∀ e ∈ lg ls p, EntBnd e) :
    Calls Try.prog 11 #[v] w fun e w' => ∃ u, e = .returned u ∧ PlX w' u (orderL ls).1 ∧ Gr w w' ∧ Fresh w.heap.size u := HeadHeap.All_ok v ls w hv hl hn hb
theorem Head_ok (v : Value) (ls : List (List EntT)) (w : World) (hv : LogsX w v ls) (hl : ls.length ≤ 10) (hn : ∀ p, (lg ls p).length ≤ 100) :
    Calls Try.prog 14 #[v] w fun e w' => e = .returned (.int .i64 (orderL ls).2) ∧ Gr w w' := HeadHeap.Head_ok v ls w hv hl hn

end Go.Proofs.Ytncdmecppfmmgaa
