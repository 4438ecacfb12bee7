/-
  A conversion in a quiet region that is walked as far as its guard stands. No program.
-/
import Derived.Test.YtgocapmclhimdaaBaseW
import Derived.StillTailTactics
namespace Go.Proofs.Ytgocapmclhimdaa
open Go Go.RowKit
theorem quiet_conv_if {P : Program} {ops : Array Oper} {C : World → Prop} {Q : Act → Prop} {a : Act} {o : Oper} {rest : List Oper} (hw : Region.wanted o (yielded ops a.tmps) = true) (src dst : TypeId) (x : Operand) (ho : o.op = .convert src dst x)
    {v u : Value} (hx : a.eval x = v) (hc : ∀ w, C w → (convert src dst v).run P w = .ok u w) (h : wpQuiet P ops C Q rest (a.put o.dst u)) : wpQuiet P ops C Q (o :: rest) a := by
  unfold wpQuiet
  rw [if_pos hw]
  refine ⟨u, fun w hw => ?_, h⟩
  unfold Oper.quietAt execOp
  simp [ho, hx, hc w hw, Oper.quietUpon, Result.andThen]

/-- an operation of a still region, by its run -/
theorem still_any {P : Program} {ops : Array Oper} {w : World} {Q : Act → Prop} {a : Act} {o : Oper} {rest : List Oper} (hw : Region.wanted o (yielded ops a.tmps) = true) {u : Value} (hc : (execOp a.eval o).run P w = .ok (.value u) w) (h : wpStill P ops w Q rest (a.put o.dst u)) : wpStill P ops w Q (o :: rest) a := by
  unfold wpStill
  rw [if_pos hw]
  unfold Oper.still
  rw [hc]
  simpa [Oper.stillUpon] using h
/-- a conversion -/
theorem still_conv {P : Program} {ops : Array Oper} {w : World} {Q : Act → Prop} {a : Act} {o : Oper} {rest : List Oper} (hw : Region.wanted o (yielded ops a.tmps) = true) (src dst : TypeId) (x : Operand) (ho : o.op = .convert src dst x)
    {v u : Value} (hx : a.eval x = v) (hc : (convert src dst v).run P w = .ok u w) (h : wpStill P ops w Q rest (a.put o.dst u)) : wpStill P ops w Q (o :: rest) a := by
  refine still_any hw ?_ h
  unfold execOp
  simp [ho, hx, hc, Result.andThen]

end Go.Proofs.Ytgocapmclhimdaa
