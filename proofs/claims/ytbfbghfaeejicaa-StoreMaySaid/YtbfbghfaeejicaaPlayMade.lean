/-
  diwanplay's Made, by its contract.
-/
import Derived.Test.YtbfbghfaeejicaaPlayNum
namespace Go.Proofs.Ytbfbghfaeejicaa
open Go Go.RowKit
set_option maxRecDepth 100000

def MadePost (A : Option Addr) (c : Nat) (l : List UInt8) (w : World) (e : Ending) (w' : World) : Prop := e = .returned (.pointer (some ⟨w.heap.size, 0, none⟩)) ∧ Gr w w' ∧ Pk w' w.heap.size A c l 0

theorem Made_ok (A : Option Addr) (c : Nat) (l : List UInt8) (w : World) (hby : By w A c l) : Calls Try.prog 10 #[.slice A l.length c] w (MadePost A c l w) := by
  go_enter Try.func10, Try.ntmps10
  have hgr : Gr w (w.alloc (.cells #[.slice A l.length c, .int .i64 0] 63)) := (Gr.refl w).alloc _
  have hP : MadePost A c l w (.returned (.pointer (some ⟨w.heap.size, 0, none⟩))) (w.alloc (.cells #[.slice A l.length c, .int .i64 0] 63)) :=
    ⟨rfl, hgr, Bl.new _ _ _, hby.gr hgr, hby.rd.off, Nat.zero_le _⟩
  have HP := hide hP
  clear hP hgr
  go_wp2_with fail
  go_ret
  exact HP.out
end Go.Proofs.Ytbfbghfaeejicaa
