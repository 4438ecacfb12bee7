/-
  epoch's iterator over the Seals by its contract.
-/
import Derived.Test.YtncdmecppfmmgaaRound
import Derived.Test.YtncdmecppfmmgaaEpMath
import Derived.Test.YtncdmecppfmmgaaEntMem
import Derived.RangeFuncNested
import Derived.RangeFuncBound
import Derived.RangeFuncCalls
import Derived.RangeFuncLeaves
import Derived.Shelf.Abstract
import Derived.Shelf.RegionOpen
import Derived.WalkKit
import Derived.OwnWalkIn
import Derived.TacticsInMore
import Derived.LoopNIn
import Derived.LoopIn
namespace Go.Proofs.Ytncdmecppfmmgaa
open Go Go.RowKit Go.Shelf TxnMath KeyMath MsgMath EpMath
set_option maxRecDepth 100000

attribute [local go_sem] Oper.semAt_some

/-- which entries are Seals -/
def shuts (es : List EntT) : List Bool := es.map (·.shut)
theorem shuts_len (es : List EntT) : (shuts es).length = es.length := by simp [shuts]
theorem shuts_at {es : List EntT} {k : Nat} (h : k < es.length) : (shuts es).getD k false = es[k].shut := by simp [shuts, h]

set_option maxHeartbeats 2000000 in
/-- whatever is done in a round: J k holds when k entries are behind -/
theorem seals_ok (m l : Nat) (v : Value) (es : List EntT) (hl : es.length ≤ 1000) (J : Nat → World → Prop) (hE : ∀ k W, J k W → EntsX Any W v es) (hG : ∀ k W W', J k W → Gr W W' → J k W')
    (hS : ∀ k W, J k W → k < es.length → (shuts es).getD k false = false → J (k + 1) W)
    (hY : ∀ k W, J k W → k < es.length → (shuts es).getD k false = true → YieldAt Fence.wide m Try.prog l #[.int .i64 ((k : Int) + 1)] W fun e W' => e = .returned (.bool true) ∧ J (k + 1) W')
    (W : World) (h0 : J 0 W) : CallsIn Fence.wide (m + 1) Try.prog 34 #[v, .func (.yield l) #[] #[]] W fun e W' => (∃ u, e = .returned u) ∧ J es.length W' := by
  have HE := hide hE
  have HG := hide hG
  have HS := hide hS
  have HY := hide hY
  have H0 := hide h0
  obtain ⟨A, c, rfl⟩ := (hE 0 W h0).is
  clear hE hG hS hY h0
  refine callsIn_of_wp Try.func34 rfl trivial ?_ rfl
  simp only [Try.ntmps34, List.size_toArray, List.length_cons, List.length_nil, Nat.reduceAdd, Nat.reduceSub, Array.replicate_succ, Array.replicate_zero, List.push_toArray, List.append_toArray, List.nil_append, List.cons_append]
  gi_wp2
  gi_loopw [8] (fun i wr => ∃ k : Nat, i = .int .i64 k ∧ k ≤ es.length ∧ Hid (J k wr)) (fun i _ => es.length - (intOf i).toNat)
  case atStart => exact ⟨0, rfl, Nat.zero_le _, H0⟩
  case round =>
    obtain ⟨k, rfl, hk, HJ⟩ := hrel
    by_cases hlt : k < es.length
    · have hlt' : (k : Int) < (es.length : Int) := by omega
      obtain ⟨ad, c', p, e1, hrw, a0, a1, a2, a3, a4, a5⟩ := (HE.out k wr HJ.out).ent hlt
      simp only [Value.slice.injEq, true_and] at e1
      obtain ⟨rfl, rfl⟩ := e1
      have hsa := shuts_at hlt
      obtain ⟨⟨A1, c1, q1, _⟩, _⟩ := hrw.rd
      obtain ⟨⟨A2, c2, q2, _⟩, _⟩ := hrw.wr
      rw [q1] at a4
      rw [q2] at a5
      clear hrw q1 q2
      generalize es[k].term = tm at a0
      generalize es[k].t.ses = t1 at a2
      generalize es[k].t.seq = t2 at a3
      generalize (List.map rdC es[k].t.reads).length = n1 at a4
      generalize (List.map wrC es[k].t.writes).length = n2 at a5
      cases hb : es[k].shut
      · rw [hb] at a1 hsa
        have HSA := hide hsa
        clear hb hsa
        gi_wp2
        refine ⟨fun _ h => (by cases h), ?_⟩
        gi_wp2
        go_roundw
        case rel => exact ⟨k + 1, by go_num, by omega, HG.out _ _ _ (HS.out k wr HJ.out hlt HSA.out) ((Gr.refl wr).alloc _)⟩
        case measure => simp [intOf]; omega
      · rw [hb] at a1 hsa
        have HSA := hide hsa
        clear hb hsa
        obtain ⟨fn, tmps, assign, body, hy, hR⟩ := HY.out k (wr.alloc (.cells #[.int .i64 tm, .bool true, .int .i64 t1, .int .i64 t2, .slice A1 n1 c1, .slice A2 n2 c2] 43)) (HG.out _ _ _ HJ.out ((Gr.refl wr).alloc _)) hlt HSA.out
        gi_wp2
        refine hR.mono ?_
        rintro e W3 ⟨rfl, hJ3⟩
        have HJ3 := hide hJ3
        clear hJ3 hR
        gi_wp2
        go_roundw
        case rel => exact ⟨k + 1, by go_num, by omega, HJ3⟩
        case measure => simp [intOf]; omega
    · obtain rfl : k = es.length := by omega
      gi_wp2
      go_end0
      exact ⟨⟨_, rfl⟩, HJ.out⟩

end Go.Proofs.Ytncdmecppfmmgaa
