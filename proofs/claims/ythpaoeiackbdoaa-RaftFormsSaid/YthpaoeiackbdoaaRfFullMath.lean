/-
  One member alone: how it comes to lead, how its log grows until it is full. No program.
-/
import Derived.Test.YthpaoeiackbdoaaRfMath
namespace Go.Proofs.Ythpaoeiackbdoaa.RfMath
open Go TxnMath KeyMath MsgMath BalMath Go.Proofs.Ythpaoeiackbdoaa

def sealT (t : Int) : EntT := ⟨t, true, noTxn⟩
/-- alone, it leads, and has so many Seals -/
def aloneR (k : Nat) : RaftT := ⟨1, 1, 3, 1, 1, List.replicate k (sealT 1), k, 2, 1, [true], [1], [(k : Int)], 0⟩
def wait1 : RaftT := ⟨1, 1, 3, 0, 0, [], 0, 0, 0, [false], [0], [0], 1⟩
def wait2 : RaftT := ⟨1, 1, 3, 0, 0, [], 0, 0, 0, [false], [0], [0], 2⟩
def new1 : RaftT := ⟨1, 1, 3, 0, 0, [], 0, 0, 0, [false], [0], [0], 0⟩
theorem new1_is : newR 1 1 3 = new1 := by decide +kernel
theorem tick1 : tickT new1 = ⟨wait1, []⟩ := by
  have h1 : (tickT new1).r = wait1 := by decide +kernel
  have h2 : (tickT new1).out = [] := by decide +kernel
  rw [← h1, ← h2]
theorem tick2 : tickT wait1 = ⟨wait2, []⟩ := by
  have h1 : (tickT wait1).r = wait2 := by decide +kernel
  have h2 : (tickT wait1).out = [] := by decide +kernel
  rw [← h1, ← h2]
theorem tick3 : tickT wait2 = ⟨aloneR 1, []⟩ := by
  have h1 : (tickT wait2).r = aloneR 1 := by decide +kernel
  have h2 : (tickT wait2).out = [] := by decide +kernel
  rw [← h1, ← h2]
theorem mayFrom_seals : ∀ (k : Nat) (p : Int), p ≤ 1 → mayFrom 1 p (List.replicate k (sealT 1)) = true
  | 0, _, _ => rfl
  | k + 1, p, h => by
    rw [List.replicate_succ, mayFrom]
    simp only [sealT, withinB, h, decide_true, Bool.true_and, Int.le_refl]
    exact mayFrom_seals k 1 (Int.le_refl _)
theorem may_alone (k : Nat) (hk : k ≤ 200) : mayR (aloneR k) = true := by
  have h1 := mayFrom_seals k 1 (Int.le_refl _)
  simp only [mayR, aloneR, mayLogB, withinB, h1, List.length_replicate]
  simp
  omega
theorem all_alone (k : Nat) (out : List MsgT) : allS ⟨aloneR k, out⟩ = ⟨aloneR k, out⟩ := rfl
theorem tick_alone (k : Nat) (hk : k ≤ 200) : tickT (aloneR k) = ⟨aloneR k, []⟩ := by
  unfold tickT
  rw [if_pos (may_alone k hk)]
  rfl
theorem next_alone (k : Nat) : nextL [((k : Int) + 1)] (List.replicate (k + 1) (sealT 1)) 1 k = (k : Int) + 1 := by
  have hm : mostL [((k : Int) + 1)] = (k : Int) + 1 := mostL_of (List.mem_singleton.2 rfl) (by omega) (by simp [majN, geN, cnt]) (by simp [majN, gtN, cnt])
  have hh : hasL (List.replicate (k + 1) (sealT 1)) ((k : Int) + 1) 1 = true := by
    unfold hasL
    rw [term_at (l := List.replicate (k + 1) (sealT 1)) (k := k) (by simp), there_yes (by omega) (by simp)]
    simp [sealT]
  unfold nextL
  rw [hm, hh, if_pos ⟨by omega, rfl⟩]
theorem add_alone (k : Nat) : addR ⟨0, true, noTxn⟩ (aloneR k) = aloneR (k + 1) := by
  have h := next_alone k
  unfold addR commitR aloneR putI
  simp only [List.length_replicate]
  have e : List.replicate k (sealT 1) ++ [({ (⟨0, true, noTxn⟩ : EntT) with term := 1 } : EntT)] = List.replicate (k + 1) (sealT 1) := by rw [List.replicate_succ']; rfl
  rw [e]
  have e2 : [(k : Int)].set ((1 : Int) - 1).toNat ((k : Int) + 1) = [(k : Int) + 1] := rfl
  rw [e2, h]
  rfl
theorem prop_alone (k : Nat) (hk : k ≤ 200) : propB (aloneR k) = decide (k < 200) ∧ propT (aloneR k) ⟨0, true, noTxn⟩ = ⟨aloneR (if k < 200 then k + 1 else k), []⟩ := by
  have hm := may_alone k hk
  have hf : fullR (aloneR k) = decide (200 ≤ k) := by simp [fullR, aloneR]
  unfold propB propT proposeB proposeS
  rw [hm, if_pos rfl, if_pos (show (aloneR k).role = 2 from rfl)]
  simp only [Bool.true_and]
  rw [hf]
  unfold addS
  rw [hf]
  by_cases h : k < 200
  · rw [if_pos h, if_neg (by simp; omega), add_alone]
    refine ⟨?_, all_alone _ _⟩
    simp [aloneR, h]
  · rw [if_neg h, if_pos (by simp; omega)]
    refine ⟨?_, rfl⟩
    simp [aloneR, h]
    omega

end Go.Proofs.Ythpaoeiackbdoaa.RfMath

/-
  Three members, letter by letter; one alone that waits for two ticks. No program.
-/
namespace Go.Proofs.Ythpaoeiackbdoaa.RfMath
open Go TxnMath KeyMath MsgMath BalMath Go.Proofs.Ythpaoeiackbdoaa

theorem st_of {s : StT} {r : RaftT} {l : List MsgT} (h1 : s.r = r) (h2 : s.out = l) : s = ⟨r, l⟩ := by rw [← h1, ← h2]
/-! the law's begun -/
def bg0 : RaftT := ⟨1, 1, 2, 0, 0, [], 0, 0, 0, [false], [0], [0], 0⟩
def bg1 : RaftT := ⟨1, 1, 2, 0, 0, [], 0, 0, 0, [false], [0], [0], 1⟩
def bg2 : RaftT := ⟨1, 1, 2, 1, 1, [sealT 1], 1, 2, 1, [true], [1], [1], 0⟩
def bg3 : RaftT := ⟨1, 1, 2, 1, 1, [sealT 1, sealT 1], 2, 2, 1, [true], [1], [2], 0⟩
theorem bg_new : newR 1 1 2 = bg0 := by decide +kernel
theorem bg_tick1 : tickT bg0 = ⟨bg1, []⟩ := st_of (by decide +kernel) (by decide +kernel)
theorem bg_tick2 : tickT bg1 = ⟨bg2, []⟩ := st_of (by decide +kernel) (by decide +kernel)
theorem bg_prop : propT bg2 ⟨0, true, noTxn⟩ = ⟨bg3, []⟩ ∧ propB bg2 = true := ⟨st_of (by decide +kernel) (by decide +kernel), by decide +kernel⟩
theorem bg_no : propT bg1 ⟨0, true, noTxn⟩ = ⟨bg1, []⟩ ∧ propB bg1 = false := ⟨st_of (by decide +kernel) (by decide +kernel), by decide +kernel⟩
theorem bg_may : mayR bg0 = true := by decide +kernel
theorem bg_same : decide (bg1 = bg1) = true := by decide +kernel
theorem bg_unlike : decide (bg1 = bg2) = false := by decide +kernel

/-! three members -/
def fa0 : RaftT := ⟨1, 3, 3, 0, 0, [], 0, 0, 0, [false, false, false], [0, 0, 0], [0, 0, 0], 0⟩
def fa1 : RaftT := { fa0 with clock := 1 }
def fa2 : RaftT := { fa0 with clock := 2 }
def fa3 : RaftT := ⟨1, 3, 3, 1, 1, [], 0, 1, 0, [true, false, false], [0, 0, 0], [0, 0, 0], 0⟩
def fa4 : RaftT := ⟨1, 3, 3, 1, 1, [sealT 1], 0, 2, 1, [true, true, false], [1, 1, 1], [1, 0, 0], 0⟩
def fa5 : RaftT := ⟨1, 3, 3, 1, 1, [sealT 1], 1, 2, 1, [true, true, false], [1, 2, 1], [1, 1, 0], 0⟩
def fb0 : RaftT := ⟨2, 3, 5, 0, 0, [], 0, 0, 0, [false, false, false], [0, 0, 0], [0, 0, 0], 0⟩
def fb1 : RaftT := ⟨2, 3, 5, 1, 1, [], 0, 0, 0, [false, false, false], [0, 0, 0], [0, 0, 0], 0⟩
def fb2 : RaftT := ⟨2, 3, 5, 1, 1, [sealT 1], 0, 0, 1, [false, false, false], [0, 0, 0], [0, 0, 0], 0⟩
def fb3 : RaftT := ⟨2, 3, 5, 1, 1, [sealT 1], 1, 0, 1, [false, false, false], [0, 0, 0], [0, 0, 0], 0⟩
def askT (j : Int) : MsgT := { noMsg with kind := 1, frm := 1, to := j, term := 1 }
def votT : MsgT := { noMsg with kind := 2, frm := 2, to := 1, term := 1, ok := true }
def appT (j : Int) : MsgT := { noMsg with kind := 3, frm := 1, to := j, term := 1, entries := [sealT 1] }
def gotT : MsgT := { noMsg with kind := 4, frm := 2, to := 1, term := 1, index := 1, ok := true }
def ap2T : MsgT := { noMsg with kind := 3, frm := 1, to := 2, term := 1, index := 1, logTerm := 1, commit := 1 }
def ap3T : MsgT := { noMsg with kind := 3, frm := 1, to := 3, term := 1, commit := 1, entries := [sealT 1] }
theorem fa_new : newR 1 3 3 = fa0 := by decide +kernel
theorem fb_new : newR 2 3 5 = fb0 := by decide +kernel
theorem fa_tick1 : tickT fa0 = ⟨fa1, []⟩ := st_of (by decide +kernel) (by decide +kernel)
theorem fa_tick2 : tickT fa1 = ⟨fa2, []⟩ := st_of (by decide +kernel) (by decide +kernel)
theorem fa_tick3 : tickT fa2 = ⟨fa3, [askT 2, askT 3]⟩ := st_of (by decide +kernel) (by decide +kernel)
theorem fb_take1 : takeT fb0 (askT 2) = ⟨fb1, [votT]⟩ := st_of (by decide +kernel) (by decide +kernel)
theorem fa_take1 : takeT fa3 votT = ⟨fa4, [appT 2, appT 3]⟩ := st_of (by decide +kernel) (by decide +kernel)
theorem fb_take2 : takeT fb1 (appT 2) = ⟨fb2, [gotT]⟩ := st_of (by decide +kernel) (by decide +kernel)
theorem fa_take2 : takeT fa4 gotT = ⟨fa5, []⟩ := st_of (by decide +kernel) (by decide +kernel)
theorem fa_tick4 : tickT fa5 = ⟨fa5, [ap2T, ap3T]⟩ := st_of (by decide +kernel) (by decide +kernel)
theorem fb_take3 : takeT fb2 ap2T = ⟨fb3, [gotT]⟩ := st_of (by decide +kernel) (by decide +kernel)

end Go.Proofs.Ythpaoeiackbdoaa.RfMath
