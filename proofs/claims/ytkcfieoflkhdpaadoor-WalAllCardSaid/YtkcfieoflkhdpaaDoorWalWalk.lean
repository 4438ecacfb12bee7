/-
  wal's names.walk by its contract: it goes from piece to piece as long as a step says OK.
-/
import Derived.Test.YtkcfieoflkhdpaaDoorWalMath0
namespace Go.Proofs.YtkcfieoflkhdpaaDoor.WalWalk
open Go Go.RowKit MapS DiskMem WalMath WalName
set_option maxRecDepth 100000

/-- where it stops, and what was said there -/
def walkS (c : Nat → Int) (i : Nat) : Nat × Int := if i ≤ 9999 then if c i = 0 then walkS c (i + 1) else (i, c i) else (10000, 6)
termination_by 10000 - i
theorem walkS_on {c : Nat → Int} {i : Nat} (h : i ≤ 9999) (h0 : c i = 0) : walkS c i = walkS c (i + 1) := by rw [walkS, if_pos h, if_pos h0]
theorem walkS_stop {c : Nat → Int} {i : Nat} (h : i ≤ 9999) (h0 : c i ≠ 0) : walkS c i = (i, c i) := by rw [walkS, if_pos h, if_neg h0]
theorem walkS_end {c : Nat → Int} {i : Nat} (h : 9999 < i) : walkS c i = (10000, 6) := by rw [walkS, if_neg (by omega)]

/-- what it comes to -/
def Went (I J : Nat → World → Prop) (c : Nat → Int) (i0 : Nat) (e : Ending) (w' : World) : Prop :=
  ∃ k : Nat, ∃ r : Int, walkS c i0 = (k, r) ∧ 1 ≤ k ∧ k ≤ 10000 ∧ e = .returned (.tuple #[.int .i64 ((k : Int) - 1), .int .i64 r]) ∧ (k ≤ 9999 → J k w') ∧ (k = 10000 → I k w')

set_option maxHeartbeats 1000000 in
theorem walk_ok (b : UInt8) (hb : 97 ≤ b.toNat ∧ b.toNat ≤ 122) (i0 : Nat) (h1 : 1 ≤ i0) (h2 : i0 ≤ 10000) (I J : Nat → World → Prop) (c : Nat → Int) (K : FuncId) (recv : Array Value) {fn : Func} (hf : Tryd.prog.funcs[K]? = some fn) (hg : (fn.name == "runtime.NumGoroutine") = false) (hbd : fn.body.isNone = false)
    (hI : ∀ k w, I k w → TabW w) (hstep : ∀ k w w1, 1 ≤ k → k ≤ 9999 → I k w → Gr w w1 → Calls Tryd.prog K (recv ++ #[.string (pname b k)]) w1 fun e w' => e = .returned (.int .i64 (c k)) ∧ (c k = 0 → I (k + 1) w') ∧ (c k ≠ 0 → J k w'))
    (w : World) (hw : I i0 w) :
    Calls Tryd.prog 15 #[.int .u8 b.toNat, .int .i64 i0, .func (.func K) recv #[]] w (Went I J c i0) := by
  have HI := hide hI
  have HS := hide hstep
  have HW := hide hw
  have HB := hide hb
  clear hI hstep hw hb
  have eK : ∀ args w, (callFunc K args).run Tryd.prog w = .ok (.enter K args) w := fun args w => Grow.enters hf hg hbd args w
  clear hf hg hbd
  go_enter Tryd.func15, Tryd.ntmps15
  go_wp2_with fail
  go_loopw [1] (fun i wr => ∃ k : Nat, i = .int .i64 k ∧ i0 ≤ k ∧ k ≤ 10000 ∧ Hid (walkS c i0 = walkS c k) ∧ Hid (I k wr)) (fun i _ => 10000 - (intOf i).toNat)
  case atStart => exact ⟨i0, rfl, by omega, h2, rfl, HW⟩
  case round =>
    obtain ⟨k, rfl, hk0, hk, hwk, hIk⟩ := hrel
    by_cases hlt : (k : Int) ≤ 9999
    · have hp := hide (piece_ok b HB.out k (by omega) wr (HI.out k wr hIk.out))
      go_wp2_with (go_at_call 28; refine hp.out.mono ?_; rintro e w1 ⟨rfl, hg1⟩)
      have hs := hide (HS.out k wr w1 (by omega) (by omega) hIk.out hg1)
      clear hg1 hp
      rw [Array.append_singleton] at hs
      obtain ⟨ck, hck⟩ : ∃ x, c k = x := ⟨_, rfl⟩
      rw [hck] at hs
      have HC := hide hck
      clear hck
      by_cases h0 : ck = 0
      · have d0 : (ck != 0) = false := by simpa using h0
        have H0 := hide h0
        clear h0
        go_wp2_with (go_at_fn K; refine hs.out.mono ?_; rintro e w2 ⟨rfl, hyes, -⟩; have HY := hide (hyes H0.out); clear hyes)
        refine ⟨⟨k + 1, by push_cast; rfl, by omega, by omega, ?_, HY⟩, ?_⟩
        · show _ = _
          rw [hwk.out]
          exact walkS_on (by omega) (HC.out.trans H0.out)
        · simp only [intOf]
          omega
      · have d0 : (ck != 0) = true := by simpa using h0
        have H0 := hide h0
        clear h0
        go_wp2_with (go_at_fn K; refine hs.out.mono ?_; rintro e w2 ⟨rfl, -, hno⟩; have HN := hide (hno H0.out); clear hno)
        go_ret2
        exact ⟨k, ck, by rw [hwk.out, walkS_stop (by omega) (by rw [HC.out]; exact H0.out), HC.out], by omega, hk, rfl, fun _ => HN.out, fun h => by omega⟩
    · go_wp2_with fail
      go_ret2
      obtain rfl : k = 10000 := by omega
      exact ⟨10000, 6, by rw [hwk.out, walkS_end (by omega)], by omega, by omega, rfl, fun h => by omega, fun _ => hIk.out⟩

end Go.Proofs.YtkcfieoflkhdpaaDoor.WalWalk
