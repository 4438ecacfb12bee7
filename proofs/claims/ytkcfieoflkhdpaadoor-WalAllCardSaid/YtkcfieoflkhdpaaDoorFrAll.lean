/-
  frame.All by its contract: what it tells is new.
-/
import Derived.Test.YtkcfieoflkhdpaaDoorFrWalk
import Derived.Test.YtkcfieoflkhdpaaDoorFrPut
import Derived.Test.YtkcfieoflkhdpaaDoorFrHeld
namespace Go.Proofs.YtkcfieoflkhdpaaDoor
open Go.RowKit CrcMath FrameMath
set_option maxRecDepth 100000

/-- how long a slice is -/
def lenV : Value → Nat
  | .slice _ n _ => n
  | _ => 0

/-- what 'many' comes to, at the beginning of the bytes l -/
def ManyPost (g : Nat) (A : Option Addr) (c : Nat) (l : List UInt8) (w : World) (e : Ending) (w' : World) : Prop :=
  ∃ v, e = .returned v ∧ HeldN 33 w w' v (all l) ∧ FRdr w' g A l.length c (fspan (all l)) ∧ But w w' g

set_option maxHeartbeats 400000 in
theorem many_any (g : Nat) (A : Option Addr) (c : Nat) (l : List UInt8) (w : World) (hr : FRdr w g A l.length c 0) (hl : By w A c l) (ho : Off g A l) (hmax : (l.length : Int) ≤ 1000000000) :
    Calls Tryd.prog 47 #[.func (.func 48) #[.pointer (some ⟨g, 0, none⟩)] #[]] w (ManyPost g A c l w) := by
  obtain ⟨i0, hi, hz0, hz1, hz2⟩ := info_parts info_slice
  have hg : g < w.heap.size := hr.lt
  go_enter Tryd.func47, Tryd.ntmps47
  go_wp2_with fail
  go_loopw [3] (fun v wr => ∃ (k : Nat) (ls : List (List UInt8)), Hid (Read l k ls) ∧ HeldN 33 w wr v ls ∧ FRdr wr g A l.length c k ∧ But w wr g) (fun v _ => l.length - lenV v)
  case atStart => exact ⟨0, [], Read.nil l, HeldN.none_ _ _, hr, But.refl _ _⟩
  case round =>
    obtain ⟨k, ls, HR, hh, hrd, hbut⟩ := hrel
    have hk := HR.out.1
    have hby : By wr A c l := ⟨hl.rd.but hbut ho, hl.le, hl.max, hl.nil⟩
    have HY := hide hby
    clear hby
    go_wp2_with fail
    refine (frame_any g A c l k wr hrd HY.out ho hk (by omega)).mono ?_
    rintro e w2 ⟨A2, c2, rfl, hb2, hn2, hr2, hbut2⟩
    by_cases his : Is (l.drop k)
    · obtain ⟨p1, p2, p3⟩ := take_yes his
      rw [p1] at hb2 hn2 ⊢
      rw [p2] at hr2
      rw [p3]
      have hv : Hid (lenV u3 = ls.length) := by obtain ⟨Av, cv, hv, _⟩ := hh.held.rws; rw [hv]; exact hide rfl
      have hlen := HR.out.many
      have HM := hide (HR.out.more his)
      have hlen2 := HM.out.many
      rw [List.length_append, List.length_singleton] at hlen2
      have hh2 := hh.but hbut2 hg
      have hap := hn2.apart (o := u3.ownBlock) fun j hj => (hh.lt j hj).2
      have hnew : New w A2 (ftext (l.drop k)) := fun h1 ad h2 => Nat.le_trans hbut.size (hn2 h1 ad h2)
      have hbw : But w w2 g := ⟨hbut2.os.trans hbut.os, hbut2.tape.trans hbut.tape, hbut2.output.trans hbut.output, Nat.le_trans hbut.size hbut2.size, fun i hi hne => (hbut2.block i (Nat.lt_of_lt_of_le hi hbut.size) hne).trans (hbut.block i hi hne)⟩
      have hnl : New w2 A2 [] := fun h => absurd h (by simp)
      obtain ⟨T, hT⟩ : ∃ T, ftext (l.drop k) = T := ⟨_, rfl⟩
      obtain ⟨N, hN⟩ : ∃ N, flen (l.drop k) = N := ⟨_, rfl⟩
      rw [hN] at HM hr2
      rw [hT] at hb2 hap HM hnew ⊢
      have HL := hide hlen2
      clear his p1 p2 p3 hn2 hh hrd hbut hbut2 hT hN HR hlen hlen2 hnl
      go_wp2_with (at_builtin; refine wpList_pushN (w0 := w) (g := g) rfl (.tmp 14) (.tmp 16) _ rfl 33 i0 Tryd.underlying28 hi hz0 hz1 hz2 rfl hb2 rfl hh2 hbw hap hnew rfl (by have := HL.out; omega) ?_; intro v3 w3 ho3 hg3 hk3)
      go_roundw
      case rel => exact ⟨_, _, HM, ho3, hk3 _ _ _ hg hr2, hg3⟩
      case measure =>
        obtain ⟨Aw, cw, hv3, _⟩ := ho3.held.rws
        have := HL.out
        have h2 := hv.out
        rw [hv3, h2]
        simp [lenV]
        omega
    · obtain ⟨p1, p2, p3⟩ := take_no his
      obtain ⟨q1, q2⟩ := HR.out.stop his
      rw [p1] at hb2 ⊢
      rw [p2] at hr2
      rw [p3]
      have hh2 := hide (hh.but hbut2 hg)
      have hbw := hide (show But w w2 g from ⟨hbut2.os.trans hbut.os, hbut2.tape.trans hbut.tape, hbut2.output.trans hbut.output, Nat.le_trans hbut.size hbut2.size, fun i hi hne => (hbut2.block i (Nat.lt_of_lt_of_le hi hbut.size) hne).trans (hbut.block i hi hne)⟩)
      have hr3 := hide hr2
      have HQ := hide q1
      have HQ2 := hide HR.out.2.2
      clear his p1 p2 p3 hb2 hn2 hr2 hh hrd hbut hbut2 q1 q2 HR
      go_wp2_with fail
      go_ret
      refine ⟨_, rfl, by rw [HQ.out]; exact hh2.out, ?_, hbw.out⟩
      rw [HQ.out, ← HQ2.out]
      exact hr3.out

theorem HeldN.low {e : TypeId} {w0 a w : World} {v : Value} {ls : List (List UInt8)} (h : HeldN e a w v ls) (hl : w0.heap.size ≤ a.heap.size) : HeldN e w0 w v ls := by
  obtain ⟨vals, ⟨h1, h2⟩, h3⟩ := h
  refine ⟨vals, ⟨h1, ?_⟩, fun j hj => ?_⟩
  · rcases h2 with h2 | ⟨g, cap, cur, hv, hg, hh, r⟩
    · exact .inl h2
    · exact .inr ⟨g, cap, cur, hv, Nat.le_trans hl hg, hh, r⟩
  · obtain ⟨A, c, k1, k2, k3, k4⟩ := h3 j hj
    exact ⟨A, c, k1, k2, k3, fun hlt ad hA => Nat.le_trans hl (k4 hlt ad hA)⟩
theorem HeldN.gr {e : TypeId} {w0 w w' : World} {v : Value} {ls : List (List UInt8)} (h : HeldN e w0 w v ls) (hg : Gr w w') : HeldN e w0 w' v ls := by
  obtain ⟨vals, h1, h3⟩ := h
  exact ⟨vals, World.ownsRow.kept (row := none) h1 ⟨hg.os, hg.tape, hg.output, hg.size, fun k hk _ => hg.block k hk⟩ (by cases hv : v.ownBlock <;> simp), fun j hj => by
    obtain ⟨A, c, k1, k2, k3, k4⟩ := h3 j hj
    exact ⟨A, c, k1, k2.gr hg, k3, k4⟩⟩
theorem HeldN.drewN {e : TypeId} {w0 w : World} {v : Value} {ls : List (List UInt8)} (h : HeldN e w0 w v ls) (n : Nat) : HeldN e w0 (w.drewN n) v ls := h.gr ((Gr.refl w).drewN n)

set_option maxHeartbeats 400000 in
theorem All_ok (A : Option Addr) (n c : Nat) (l : List UInt8) (hn : n = l.length) (w : World) (hby : By w A c l) (hmax : (l.length : Int) ≤ 1000000000) :
    Calls Tryd.prog 30 #[.slice A n c] w fun e w' => ∃ v, e = .returned (.tuple #[v, .int .i64 (allK l)]) ∧ HeldN 33 w w' v (all l) ∧ Gr w w' := by
  subst hn
  have hoff : Off w.heap.size A l := hby.rd.off
  have HY := hide hby
  clear hby
  go_enter Tryd.func30, Tryd.ntmps30
  go_wp2_with fail
  refine (many_any w.heap.size A c l _ (Bl.new _ _ _) (HY.out.gr ((Gr.refl w).alloc _)) hoff hmax).mono ?_
  rintro e w1 ⟨v1, rfl, hh, hr1, hbut⟩
  have e1 : w1.cell? ⟨w.heap.size, 1, none⟩ = some (.int .i64 ((fspan (all l) : Nat) : Int)) := hr1.cell 1
  have HH := hide hh
  obtain ⟨Av, cv, rfl, hrws⟩ := hh.held.rws
  have HG := hide hbut.gr
  have HW := hide hrws
  clear hh hr1 hbut hoff hrws
  go_wp2_with fail
  go_quiet (fail)
  go_wp2_with fail
  go_ret2
  exact ⟨_, rfl, (HH.out.drewN _).low (by simp), HG.out.drewN _⟩

end Go.Proofs.YtkcfieoflkhdpaaDoor
