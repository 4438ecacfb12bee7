/-
  frame.Take and All by their contracts.
-/
import Derived.Test.YtfcbhmfhhkifnaaFrameWalk
import Derived.Test.YtfcbhmfhhkifnaaFrameAllRef
import Derived.Test.YtfcbhmfhhkifnaaFramePut
import Derived.Test.YtfcbhmfhhkifnaaHeldNew
namespace Go.Proofs.Ytfcbhmfhhkifnaa
open Go.RowKit CrcMath FrameMath

set_option maxHeartbeats 400000 in
theorem Take_ok (A : Option Addr) (n c : Nat) (l : List UInt8) (hn : n = l.length) (w : World) (hby : By w A c l) (hmax : (l.length : Int) ≤ 140737488351232) :
    Calls Try.prog 12 #[.slice A n c] w (TakePost w l) := by
  subst hn
  have hoff : Off w.heap.size A l := hby.rd.off
  have HY := hide hby
  clear hby
  go_enter Try.func12, Try.ntmps12
  go_wp2_with fail
  refine (frame_any w.heap.size A c l 0 _ (Bl.new _ _ _) (HY.out.gr ((Gr.refl w).alloc _)) hoff (by omega) hmax).mono ?_
  rintro e w1 ⟨A1, c1, rfl, hb1, hn1, hr1, hbut⟩
  rw [List.drop_zero] at hb1 hr1 ⊢
  have e1 : w1.cell? ⟨w.heap.size, 1, none⟩ = some (.int .i64 ((0 + (takeK l).toNat : Nat) : Int)) := hr1.cell 1
  have hk : ((0 + (takeK l).toNat : Nat) : Int) = takeK l := by
    unfold takeK
    split <;> omega
  rw [hk] at e1
  have HG := hide hbut.gr
  have HB := hide hb1
  clear hb1 hn1 hr1 hbut hoff hk
  obtain ⟨T, hT⟩ : ∃ T, takeL l = T := ⟨_, rfl⟩
  obtain ⟨K, hK⟩ : ∃ K, takeK l = K := ⟨_, rfl⟩
  obtain ⟨O, hO⟩ : ∃ O, takeB l = O := ⟨_, rfl⟩
  rw [hT] at HB ⊢
  rw [hK] at e1
  rw [hO]
  have HT := hide hT
  have HK := hide hK
  have HO := hide hO
  clear hT hK hO
  go_wp2_with fail
  go_quiet (fail)
  go_wp2_with fail
  go_ret3
  exact ⟨A1, c1, by rw [HT.out, HK.out, HO.out]; rfl, by rw [HT.out]; exact HB.out.drewN _, HG.out.drewN _⟩

/-- how long a slice is -/
def lenV : Value → Nat
  | .slice _ n _ => n
  | _ => 0

/-- what 'many' comes to, at the beginning of the bytes l -/
def ManyPost (g : Nat) (A : Option Addr) (c : Nat) (l : List UInt8) (w : World) (e : Ending) (w' : World) : Prop :=
  ∃ v, e = .returned v ∧ HeldN 22 w w' v (all l) ∧ FRdr w' g A l.length c (fspan (all l)) ∧ But w w' g

set_option maxHeartbeats 400000 in
theorem many_any (g : Nat) (A : Option Addr) (c : Nat) (l : List UInt8) (w : World) (hr : FRdr w g A l.length c 0) (hl : By w A c l) (ho : Off g A l) (hmax : (l.length : Int) ≤ 1000000000) :
    Calls Try.prog 22 #[.func (.func 21) #[.pointer (some ⟨g, 0, none⟩)] #[]] w (ManyPost g A c l w) := by
  obtain ⟨i0, hi, hz0, hz1, hz2⟩ := info_parts info_slice
  have hg : g < w.heap.size := hr.lt
  go_enter Try.func22, Try.ntmps22
  go_wp2_with fail
  go_loopw [3] (fun v wr => ∃ (k : Nat) (ls : List (List UInt8)), Hid (Read l k ls) ∧ HeldN 22 w wr v ls ∧ FRdr wr g A l.length c k ∧ But w wr g) (fun v _ => l.length - lenV v)
  case atStart => exact ⟨0, [], Read.nil l, HeldN.none_ _ _, hr, But.refl _ _⟩
  case round =>
    obtain ⟨k, ls, HR, hh, hrd, hbut⟩ := hrel
    have hk := HR.out.1
    have hby : By wr A c l := ⟨hl.rd.but hbut ho, hl.le, hl.max, hl.nil⟩
    have HY := hide hby
    clear hby
    go_wp2_with fail
    refine (frame_any g A c l k wr hrd HY.out ho hk (by omega)).mono ?_
    rintro e w2 ⟨A2, c2, rfl, hb2, hn2, hr2, hbut2⟩
    by_cases his : Is (l.drop k)
    · obtain ⟨p1, p2, p3⟩ := take_yes his
      rw [p1] at hb2 hn2 ⊢
      rw [p2] at hr2
      rw [p3]
      have hv : Hid (lenV u3 = ls.length) := by obtain ⟨Av, cv, hv, _⟩ := hh.held.rws; rw [hv]; exact hide rfl
      have hlen := HR.out.many
      have HM := hide (HR.out.more his)
      have hlen2 := HM.out.many
      rw [List.length_append, List.length_singleton] at hlen2
      have hh2 := hh.but hbut2 hg
      have hap := hn2.apart (o := u3.ownBlock) fun j hj => (hh.lt j hj).2
      have hnew : New w A2 (ftext (l.drop k)) := fun h1 ad h2 => Nat.le_trans hbut.size (hn2 h1 ad h2)
      have hbw : But w w2 g := ⟨hbut2.os.trans hbut.os, hbut2.tape.trans hbut.tape, hbut2.output.trans hbut.output, Nat.le_trans hbut.size hbut2.size, fun i hi hne => (hbut2.block i (Nat.lt_of_lt_of_le hi hbut.size) hne).trans (hbut.block i hi hne)⟩
      have hnl : New w2 A2 [] := fun h => absurd h (by simp)
      obtain ⟨T, hT⟩ : ∃ T, ftext (l.drop k) = T := ⟨_, rfl⟩
      obtain ⟨N, hN⟩ : ∃ N, flen (l.drop k) = N := ⟨_, rfl⟩
      rw [hN] at HM hr2
      rw [hT] at hb2 hap HM hnew ⊢
      have HL := hide hlen2
      clear his p1 p2 p3 hn2 hh hrd hbut hbut2 hT hN HR hlen hlen2 hnl
      go_wp2_with (at_builtin; refine wpList_pushN (w0 := w) (g := g) rfl (.tmp 14) (.tmp 16) _ rfl 22 i0 Try.underlying29 hi hz0 hz1 hz2 rfl hb2 rfl hh2 hbw hap hnew rfl (by have := HL.out; omega) ?_; intro v3 w3 ho3 hg3 hk3)
      go_roundw
      case rel => exact ⟨_, _, HM, ho3, hk3 _ _ _ hg hr2, hg3⟩
      case measure =>
        obtain ⟨Aw, cw, hv3, _⟩ := ho3.held.rws
        have := HL.out
        have h2 := hv.out
        rw [hv3, h2]
        simp [lenV]
        omega
    · obtain ⟨p1, p2, p3⟩ := take_no his
      obtain ⟨q1, q2⟩ := HR.out.stop his
      rw [p1] at hb2 ⊢
      rw [p2] at hr2
      rw [p3]
      have hh2 := hide (hh.but hbut2 hg)
      have hbw := hide (show But w w2 g from ⟨hbut2.os.trans hbut.os, hbut2.tape.trans hbut.tape, hbut2.output.trans hbut.output, Nat.le_trans hbut.size hbut2.size, fun i hi hne => (hbut2.block i (Nat.lt_of_lt_of_le hi hbut.size) hne).trans (hbut.block i hi hne)⟩)
      have hr3 := hide hr2
      have HQ := hide q1
      have HQ2 := hide HR.out.2.2
      clear his p1 p2 p3 hb2 hn2 hr2 hh hrd hbut hbut2 q1 q2 HR
      go_wp2_with fail
      go_ret
      refine ⟨_, rfl, by rw [HQ.out]; exact hh2.out, ?_, hbw.out⟩
      rw [HQ.out, ← HQ2.out]
      exact hr3.out

set_option maxHeartbeats 400000 in
theorem All_ok (A : Option Addr) (n c : Nat) (l : List UInt8) (hn : n = l.length) (w : World) (hby : By w A c l) (hmax : (l.length : Int) ≤ 1000000000) :
    Calls Try.prog 14 #[.slice A n c] w (AllPost w l) := by
  subst hn
  have hoff : Off w.heap.size A l := hby.rd.off
  have HY := hide hby
  clear hby
  go_enter Try.func14, Try.ntmps14
  go_wp2_with fail
  refine (many_any w.heap.size A c l _ (Bl.new _ _ _) (HY.out.gr ((Gr.refl w).alloc _)) hoff hmax).mono ?_
  rintro e w1 ⟨v1, rfl, hh, hr1, hbut⟩
  have e1 : w1.cell? ⟨w.heap.size, 1, none⟩ = some (.int .i64 ((fspan (all l) : Nat) : Int)) := hr1.cell 1
  obtain ⟨Av, cv, rfl, hrws⟩ := hh.held.rws
  have HG := hide hbut.gr
  have HW := hide hrws
  clear hh hr1 hbut hoff hrws
  go_wp2_with fail
  go_quiet (fail)
  go_wp2_with fail
  go_ret2
  exact ⟨Av, cv, rfl, HW.out.drewN _, HG.out.drewN _⟩

end Go.Proofs.Ytfcbhmfhhkifnaa
