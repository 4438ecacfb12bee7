/-
  The walk of 'WalNone'.
-/
import Derived.Test.YtfabcpdljclkpaaDoorWalBegun
namespace Go.Proofs.YtfabcpdljclkpaaDoor
open Go Go.RowKit MapS DiskMem DiskHit DiskBegin DiskOps DiskApp DiskCrash KeyMath WalName WalObj WalDo WalWalk WalRead WalOpen WalMath WalBegun FrameMath
set_option maxRecDepth 100000

theorem u8_of {a : Int} (h : (Lit.int .u8 a).wf = true) : ∃ b : UInt8, (b.toNat : Int) = a := by
  have : 0 ≤ a ∧ a ≤ 255 := by simpa [Lit.wf, IntKind.min, IntKind.max, IntKind.bits, IntKind.signed] using h
  refine ⟨UInt8.ofNat a.toNat, ?_⟩
  rw [UInt8.toNat_ofNat']
  omega
theorem i64_of {a : Int} (h : (Lit.int .i64 a).wf = true) : -9223372036854775808 ≤ a ∧ a ≤ 9223372036854775807 := by
  simpa [Lit.wf, IntKind.min, IntKind.max, IntKind.bits, IntKind.signed] using h

set_option maxHeartbeats 2000000 in
theorem walk_WalNone (w : World) (ht : TabW w) (a : Int) (ha : (Lit.int .u8 a).wf = true) (z : Int) (hz : (Lit.int .i64 z).wf = true) :
    Calls Tryd.prog 6 #[.int .u8 a, .int .i64 z] w fun e w' => e = .returned (.bool true) ∧ Gr w w' := by
  obtain ⟨b, rfl⟩ := u8_of ha
  have hz2 := i64_of hz
  have HT := hide ht
  have HL := hide ht.lt
  have HB := hide (begun_ok w ht)
  clear ht ha hz
  by_cases hmay : 97 ≤ b.toNat ∧ b.toNat ≤ 122 ∧ 1 ≤ z ∧ z ≤ 60000
  · obtain ⟨size, rfl⟩ : ∃ n : Nat, (n : Int) = z := ⟨z.toNat, by omega⟩
    obtain ⟨n, hn⟩ : ∃ n : Nat, b.toNat = n := ⟨_, rfl⟩
    have d1 : decide ((97 : Int) ≤ (n : Int)) = true := by simp; omega
    have d2 : decide ((n : Int) ≤ 122) = true := by simp; omega
    have d3 : decide ((1 : Int) ≤ (size : Int)) = true := by simp; omega
    have d4 : decide ((size : Int) ≤ 60000) = true := by simp; omega
    have HM := hide hmay
    have HN := hide hn
    rw [hn]
    clear hmay hn hz2
    go_enter Tryd.func6, Tryd.ntmps6
    go_wp2_with fail
    refine HB.out.mono ?_
    rintro e w0 ⟨rfl, hg0⟩
    have G0 := hide hg0
    clear hg0
    go_wp2_with fail
    refine (new_ok 100 w0).mono ?_
    rintro e w1 ⟨rfl, hg1, hb1, hs1⟩
    have U1 := hide (use_new (room := 100) (by omega) hb1 hs1)
    have O1 := hide (open_ok (by have := HL.out; have := G0.out.size; omega) (by omega) U1.out (HT.out.gr (G0.out.trans hg1)) (fun p hp => by cases hp) b ⟨HM.out.1, HM.out.2.1⟩ size (by have := HM.out; omega) (by have := HM.out; omega))
    rw [openM_nil, HN.out] at O1
    have G1 := hide hg1
    clear hg1 hb1 hs1
    unfold ptr
    go_wp2_with fail
    refine O1.out.mono ?_
    rintro e w2 ⟨g, A, c, S, rfl, hst, hS, hlo, hon, hrw⟩
    have G2 : Hid (Gr w w2) := hide (G0.out.trans (gr_only G1.out hon (fun i hi => by rw [show i = w0.heap.size from hi]; exact Nat.le_refl _)))
    clear hst hS hlo hon hrw O1
    unfold ptr
    simp only [List.length_nil]
    go_wp2_with (first | (go_at_call 15; refine (append_nil _ _).mono ?_; rintro e w3 ⟨rfl, rfl⟩) | (go_at_call 12; refine (sync_nil _).mono ?_; rintro e w3 ⟨rfl, rfl⟩) | (go_at_call 17; refine (pieces_nil _).mono ?_; rintro e w3 ⟨rfl, rfl⟩))
    go_ret
    exact ⟨rfl, G2.out⟩
  · obtain ⟨n, hn⟩ : ∃ n : Nat, b.toNat = n := ⟨_, rfl⟩
    have HM := hide hmay
    have HN := hide hn
    rw [hn] at hmay ⊢
    have O1 := hide (fun (d : Nat) (w : World) => open_no (d := d) b z HM.out w)
    rw [HN.out] at O1
    clear hn
    by_cases h1 : (97 : Int) ≤ (n : Int)
    rotate_left
    · have d1 : decide ((97 : Int) ≤ (n : Int)) = false := by simp; omega
      clear hmay
      go_enter Tryd.func6, Tryd.ntmps6
      go_wp2_with fail
      refine HB.out.mono ?_
      rintro e w0 ⟨rfl, hg0⟩
      have G0 := hide hg0
      clear hg0
      go_wp2_with fail
      refine (new_ok 100 w0).mono ?_
      rintro e w1 ⟨rfl, hg1, hb1, hs1⟩
      have G1 := hide hg1
      clear hg1 hb1 hs1
      unfold ptr
      go_wp2_with fail
      refine (O1.out _ _).mono ?_
      rintro e w2 ⟨rfl, rfl⟩
      go_wp2_with (first | (go_at_call 15; refine (append_nil _ _).mono ?_; rintro e w3 ⟨rfl, rfl⟩) | (go_at_call 12; refine (sync_nil _).mono ?_; rintro e w3 ⟨rfl, rfl⟩) | (go_at_call 17; refine (pieces_nil _).mono ?_; rintro e w3 ⟨rfl, rfl⟩))
      go_ret
      exact ⟨rfl, G0.out.trans G1.out⟩
    have d1 : decide ((97 : Int) ≤ (n : Int)) = true := by simpa using h1
    by_cases h2 : (n : Int) ≤ 122
    rotate_left
    · have d2 : decide ((n : Int) ≤ 122) = false := by simp; omega
      clear hmay
      go_enter Tryd.func6, Tryd.ntmps6
      go_wp2_with fail
      refine HB.out.mono ?_
      rintro e w0 ⟨rfl, hg0⟩
      have G0 := hide hg0
      clear hg0
      go_wp2_with fail
      refine (new_ok 100 w0).mono ?_
      rintro e w1 ⟨rfl, hg1, hb1, hs1⟩
      have G1 := hide hg1
      clear hg1 hb1 hs1
      unfold ptr
      go_wp2_with fail
      refine (O1.out _ _).mono ?_
      rintro e w2 ⟨rfl, rfl⟩
      go_wp2_with (first | (go_at_call 15; refine (append_nil _ _).mono ?_; rintro e w3 ⟨rfl, rfl⟩) | (go_at_call 12; refine (sync_nil _).mono ?_; rintro e w3 ⟨rfl, rfl⟩) | (go_at_call 17; refine (pieces_nil _).mono ?_; rintro e w3 ⟨rfl, rfl⟩))
      go_ret
      exact ⟨rfl, G0.out.trans G1.out⟩
    have d2 : decide ((n : Int) ≤ 122) = true := by simpa using h2
    by_cases h3 : (1 : Int) ≤ z
    rotate_left
    · have d3 : decide ((1 : Int) ≤ z) = false := by simp; omega
      clear hmay
      go_enter Tryd.func6, Tryd.ntmps6
      go_wp2_with fail
      refine HB.out.mono ?_
      rintro e w0 ⟨rfl, hg0⟩
      have G0 := hide hg0
      clear hg0
      go_wp2_with fail
      refine (new_ok 100 w0).mono ?_
      rintro e w1 ⟨rfl, hg1, hb1, hs1⟩
      have G1 := hide hg1
      clear hg1 hb1 hs1
      unfold ptr
      go_wp2_with fail
      refine (O1.out _ _).mono ?_
      rintro e w2 ⟨rfl, rfl⟩
      go_wp2_with (first | (go_at_call 15; refine (append_nil _ _).mono ?_; rintro e w3 ⟨rfl, rfl⟩) | (go_at_call 12; refine (sync_nil _).mono ?_; rintro e w3 ⟨rfl, rfl⟩) | (go_at_call 17; refine (pieces_nil _).mono ?_; rintro e w3 ⟨rfl, rfl⟩))
      go_ret
      exact ⟨rfl, G0.out.trans G1.out⟩
    have d3 : decide ((1 : Int) ≤ z) = true := by simpa using h3
    have h4 : ¬ z ≤ 60000 := fun h4 => hmay ⟨by omega, by omega, h3, h4⟩
    have d4 : decide (z ≤ 60000) = false := by simp; omega
    clear hmay
    go_enter Tryd.func6, Tryd.ntmps6
    go_wp2_with fail
    refine HB.out.mono ?_
    rintro e w0 ⟨rfl, hg0⟩
    have G0 := hide hg0
    clear hg0
    go_wp2_with fail
    refine (new_ok 100 w0).mono ?_
    rintro e w1 ⟨rfl, hg1, hb1, hs1⟩
    have G1 := hide hg1
    clear hg1 hb1 hs1
    unfold ptr
    go_wp2_with fail
    refine (O1.out _ _).mono ?_
    rintro e w2 ⟨rfl, rfl⟩
    go_wp2_with (first | (go_at_call 15; refine (append_nil _ _).mono ?_; rintro e w3 ⟨rfl, rfl⟩) | (go_at_call 12; refine (sync_nil _).mono ?_; rintro e w3 ⟨rfl, rfl⟩) | (go_at_call 17; refine (pieces_nil _).mono ?_; rintro e w3 ⟨rfl, rfl⟩))
    go_ret
    exact ⟨rfl, G0.out.trans G1.out⟩

end Go.Proofs.YtfabcpdljclkpaaDoor
