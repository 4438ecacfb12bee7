/-
  'begun' of the statements on wal: true.
-/
import Derived.Test.YtkcfieoflkhdpaaDoorWalMath1
import Derived.Lib.SlBytesConst
namespace Go.Proofs.YtkcfieoflkhdpaaDoor.WalBegun
open Go Go.RowKit MapS DiskMem DiskHit DiskBegin DiskOps DiskApp DiskCrash KeyMath WalName WalObj WalDo WalWalk WalRead WalOpen WalMath FrameMath
set_option maxRecDepth 100000

theorem all_one {l : List UInt8} (h : l.length ≤ 60000) : all (enc l) = [l] := by
  have := all_enc (r := []) h
  rw [List.append_nil, all_nil] at this
  exact this
theorem whole_one {l : List UInt8} (h : l.length ≤ 60000) (n : Nat) : whole_ ⟨enc l, n⟩ := by
  unfold whole_
  simp only [all_one h, enc_length]
  simp [fspan]
/-- what is below a wal's disk is as it was -/
theorem gr_done {lo : Nat} {S : Nat → Prop} {a w w' : World} {d room g : Nat} {b : UInt8} {size : Nat} {F : Fs} {n : Nat} {x : Int × Fs × Nat} {e : Ending} (h0 : WSt lo S w d room F g b size n) (ha : a.heap.size ≤ lo) (hg : Gr a w) (h : WDone lo S w d room g b size x e w') : Gr a w' :=
  gr_only hg h.2.2 fun i hi => by
    rcases hi with hi | hi
    · exact Nat.le_trans ha (h0.use.lo i hi)
    · rw [hi]; exact Nat.le_trans ha h0.lo
theorem small_of {lo : Nat} {S : Nat → Prop} {w : World} {d room : Nat} {F : Fs} (h : Use lo S w d room F) (hr : room ≤ 100000000) : ∀ p ∈ F, p.2.b.length ≤ 100000000 := fun p hp => by
  obtain ⟨_, _, _, h3, _⟩ := h.is.facts
  have := used_get (s := p.1) (f := p.2) hp
  omega

/-- one record, made sure, and read again -/
theorem once {b : UInt8} (hb : 97 ≤ b.toNat ∧ b.toNat ≤ 122) (room size : Nat) (l : List UInt8) (hl : l.length ≤ 60000) (hr : l.length + 6 ≤ room) : ∃ F1 F2, appendW room [] b size 0 l = (0, F1, 1) ∧ syncW F1 b 1 = (0, F2) ∧ openM F2 b = (1, [l], F2) := by
  obtain ⟨F1, h1, a1⟩ := append_first (room := room) (size := size) (l := l) hb List.Pairwise.nil (pcs_nil b) hl (by simpa [usedF] using hr)
  have hp1 : Pcs F1 b ([] ++ [⟨enc l, 0⟩]) := a1.pcs
  have hp2 := hp1.put a1.ris (⟨enc l, (enc l).length⟩ : FileT)
  refine ⟨F1, _, h1, sync_last hp1, ?_⟩
  rw [openM_whole hp2 (fun f hf => by
    simp only [List.nil_append, List.mem_singleton] at hf
    subst hf
    exact whole_one hl _)]
  simp only [List.nil_append, recsOf_one, all_one hl, List.length_singleton, List.length_nil]

set_option maxHeartbeats 2000000 in
theorem begun_ok (w : World) (ht : TabW w) : Calls Tryd.prog 4 #[] w fun e w' => e = .returned (.bool true) ∧ Gr w w' := by
  have kc := fun (w : World) (C : Array Value) (n c : Nat) => Lib.run_convert_bytes_const (P := Tryd.prog) w 33 5 C n c Tryd.underlying33 Tryd.underlying5
  have HT := hide ht
  have HL := hide ht.lt
  clear ht
  go_enter Tryd.func4, Tryd.ntmps4
  go_wp2_with fail
  refine (new_ok 1000 w).mono ?_
  rintro e w1 ⟨rfl, hg1, hb1, hs1⟩
  have U1 := hide (use_new (room := 1000) (by omega) hb1 hs1)
  have G1 := hide hg1
  have S1 := hide hs1
  clear hg1 hb1 hs1
  unfold ptr
  obtain ⟨d, hd⟩ : ∃ d, w.heap.size = d := ⟨_, rfl⟩
  have HD := hide hd
  rw [hd] at U1 HL S1 ⊢
  have O1 := hide (open_ok HL.out (by have := S1.out; omega) U1.out (HT.out.gr G1.out) (fun p hp => by cases hp) 114 (by decide) 50 (by decide) (by decide))
  rw [openM_nil] at O1
  clear hd
  go_wp2_with (go_at_call 7; refine O1.out.mono ?_; rintro e w2 ⟨g, A, c, S, rfl, hst, hS, hlo, hon, hrw⟩; have W2 := hide hst; have G2 : Hid (Gr w w2) := hide (gr_only G1.out hon (fun i hi => by rw [HD.out, show i = d from hi]; exact Nat.le_refl _)); clear hst hS hlo hon hrw; unfold ptr)
  obtain ⟨F1, F2, h1, h2, h3⟩ := once (b := 114) (by decide) 1000 50 [97, 98] (by decide) (by decide)
  have E2 := hide h2
  have E3 := hide h3
  clear h2 h3
  have P1 := hide (append_ok (by decide) (by decide) (W2.out.gr ((Gr.refl w2).alloc (.cells (bvs [97, 98]).toArray 5 (2, 3)))) (some ⟨w2.heap.size, 0, none⟩) 2 2 [97, 98] rfl (by_lit w2 5 [97, 98] (2, 3) (by decide)) (by decide) (by decide) (by decide))
  rw [h1] at P1
  clear h1 O1
  go_wp2_with (go_at_call 11; refine P1.out.mono ?_; rintro e w3 hd3; have D3 := hide hd3; have G3 : Hid (Gr w w3) := hide (gr_done (W2.out.gr ((Gr.refl w2).alloc _)) (Nat.le_of_eq HD.out) (G2.out.alloc _) hd3); obtain rfl := hd3.1; clear hd3)
  have P2b := hide (sync_ok (by decide) (show 1 ≤ 9999 by decide) D3.out.2.1)
  simp only [E2.out] at P2b
  go_wp2_with (go_at_call 8; refine P2b.out.mono ?_; rintro e w4 hd4; have D4 := hide hd4; have G4 : Hid (Gr w w4) := hide (gr_done D3.out.2.1 (Nat.le_of_eq HD.out) G3.out hd4); obtain rfl := hd4.1; clear hd4)
  clear P2b
  have P3 := hide (pieces_ok g d 114 50 1 w4 D4.out.2.1.wal)
  go_wp2_with (go_at_call 13; refine P3.out.mono ?_; rintro e w5 ⟨rfl, rfl⟩)
  have O2 := hide (open_ok HL.out (D4.out.2.1.loS) D4.out.2.1.use D4.out.2.1.tab (small_of D4.out.2.1.use (by decide)) 114 (by decide) 50 (by decide) (by decide))
  simp only [E3.out] at O2
  clear P3
  go_wp2_with fail
  refine O2.out.mono ?_
  rintro e w6 ⟨g2, A2, c2, S2, rfl, hst2, hS2, hlo2, hon2, hrw2⟩
  have G6 : Hid (Gr w w6) := hide (gr_only G4.out hon2 (fun i hi => Nat.le_trans (Nat.le_of_eq HD.out) (D4.out.2.1.use.lo i hi)))
  have R6 := hide hrw2
  obtain ⟨ad, hA, B, cB, hcell, hby⟩ := hrw2.rd 0 Nat.zero_lt_one
  have hc0 : w6.cell? ad = some (.slice B 2 cB) := by
    have e0 : ad.add 0 = ad := rfl
    rw [← e0, hcell]
    rfl
  subst hA
  have cx : (convert 33 9 (.slice B 2 cB)).run Tryd.prog w6 = .ok (.string ⟨#[97, 98]⟩) w6 := run_conv w6 33 9 5 Tryd.underlying33 Tryd.underlying5 Tryd.underlying9 (l := [97, 98]) _ _ rfl hby.rd
  clear hcell hby O2 hst2 hS2 hlo2 hon2 hrw2
  unfold ptr
  simp only [List.length_cons, List.length_nil, Nat.zero_add]
  go_wp2_with fail
  refine (open_nil 114 50 w6).mono ?_
  rintro e w7 ⟨rfl, rfl⟩
  go_wp2_with fail
  go_ret
  exact ⟨rfl, G6.out⟩

end Go.Proofs.YtkcfieoflkhdpaaDoor.WalBegun
