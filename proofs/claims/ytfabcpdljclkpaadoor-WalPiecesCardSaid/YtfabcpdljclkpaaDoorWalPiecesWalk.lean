/-
  The walk of 'WalPieces'.
-/
import Derived.Test.YtfabcpdljclkpaaDoorWalMath2
namespace Go.Proofs.YtfabcpdljclkpaaDoor
open Go Go.RowKit MapS DiskMem DiskHit DiskBegin DiskOps DiskApp DiskCrash KeyMath WalName WalObj WalDo WalWalk WalRead WalOpen WalMath WalBegun FrameMath
set_option maxRecDepth 100000

theorem u8_of2 {a : Int} (h : (Lit.int .u8 a).wf = true) : ∃ b : Nat, (b : Int) = a ∧ b < 256 := by
  have : 0 ≤ a ∧ a ≤ 255 := by simpa [Lit.wf, IntKind.min, IntKind.max, IntKind.bits, IntKind.signed] using h
  exact ⟨a.toNat, by omega, by omega⟩

/-- where the row of appends is -/
structure PcAt (w wr : World) (d g size : Nat) (i pieces last ahead : Nat) : Prop where
  gr : Gr w wr
  le : pieces ≤ i
  ex : ∃ S F fs, WSt w.heap.size S wr d 1048576 F g 113 size pieces ∧ Pcs F 113 fs ∧ Ris F ∧ usedF F ≤ i * 106 ∧ F.length ≤ i ∧ PInv fs i pieces last ahead

/-- what Append makes of it -/
theorem PcAt.add {w wr w' : World} {d g size i pieces last ahead : Nat} (h : PcAt w wr d g size i pieces last ahead) (hi : i < 30) {l : List UInt8} (hl : l.length ≤ 100) {A : Option Addr} {n c : Nat} (hn : n = l.length) (hw : Gr wr w') (hb : By w' A c l) {p2 la2 ah2 : Nat}
    (hc : ((pieces = 0 ∨ size ≤ last) ∧ p2 = pieces + 1 ∧ la2 = l.length + 6 ∧ ah2 = i) ∨ ((pieces ≠ 0 ∧ last < size) ∧ p2 = pieces ∧ la2 = last + (l.length + 6) ∧ ah2 = ahead)) :
    Calls Tryd.prog 15 #[.pointer (some ⟨g, 0, none⟩), .slice A n c] w' fun e w2 => e = .returned (.int .i64 0) ∧ PcAt w w2 d g size (i + 1) p2 la2 ah2 := by
  obtain ⟨S, F, fs, h1, h2, h3, h4, h5, h6⟩ := h.ex
  have hp := h6.pieces
  have hle := h.le
  subst hp
  have hst := h1.gr hw
  obtain ⟨F', e1, a1⟩ := append_yes (room := 1048576) (size := size) (l := l) (b := 113) (by decide) h3 h2 (by omega) (by omega) (by omega)
  have ha := append_ok (b := 113) (by decide) (by omega) hst A n c l hn hb (by omega) (by omega) (by omega)
  rw [e1] at ha
  refine ha.mono fun e w2 hd => ⟨hd.1, ?_⟩
  have hinv : PInv (addP size fs l) (i + 1) p2 la2 ah2 := by
    rcases hc with ⟨c1, rfl, rfl, rfl⟩ | ⟨c1, rfl, rfl, rfl⟩
    · exact h6.next c1 (by omega)
    · exact h6.same c1.1 c1.2 (by omega)
  have e2 := hinv.pieces
  have hst2 := hd.2.1
  simp only [e2] at hst2
  refine ⟨gr_done hst (Nat.le_refl _) (h.gr.trans hw) hd, ?_, _, F', addP size fs l, hst2, a1.pcs, a1.ris, ?_, ?_, hinv⟩
  · rcases hc with ⟨c1, rfl, rfl, rfl⟩ | ⟨c1, rfl, rfl, rfl⟩ <;> omega
  · have := a1.used
    omega
  · have := a1.len
    omega

set_option maxHeartbeats 4000000 in
theorem walk_WalPieces (w : World) (ht : TabW w) (a : Int) (ha : (Lit.int .u8 a).wf = true) (A : Option Addr) (n c : Nat) (l : List UInt8) (hn : n = l.length) (h : By w A c l) :
    Calls Tryd.prog 7 #[.int .u8 a, .slice A n c] w fun e w' => e = .returned (.bool true) ∧ Gr w w' := by
  subst hn
  obtain ⟨sz, rfl, hsz⟩ := u8_of2 ha
  have HT := hide ht
  have HL := hide ht.lt
  have HB := hide (begun_ok w ht)
  have HY := hide h
  have hcl := h.le
  have hmx := h.max
  unfold maxLen at hmx
  clear ht ha h
  by_cases h30 : (30 : Int) < (l.length : Int)
  · have d0 : decide ((30 : Int) < (l.length : Int)) = true := by simpa using h30
    go_enter Tryd.func7, Tryd.ntmps7
    go_wp2_with fail
    refine HB.out.mono ?_
    rintro e w0 ⟨rfl, hg0⟩
    have G0 := hide hg0
    clear hg0
    go_wp2_with fail
    go_ret
    exact ⟨rfl, G0.out⟩
  have d0 : decide ((30 : Int) < (l.length : Int)) = false := by simpa using h30
  go_enter Tryd.func7, Tryd.ntmps7
  go_wp2_with fail
  refine HB.out.mono ?_
  rintro e w0 ⟨rfl, hg0⟩
  have G0 := hide hg0
  clear hg0
  go_wp2_with fail
  refine (new_ok 1048576 w0).mono ?_
  rintro e w1 ⟨rfl, hg1, hb1, hs1⟩
  have U1 := hide (use_new (room := 1048576) (by omega) hb1 hs1)
  have O1 := hide (open_ok (by have := HL.out; have := G0.out.size; omega) (by omega) U1.out (HT.out.gr (G0.out.trans hg1)) (fun p hp => by cases hp) 113 (by decide) (1 + sz) (by omega) (by omega))
  have e1 : ((1 + sz : Nat) : Int) = 1 + (sz : Int) := by omega
  rw [openM_nil, e1] at O1
  have G1 := hide hg1
  clear hg1 hb1 hs1
  unfold ptr
  go_wp2_with fail
  refine O1.out.mono ?_
  rintro e w2 ⟨g, A1, c1, S, rfl, hst, hS, hlo, hon, hrw⟩
  have P2 : Hid (PcAt w0 w2 w0.heap.size g (1 + sz) 0 0 0 0) := hide ⟨gr_only G1.out hon (fun i hi => by rw [show i = w0.heap.size from hi]; exact Nat.le_refl _), Nat.le_refl _, S, [], [], hst, pcs_nil _, List.Pairwise.nil, Nat.le_refl _, Nat.le_refl _, PInv.begin⟩
  clear hst hS hlo hon hrw O1
  unfold ptr
  simp only [List.length_nil]
  obtain ⟨d, hd⟩ : ∃ d, w0.heap.size = d := ⟨_, rfl⟩
  rw [hd] at P2 ⊢
  have HD := hide hd
  clear hd
  go_wp2_with fail
  go_loopw [10, 11, 12, 13] (fun p la ah i wr => ∃ P La Ah k : Nat, p = .int .i64 P ∧ la = .int .i64 La ∧ ah = .int .i64 Ah ∧ i = .int .i64 k ∧ k ≤ l.length ∧ Ah ≤ k ∧ La ≤ 106 * k ∧ Hid (PcAt w0 wr d g (1 + sz) k P La Ah)) (fun p la ah i _ => l.length - (intOf i).toNat)
  case atStart => exact ⟨0, 0, 0, 0, rfl, rfl, rfl, rfl, Nat.zero_le _, Nat.le_refl _, Nat.le_refl _, P2⟩
  case round =>
    obtain ⟨P, La, Ah, k, rfl, rfl, rfl, rfl, hk, hah, hla, hat⟩ := hrel
    by_cases hlt : k < l.length
    · have hlt' : (k : Int) < (l.length : Int) := by omega
      have dlt : decide ((k : Int) < (l.length : Int)) = true := by simpa using hlt
      obtain ⟨ad, rfl, hcell⟩ := HY.out.rd k hlt
      have hcw := gr_cell (G0.out.trans hat.out.gr) _ _ hcell
      obtain ⟨x, hx⟩ : ∃ x : Nat, l[k].toNat = x := ⟨_, rfl⟩
      have hx2 : x < 256 := by rw [← hx]; exact UInt8.toNat_lt _
      unfold bv at hcw
      rw [hx] at hcw
      have hkc : (k : Int) < (c : Int) := by omega
      clear hcell hx
      have hP := hat.out.le
      have em : (x : Int) % 100 = ((x % 100 : Nat) : Int) := by omega
      have hm : ∀ W, (Instr.makeSlice 33 (.int .i64 ((x : Int) % 100)) (.int .i64 ((x : Int) % 100))).run Tryd.prog W = .ok (.slice (some ⟨W.heap.size, 0, none⟩) (x % 100) (x % 100)) (W.alloc (.cells (bvs (List.replicate (x % 100) 0)).toArray 5)) := fun W => by
        rw [em, ← made_zeros]
        exact make_bytes W (x % 100) (by omega)
      have hby : ∀ W : World, By (W.alloc (.cells (bvs (List.replicate (x % 100) 0)).toArray 5)) (some ⟨W.heap.size, 0, none⟩) (x % 100) (List.replicate (x % 100) 0) := fun W => by
        have := by_lit W 5 (List.replicate (x % 100) 0) (0, 0) (by rw [List.length_replicate]; unfold maxLen; omega)
        rw [List.length_replicate] at this
        exact this
      clear em
      by_cases hnew : P = 0 ∨ 1 + sz ≤ La
      · have eP : ((P + 1 : Nat) : Int) = (P : Int) + 1 := by push_cast; rfl
        by_cases hP0 : P = 0
        · subst hP0
          have HA := hide (hat.out.add (by omega) (l := List.replicate (x % 100) 0) (by rw [List.length_replicate]; omega) (n := x % 100) (by simp) ((Gr.refl wr).alloc _) (hby wr) (p2 := 1) (la2 := ((List.replicate (x % 100) (0 : UInt8)).length + 6)) (ah2 := k) (.inl ⟨hnew, rfl, rfl, rfl⟩))
          go_wp2_with (first
            | (go_at_call 15; refine HA.out.mono ?_; rintro e w3 ⟨rfl, h3⟩; have H3 := hide h3; clear h3)
            | (go_at_call 17; obtain ⟨S3, F3, fs3, q1, _⟩ := H3.out.ex; have hpc := pieces_ok g d 113 (1 + sz) 1 w3 q1.wal; rw [show ((1 : Nat) : Int) = 1 from rfl] at hpc; refine hpc.mono ?_; rintro e w4 ⟨rfl, rfl⟩; clear q1))
          refine ⟨⟨1, ((List.replicate (x % 100) (0 : UInt8)).length + 6), k, k + 1, rfl, ?_, rfl, by push_cast; rfl, by omega, by omega, by rw [List.length_replicate]; omega, H3⟩, by simp only [intOf]; omega⟩
          rw [List.length_replicate]
          congr 1
          push_cast
          omega
        · have hp0 : ((P : Int) == 0) = false := by simp; omega
          have hge : decide (1 + (sz : Int) ≤ (La : Int)) = true := by simp; omega
          have HA := hide (hat.out.add (by omega) (l := List.replicate (x % 100) 0) (by rw [List.length_replicate]; omega) (n := x % 100) (by simp) ((Gr.refl wr).alloc _) (hby wr) (p2 := (P + 1)) (la2 := ((List.replicate (x % 100) (0 : UInt8)).length + 6)) (ah2 := k) (.inl ⟨hnew, rfl, rfl, rfl⟩))
          go_wp2_with (first
            | (go_at_call 15; refine HA.out.mono ?_; rintro e w3 ⟨rfl, h3⟩; have H3 := hide h3; clear h3)
            | (go_at_call 17; obtain ⟨S3, F3, fs3, q1, _⟩ := H3.out.ex; have hpc := pieces_ok g d 113 (1 + sz) (P + 1) w3 q1.wal; rw [eP] at hpc; refine hpc.mono ?_; rintro e w4 ⟨rfl, rfl⟩; clear q1))
          refine ⟨⟨(P + 1), ((List.replicate (x % 100) (0 : UInt8)).length + 6), k, k + 1, congrArg (Value.int .i64) eP.symm, ?_, rfl, by push_cast; rfl, by omega, by omega, by rw [List.length_replicate]; omega, H3⟩, by simp only [intOf]; omega⟩
          rw [List.length_replicate]
          congr 1
          push_cast
          omega
      · have hp0 : ((P : Int) == 0) = false := by simp; omega
        have hge : decide (1 + (sz : Int) ≤ (La : Int)) = false := by simp; omega
        have HA := hide (hat.out.add (by omega) (l := List.replicate (x % 100) 0) (by rw [List.length_replicate]; omega) (n := x % 100) (by simp) ((Gr.refl wr).alloc _) (hby wr) (p2 := P) (la2 := (La + ((List.replicate (x % 100) (0 : UInt8)).length + 6))) (ah2 := Ah) (.inr ⟨by omega, rfl, rfl, rfl⟩))
        go_wp2_with (first
          | (go_at_call 15; refine HA.out.mono ?_; rintro e w3 ⟨rfl, h3⟩; have H3 := hide h3; clear h3)
          | (go_at_call 17; obtain ⟨S3, F3, fs3, q1, _⟩ := H3.out.ex; have hpc := pieces_ok g d 113 (1 + sz) P w3 q1.wal; refine hpc.mono ?_; rintro e w4 ⟨rfl, rfl⟩; clear q1))
        refine ⟨⟨P, (La + ((List.replicate (x % 100) (0 : UInt8)).length + 6)), Ah, k + 1, rfl, ?_, rfl, by push_cast; rfl, by omega, by omega, by rw [List.length_replicate]; omega, H3⟩, by simp only [intOf]; omega⟩
        rw [List.length_replicate]
        congr 1
        push_cast
        omega
    · have dlt : decide ((k : Int) < (l.length : Int)) = false := by simp; omega
      obtain ⟨S3, F3, fs3, q1, q2, q3, q4, q5, q6⟩ := hat.out.ex
      have hcr := hide (use_crash q1.use q1.loS (Gr.refl wr) none 0 0 [] rfl ⟨fun j hj => absurd hj (by simp), Nat.le_refl _, by unfold maxLen; omega, fun z hz => by cases hz⟩ (fun ad hl => absurd hl (by simp)) (by omega) (F' := crashF [] F3) rfl)
      have hlen := q6.crash q2
      have Q1 := hide q1
      clear q2 q3 q4 q5 q6 q1
      go_wp2_with (go_at_call 13; refine hcr.out.mono ?_; rintro e w4 ⟨rfl, hu4, ho4⟩; have U4 := hide hu4; have O4 := hide ho4; clear hu4 ho4)
      have OP := hide (open_ok Q1.out.tl (Nat.le_trans Q1.out.loS O4.out.size) U4.out (Q1.out.tab.only O4.out Q1.out.tS) (small_of U4.out (by omega)) 113 (by decide) (1 + sz) (by omega) (by omega))
      have e1 : ((1 + sz : Nat) : Int) = 1 + (sz : Int) := by omega
      rw [e1] at OP
      have G4 : Hid (Gr w0 w4) := hide (gr_only hat.out.gr O4.out (fun i hi => Q1.out.use.lo i hi))
      go_wp2_with fail
      refine OP.out.mono ?_
      rintro e w5 ⟨g5, A5, c5, S5, rfl, hst5, hS5, hlo5, hon5, hrw5⟩
      have G5 : Hid (Gr w w5) := hide (G0.out.trans (gr_only G4.out hon5 (fun i hi => U4.out.lo i hi)))
      clear hst5 hS5 hlo5 hon5 hrw5 OP
      unfold ptr
      rw [hlen]
      go_wp2_with fail
      go_ret
      exact ⟨rfl, G5.out⟩

end Go.Proofs.YtfabcpdljclkpaaDoor
