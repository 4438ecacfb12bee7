/-
  wal.Open by its contract.
-/
import Derived.Test.YtkcfieoflkhdpaaDoorWalRead
import Derived.Test.YtkcfieoflkhdpaaDoorWalWalk
namespace Go.Proofs.YtkcfieoflkhdpaaDoor.WalOpen
open Go Go.RowKit MapS DiskMem DiskOps DiskApp WalMath WalName WalObj WalDo WalWalk WalRead FrameMath
set_option maxRecDepth 100000

/-- the records of the first pieces -/
def rc (F : Fs) (b : UInt8) : Nat → List (List UInt8)
  | 0 => []
  | t + 1 => rc F b t ++ recsR F (pieceL b (t + 1))
/-- so many pieces are removed, from the m-th one on -/
def rm (F : Fs) (b : UInt8) (m : Nat) : Nat → Fs
  | 0 => F
  | t + 1 => (removeF (rm F b m t) (pieceL b (m + t))).2
def rmC (F : Fs) (b : UInt8) (m j : Nat) : Int := (removeF (rm F b m (j - m)) (pieceL b j)).1
def rmTo (F : Fs) (b : UInt8) (m : Nat) : Fs := rm F b m ((walkS (rmC F b m) m).1 - m)
def readC (F : Fs) (b : UInt8) (j : Nat) : Int := codeR F (pieceL b j)
/-- what Open comes to: how many pieces, which records, the files -/
def openM (F : Fs) (b : UInt8) : Nat × List (List UInt8) × Fs :=
  if (walkS (readC F b) 1).2 = 2 then ((walkS (readC F b) 1).1, rc F b (walkS (readC F b) 1).1, rmTo (cutR F (pieceL b (walkS (readC F b) 1).1)) b ((walkS (readC F b) 1).1 + 1))
  else ((walkS (readC F b) 1).1 - 1, rc F b ((walkS (readC F b) 1).1 - 1), F)

theorem recs_len {F : Fs} (hr : Ris F) (hF : ∀ p ∈ F, p.2.b.length ≤ 100000000) (s : List UInt8) : (recsR F s).length ≤ 100000000 := by
  unfold recsR
  cases hf : getE F s with
  | none => exact Nat.zero_le _
  | some f =>
    have h1 := hF _ ((mem_getE hr).1 hf)
    have h2 := many_span (all f.b)
    have h3 := all_span f.b
    simp only at h1 ⊢
    omega
theorem rc_len {F : Fs} (hr : Ris F) (hF : ∀ p ∈ F, p.2.b.length ≤ 100000000) (b : UInt8) : ∀ t, (rc F b t).length ≤ t * 100000000
  | 0 => Nat.zero_le _
  | t + 1 => by
    have h1 := rc_len hr hF b t
    have h2 := recs_len hr hF (pieceL b (t + 1))
    simp only [rc, List.length_append]
    omega
theorem removeF_no {F : Fs} {s : List UInt8} (h : (removeF F s).1 ≠ 0) : (removeF F s).2 = F := by
  unfold removeF at h ⊢
  cases hf : getE F s with
  | none => rfl
  | some f => rw [hf] at h; exact absurd rfl h
theorem codeR_six {F : Fs} {s : List UInt8} (h : codeR F s ≠ 2) (h0 : codeR F s ≠ 0) : recsR F s = [] ∧ cutR F s = F ∧ codeR F s = 6 := by
  unfold codeR at h h0 ⊢
  unfold recsR cutR
  cases hf : getE F s with
  | none => exact ⟨rfl, rfl, rfl⟩
  | some f =>
    rw [hf] at h h0
    simp only at h h0
    split at h
    · rename_i h2; rw [if_pos h2] at h0; exact absurd rfl h0
    · exact absurd rfl h
theorem walkS_code {c : Nat → Int} : ∀ (n i k : Nat) (r : Int), 10000 - i = n → i ≤ 10000 → walkS c i = (k, r) → (k ≤ 9999 → r = c k ∧ c k ≠ 0 ∧ ∀ j, i ≤ j → j < k → c j = 0) ∧ (k = 10000 → r = 6) ∧ k ≤ 10000 ∧ i ≤ k := by
  intro n
  induction n with
  | zero =>
    intro i k r hn hi h
    rw [walkS_end (by omega)] at h
    injection h with h1 h2
    exact ⟨fun h => by omega, fun _ => h2.symm, by omega, by omega⟩
  | succ n ih =>
    intro i k r hn hi h
    by_cases h0 : c i = 0
    · rw [walkS_on (by omega) h0] at h
      obtain ⟨g1, g2, g3, g4⟩ := ih (i + 1) k r (by omega) (by omega) h
      refine ⟨fun hk => ⟨(g1 hk).1, (g1 hk).2.1, fun j hj hjk => ?_⟩, g2, g3, by omega⟩
      rcases Nat.eq_or_lt_of_le hj with rfl | hj
      · exact h0
      · exact (g1 hk).2.2 j hj hjk
    · rw [walkS_stop (by omega) h0] at h
      injection h with h1 h2
      subst h1
      exact ⟨fun _ => ⟨h2.symm, h0, fun j hj hjk => by omega⟩, fun h => by omega, by omega, by omega⟩

section
variable {lo : Nat} {S : Nat → Prop} {w0 w w' : World} {d room r : Nat} {F F' : Fs} {ls : List (List UInt8)}
/-- Remove is one of the steps -/
theorem remove_step (ht : tabG < lo) (hlo : lo ≤ w0.heap.size) (h : JSt lo S w0 w d room F r ls) (b : UInt8) (k : Nat) :
    Calls Tryd.prog 17 #[ptr d, .string (pname b k)] w fun e w' => e = .returned (.int .i64 (removeF F (pieceL b k)).1) ∧ JSt lo S w0 w' d room (removeF F (pieceL b k)).2 r ls := by
  obtain ⟨S', Pd, v, h1, h2, h3, h4, h5, h6, h7, h8⟩ := h
  refine (Remove_ok (s := pname b k) h1.is (by rw [pname_size]; unfold maxLen; omega)).mono fun e w' hd => ?_
  rw [pname_list] at hd
  exact ⟨hd.1, did_ ht hlo h1 h2 h3 h4 h5 h6 h7 h8 hd⟩

/-- the records stand as they do whatever becomes of the disk -/
structure RwsS (S : Nat → Prop) (w : World) (A : Option Addr) (c : Nat) (ls : List (List UInt8)) : Prop extends Rws w A c ls where
  keep : ∀ w', Only S w w' → Rws w' A c ls
theorem held_keep {S Pd : Nat → Prop} {e : TypeId} {w : World} {A : Option Addr} {n c : Nat} {ls : List (List UInt8)} (h : HeldP Pd e w (.slice A n c) ls) (hS : ∀ i, Pd i → ¬ S i) : RwsS S w A c ls := by
  obtain ⟨A0, c0, e0, h0⟩ := h.rws
  injection e0 with e1 _ e2
  subst e1
  subst e2
  refine ⟨h0, fun w' ho => ?_⟩
  obtain ⟨A1, c1, e1, h1⟩ := (h.only ho hS).rws
  injection e1 with e2 _ e3
  subst e2
  subst e3
  exact h1
/-- what Open hands back -/
def Opened (lo : Nat) (S : Nat → Prop) (w0 : World) (d room : Nat) (b : UInt8) (size : Nat) (x : Nat × List (List UInt8) × Fs) (e : Ending) (w' : World) : Prop :=
  ∃ g A c S', e = .returned (.tuple #[ptr g, .slice A x.2.1.length c, .int .i64 0]) ∧ WSt lo S' w' d room x.2.2 g b size x.1 ∧ (∀ i, S' i → S i ∨ w0.heap.size ≤ i) ∧ w0.heap.size ≤ g ∧ Only S w0 w' ∧ RwsS S' w' A c x.2.1
def NoWal (w : World) (e : Ending) (w' : World) : Prop := e = .returned (.tuple #[.pointer none, .slice none 0 0, .int .i64 1]) ∧ w' = w

set_option maxHeartbeats 1000000 in
theorem open_nil (b : UInt8) (z : Int) (w : World) : Calls Tryd.prog 7 #[.pointer none, .int .u8 b.toNat, .int .i64 z] w (NoWal w) := by
  go_enter Tryd.func7, Tryd.ntmps7
  go_wp2_with fail
  go_ret3
  exact ⟨rfl, rfl⟩

set_option maxHeartbeats 1000000 in
theorem open_no (b : UInt8) (z : Int) (hno : ¬ (97 ≤ b.toNat ∧ b.toNat ≤ 122 ∧ 1 ≤ z ∧ z ≤ 60000)) (w : World) : Calls Tryd.prog 7 #[.pointer (some ⟨d, 0, none⟩), .int .u8 b.toNat, .int .i64 z] w (NoWal w) := by
  obtain ⟨n, hn⟩ : ∃ n : Nat, b.toNat = n := ⟨_, rfl⟩
  rw [hn] at hno ⊢
  clear hn
  by_cases h1 : (n : Int) < 97
  · have d1 : decide ((n : Int) < 97) = true := by simpa using h1
    go_enter Tryd.func7, Tryd.ntmps7
    go_wp2_with fail
    go_ret3
    exact ⟨rfl, rfl⟩
  have d1 : decide ((n : Int) < 97) = false := by simpa using h1
  by_cases h2 : (122 : Int) < (n : Int)
  · have d2 : decide ((122 : Int) < (n : Int)) = true := by simpa using h2
    go_enter Tryd.func7, Tryd.ntmps7
    go_wp2_with fail
    go_ret3
    exact ⟨rfl, rfl⟩
  have d2 : decide ((122 : Int) < (n : Int)) = false := by simpa using h2
  by_cases h3 : z < 1
  · have d3 : decide (z < 1) = true := by simpa using h3
    go_enter Tryd.func7, Tryd.ntmps7
    go_wp2_with fail
    go_ret3
    exact ⟨rfl, rfl⟩
  have d3 : decide (z < 1) = false := by simpa using h3
  have h4 : (60000 : Int) < z := by omega
  have d4 : decide ((60000 : Int) < z) = true := by simpa using h4
  go_enter Tryd.func7, Tryd.ntmps7
  go_wp2_with fail
  go_ret3
  exact ⟨rfl, rfl⟩

set_option maxHeartbeats 2000000 in
theorem open_ok (ht : tabG < lo) (hlo : lo ≤ w.heap.size) (hu : Use lo S w d room F) (htab : TabW w) (hF : ∀ p ∈ F, p.2.b.length ≤ 100000000) (b : UInt8) (hb : 97 ≤ b.toNat ∧ b.toNat ≤ 122) (size : Nat) (h1 : 1 ≤ size) (h2 : size ≤ 60000) :
    Calls Tryd.prog 7 #[.pointer (some ⟨d, 0, none⟩), .int .u8 b.toNat, .int .i64 size] w (Opened lo S w d room b size (openM F b)) := by
  obtain ⟨r, hr⟩ : ∃ r, w.heap.size = r := ⟨_, rfl⟩
  -- the first walk
  have W1 : Hid (Calls Tryd.prog 15 #[.int .u8 b.toNat, .int .i64 1, .func (.func 16) #[.pointer (some ⟨r, 0, none⟩)] #[]] (w.alloc (.cells #[ptr d, .slice none 0 0] 50 (0, 0)))
      (Went (fun k w' => RSt lo S w w' d room F r (rc F b (k - 1))) (fun k w' => JSt lo S w w' d room (cutR F (pieceL b k)) r (rc F b k)) (readC F b) 1)) := hide (by
    have hris := hu.is.ris
    have hga : Gr w (w.alloc (.cells #[ptr d, .slice none 0 0] 50 (0, 0))) := (Gr.refl w).alloc _
    refine walk_ok b hb 1 (by omega) (by omega) _ _ (readC F b) _ #[.pointer (some ⟨r, 0, none⟩)] Tryd.func16 (by kernel_rfl) (by kernel_rfl) (fun k w' h => h.tab) (fun k w' w1 hk1 hk2 hI hg => ?_) _ ?_
    · have hl := rc_len hris hF b (k - 1)
      have hc := rpiece_ok ht hlo (hI.gr hg) (pname b k) (by rw [pname_size]; unfold maxLen; omega) hF (by
        have : (k - 1) * 100000000 ≤ 9998 * 100000000 := Nat.mul_le_mul_right _ (by omega)
        omega)
      refine hc.mono fun e w2 ⟨he, hy, hn⟩ => ⟨he, fun e0 => ?_, fun e0 => ?_⟩
      · have := hy e0
        rw [pname_list] at this
        rw [show k + 1 - 1 = (k - 1) + 1 by omega]
        unfold rc
        rw [show k - 1 + 1 = k by omega]
        exact this
      · have := hn e0
        rw [pname_list] at this
        obtain ⟨m, rfl⟩ : ∃ m, k = m + 1 := ⟨k - 1, by omega⟩
        exact this
    · refine ⟨hu.gr hga, Only.gr hga S, Nat.le_of_eq hr, fun i hi => hu.hi i hi, ⟨.slice none 0 0, ?_, HeldP.none_ _ _ _⟩, htab.gr hga⟩
      rw [← hr]
      exact Bl.new w _ _)
  have hbi : ¬ (b.toNat : Int) < 97 ∧ ¬ (122 : Int) < (b.toNat : Int) := by omega
  have HB := hide hb
  have HU := hide hu
  have HT := hide htab
  obtain ⟨n, hn⟩ : ∃ n : Nat, b.toNat = n := ⟨_, rfl⟩
  rw [hn] at W1 hbi ⊢
  have HN := hide hn
  have d1 : decide ((n : Int) < 97) = false := by simpa using hbi.1
  have d2 : decide ((122 : Int) < (n : Int)) = false := by simpa using hbi.2
  have d3 : decide ((size : Int) < 1) = false := by simp; omega
  have d4 : decide ((60000 : Int) < (size : Int)) = false := by simp; omega
  obtain ⟨x, hx⟩ : ∃ x, openM F b = x := ⟨_, rfl⟩
  rw [hx]
  have HX := hide hx
  have HR := hide hr
  clear hn hb hu htab hx hbi hr
  unfold ptr at *
  go_enter Tryd.func7, Tryd.ntmps7
  go_wp2_with fail
  rw [HR.out]
  refine W1.out.mono ?_
  rintro e w1 ⟨k, rr, hw, hk1, hk2, rfl, hJ, hI⟩
  obtain ⟨g1, g2, g3, g4⟩ := walkS_code (10000 - 1) 1 k rr rfl (by omega) hw
  obtain ⟨m, rfl⟩ : ∃ m, k = m + 1 := ⟨k - 1, by omega⟩
  have em : ((m + 1 : Nat) : Int) - 1 = (m : Int) := by omega
  rw [em]
  by_cases hrr : rr = 2
  · subst hrr
    have hk9 : m + 1 ≤ 9999 := by omega
    have J1 : Hid (JSt lo S w w1 d room (cutR F (pieceL b (m + 1))) r (rc F b (m + 1))) := hide (hJ hk9)
    obtain ⟨F1, hF1⟩ : ∃ F1, cutR F (pieceL b (m + 1)) = F1 := ⟨_, rfl⟩
    obtain ⟨ls, hls⟩ : ∃ ls, rc F b (m + 1) = ls := ⟨_, rfl⟩
    have hx : Hid (x = (m + 1, ls, rmTo F1 b (m + 2))) := hide (by rw [← HX.out]; unfold openM; rw [hw, if_pos rfl]; simp only [hF1, hls])
    rw [hF1, hls] at J1
    have W2 : Hid (Calls Tryd.prog 15 #[.int .u8 n, .int .i64 ((m : Int) + 1 + 1), .func (.func 17) #[.pointer (some ⟨d, 0, none⟩)] #[]] w1
        (Went (fun j w' => m + 2 ≤ j ∧ JSt lo S w w' d room (rm F1 b (m + 2) (j - (m + 2))) r ls) (fun j w' => m + 2 ≤ j ∧ JSt lo S w w' d room (rm F1 b (m + 2) (j - (m + 2))) r ls) (rmC F1 b (m + 2)) (m + 2))) := hide (by
      have e2 := HN.out
      subst e2
      have e3 : ((m : Int) + 1 + 1) = ((m + 2 : Nat) : Int) := by omega
      rw [e3]
      refine walk_ok b HB.out (m + 2) (by omega) (by omega) _ _ (rmC F1 b (m + 2)) _ #[.pointer (some ⟨d, 0, none⟩)] Tryd.func17 (by kernel_rfl) (by kernel_rfl) (fun j w' h => ?_) (fun j w' w3 hj1 hj2 hI hg => ?_) _ ⟨Nat.le_refl _, by rw [Nat.sub_self]; exact J1.out⟩
      · obtain ⟨_, S', Pd, v, _, _, _, _, _, _, _, h8⟩ := h
        exact h8
      · refine (remove_step ht hlo (hI.2.gr hg) b j).mono fun e w4 ⟨he, hj⟩ => ⟨he, fun e0 => ⟨by omega, ?_⟩, fun e0 => ⟨hI.1, ?_⟩⟩
        · rw [show j + 1 - (m + 2) = (j - (m + 2)) + 1 by omega]
          unfold rm
          rw [show m + 2 + (j - (m + 2)) = j by omega]
          exact hj
        · rw [removeF_no e0] at hj
          exact hj)
    clear hJ hI g1 g2 hw W1
    unfold ptr at *
    go_wp2_with (go_at_call 15; refine W2.out.mono ?_; rintro e w2 ⟨k2, r2, hw2, hk3, hk4, rfl, hJ2, hI2⟩)
    have J3 : JSt lo S w w2 d room (rmTo F1 b (m + 2)) r ls := by
      unfold rmTo
      rw [hw2]
      by_cases hk : k2 ≤ 9999
      · exact (hJ2 hk).2
      · exact (hI2 (by omega)).2
    clear hJ2 hI2 hw2 W2 J1 em
    obtain rfl := HN.out
    obtain ⟨S', Pd, v, q1, q2, q3, q4, q5, q6, q7, q8⟩ := J3
    obtain ⟨A, c, rfl, _⟩ := q5.rws
    have hga : Gr w2 (w2.alloc (.cells (walC d b size (m + 1)) 55 (0, 0))) := (Gr.refl _).alloc _
    have k1 := Bl.cell q4 1
    simp only [List.getElem?_toArray, List.getElem?_cons_zero, List.getElem?_cons_succ] at k1
    have k2 : ∀ C t, (w2.alloc (.cells C t (0, 0))).cell? ⟨r, 1, none⟩ = some (.slice A ls.length c) := fun C t => gr_cell ((Gr.refl _).alloc _) _ _ k1
    have Q : Hid (Opened lo S w d room b size x (.returned (.tuple #[.pointer (some ⟨w2.heap.size, 0, none⟩), .slice A ls.length c, .int .i64 0])) (w2.alloc (.cells (walC d b size (m + 1)) 55 (0, 0))).drew) := hide (by
      have hs := q7.size
      rw [hx.out]
      exact ⟨_, A, c, S', rfl, ⟨q1.gr hga.drew, Bl.gr (Bl.new _ _ _) (Gr.refl _).drew, fun e => by have := q1.hi _ e; omega, q8.gr hga.drew, ht, by omega⟩, q2, hs, q7.trans (Only.gr hga.drew S) fun _ _ e => e, held_keep (q5.gr hga.drew) (fun i hi => (q6 i hi).2)⟩)
    clear q1 q2 q3 q4 q5 q6 q7 q8 hga
    unfold ptr walC at *
    go_region
    go_wp2_with fail
    go_ret3
    exact Q.out
  · have hx : Hid (x = (m, rc F b m, F)) := hide (by rw [← HX.out]; unfold openM; rw [hw, if_neg hrr]; rfl)
    have J3 : Hid (JSt lo S w w1 d room F r (rc F b m)) := hide (by
      by_cases hk : m + 1 ≤ 9999
      · obtain ⟨p1, p2, _⟩ := g1 hk
        have h6 := codeR_six (F := F) (s := pieceL b (m + 1)) (by unfold readC at p1; rw [← p1]; exact hrr) p2
        have := hJ hk
        simp only [h6.2.1] at this
        unfold rc at this
        rw [h6.1, List.append_nil] at this
        exact this
      · exact (hI (by omega)).j)
    have hr2 : (rr == 2) = false := by simpa using hrr
    obtain ⟨ls, hls⟩ : ∃ ls, rc F b m = ls := ⟨_, rfl⟩
    rw [hls] at J3 hx
    clear hJ hI g1 g2 hw W1 em
    unfold ptr at *
    go_wp2_with fail
    obtain rfl := HN.out
    obtain ⟨S', Pd, v, q1, q2, q3, q4, q5, q6, q7, q8⟩ := J3.out
    obtain ⟨A, c, rfl, _⟩ := q5.rws
    have hga : Gr w1 (w1.alloc (.cells (walC d b size m) 55 (0, 0))) := (Gr.refl _).alloc _
    have k1 := Bl.cell q4 1
    simp only [List.getElem?_toArray, List.getElem?_cons_zero, List.getElem?_cons_succ] at k1
    have k2 : ∀ C t, (w1.alloc (.cells C t (0, 0))).cell? ⟨r, 1, none⟩ = some (.slice A ls.length c) := fun C t => gr_cell ((Gr.refl _).alloc _) _ _ k1
    have Q : Hid (Opened lo S w d room b size x (.returned (.tuple #[.pointer (some ⟨w1.heap.size, 0, none⟩), .slice A ls.length c, .int .i64 0])) (w1.alloc (.cells (walC d b size m) 55 (0, 0))).drew) := hide (by
      have hs := q7.size
      rw [hx.out]
      exact ⟨_, A, c, S', rfl, ⟨q1.gr hga.drew, Bl.gr (Bl.new _ _ _) (Gr.refl _).drew, fun e => by have := q1.hi _ e; omega, q8.gr hga.drew, ht, by omega⟩, q2, hs, q7.trans (Only.gr hga.drew S) fun _ _ e => e, held_keep (q5.gr hga.drew) (fun i hi => (q6 i hi).2)⟩)
    clear q1 q2 q3 q4 q5 q6 q7 q8 hga
    unfold ptr walC at *
    go_region
    go_wp2_with fail
    go_ret3
    exact Q.out
end

end Go.Proofs.YtkcfieoflkhdpaaDoor.WalOpen
