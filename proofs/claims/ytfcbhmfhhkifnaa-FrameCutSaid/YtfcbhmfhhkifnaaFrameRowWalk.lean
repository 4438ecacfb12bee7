/-
  The walk of 'FrameRow'.
-/
import Derived.Test.YtfcbhmfhhkifnaaFrameBegun
import Derived.Test.YtfcbhmfhhkifnaaFrameTakeRef
namespace Go.Proofs.Ytfcbhmfhhkifnaa
open Go.RowKit FrameMath

theorem rows_snoc {ls : List (List UInt8)} {k : Nat} (h : k < ls.length) : rows (ls.take (k + 1)) = rows (ls.take k) ++ enc ls[k] := by
  unfold rows; rw [List.take_succ_eq_append_getElem h, List.flatMap_append, List.flatMap_singleton]
theorem mem_take_more {ls : List (List UInt8)} {k : Nat} (hlt : k < ls.length) : ∀ s, s ∈ ls.take (k + 1) → s ∈ ls.take k ∨ s = ls[k] := by
  intro s h
  rw [List.take_succ_eq_append_getElem hlt, List.mem_append, List.mem_singleton] at h
  exact h
theorem span_le {ls : List (List UInt8)} {m : Nat} (h : ∀ l ∈ ls, l.length ≤ m) : fspan ls ≤ (m + 6) * ls.length := by
  induction ls with
  | nil => simp [fspan]
  | cons x r ih =>
    have h1 := h x (by simp)
    have h2 := ih fun l hl => h l (by simp [hl])
    rw [size_cons, List.length_cons, Nat.mul_succ]
    omega

def YesRow (w : World) (e : Ending) (w' : World) : Prop := e = .returned (.bool true) ∧ Gr w w'

theorem conv_ (w : World) {A : Option Addr} {l : List UInt8} (n c : Nat) (hn : l.length = n) (h : Rd w A l) : (convert 22 9 (.slice A n c)).run Try.prog w = .ok (.string (bs l)) w :=
  run_conv w 22 9 5 Try.underlying22 Try.underlying5 Try.underlying9 n c hn h

set_option maxRecDepth 100000 in
set_option maxHeartbeats 1000000 in
theorem row_in (w : World) (A : Option Addr) (c : Nat) (ls : List (List UInt8)) (hls : Rws w A c ls) (B : Option Addr) (d : Nat) (r : List UInt8) (hr : By w B d r) (h1 : (ls.length : Int) ≤ 6) (h2 : (r.length : Int) ≤ 50) :
    Calls Try.prog 7 #[.slice A ls.length c, .slice B r.length d] w (YesRow w) := by
  obtain ⟨i0, hi, hz0, hz1, hz2⟩ := info_parts info_u8'
  have d1 : decide ((6 : Int) < (ls.length : Int)) = false := by rw [decide_eq_false_iff_not]; omega
  have d2 : decide ((50 : Int) < (r.length : Int)) = false := by rw [decide_eq_false_iff_not]; omega
  go_enter Try.func7, Try.ntmps7
  go_wp2_with fail
  refine (begun_ok _).mono ?_
  rintro e w1 ⟨rfl, hg1⟩
  go_wp2_with fail
  go_loopw [5, 6] (fun v i wr => ∃ k : Nat, i = .int .i64 k ∧ k ≤ ls.length ∧ OwnE 5 wr w1.heap.size v (rows (ls.take k)) ∧ Hid (∀ l ∈ ls.take k, l.length ≤ 60) ∧ Gr w1 wr) (fun _ i _ => ls.length - (intOf i).toNat)
  case atStart => exact ⟨0, rfl, by omega, OwnE.none_ _ _, (fun _ h => by simp at h), Gr.refl _⟩
  case round =>
    obtain ⟨k, rfl, hk, hown, h60, hgr⟩ := hrel
    by_cases hlt : k < ls.length
    · have hlt' : (k : Int) < (ls.length : Int) := by omega
      obtain ⟨ad, rfl, Bk, dk, hcell, hbk⟩ := (hls.gr (hg1.trans hgr)).rd k hlt
      have hsn := hide (rows_snoc hlt)
      have hm := hide (mem_take_more hlt)
      obtain ⟨x, hx⟩ : ∃ x, ls[k] = x := ⟨_, rfl⟩
      rw [hx] at hcell hsn hm hbk
      clear hx
      by_cases hbig : (60 : Int) < (x.length : Int)
      · have dx : decide ((60 : Int) < (x.length : Int)) = true := by rw [decide_eq_true_eq]; exact hbig
        clear hbk hown
        go_wp2_with fail
        go_ret
        exact ⟨rfl, hg1.trans hgr⟩
      · have dx : decide ((60 : Int) < (x.length : Int)) = false := by rw [decide_eq_false_iff_not]; exact hbig
        go_wp2_with fail
        refine (Put_ok Bk _ dk x rfl _ hbk (by omega)).mono ?_
        rintro e w2 ⟨v2, t2, rfl, ho2, hg2⟩
        obtain ⟨p1, p2⟩ := putL_yes (l := x) (by omega)
        rw [p1] at ho2
        rw [p2]
        obtain ⟨A2, c2, rfl, hb2⟩ := ho2.by_
        have hl2 := enc_length x
        have hl1 := span_le h60.out
        rw [← rows_length, List.length_take] at hl1
        have hlb : (rows (ls.take k)).length + (enc x).length ≤ 1000000000 := by
          have : (60 + 6) * min k ls.length ≤ 66 * 6 := Nat.mul_le_mul (by omega) (by omega)
          omega
        have HL := hide hlb
        clear ho2 hcell hbk p1 p2 hl1 hlb
        go_wp2_with (at_builtin; refine wpList_app rfl (.tmp 44) (.tmp 45) _ rfl 5 i0 Try.underlying22 hi hz0 hz1 hz2 (r := enc x) rfl rfl (hown.gr hg2) (hgr.trans hg2) rfl hb2.rd hb2.nil HL.out ?_; intro v3 w3 ho3 hg3)
        go_roundw
        case rel => exact ⟨k + 1, by go_num, by omega, by rw [hsn.out]; exact ho3, (fun s h => by rcases hm.out s h with h | rfl; exact h60.out s h; omega), hg3⟩
        case measure => simp [intOf]; omega
    · obtain rfl : k = ls.length := by omega
      rw [List.take_length] at hown h60
      clear hk hlt
      obtain ⟨A3, c3, rfl, hb3⟩ := hown.by_
      clear hown
      have hspan := span_le h60.out
      have hrl := rows_length ls
      have hrows : (rows ls).length ≤ 396 := by
        have : (60 + 6) * ls.length ≤ 66 * 6 := Nat.mul_le_mul (by omega) (by omega)
        omega
      have hall := hide (all_rows r (fun l h => Nat.le_trans (h60.out l h) (by decide)))
      have hsz : allK (rows ls ++ r) = ((rows ls).length : Int) + allK r := by
        unfold allK
        rw [hall.out, size_append, hrl]
        omega
      have hms := all_span r
      have hmm := many_span (all r)
      have hkb : 0 ≤ allK r ∧ allK r ≤ 50 := by unfold allK; omega
      clear hspan hrl h60
      go_wp2_with fail
      refine (All_ok B _ d r rfl _ (hr.gr (hg1.trans hgr)) (by omega)).mono ?_
      rintro e w4 ⟨A4, c4, rfl, hr4, hg4⟩
      go_wp2_with (at_builtin; first | (refine wpList_app rfl (.tmp 53) (.tmp 54) _ rfl 5 i0 Try.underlying22 hi hz0 hz1 hz2 (r := rows ls) rfl rfl (own_empty w4 5 (Gr.refl w4)) ((Gr.refl w4).alloc _) rfl ((hb3.gr hg4).gr ((Gr.refl w4).alloc _)).rd hb3.nil (by simp; omega) ?_; intro v5 w5 ho5 hg5) | (refine wpList_app rfl (.tmp 55) (.tmp 56) _ rfl 5 i0 Try.underlying22 hi hz0 hz1 hz2 (r := r) rfl rfl ho5 hg5 rfl (hr.gr (hg1.trans (hgr.trans (hg4.trans hg5)))).rd hr.nil (by simp; omega) ?_; intro v6 w6 ho6 hg6))
      rw [List.nil_append] at ho6
      obtain ⟨A6, c6, rfl, hb6⟩ := ho6.by_
      clear ho6 ho5 hg5 hr4 hb3
      refine (All_ok A6 _ c6 _ rfl _ hb6 (by rw [List.length_append]; omega)).mono ?_
      rintro e w7 ⟨A7, c7, rfl, hr7, hg7⟩
      rw [hsz]
      rw [hall.out] at hr7 ⊢
      obtain ⟨ms, hme⟩ : ∃ ms, all r = ms := ⟨_, rfl⟩
      obtain ⟨kk, hke⟩ : ∃ kk, allK r = kk := ⟨_, rfl⟩
      obtain ⟨N, hNe⟩ : ∃ N, (rows ls).length = N := ⟨_, rfl⟩
      rw [hme] at hr7 hms hmm ⊢
      rw [hke] at hkb ⊢
      rw [hNe] at hrows ⊢
      obtain ⟨L, hLe⟩ : ∃ L, (ls ++ ms).length = L := ⟨_, rfl⟩
      have hL2 : L = ls.length + ms.length := by rw [← hLe, List.length_append]
      rw [hLe]
      have e1 : ((L : Int) != (ls.length : Int) + (ms.length : Int)) = false := by rw [hL2]; simp
      have hLs : ls.length ≤ L := by omega
      have hlsI : (ls.length : Int) ≤ 6 := by omega
      have hmsI : (ms.length : Int) ≤ 50 := by omega
      have hNI : (N : Int) ≤ 396 := by omega
      have hgw := hide (hg1.trans (hgr.trans (hg4.trans (hg6.trans hg7))))
      have hls7 := hide (hls.gr hgw.out)
      have HR7 := hide hr7
      clear hme hke hNe hb6 hr7 hsz hall hg1 hgr hg4 hg6 hg7 hls hr hL2 hms hmm hrows hi hz0 hz1 hz2
      go_wp2_with fail
      clear e1
      go_loopw [13] (fun i w8 => ∃ k : Nat, i = .int .i64 k ∧ k ≤ ls.length ∧ Gr w7 w8) (fun i _ => ls.length - (intOf i).toNat)
      case atStart => exact ⟨0, rfl, by omega, Gr.refl _⟩
      case round =>
        obtain ⟨k, rfl, hk, hgr⟩ := hrel
        by_cases hlt : k < ls.length
        · have hlt' : (k : Int) < (ls.length : Int) := by omega
          have hltL : (k : Int) < (L : Int) := by omega
          obtain ⟨a8, rfl, B8, d8, x8, y8⟩ := (HR7.out.gr hgr).rd k (by rw [hLe]; omega)
          obtain ⟨a9, rfl, B9, d9, x9, y9⟩ := (hls7.out.gr hgr).rd k hlt
          have he : (ls ++ ms)[k]'(by rw [hLe]; omega) = ls[k] := List.getElem_append_left hlt
          rw [he] at x8 y8
          obtain ⟨x, hx⟩ : ∃ x, ls[k] = x := ⟨_, rfl⟩
          rw [hx] at x8 x9 y8 y9
          have q8 := hide (fun n => conv_ (_root_.Go.World.drewN _ n) _ d8 rfl (y8.rd.drewN n))
          have q9 := hide (fun n => conv_ (_root_.Go.World.drewN _ n) _ d9 rfl (y9.rd.drewN n))
          clear hx he y8 y9
          go_wp2_with fail
          refine wp_region_quiet_lit (by kernel_rfl) (by kernel_rfl) ?_
          repeat (go_big_quiet_step (fail))
          refine quiet_conv rfl 22 9 (.tmp 86) rfl rfl (fun w' ⟨n, hw'⟩ => by rw [hw']; exact q8.out _) ?_
          simp only [Act.put, List.setIfInBounds_toArray, List.set_cons_zero, List.set_cons_succ]
          repeat (go_big_quiet_step (fail))
          refine quiet_conv rfl 22 9 (.tmp 91) rfl rfl (fun w' ⟨n, hw'⟩ => by rw [hw']; exact q9.out _) ?_
          simp only [Act.put, List.setIfInBounds_toArray, List.set_cons_zero, List.set_cons_succ]
          clear q8 q9
          repeat (go_big_quiet_step (fail))
          refine wpQuiet_nil ?_
          rintro _ ⟨nq2, rfl⟩
          go_wp2_with fail
          go_roundw
          case rel => exact ⟨k + 1, by go_num, by omega, hgr.drewN _⟩
          case measure => simp [intOf]; omega
        · obtain rfl : k = ls.length := by omega
          go_wp2_with fail
          go_ret
          exact ⟨rfl, hgw.out.trans hgr⟩

set_option maxRecDepth 100000 in
set_option maxHeartbeats 400000 in
theorem row_out (w : World) (A : Option Addr) (n c : Nat) (B : Option Addr) (m d : Nat) (h : (6 : Int) < (n : Int) ∨ (50 : Int) < (m : Int)) :
    Calls Try.prog 7 #[.slice A n c, .slice B m d] w (YesRow w) := by
  by_cases h1 : (6 : Int) < (n : Int)
  · have d1 : decide ((6 : Int) < (n : Int)) = true := by rw [decide_eq_true_eq]; exact h1
    clear h h1
    go_enter Try.func7, Try.ntmps7
    go_wp2_with fail
    refine (begun_ok _).mono ?_
    rintro e w1 ⟨rfl, hg1⟩
    go_wp2_with fail
    go_ret
    exact ⟨rfl, hg1⟩
  · have d1 : decide ((6 : Int) < (n : Int)) = false := by rw [decide_eq_false_iff_not]; exact h1
    have d2 : decide ((50 : Int) < (m : Int)) = true := by rw [decide_eq_true_eq]; omega
    clear h h1
    go_enter Try.func7, Try.ntmps7
    go_wp2_with fail
    refine (begun_ok _).mono ?_
    rintro e w1 ⟨rfl, hg1⟩
    go_wp2_with fail
    go_ret
    exact ⟨rfl, hg1⟩

theorem walk_FrameRow (w : World) (A : Option Addr) (n c : Nat) (ls : List (List UInt8)) (hn : n = ls.length) (hls : Rws w A c ls) (B : Option Addr) (m d : Nat) (r : List UInt8) (hm : m = r.length) (hr : By w B d r) :
    Calls Try.prog 7 #[.slice A n c, .slice B m d] w (YesRow w) := by
  by_cases h : (6 : Int) < (n : Int) ∨ (50 : Int) < (m : Int)
  · exact row_out w A n c B m d h
  · subst hn hm
    exact row_in w A c ls hls B d r hr (by omega) (by omega)

end Go.Proofs.Ytfcbhmfhhkifnaa
