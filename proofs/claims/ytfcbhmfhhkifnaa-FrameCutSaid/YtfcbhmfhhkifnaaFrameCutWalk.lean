/-
  The walk of 'FrameCut'.
-/
import Derived.Test.YtfcbhmfhhkifnaaFrameRowWalk
import Derived.Test.YtfcbhmfhhkifnaaTwo
namespace Go.Proofs.Ytfcbhmfhhkifnaa
open Go.RowKit FrameMath

/-- where the first k end -/
def endsV (ls : List (List UInt8)) (k : Nat) : List Value := (List.range k).map fun j => .int .i64 ((fspan (ls.take (j + 1)) : Nat) : Int)
theorem endsV_more (ls : List (List UInt8)) (k : Nat) : endsV ls (k + 1) = endsV ls k ++ [.int .i64 ((fspan (ls.take (k + 1)) : Nat) : Int)] := by
  unfold endsV; rw [List.range_succ, List.map_append]; rfl
theorem endsV_length (ls : List (List UInt8)) (k : Nat) : (endsV ls k).length = k := by simp [endsV]
theorem span_more {ls : List (List UInt8)} {k : Nat} (h : k < ls.length) : fspan (ls.take (k + 1)) = (rows (ls.take k)).length + (enc ls[k]).length := by
  rw [List.take_succ_eq_append_getElem h, size_append, rows_length, enc_length]
  simp [fspan]
theorem ends_cells {e : TypeId} {w : World} {B : Nat} {v : Value} {ls : List (List UInt8)} {k : Nat} (h : OwnV e w B v (endsV ls k)) :
    ∃ A c, v = .slice A k c ∧ k ≤ c ∧ ∀ j, j < k → ∃ ad, A = some ad ∧ w.cell? (ad.add j) = some (.int .i64 ((fspan (ls.take (j + 1)) : Nat) : Int)) := by
  obtain ⟨A, c, h1, h2, h3⟩ := h.is
  have hl := endsV_length ls k
  refine ⟨A, c, by rw [h1, hl], by omega, fun j hj => ?_⟩
  obtain ⟨ad, k1, k2⟩ := h3 j (by omega)
  refine ⟨ad, k1, ?_⟩
  rw [k2]
  simp [endsV]
theorem info_int : (Try.prog.info? 3).map (fun i => (i.zero, i.size, i.bytes)) = some (some (.int .i64 0), 1, 8) := by kernel_rfl

def YesCut (w : World) (e : Ending) (w' : World) : Prop := e = .returned (.bool true) ∧ Gr w w'

set_option maxRecDepth 100000 in
set_option maxHeartbeats 1000000 in
theorem cut_in (w : World) (A : Option Addr) (c : Nat) (ls : List (List UInt8)) (hls : Rws w A c ls) (q : Nat) (hq : (q : Int) < 65536) (h1 : (ls.length : Int) ≤ 10) :
    Calls Try.prog 4 #[.slice A ls.length c, .int .u16 (q : Int)] w (YesCut w) := by
  obtain ⟨i0, hi, hz0, hz1, hz2⟩ := info_parts info_u8'
  obtain ⟨i1, hj, hy0, hy1, hy2⟩ := info_parts info_int
  have d1 : decide ((10 : Int) < (ls.length : Int)) = false := by rw [decide_eq_false_iff_not]; omega
  go_enter Try.func4, Try.ntmps4
  go_wp2_with fail
  refine (begun_ok _).mono ?_
  rintro e w1 ⟨rfl, hg1⟩
  go_wp2_with fail
  go_loopw [5, 6, 7] (fun v u i wr => ∃ k : Nat, i = .int .i64 k ∧ k ≤ ls.length ∧ OwnE 5 wr w1.heap.size v (rows (ls.take k)) ∧ OwnV 3 wr w1.heap.size u (endsV ls k) ∧ Sep v u ∧ Hid (∀ l ∈ ls.take k, l.length ≤ 50) ∧ Gr w1 wr) (fun _ _ i _ => ls.length - (intOf i).toNat)
  case atStart => exact ⟨0, rfl, by omega, OwnE.none_ _ _, OwnV.none_ _ _, Sep.none_ _ _ _, (fun _ h => by simp at h), Gr.refl _⟩
  case round =>
    obtain ⟨k, rfl, hk, hown, hends, hsep, h50, hgr⟩ := hrel
    by_cases hlt : k < ls.length
    · have hlt' : (k : Int) < (ls.length : Int) := by omega
      obtain ⟨ad, rfl, Bk, dk, hcell, hbk⟩ := (hls.gr (hg1.trans hgr)).rd k hlt
      have hsn := hide (rows_snoc hlt)
      have hm := hide (mem_take_more hlt)
      have hsp := hide (span_more hlt)
      have hem := hide (endsV_more ls k)
      obtain ⟨x, hx⟩ : ∃ x, ls[k] = x := ⟨_, rfl⟩
      rw [hx] at hcell hsn hm hbk hsp
      clear hx
      by_cases hbig : (50 : Int) < (x.length : Int)
      · have dx : decide ((50 : Int) < (x.length : Int)) = true := by rw [decide_eq_true_eq]; exact hbig
        clear hbk hown hends
        go_wp2_with fail
        go_ret
        exact ⟨rfl, hg1.trans hgr⟩
      · have dx : decide ((50 : Int) < (x.length : Int)) = false := by rw [decide_eq_false_iff_not]; exact hbig
        go_wp2_with fail
        refine (Put_ok Bk _ dk x rfl _ hbk (by omega)).mono ?_
        rintro e w2 ⟨v2, t2, rfl, ho2, hg2⟩
        obtain ⟨p1, p2⟩ := putL_yes (l := x) (by omega)
        rw [p1] at ho2
        rw [p2]
        obtain ⟨A2, c2, rfl, hb2⟩ := ho2.by_
        have hl2 := enc_length x
        have hl1 := span_le h50.out
        rw [← rows_length, List.length_take] at hl1
        have hlb : (rows (ls.take k)).length + (enc x).length ≤ 1000 := by
          have : (50 + 6) * min k ls.length ≤ 56 * 10 := Nat.mul_le_mul (by omega) (by omega)
          omega
        have hcell2 := gr_cell hg2 _ _ hcell
        clear ho2 hbk p1 p2 hl1 hcell
        obtain ⟨E, hE⟩ : ∃ E, enc x = E := ⟨_, rfl⟩
        rw [hE] at hb2 hl2 hlb hsn hsp ⊢
        obtain ⟨N, hN⟩ : ∃ N, E.length = N := ⟨_, rfl⟩
        have HN := hide hN
        have dN : ((N : Int) != 6 + (x.length : Int)) = false := by rw [show (N : Int) = 6 + (x.length : Int) from by omega, bne_self_eq_false]
        have HL := hide hlb
        rw [hN]
        clear hN hE hl2 hlb
        obtain ⟨M, hM⟩ : ∃ M, (rows (ls.take k) ++ E).length = M := ⟨_, rfl⟩
        have HM := hide hM
        have hMV : Value.int IntKind.i64 (M : Int) = .int .i64 ((fspan (ls.take (k + 1)) : Nat) : Int) := by rw [hsp.out, ← hM, List.length_append]
        have HMV := hide hMV
        have hkm : k + 1 ≤ maxLen := by unfold maxLen; omega
        have hkb : (k + 1) * 8 ≤ 140737488355328 := by omega
        have HK := hide (And.intro hkm hkb)
        clear hM hMV hsp hkm hkb
        go_wp2_with (at_builtin; first | (refine wpList_app_at rfl (.tmp 55) (.tmp 56) _ rfl 5 i0 Try.underlying22 hi hz0 hz1 hz2 (r := E) HN.out.symm rfl (hown.gr hg2) (hgr.trans hg2) rfl hb2.rd hb2.nil (Nat.le_trans HL.out (by decide)) ?_; intro v3 w3 ho3 hg3 hp3; have hs3 := hp3.sep hsep (hends.gr hg2).lt; have he3 := (hends.gr hg2).beside hp3 hsep; obtain ⟨A3, c3, rfl, hb3⟩ := ho3.by_; rw [HM.out] at ho3 hs3 ⊢) | (refine wpList_pushV rfl (.tmp 58) (.tmp 61) _ rfl 3 i1 _ 8 Try.underlying34 hj hy0 hy1 hy2 rfl rfl rfl he3 hg3 rfl (by rw [endsV_length]; exact HK.out.1) (by rw [endsV_length]; exact HK.out.2) ?_; intro v4 w4 ho4 hg4 hp4))
        go_roundw
        case rel =>
          rw [HMV.out, ← hem.out] at ho4
          rw [← hsn.out] at ho3
          exact ⟨k + 1, by go_num, by omega, ho3.beside hp4 hs3.symm, ho4, (hp4.sep hs3.symm ho3.lt).symm, (fun s h => by rcases hm.out s h with h | rfl; exact h50.out s h; omega), hg4⟩
        case measure => simp [intOf]; omega
    · obtain rfl : k = ls.length := by omega
      rw [List.take_length] at hown h50
      clear hk hlt hsep
      obtain ⟨A3, c3, rfl, hb3⟩ := hown.by_
      obtain ⟨A4, c4, rfl, hc4, hcell4⟩ := ends_cells hends
      have hl1 := span_le h50.out
      have hrl := rows_length ls
      have hN : (rows ls).length ≤ 560 := by
        have : (50 + 6) * ls.length ≤ 56 * 10 := Nat.mul_le_mul (by omega) (by omega)
        omega
      obtain ⟨N, hNe⟩ : ∃ N, (rows ls).length = N := ⟨_, rfl⟩
      rw [hNe] at hN hrl ⊢
      clear hown hl1 hends
      obtain ⟨M, hM⟩ : ∃ M, N + 1 = M := ⟨_, rfl⟩
      have hMI : (N : Int) + 1 = (M : Int) := by omega
      have hem : (q : Int) % (M : Int) = ((q % (N + 1) : Nat) : Int) := by rw [Int.natCast_emod, hM]
      have hm1 : q % (N + 1) ≤ N := by have := Nat.mod_lt q (show 0 < N + 1 by omega); omega
      obtain ⟨n, hn⟩ : ∃ n, q % (N + 1) = n := ⟨_, rfl⟩
      rw [hn] at hem hm1
      have hNI : (N : Int) ≤ 560 := by omega
      have hnI : (n : Int) ≤ (N : Int) := by omega
      have hnc : (n : Int) ≤ (c3 : Int) := by have := hb3.le; omega
      have hNc : (N : Int) ≤ (c3 : Int) := by have := hb3.le; omega
      have hN0 : ¬ ((M : Int) = 0) := by omega
      have hM0 : ¬ (M = 0) := by omega
      have HC4 := hide hcell4
      have HRL := hide hrl
      have HNE := hide hNe
      clear hn hcell4 hrl hNe hN hm1 hM
      go_wp2_with (rw [hem])
      have hnl : n = ((rows ls).take n).length := by rw [List.length_take, HNE.out]; omega
      refine (All_ok A3 n c3 _ hnl wr (hb3.take n) (by rw [← hnl]; omega)).mono ?_
      rintro e w5 ⟨A5, c5, rfl, hr5, hg5⟩
      have hac := all_cut ls n (fun l h => Nat.le_trans (h50.out l h) (by decide))
      have hW := whole_le ls n
      have hK : allK ((rows ls).take n) = ((fspan (ls.take (whole ls n)) : Nat) : Int) := by unfold allK; rw [hac]
      rw [hac] at hr5 ⊢
      rw [hK]
      have HE := hide (ends_le ls n)
      obtain ⟨W, hWe⟩ : ∃ W, whole ls n = W := ⟨_, rfl⟩
      rw [hWe] at hW HE hr5 ⊢
      have hlW : (ls.take W).length = W := by rw [List.length_take]; omega
      obtain ⟨T, hT⟩ : ∃ T, fspan (ls.take W) = T := ⟨_, rfl⟩
      rw [hT]
      have HT := hide hT
      have HR5 := hide hr5
      have HLW := hide hlW
      have HW := hide hW
      rw [hlW]
      have hgw := hide (hg1.trans (hgr.trans hg5))
      have hls5 := hide (hls.gr hgw.out)
      have HC5 : Hid (∀ j, j < ls.length → ∃ ad, A4 = some ad ∧ w5.cell? (ad.add j) = some (.int .i64 ((fspan (ls.take (j + 1)) : Nat) : Int))) := fun j hj => by
        obtain ⟨ad, k1, k2⟩ := HC4.out j hj
        exact ⟨ad, k1, gr_cell hg5 _ _ k2⟩
      clear hnl hr5 hac hK hWe hT hlW hW hb3 HC4 hls hg1 hgr hg5 hi hz0 hz1 hz2 hj hy0 hy1 hy2 hem hMI
      go_wp2_with fail
      go_loopw [13, 14, 15] (fun x y i w6 => ∃ (k kk ee : Nat), i = .int .i64 k ∧ k ≤ ls.length ∧ x = .int .i64 kk ∧ y = .int .i64 ee ∧ Hid (kk = min k W ∧ ee = fspan (ls.take kk)) ∧ Gr w5 w6) (fun _ _ i _ => ls.length - (intOf i).toNat)
      case atStart => exact ⟨0, 0, 0, rfl, by omega, rfl, rfl, ⟨by omega, rfl⟩, Gr.refl _⟩
      case round =>
        obtain ⟨k, kk, ee, rfl, hk, rfl, rfl, HQ, hgr⟩ := hrel
        by_cases hlt : k < ls.length
        · have hlt' : (k : Int) < (ls.length : Int) := by omega
          obtain ⟨a4, rfl, hcell⟩ := HC5.out k hlt
          replace hcell := gr_cell hgr _ _ hcell
          have HE1 := hide (HE.out (k + 1) (by omega))
          obtain ⟨s, hs⟩ : ∃ s, fspan (ls.take (k + 1)) = s := ⟨_, rfl⟩
          rw [hs] at hcell HE1
          have HS := hide hs
          clear hs
          by_cases hsn : s ≤ n
          · have ds : decide ((s : Int) ≤ (n : Int)) = true := by rw [decide_eq_true_eq]; omega
            go_wp2_with fail
            have hw1 : IntKind.i64.wrap ((k : Int) + 1) = (k : Int) + 1 := by rw [IntKind.wrap_i64]; omega
            go_quiet (fail)
            go_wp2_with fail
            go_roundw
            case rel => exact ⟨k + 1, k + 1, s, by go_num, by omega, by go_num, rfl, ⟨by have := HE1.out.1 hsn; omega, HS.out.symm⟩, hgr.drewN _⟩
            case measure => simp [intOf]; omega
          · have ds : decide ((s : Int) ≤ (n : Int)) = false := by rw [decide_eq_false_iff_not]; omega
            go_wp2_with fail
            go_roundw
            case rel => exact ⟨k + 1, kk, ee, by go_num, by omega, rfl, rfl, ⟨by have := HQ.out.1; have := mt HE1.out.2 hsn; omega, HQ.out.2⟩, hgr⟩
            case measure => simp [intOf]; omega
        · obtain rfl : k = ls.length := by omega
          have hkk : kk = W := by have := HQ.out.1; have := HW.out; omega
          have hee : ee = T := by have h := HQ.out.2; rw [hkk, HT.out] at h; exact h
          subst hkk hee
          have hwl : (kk : Int) ≤ (ls.length : Int) := by have := HW.out; omega
          clear HQ HC5 HE
          go_wp2_with fail
          go_loopw [16] (fun i w8 => ∃ k : Nat, i = .int .i64 k ∧ k ≤ kk ∧ Gr w5 w8) (fun i _ => kk - (intOf i).toNat)
          case atStart => exact ⟨0, rfl, by omega, hgr⟩
          case round =>
            clear hgr
            obtain ⟨k, rfl, hk, hgr⟩ := hrel
            by_cases hlt : k < kk
            · have hlt' : (k : Int) < (kk : Int) := by omega
              have hltL : (k : Int) < (ls.length : Int) := by omega
              obtain ⟨a8, rfl, B8, d8, x8, y8⟩ := (HR5.out.gr hgr).rd k (by rw [HLW.out]; exact hlt)
              obtain ⟨a9, rfl, B9, d9, x9, y9⟩ := (hls5.out.gr hgr).rd k (by omega)
              have he : (ls.take kk)[k]'(by rw [HLW.out]; exact hlt) = ls[k]'(by omega) := List.getElem_take
              rw [he] at x8 y8
              obtain ⟨x, hx⟩ : ∃ x, ls[k]'(by omega) = x := ⟨_, rfl⟩
              rw [hx] at x8 x9 y8 y9
              have q8 := hide (fun n => conv_ (_root_.Go.World.drewN _ n) _ d8 rfl (y8.rd.drewN n))
              have q9 := hide (fun n => conv_ (_root_.Go.World.drewN _ n) _ d9 rfl (y9.rd.drewN n))
              clear hx he y8 y9
              go_wp2_with fail
              refine wp_region_quiet_lit (by kernel_rfl) (by kernel_rfl) ?_
              repeat (go_big_quiet_step (fail))
              refine quiet_conv rfl 22 9 (.tmp 111) rfl rfl (fun w' ⟨n, hw'⟩ => by rw [hw']; exact q8.out _) ?_
              simp only [Act.put, List.setIfInBounds_toArray, List.set_cons_zero, List.set_cons_succ]
              repeat (go_big_quiet_step (fail))
              refine quiet_conv rfl 22 9 (.tmp 116) rfl rfl (fun w' ⟨n, hw'⟩ => by rw [hw']; exact q9.out _) ?_
              simp only [Act.put, List.setIfInBounds_toArray, List.set_cons_zero, List.set_cons_succ]
              clear q8 q9
              repeat (go_big_quiet_step (fail))
              refine wpQuiet_nil ?_
              rintro _ ⟨nq2, rfl⟩
              go_wp2_with fail
              go_roundw
              case rel => exact ⟨k + 1, by go_num, by omega, hgr.drewN _⟩
              case measure => simp [intOf]; omega
            · obtain rfl : k = kk := by omega
              go_wp2_with fail
              go_ret
              exact ⟨rfl, hgw.out.trans hgr⟩

set_option maxRecDepth 100000 in
set_option maxHeartbeats 400000 in
theorem cut_out (w : World) (A : Option Addr) (n c : Nat) (q : Int) (h : (10 : Int) < (n : Int)) :
    Calls Try.prog 4 #[.slice A n c, .int .u16 q] w (YesCut w) := by
  have d1 : decide ((10 : Int) < (n : Int)) = true := by rw [decide_eq_true_eq]; exact h
  clear h
  go_enter Try.func4, Try.ntmps4
  go_wp2_with fail
  refine (begun_ok _).mono ?_
  rintro e w1 ⟨rfl, hg1⟩
  go_wp2_with fail
  go_ret
  exact ⟨rfl, hg1⟩

theorem walk_FrameCut (w : World) (A : Option Addr) (n c : Nat) (ls : List (List UInt8)) (hn : n = ls.length) (hls : Rws w A c ls) (a0 : Int) (w0 : (Lit.int .u16 a0).wf = true) :
    Calls Try.prog 4 #[.slice A n c, .int .u16 a0] w (YesCut w) := by
  have h0 : 0 ≤ a0 ∧ a0 ≤ 65535 := by simpa [Lit.wf, IntKind.min, IntKind.max, IntKind.signed, IntKind.bits] using w0
  obtain ⟨q, rfl⟩ := Int.eq_ofNat_of_zero_le h0.1
  by_cases h : (10 : Int) < (n : Int)
  · exact cut_out w A n c q h
  · subst hn
    exact cut_in w A c ls hls q (by omega) (by omega)

end Go.Proofs.Ytfcbhmfhhkifnaa
