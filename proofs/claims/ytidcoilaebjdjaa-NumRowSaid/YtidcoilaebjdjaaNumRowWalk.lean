/-
  The walk of 'NumRow'.
-/
import Derived.Test.YtidcoilaebjdjaaNumBegun
namespace Go.Proofs.Ytidcoilaebjdjaa
open Go.RowKit NumPlain

/-- numbers one behind the other; texts one behind the other -/
def rowN (zs : List Int) : List UInt8 := zs.flatMap putZ
def rowT (ss : List ByteArray) : List UInt8 := ss.flatMap fun s => putT s.data.toList
theorem rowN_snoc {zs : List Int} {k : Nat} (h : k < zs.length) : rowN (zs.take (k + 1)) = rowN (zs.take k) ++ putZ zs[k] := by
  unfold rowN; rw [List.take_succ_eq_append_getElem h, List.flatMap_append, List.flatMap_singleton]
theorem rowN_cons {zs : List Int} {k : Nat} (h : k < zs.length) : rowN (zs.drop k) = putZ zs[k] ++ rowN (zs.drop (k + 1)) := by
  unfold rowN; rw [List.drop_eq_getElem_cons h, List.flatMap_cons]
theorem rowN_len (zs : List Int) : (rowN zs).length ≤ 10 * zs.length := by
  induction zs with
  | nil => simp [rowN]
  | cons z r ih =>
    have := putZ_len z
    have e : rowN (z :: r) = putZ z ++ rowN r := by simp [rowN]
    rw [e, List.length_append, List.length_cons]; omega
theorem rowT_snoc {ss : List ByteArray} {k : Nat} (h : k < ss.length) : rowT (ss.take (k + 1)) = rowT (ss.take k) ++ putT ss[k].data.toList := by
  unfold rowT; rw [List.take_succ_eq_append_getElem h, List.flatMap_append, List.flatMap_singleton]
theorem rowT_cons {ss : List ByteArray} {k : Nat} (h : k < ss.length) : rowT (ss.drop k) = putT ss[k].data.toList ++ rowT (ss.drop (k + 1)) := by
  unfold rowT; rw [List.drop_eq_getElem_cons h, List.flatMap_cons]
theorem putT_len110 {s : ByteArray} (h : s.size ≤ 100) : (putT s.data.toList).length ≤ 110 := by
  have e : s.data.toList.length = s.size := by rw [Array.length_toList]; rfl
  have := (putT_len (s := s.data.toList) (by omega)).2
  omega
theorem rowT_len {ss : List ByteArray} (h : ∀ s ∈ ss, s.size ≤ 100) : (rowT ss).length ≤ 110 * ss.length := by
  induction ss with
  | nil => simp [rowT]
  | cons z r ih =>
    have h1 := putT_len110 (h z (by simp))
    have h2 := ih (fun s hs => h s (by simp [hs]))
    have e : rowT (z :: r) = putT z.data.toList ++ rowT r := by simp [rowT]
    rw [e, List.length_append, List.length_cons]; omega

theorem mem_take_more {ss : List ByteArray} {k : Nat} (hlt : k < ss.length) : ∀ s, s ∈ ss.take (k + 1) → s ∈ ss.take k ∨ s = ss[k] := by
  intro s h
  rw [List.take_succ_eq_append_getElem hlt, List.mem_append, List.mem_singleton] at h
  exact h

/-- what is left to read -/
def Rest (w : World) (A : Option Addr) (m c : Nat) (L : List UInt8) : Prop := m = L.length ∧ By w A c L
theorem Rest.step {w : World} {A : Option Addr} {m c : Nat} {L X Y : List UInt8} (h : Rest w A m c L) (e : L = X ++ Y) : Rest w (if c = X.length then A else A.map (·.add X.length)) (m - X.length) (c - X.length) Y := by
  obtain ⟨rfl, hb⟩ := h
  subst e
  have hc := hb.cut X.length (X ++ Y).length (by simp) (Nat.le_refl _)
  rw [List.drop_left, List.length_append, Nat.add_sub_cancel_left, List.take_length] at hc
  exact ⟨by simp, hc⟩
theorem Rest.gr {w w' : World} {A : Option Addr} {m c : Nat} {L : List UInt8} (h : Rest w A m c L) (hg : Gr w w') : Rest w' A m c L := ⟨h.1, h.2.gr hg⟩
theorem Rest.step_all {w : World} {A : Option Addr} {m c : Nat} {X Y : List UInt8} (h : Rest w A m c (X ++ Y)) (hc : c = X.length) : Rest w A (m - X.length) 0 Y := by
  have := h.step rfl
  rw [if_pos hc, hc, Nat.sub_self] at this
  exact this
theorem Rest.step_some {w : World} {A : Option Addr} {m c : Nat} {X Y : List UInt8} (h : Rest w A m c (X ++ Y)) (hc : ¬ c = X.length) : Rest w (A.map fun a => a.add X.length) (m - X.length) (c - X.length) Y := by
  have := h.step rfl
  rw [if_neg hc] at this
  exact this
theorem take_head {x : Int} (h0 : 0 ≤ x) (h1 : x ≤ 9223372036854775807) (Y : List UInt8) : takeV (putZ x ++ Y) = x ∧ takeK (putZ x ++ Y) = ((putZ x).length : Int) ∧ takeB (putZ x ++ Y) = true := by
  obtain ⟨n, rfl⟩ := Int.eq_ofNat_of_zero_le h0
  have h := takeF_putN n Y (by omega)
  rw [putZ_nat]
  simp [takeV, takeK, takeB, h]
theorem text_head {s : ByteArray} (h : s.size ≤ 255) (Y : List UInt8) : textV (putT s.data.toList ++ Y) = s ∧ textK (putT s.data.toList ++ Y) = ((putT s.data.toList).length : Int) ∧ textB (putT s.data.toList ++ Y) = true := by
  have e : s.data.toList.length = s.size := by rw [Array.length_toList]; rfl
  have ht := takeT_putT s.data.toList Y (by omega)
  simp [textV, textK, textB, ht, bs_of]
theorem putZ_pos {x : Int} (h0 : 0 ≤ x) : 1 ≤ (putZ x).length := by
  unfold putZ
  rw [if_neg (by omega)]
  exact (putN_len _).1

def YesRow (w : World) (e : Ending) (w' : World) : Prop := e = .returned (.bool true) ∧ Gr w w'

theorem u32_bounds {z : Int} (h : (Lit.int .u32 z).wf = true) : 0 ≤ z ∧ z ≤ 4294967295 := by
  simpa [Lit.wf, IntKind.min, IntKind.max, IntKind.signed, IntKind.bits] using h

set_option maxRecDepth 100000 in
set_option maxHeartbeats 1000000 in
theorem row_in (w : World) (A : Option Addr) (c : Nat) (zs : List Int) (hz : Ints .u32 w A c zs) (B : Option Addr) (d : Nat) (ss : List ByteArray) (hs : Strs w B d ss) (hzl : (zs.length : Int) ≤ 20) (hsl : (ss.length : Int) ≤ 10) :
    Calls Try.prog 6 #[.slice A zs.length c, .slice B ss.length d] w (YesRow w) := by
  obtain ⟨i0, hi, hz0, hz1, hz2⟩ := info_parts info_u8
  have d1 : decide ((20 : Int) < (zs.length : Int)) = false := by rw [decide_eq_false_iff_not]; omega
  have d2 : decide ((10 : Int) < (ss.length : Int)) = false := by rw [decide_eq_false_iff_not]; omega
  go_enter Try.func6, Try.ntmps6
  go_wp2_with fail
  refine (begun_ok _).mono ?_
  rintro e w1 ⟨rfl, hg1⟩
  go_wp2_with fail
  go_loopw [5, 6] (fun v i wr => ∃ k : Nat, i = .int .i64 k ∧ k ≤ zs.length ∧ Own wr w1.heap.size v (rowN (zs.take k)) ∧ Gr w1 wr) (fun _ i _ => zs.length - (intOf i).toNat)
  case atStart => exact ⟨0, rfl, by omega, OwnE.none_ _ _, Gr.refl _⟩
  case round =>
    obtain ⟨k, rfl, hk, hown, hgr⟩ := hrel
    by_cases hlt : k < zs.length
    · have hlt' : (k : Int) < (zs.length : Int) := by omega
      obtain ⟨ad, rfl, hcell⟩ := (hz.gr (hg1.trans hgr)).rd k hlt
      have hb := u32_bounds (hz.wf _ (List.getElem_mem hlt))
      have hsn := hide (rowN_snoc hlt)
      have hl1 := rowN_len (zs.take k)
      have hl2 := putZ_len zs[k]
      rw [List.length_take] at hl1
      obtain ⟨x, hx⟩ : ∃ x, zs[k] = x := ⟨_, rfl⟩
      rw [hx] at hcell hb hsn hl2
      clear hx
      go_wp2_with fail
      refine (Put_ok x (by omega) _).mono ?_
      rintro e w2 ⟨v2, rfl, ho2, hg2⟩
      obtain ⟨A2, c2, rfl, hb2⟩ := ho2.by_
      clear ho2 hcell
      go_wp2_with (at_builtin; refine wpList_app rfl (.tmp 32) (.tmp 38) _ rfl 5 i0 Try.underlying22 hi hz0 hz1 hz2 (r := putZ x) rfl rfl (hown.gr hg2) (hgr.trans hg2) rfl hb2.rd hb2.nil (by omega) ?_; intro v3 w3 ho3 hg3)
      go_roundw
      case rel => exact ⟨k + 1, by go_num, by omega, by rw [hsn.out]; exact ho3, hg3⟩
      case measure => simp [intOf]; omega
    · obtain rfl : k = zs.length := by omega
      rw [List.take_length] at hown
      clear hk hlt
      go_wp2_with fail
      go_loopw [5, 7] (fun v i wr => ∃ k : Nat, i = .int .i64 k ∧ k ≤ ss.length ∧ Own wr w1.heap.size v (rowN zs ++ rowT (ss.take k)) ∧ (∀ s ∈ ss.take k, s.size ≤ 100) ∧ Gr w1 wr) (fun _ i _ => ss.length - (intOf i).toNat)
      case atStart => exact ⟨0, rfl, by omega, by simpa [rowT] using hown, by simp, hgr⟩
      case round =>
        clear hown hgr
        obtain ⟨k, rfl, hk, hown, h100, hgr⟩ := hrel
        by_cases hlt : k < ss.length
        · have hlt' : (k : Int) < (ss.length : Int) := by omega
          obtain ⟨ad, rfl, hcell⟩ := (hs.gr (hg1.trans hgr)).rd k hlt
          have hsn := hide (rowT_snoc hlt)
          have hl0 := rowN_len zs
          have hl1 := rowT_len h100
          rw [List.length_take] at hl1
          have hm := hide (mem_take_more hlt)
          obtain ⟨x, hx⟩ : ∃ x, ss[k] = x := ⟨_, rfl⟩
          rw [hx] at hcell hsn hm
          clear hx
          have H100 := hide h100
          clear h100
          by_cases hbig : (100 : Int) < (x.size : Int)
          · have dx : decide ((100 : Int) < (x.size : Int)) = true := by rw [decide_eq_true_eq]; exact hbig
            go_wp2_with fail
            go_ret
            exact ⟨rfl, hg1.trans hgr⟩
          · have dx : decide ((100 : Int) < (x.size : Int)) = false := by rw [decide_eq_false_iff_not]; exact hbig
            have hl2 := putT_len110 (s := x) (by omega)
            go_wp2_with fail
            refine (PutText_ok x (by omega) _).mono ?_
            rintro e w2 ⟨v2, rfl, ho2, hg2⟩
            obtain ⟨A2, c2, rfl, hb2⟩ := ho2.by_
            clear ho2 hcell
            go_wp2_with (at_builtin; refine wpList_app rfl (.tmp 52) (.tmp 57) _ rfl 5 i0 Try.underlying22 hi hz0 hz1 hz2 (r := putT x.data.toList) rfl rfl (hown.gr hg2) (hgr.trans hg2) rfl hb2.rd hb2.nil (by rw [List.length_append]; omega) ?_; intro v3 w3 ho3 hg3)
            go_roundw
            case rel => exact ⟨k + 1, by go_num, by omega, by rw [hsn.out, ← List.append_assoc]; exact ho3, fun s h => by rcases hm.out s h with h | rfl; exact H100.out s h; omega, hg3⟩
            case measure => simp [intOf]; omega
        · obtain rfl : k = ss.length := by omega
          rw [List.take_length] at hown h100
          clear hk hlt
          go_wp2_with fail
          obtain ⟨A0, c0, rfl, hb0⟩ := hown.by_
          have hL0 := rowN_len zs
          have hL1 := rowT_len h100
          have H100 := hide h100
          clear hown h100
          go_loopw [5, 8] (fun v i wr => ∃ (k : Nat) (A2 : Option Addr) (m c2 : Nat), i = .int .i64 k ∧ k ≤ zs.length ∧ v = .slice A2 m c2 ∧ Rest wr A2 m c2 (rowN (zs.drop k) ++ rowT ss) ∧ Gr w1 wr) (fun _ i _ => zs.length - (intOf i).toNat)
          case atStart => exact ⟨0, A0, _, c0, rfl, by omega, rfl, ⟨rfl, hb0⟩, hgr⟩
          case round =>
            clear hb0 hgr
            obtain ⟨k, A2, m, c2, rfl, hk, rfl, hrest, hgr⟩ := hrel
            by_cases hlt : k < zs.length
            · have hlt' : (k : Int) < (zs.length : Int) := by omega
              obtain ⟨ad, rfl, hcell⟩ := (hz.gr (hg1.trans hgr)).rd k hlt
              have hb := u32_bounds (hz.wf _ (List.getElem_mem hlt))
              have hcons := rowN_cons hlt
              obtain ⟨x, hx⟩ : ∃ x, zs[k] = x := ⟨_, rfl⟩
              rw [hx] at hcell hb hcons
              clear hx
              have T := hide (take_head hb.1 (by omega) (rowN (zs.drop (k + 1)) ++ rowT ss))
              have hK1 := putZ_pos hb.1
              have hl3 := putZ_len x
              rw [hcons, List.append_assoc] at hrest
              clear hcons
              have hm := hrest.1
              rw [List.length_append] at hm
              have hl2 := rowN_len (zs.drop (k + 1))
              rw [List.length_drop] at hl2
              rw [List.length_append] at hm
              obtain ⟨X, hX⟩ : ∃ X, putZ x = X := ⟨_, rfl⟩
              rw [hX] at hrest hm T hK1 hl3
              obtain ⟨Y, hY⟩ : ∃ Y, rowN (zs.drop (k + 1)) ++ rowT ss = Y := ⟨_, rfl⟩
              rw [hY] at hrest T
              have HY := hide hY
              clear hX hY
              have hmX : X.length ≤ m := by omega
              have hm1000 : (m : Int) ≤ 140737488351232 := by omega
              clear hm
              have e1 : decide (X.length < 1) = false := by rw [decide_eq_false_iff_not]; omega
              have e2 : decide ((X.length : Int) < 1) = false := by rw [decide_eq_false_iff_not]; omega
              have e3 : decide (m < X.length) = false := by rw [decide_eq_false_iff_not]; omega
              go_wp2_with fail
              refine (take_by A2 m c2 (X ++ Y) hrest.1 _ hrest.2 (by rw [← hrest.1]; omega)).mono ?_
              rintro e w3 ⟨rfl, hg3⟩
              rw [T.out.1, T.out.2.1, T.out.2.2]
              have hcell3 := gr_cell hg3 _ _ hcell
              clear hcell
              by_cases hck : c2 = X.length
              · have HR := hide ((hrest.step_all hck).gr hg3)
                go_wp2_with fail
                go_roundw
                case rel => exact ⟨k + 1, _, _, _, by go_num, by omega, rfl, by rw [HY.out]; exact HR.out, hgr.trans hg3⟩
                case measure => simp [intOf]; omega
              · have HR := hide ((hrest.step_some hck).gr hg3)
                go_wp2_with fail
                go_roundw
                case rel => exact ⟨k + 1, _, _, _, by go_num, by omega, rfl, by rw [HY.out]; exact HR.out, hgr.trans hg3⟩
                case measure => simp [intOf]; omega
            · obtain rfl : k = zs.length := by omega
              rw [List.drop_length] at hrest
              clear hk hlt
              go_wp2_with fail
              go_loopw [5, 12] (fun v i wr => ∃ (k : Nat) (A2 : Option Addr) (m c2 : Nat), i = .int .i64 k ∧ k ≤ ss.length ∧ v = .slice A2 m c2 ∧ Rest wr A2 m c2 (rowT (ss.drop k)) ∧ Gr w1 wr) (fun _ i _ => ss.length - (intOf i).toNat)
              case atStart => exact ⟨0, A2, m, c2, rfl, by omega, rfl, hrest, hgr⟩
              case round =>
                clear hrest hgr
                obtain ⟨k, A2, m, c2, rfl, hk, rfl, hrest, hgr⟩ := hrel
                by_cases hlt : k < ss.length
                · have hlt' : (k : Int) < (ss.length : Int) := by omega
                  obtain ⟨ad, rfl, hcell⟩ := (hs.gr (hg1.trans hgr)).rd k hlt
                  have hx100 := H100.out ss[k] (List.getElem_mem hlt)
                  have hcons := rowT_cons hlt
                  have hl2 := rowT_len (ss := ss.drop (k + 1)) (fun s h => H100.out s (List.mem_of_mem_drop h))
                  rw [List.length_drop] at hl2
                  obtain ⟨x, hx⟩ : ∃ x, ss[k] = x := ⟨_, rfl⟩
                  rw [hx] at hcell hx100 hcons
                  clear hx
                  have hxl : x.data.toList.length = x.size := by rw [Array.length_toList]; rfl
                  have T := text_head (s := x) (by omega) (rowT (ss.drop (k + 1)))
                  have hK1 := (putT_len (s := x.data.toList) (by omega)).1
                  have hl3 := putT_len110 hx100
                  rw [hcons] at hrest
                  clear hcons
                  have hm := hrest.1
                  rw [List.length_append] at hm
                  obtain ⟨X, hX⟩ : ∃ X, putT x.data.toList = X := ⟨_, rfl⟩
                  rw [hX] at hrest hm T hK1 hl3
                  obtain ⟨Y, hY⟩ : ∃ Y, rowT (ss.drop (k + 1)) = Y := ⟨_, rfl⟩
                  rw [hY] at hrest T
                  have HT := hide T
                  have HY := hide hY
                  clear hX hY T hxl
                  have hmX : X.length ≤ m := by omega
                  have hm1000 : (m : Int) ≤ 140737488351232 := by omega
                  clear hm
                  have e1 : decide (X.length < 1) = false := by rw [decide_eq_false_iff_not]; omega
                  have e2 : decide ((X.length : Int) < 1) = false := by rw [decide_eq_false_iff_not]; omega
                  have e3 : decide (m < X.length) = false := by rw [decide_eq_false_iff_not]; omega
                  go_wp2_with fail
                  refine (takeText_by A2 m c2 (X ++ Y) hrest.1 _ hrest.2 (by rw [← hrest.1]; omega)).mono ?_
                  rintro e w3 ⟨rfl, hg3⟩
                  rw [HT.out.1, HT.out.2.1, HT.out.2.2]
                  have hcell3 := gr_cell hg3 _ _ hcell
                  clear hcell
                  by_cases hck : c2 = X.length
                  · have HR := hide ((hrest.step_all hck).gr hg3)
                    go_wp2_with fail
                    go_roundw
                    case rel => exact ⟨k + 1, _, _, _, by go_num, by omega, rfl, by rw [HY.out]; exact HR.out, hgr.trans hg3⟩
                    case measure => simp [intOf]; omega
                  · have HR := hide ((hrest.step_some hck).gr hg3)
                    go_wp2_with fail
                    go_roundw
                    case rel => exact ⟨k + 1, _, _, _, by go_num, by omega, rfl, by rw [HY.out]; exact HR.out, hgr.trans hg3⟩
                    case measure => simp [intOf]; omega
                · obtain rfl : k = ss.length := by omega
                  rw [List.drop_length] at hrest
                  have hm0 : m = 0 := by rw [hrest.1]; rfl
                  subst hm0
                  clear hk hlt hrest
                  go_wp2_with fail
                  go_ret
                  exact ⟨rfl, hg1.trans hgr⟩

set_option maxRecDepth 100000 in
set_option maxHeartbeats 400000 in
theorem row_out (w : World) (A : Option Addr) (n c : Nat) (B : Option Addr) (m d : Nat) (h : (20 : Int) < (n : Int) ∨ (10 : Int) < (m : Int)) :
    Calls Try.prog 6 #[.slice A n c, .slice B m d] w (YesRow w) := by
  by_cases h1 : (20 : Int) < (n : Int)
  · have d1 : decide ((20 : Int) < (n : Int)) = true := by rw [decide_eq_true_eq]; exact h1
    clear h h1
    go_enter Try.func6, Try.ntmps6
    go_wp2_with fail
    refine (begun_ok _).mono ?_
    rintro e w1 ⟨rfl, hg1⟩
    go_wp2_with fail
    go_ret
    exact ⟨rfl, hg1⟩
  · have d1 : decide ((20 : Int) < (n : Int)) = false := by rw [decide_eq_false_iff_not]; exact h1
    have d2 : decide ((10 : Int) < (m : Int)) = true := by rw [decide_eq_true_eq]; omega
    clear h h1
    go_enter Try.func6, Try.ntmps6
    go_wp2_with fail
    refine (begun_ok _).mono ?_
    rintro e w1 ⟨rfl, hg1⟩
    go_wp2_with fail
    go_ret
    exact ⟨rfl, hg1⟩

theorem walk_NumRow (w : World) (A : Option Addr) (n c : Nat) (zs : List Int) (hn : n = zs.length) (hz : Ints .u32 w A c zs) (B : Option Addr) (m d : Nat) (ss : List ByteArray) (hm : m = ss.length) (hs : Strs w B d ss) :
    Calls Try.prog 6 #[.slice A n c, .slice B m d] w fun e w' => e = .returned (.bool true) ∧ Gr w w' := by
  by_cases h : (20 : Int) < (n : Int) ∨ (10 : Int) < (m : Int)
  · exact row_out w A n c B m d h
  · subst hn hm
    exact row_in w A c zs hz B d ss hs (by omega) (by omega)

end Go.Proofs.Ytidcoilaebjdjaa
