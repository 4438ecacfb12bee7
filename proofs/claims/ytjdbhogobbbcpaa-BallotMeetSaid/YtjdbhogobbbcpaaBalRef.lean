/-
  The document's Most; ballot's Next and the document's, by their contracts.
-/
import Derived.Test.YtjdbhogobbbcpaaBalFns
import Derived.Test.YtjdbhogobbbcpaaUlHas
import Derived.Test.YtjdbhogobbbcpaaUlRefTerm
namespace Go.Proofs.Ytjdbhogobbbcpaa
open Go Go.RowKit BalMath TxnMath KeyMath MsgMath
set_option maxRecDepth 100000

/-- the best so far -/
def bestL (l : List Int) (i : Nat) : Int := ((l.take i).filter (fun x => decide (majN l.length ≤ geN l x))).foldl max 0
theorem bestL_all (l : List Int) : bestL l l.length = mostL l := by unfold bestL mostL; rw [List.take_length]
theorem bestL_yes {l : List Int} {i : Nat} (hi : i < l.length) (h : majN l.length ≤ geN l l[i]) : bestL l (i + 1) = max (bestL l i) l[i] := by
  unfold bestL
  rw [List.take_succ_eq_append_getElem hi, List.filter_append, List.foldl_append]
  simp [h]
theorem bestL_no {l : List Int} {i : Nat} (hi : i < l.length) (h : ¬ majN l.length ≤ geN l l[i]) : bestL l (i + 1) = bestL l i := by
  unfold bestL
  rw [List.take_succ_eq_append_getElem hi, List.filter_append, List.foldl_append]
  simp [h]
theorem geN_more {l : List Int} {x : Int} {k : Nat} (hk : k < l.length) : geN (l.take (k + 1)) x = geN (l.take k) x + (if x ≤ l[k] then 1 else 0) := by
  unfold geN
  rw [List.take_succ_eq_append_getElem hk, cnt_push]
  simp [one]
theorem geN_le (l : List Int) (x : Int) : geN l x ≤ l.length := List.countP_le_length

set_option maxHeartbeats 2000000 in
theorem RefMost_ok (v : Value) (l : List Int) (w : World) (hv : IntsX w v l) (hl : l.length ≤ 100000) :
    Calls Try.prog 17 #[v] w fun e w' => e = .returned (.int .i64 (mostL l)) ∧ Gr w w' := by
  have HV := hide hv
  obtain ⟨A, c, rfl, hlc, _⟩ := hv.is
  clear hv
  go_enter Try.func17, Try.ntmps17
  go_wp2_with fail
  go_loopw [3, 4] (fun u v wr => ∃ i : Nat, v = .int .i64 i ∧ i ≤ l.length ∧ u = .int .i64 (bestL l i) ∧ Gr w wr) (fun _ v _ => l.length - (intOf v).toNat)
  case atStart => exact ⟨0, rfl, by omega, rfl, Gr.refl _⟩
  case round =>
    obtain ⟨i, rfl, hi, rfl, hg⟩ := hrel
    by_cases hlt : i < l.length
    · have hlt' : (i : Int) < (l.length : Int) := by omega
      obtain ⟨x, hx⟩ : ∃ x, l[i] = x := ⟨_, rfl⟩
      have HX := hide hx
      have HYES := hide (fun h => bestL_yes hlt h)
      have HNO := hide (fun h => bestL_no hlt h)
      rw [hx] at HYES HNO
      clear hx
      generalize bestL l i = bst at *
      go_wp2_with fail
      go_loopw [5, 6] (fun u v wz => ∃ k : Nat, v = .int .i64 k ∧ k ≤ l.length ∧ u = .int .i64 (geN (l.take k) x) ∧ Gr w wz) (fun _ v _ => l.length - (intOf v).toNat)
      case atStart => exact ⟨0, rfl, by omega, rfl, hg⟩
      case round =>
        clear hg
        obtain ⟨k, rfl, hk, rfl, hg⟩ := hrel
        have hge : geN (l.take k) x ≤ 100000 := Nat.le_trans (geN_le _ _) (by simp; omega)
        by_cases hlk : k < l.length
        · have hlk' : (k : Int) < (l.length : Int) := by omega
          obtain ⟨A', c', e1, _, hc⟩ := (HV.out.gr hg).is
          injection e1 with e1 _ e2
          subst e1 e2
          obtain ⟨ad, rfl, c0⟩ := hc k hlk
          obtain ⟨ad', e3, c1⟩ := hc i hlt
          injection e3 with e3
          subst e3
          rw [HX.out] at c1
          have HM := hide (geN_more (x := x) hlk)
          generalize l[k] = y at c0 HM
          generalize geN (l.take k) x = q at *
          clear hc
          unfold iv at c0 c1
          by_cases hxy : x ≤ y
          · go_wp2_with fail
            go_quiet (fail)
            go_wp2_with fail
            go_roundw
            case rel => exact ⟨k + 1, by go_num, by omega, by rw [HM.out, if_pos hxy]; simp, hg.drewN _⟩
            case measure => simp [intOf]; omega
          · go_wp2_with fail
            go_quiet (fail)
            go_wp2_with fail
            go_roundw
            case rel => exact ⟨k + 1, by go_num, by omega, by rw [HM.out, if_neg (by omega)]; simp, hg.drewN _⟩
            case measure => simp [intOf]; omega
        · obtain rfl : k = l.length := by omega
          rw [List.take_length] at *
          have HC := hide (RefMajority_ok l.length wr (by omega))
          generalize geN l x = q at *
          generalize majN l.length = mj at *
          obtain ⟨A', c', e1, _, hc⟩ := (HV.out.gr hg).is
          injection e1 with e1 _ e2
          subst e1 e2
          obtain ⟨ad, rfl, c0⟩ := hc i hlt
          rw [HX.out] at c0
          unfold iv at c0
          clear hc
          by_cases hq : mj ≤ q
          · have hq' : (mj : Int) ≤ (q : Int) := by omega
            have HB := hide (HYES.out hq)
            go_wp2_with fail
            refine HC.out.mono ?_
            rintro e w2 ⟨rfl, hw2⟩
            subst hw2
            go_wp2_with fail
            go_roundw
            case rel => exact ⟨i + 1, by go_num, by omega, by rw [HB.out, show max bst x = if bst < x then x else bst from by rw [Int.max_def]; split <;> split <;> omega], hg⟩
            case measure => simp [intOf]; omega
          · have hq' : (q : Int) < (mj : Int) := by omega
            have HB := hide (HNO.out hq)
            go_wp2_with fail
            refine HC.out.mono ?_
            rintro e w2 ⟨rfl, hw2⟩
            subst hw2
            go_wp2_with fail
            go_roundw
            case rel => exact ⟨i + 1, by go_num, by omega, by rw [HB.out], hg⟩
            case measure => simp [intOf]; omega
    · obtain rfl : i = l.length := by omega
      rw [bestL_all]
      go_wp2_with fail
      go_ret
      exact ⟨rfl, hg⟩

/-- up to where it is committed -/
def nextL (mt : List Int) (es : List EntT) (t c : Int) : Int := if c < mostL mt ∧ hasL es (mostL mt) t = true then mostL mt else c

theorem Next_ok (v u : Value) (mt : List Int) (es : List EntT) (t c : Int) (w : World) (hv : IntsX w v mt) (hu : EntsX Any w u es) (hl : mt.length ≤ 100000) (h0 : ∀ x ∈ mt, 0 ≤ x) (he : es.length ≤ 1000000000) (hc : 0 ≤ c) :
    Calls Try.prog 11 #[v, u, .int .i64 t, .int .i64 c] w fun e w' => e = .returned (.int .i64 (nextL mt es t c)) ∧ Gr w w' ∧ MostP mt (mostL mt) := by
  have HM := hide (Most_ok v mt w hv hl h0)
  have HU := hide hu
  obtain ⟨A, cp, rfl, _⟩ := hv.is
  obtain ⟨B, cq, rfl⟩ := hu.is
  have emax : max c 0 = c := by omega
  clear hv hu
  go_enter Try.func11, Try.ntmps11
  go_wp2_with fail
  refine HM.out.mono ?_
  rintro e w1 ⟨x, rfl, hm, hg⟩
  have HMP : Hid (MostP mt (mostL mt)) := by unfold Hid; rw [← hm.1]; exact hm
  have HH := hide (Has_ok _ es x t w1 (HU.out.gr hg) he)
  have HN : Hid (nextL mt es t c = if c < x ∧ hasL es x t = true then x else c) := by unfold Hid nextL; rw [← hm.1]
  clear hm HM
  by_cases h1 : c < x
  · generalize hasL es x t = b at HH HN
    cases b
    · go_wp2_with fail
      refine HH.out.mono ?_
      rintro e w2 ⟨rfl, rfl⟩
      go_wp2_with fail
      go_ret
      exact ⟨by rw [HN.out]; simp, hg, HMP.out⟩
    · go_wp2_with fail
      refine HH.out.mono ?_
      rintro e w2 ⟨rfl, rfl⟩
      go_wp2_with fail
      go_ret
      exact ⟨by rw [HN.out]; simp [h1], hg, HMP.out⟩
  · go_wp2_with fail
    go_ret
    exact ⟨by rw [HN.out, if_neg (fun h => absurd h.1 (by omega))]; rfl, hg, HMP.out⟩

theorem RefNext_ok (v u : Value) (mt : List Int) (es : List EntT) (t c : Int) (w : World) (hv : IntsX w v mt) (hu : EntsX Any w u es) (hl : mt.length ≤ 100000) (he : es.length ≤ 1000000000) (hc : 0 ≤ c) :
    Calls Try.prog 12 #[v, u, .int .i64 t, .int .i64 c] w fun e w' => e = .returned (.int .i64 (nextL mt es t c)) ∧ Gr w w' := by
  have HM := hide (RefMost_ok v mt w hv hl)
  have HU := hide hu
  obtain ⟨A, cp, rfl, _⟩ := hv.is
  obtain ⟨B, cq, rfl⟩ := hu.is
  have HN : Hid (nextL mt es t c = if c < mostL mt ∧ hasL es (mostL mt) t = true then mostL mt else c) := rfl
  generalize mostL mt = x at HM HN
  have HA : Hid (c < x → hasL es x t = (thereL es x && decide (termL es x = t))) := fun h => by unfold hasL; rw [decide_eq_false (by omega : ¬ x = 0)]; simp
  clear hv hu
  go_enter Try.func12, Try.ntmps12
  go_wp2_with fail
  refine HM.out.mono ?_
  rintro e w1 ⟨rfl, hg⟩
  have HT := hide (RefTerm_ok _ es x w1 (HU.out.gr hg) he)
  clear HM
  by_cases h1 : c < x
  · have ha := HA.out h1
    rw [ha] at HN
    clear ha HA
    by_cases h2 : x ≤ (es.length : Int)
    · rw [there_yes (by omega) h2] at HN
      generalize termL es x = tm at HT HN
      by_cases h3 : tm = t
      · subst h3
        go_wp2_with fail
        refine HT.out.mono ?_
        rintro e w2 ⟨rfl, rfl⟩
        go_wp2_with fail
        go_ret
        exact ⟨by rw [HN.out]; simp [h1], hg⟩
      · have h3' : (tm == t) = false := beq_no h3
        go_wp2_with fail
        refine HT.out.mono ?_
        rintro e w2 ⟨rfl, rfl⟩
        go_wp2_with fail
        go_ret
        exact ⟨by rw [HN.out]; simp [h3], hg⟩
    · rw [there_no2 h2] at HN
      go_wp2_with fail
      go_ret
      exact ⟨by rw [HN.out]; simp, hg⟩
  · go_wp2_with fail
    go_ret
    exact ⟨by rw [HN.out, if_neg (fun h => absurd h.1 (by omega))]; rfl, hg⟩

end Go.Proofs.Ytjdbhogobbbcpaa
