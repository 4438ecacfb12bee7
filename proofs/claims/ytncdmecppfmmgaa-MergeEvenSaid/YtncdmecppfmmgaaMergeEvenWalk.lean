/-
  The walk of 'MergeEven'.
-/
import Derived.Test.YtncdmecppfmmgaaMergeFacts
import Derived.Test.YtncdmecppfmmgaaMergeOwn
import Derived.Test.YtncdmecppfmmgaaMgEven
import Derived.Deep.LoopGhost
namespace Go.Proofs.Ytncdmecppfmmgaa
open Go Go.RowKit TxnMath KeyMath MsgMath EpMath MgMath
set_option maxRecDepth 100000

/-- the most batches of the first k logs -/
def mostN (ls : List (List EntT)) : Nat → Nat
  | 0 => 0
  | k + 1 => if mostN ls k < nb ls k then nb ls k else mostN ls k
theorem most_le (ls : List (List EntT)) : ∀ k q, q < k → nb ls q ≤ mostN ls k
  | 0, q, h => by omega
  | k + 1, q, h => by
    rw [mostN]
    have ih := most_le ls k
    by_cases hq : q = k
    · subst hq; split <;> omega
    · have := ih q (by omega)
      split <;> omega
theorem nb_bnd (ls : List (List EntT)) (p : Nat) : nb ls p ≤ (lg ls p).length + 1 := by
  have := cut_bnd ((lg ls p).map (·.shut))
  rw [List.length_map] at this
  exact this
theorem most_bnd (ls : List (List EntT)) (N : Nat) (h : ∀ p, (lg ls p).length ≤ N) : ∀ k, mostN ls k ≤ N + 1
  | 0 => by simp [mostN]
  | k + 1 => by
    have ih := most_bnd ls N h k
    have h1 := nb_bnd ls k
    have h2 := h k
    rw [mostN]
    split <;> omega
/-- how many transactions a log has -/
def opN (ls : List (List EntT)) (q : Nat) : Nat := openN (shuts (lg ls q)) (lg ls q).length
def seal9 : EntT := barE 9 true 0 0
/-- while log i is sealed -/
structure EvS (M i : Nat) (ls : List (List EntT)) : Prop where
  done : ∀ q, q < i → nb ls q = M + 1 ∧ (ct ls q).getD M [] = []
  now : nb ls i ≤ M + 1 ∧ (nb ls i = M + 1 → (ct ls i).getD M [] = [])
  rest : ∀ q, i < q → q < ls.length → nb ls q ≤ M
  small : ∀ q, (lg ls q).length ≤ nb ls q + 15
  bnd : ∀ q, ∀ e ∈ lg ls q, EntBnd e
theorem nb_out {ls : List (List EntT)} {q : Nat} (h : ls.length ≤ q) : nb ls q = 1 := by
  unfold nb ct lg
  rw [List.getD_eq_getElem?_getD, List.getElem?_eq_none h]
  decide
theorem EvS.start {M : Nat} {ls : List (List EntT)} (hm : ∀ q, q < ls.length → nb ls q ≤ M) (hs : ∀ q, (lg ls q).length ≤ 15) (hb : ∀ q, ∀ e ∈ lg ls q, EntBnd e) (h0 : 0 < ls.length) : EvS M 0 ls :=
  ⟨fun q hq => by omega, ⟨by have := hm 0 h0; omega, fun h => by have := hm 0 h0; omega⟩, fun q _ hq => hm q hq, fun q => by have := hs q; omega, hb⟩
theorem EvS.next {M i : Nat} {ls : List (List EntT)} (h : EvS M i ls) (hn : ¬ nb ls i ≤ M) (hi : i + 1 < ls.length) : EvS M (i + 1) ls := by
  have h1 := h.now
  have h2 := h.rest (i + 1) (by omega) hi
  refine ⟨fun q hq => ?_, ⟨by omega, fun hh => by omega⟩, fun q h3 h4 => h.rest q (by omega) h4, h.small, h.bnd⟩
  by_cases hq2 : q = i
  · subst hq2
    exact ⟨by omega, h1.2 (by omega)⟩
  · exact h.done q (by omega)
theorem EvS.all {M i : Nat} {ls : List (List EntT)} (h : EvS M i ls) (hn : ¬ nb ls i ≤ M) (hi : i + 1 = ls.length) : ∀ p, p < ls.length → nb ls p = M + 1 ∧ (ct ls p).getD M [] = [] := fun p hp => by
  have h1 := h.now
  by_cases hq2 : p = i
  · subst hq2
    exact ⟨by omega, h1.2 (by omega)⟩
  · exact h.done p (by omega)
theorem ct_seal {ls : List (List EntT)} {i : Nat} (hi : i < ls.length) : ct (ls.set i (lg ls i ++ [seal9])) i = ct ls i ++ [[]] := by
  unfold ct
  rw [lg_set_self _ hi, List.map_append, List.map_cons, List.map_nil]
  exact cut_sealed _
theorem EvS.push {M i : Nat} {ls : List (List EntT)} (h : EvS M i ls) (hn : nb ls i ≤ M) (hi : i < ls.length) : EvS M i (ls.set i (lg ls i ++ [seal9])) ∧ nb (ls.set i (lg ls i ++ [seal9])) i = nb ls i + 1 := by
  have hc := ct_seal hi
  have hnb : nb (ls.set i (lg ls i ++ [seal9])) i = nb ls i + 1 := by unfold nb; rw [hc]; simp
  have ho : ∀ q, q ≠ i → nb (ls.set i (lg ls i ++ [seal9])) q = nb ls q ∧ ct (ls.set i (lg ls i ++ [seal9])) q = ct ls q := fun q hq => by
    have : ct (ls.set i (lg ls i ++ [seal9])) q = ct ls q := by unfold ct; rw [lg_set_ne _ hq]
    exact ⟨by unfold nb; rw [this], this⟩
  refine ⟨⟨fun q hq => ?_, ⟨by omega, fun hh => ?_⟩, fun q h3 h4 => ?_, fun q => ?_, fun q => ?_⟩, hnb⟩
  · rw [(ho q (by omega)).1, (ho q (by omega)).2]; exact h.done q hq
  · rw [hc, List.getD_eq_getElem?_getD, List.getElem?_append_right (by unfold nb at hn; omega)]
    have : M - (ct ls i).length = 0 := by unfold nb at hnb hh hn; omega
    rw [this]
    rfl
  · rw [(ho q (by omega)).1]; exact h.rest q h3 (by simpa using h4)
  · by_cases hq : q = i
    · subst hq
      rw [lg_set_self _ hi, hnb, List.length_append]
      have := h.small q
      simp
      omega
    · rw [lg_set_ne _ hq, (ho q hq).1]; exact h.small q
  · by_cases hq : q = i
    · subst hq
      rw [lg_set_self _ hi]
      intro e he
      rcases List.mem_append.1 he with he | he
      · exact h.bnd q e he
      · rw [List.mem_singleton.1 he]
        exact Bare.bnd (e := seal9) ⟨rfl, rfl⟩
    · rw [lg_set_ne _ hq]; exact h.bnd q
theorem opN_set {ls : List (List EntT)} {i : Nat} (L : List EntT) : sumN (opN (ls.set i L)) i = sumN (opN ls) i := sumN_congr i fun q hq => by unfold opN; rw [lg_set_ne _ (by omega)]
theorem EvS.ten {M i : Nat} {ls : List (List EntT)} (h : EvS M i ls) (hM : M ≤ 16) (hl : ls.length ≤ 3) : Logs10 ls := by
  refine ⟨by omega, fun p => ?_, h.bnd⟩
  have h1 := h.small p
  have h2 : nb ls p ≤ 17 := by
    rcases Nat.lt_or_ge p ls.length with hp | hp
    · rcases Nat.lt_trichotomy p i with hpi | hpi | hpi
      · have := (h.done p hpi).1; omega
      · subst hpi; have := h.now.1; omega
      · have := h.rest p hpi hp; omega
    · rw [nb_out hp]; omega
  omega
theorem even_len {M i : Nat} {ls : List (List EntT)} (h : EvS M i ls) (hn : ¬ nb ls i ≤ M) (hi : i + 1 = ls.length) : (orderL ls).1.length = sumN (opN ls) ls.length := by
  have ha := h.all hn hi
  rw [order_even (by omega) (fun p hp => (ha p hp).1) (fun p hp => (ha p hp).2)]
  exact sumN_congr _ fun q _ => by rw [txI_length]; rfl

theorem openN_le (l : List Bool) : ∀ k, openN l k ≤ k
  | 0 => Nat.le_refl _
  | k + 1 => by
    have := openN_le l k
    rw [openN]
    split <;> omega
theorem sumN_le {f : Nat → Nat} {B : Nat} (h : ∀ q, f q ≤ B) : ∀ n, sumN f n ≤ B * n
  | 0 => Nat.zero_le _
  | n + 1 => by
    have h1 := sumN_le h n
    have h2 := h n
    rw [sumN, Nat.mul_succ]
    omega
theorem opN_le {ls : List (List EntT)} (h : Logs10 ls) {n : Nat} (hn : n ≤ 3) : sumN (opN ls) n ≤ 300 := by
  have := sumN_le (f := opN ls) (B := 100) (fun q => Nat.le_trans (openN_le _ _) (h.each q)) n
  omega

set_option maxHeartbeats 4000000 in
theorem walk_MergeEven (w : World) (A : Option Addr) (n c : Nat) (l : List UInt8) (hn : n = l.length) (hby : By w A c l) :
    Calls Try.prog 6 #[.slice A n c] w fun e w' => e = .returned (.bool true) ∧ Gr w w' := by
  subst hn
  have HBY := hide hby
  clear hby
  by_cases h1 : (250 : Int) < (l.length : Int)
  · go_enter Try.func6, Try.ntmps6
    go_wp2_with fail
    refine (begun_ok _).mono ?_
    rintro e w1 ⟨rfl, hg1⟩
    go_wp2_with fail
    go_ret
    exact ⟨rfl, hg1⟩
  go_enter Try.func6, Try.ntmps6
  go_wp2_with fail
  refine (begun_ok _).mono ?_
  rintro e w1 ⟨rfl, hg1⟩
  have HG1 := hide hg1
  clear hg1
  go_wp2_with fail
  refine (logs_own A c l w1 (HBY.out.gr HG1.out) (by omega)).mono ?_
  rintro e w2 ⟨v, xs, rfl, hlx⟩
  have HT := hide (logsL_10 l)
  have HE := hide (logsL_each l)
  have HL3 := hide (logsL_len l)
  generalize logsL l = ls at hlx HT HE HL3
  have hlen := hlx.len
  obtain ⟨vA, vc, rfl, _⟩ := OwnV.is hlx.own
  rw [hlen] at hlx ⊢
  have hl3 : (ls.length : Int) ≤ 3 := by have := HL3.out; omega
  have HLX := hide (hlx.base HG1.out)
  have HM16 := hide (most_bnd ls 15 HE.out ls.length)
  clear hlx hlen
  go_wp2_with fail
  go_loopw [4, 6] (fun m i wr => ∃ k : Nat, i = .int .i64 k ∧ k ≤ ls.length ∧ m = .int .i64 (mostN ls k : Nat) ∧ Hid (LgO w wr (.slice vA ls.length vc) ls xs)) (fun _ i _ => ls.length - (intOf i).toNat)
  case atStart => exact ⟨0, rfl, by omega, rfl, HLX⟩
  case round =>
    obtain ⟨k, rfl, hk, rfl, HL⟩ := hrel
    by_cases hlt : k < ls.length
    · have hlt' : (k : Int) < (ls.length : Int) := by omega
      obtain ⟨_, c', e1, _, hat⟩ := HL.out.logs.is
      injection e1 with e1 _ e2
      subst e1 e2
      obtain ⟨ad, A', c', rfl, a0, hx⟩ := hat k hlt
      have e0 : lg ls k = ls[k] := by unfold lg; simp [hlt]
      rw [← e0] at a0 hx
      have HX := hide hx
      have HS := hide (fun W' (h : EntsX Any W' (.slice A' (lg ls k).length c') (lg ls k)) => RefCut_ok _ (lg ls k) W' h (by have := HE.out k; omega))
      change Hid (∀ W', EntsX Any W' (.slice A' (lg ls k).length c') (lg ls k) → Calls _ _ _ _ fun e w' => ∃ u, e = .returned u ∧ RowsI w' W'.heap.size u (ct ls k) ∧ Gr W' w') at HS
      have HMN := hide (show mostN ls (k + 1) = if mostN ls k < nb ls k then nb ls k else mostN ls k from rfl)
      have HNB := hide (show (ct ls k).length = nb ls k from rfl)
      generalize (lg ls k).length = m at a0 HX HS
      generalize mostN ls k = M0 at HMN ⊢
      clear hx hat e0
      go_wp2_with fail
      refine (HS.out _ HX.out).mono ?_
      rintro e w3 ⟨u, rfl, hr, hg3⟩
      obtain ⟨A2, c2, rfl⟩ := hr.is
      have HL3' := hide (HL.out.more hg3)
      rw [HNB.out]
      generalize nb ls k = b at HMN ⊢
      clear hr hg3 HL HS HX a0
      by_cases hb : M0 < b
      · have hb' : (M0 : Int) < (b : Int) := by omega
        have HQ := hide (show mostN ls (k + 1) = b by rw [HMN.out, if_pos hb])
        clear HMN hb
        go_wp2_with fail
        go_roundw
        case rel => exact ⟨k + 1, by go_num, by omega, by rw [HQ.out], HL3'⟩
        case measure => simp [intOf]; omega
      · have hb' : ¬ (M0 : Int) < (b : Int) := by omega
        have HQ := hide (show mostN ls (k + 1) = M0 by rw [HMN.out, if_neg hb])
        clear HMN hb
        go_wp2_with fail
        go_roundw
        case rel => exact ⟨k + 1, by go_num, by omega, by rw [HQ.out], HL3'⟩
        case measure => simp [intOf]; omega
    · obtain rfl : k = ls.length := by omega
      have HML := hide (most_le ls ls.length)
      generalize mostN ls ls.length = M at HML HM16 ⊢
      have hM17 : (M : Int) ≤ 16 := by have := HM16.out; omega
      clear HLX
      have HAf := hide (fun W (h : LogsX W (.slice vA ls.length vc) ls) => All_ok _ ls W h HT.out.len HT.out.each HT.out.bnd)
      by_cases hz : ls.length = 0
      · have HO := hide (show (orderL ls).1 = [] by rw [order_none hz])
        have hf : ¬ (0 : Int) < (ls.length : Int) := by omega
        have HLg := hide HL.out.logs
        have HGr := hide HL.out.gr
        clear HL hz
        go_wp2_with fail
        go_loopg [5, 7] 0 (fun gk v i wr' => v = .int .i64 0 ∧ i = .int .i64 0 ∧ wr' = wr)
        case atStart => exact ⟨rfl, rfl, rfl⟩
        case round =>
          obtain ⟨rfl, rfl, rfl⟩ := hrel
          go_wp2_with fail
          refine (HAf.out _ HLg.out).mono ?_
          rintro e w4 ⟨u, rfl, hp, hg4, _⟩
          rw [HO.out] at hp
          obtain ⟨A3, c3, rfl, _⟩ := hp.is
          have HG4 := hide (HGr.out.trans hg4)
          clear hp hg4 HAf
          go_wp2_with fail
          go_ret
          exact ⟨rfl, HG4.out⟩
      · have h3 : ls.length ≤ 3 := by omega
        have HS0 := hide (show EvS M 0 ls from EvS.start HML.out HE.out HT.out.bnd (by omega))
        generalize hN : ls.length = N at *
        have HN := hide hN
        have HL0 := hide (show ∃ ls' xs', ls'.length = N ∧ LgO w wr (.slice vA N vc) ls' xs' ∧ sumN (opN ls') 0 = 0 ∧ (0 < N → EvS M 0 ls') ∧ (0 = N → (orderL ls').1.length = sumN (opN ls') N ∧ Logs10 ls') from ⟨ls, xs, hN, HL.out, rfl, fun _ => HS0.out, fun h => by omega⟩)
        clear HL HS0 hN HML HE HT
        go_wp2_with fail
        go_loopw [5, 7] (fun sv i wr => ∃ (k q : Nat), i = .int .i64 k ∧ sv = .int .i64 q ∧ k ≤ N ∧ Hid (∃ ls' xs', ls'.length = N ∧ LgO w wr (.slice vA N vc) ls' xs' ∧ sumN (opN ls') k = q ∧ (k < N → EvS M k ls') ∧ (k = N → (orderL ls').1.length = sumN (opN ls') N ∧ Logs10 ls'))) (fun _ i _ => N - (intOf i).toNat)
        case atStart => exact ⟨0, 0, rfl, rfl, by omega, HL0⟩
        case round =>
          obtain ⟨i, q, rfl, rfl, hi, HI⟩ := hrel
          clear HL0
          by_cases hlt : i < N
          · have hlt' : (i : Int) < (N : Int) := by omega
            have HI0 := hide (show ∃ ls' xs', ls'.length = N ∧ LgO w wr (.slice vA N vc) ls' xs' ∧ sumN (opN ls') i = q ∧ EvS M i ls' ∧ M + 1 ≤ (M + 1) + nb ls' i by
              obtain ⟨ls', xs', g1, g2, g3, g4, _⟩ := HI.out
              exact ⟨ls', xs', g1, g2, g3, g4 hlt, by omega⟩)
            clear HI
            go_wp2_with fail
            go_loopg [] (M + 1) (fun gk wr => Hid (∃ ls' xs', ls'.length = N ∧ LgO w wr (.slice vA N vc) ls' xs' ∧ sumN (opN ls') i = q ∧ EvS M i ls' ∧ M + 1 ≤ gk + nb ls' i))
            case atStart => exact HI0
            case round =>
              clear HI0
              obtain ⟨ls', xs', hN', hlo, hsum, hev, hgk⟩ := hrel.out
              have hil : i < ls'.length := by omega
              have hix : i < xs'.length := by rw [hlo.len]; omega
              have e0 : lg ls' i = ls'[i] := by unfold lg; simp [hil]
              have hlog := hlo.each i hix hil
              have hsm := hev.small i
              have hnbi := hev.now.1
              obtain ⟨ad, rfl, a0, hput⟩ := hlo.at_ hix
              rw [← e0] at hlog
              obtain ⟨yA, yc, hy0⟩ := hlog.is
              have hB0 := hlo.gr.size
              have HIN := hide (show ∀ w3 L y w4, Gr wr w3 → OwnEnt (Sx (w.heap.size + 1) xs' (.slice (some ad) N vc)) w4 (w.heap.size + 1) y L → Put1 w3 w4 xs'[i] y → w4.cell? (ad.add i) = some xs'[i] ∧ w4.frozen? (ad.add i) = false ∧ LgO w (w4.setCell (ad.add i) y) (.slice (some ad) N vc) (ls'.set i L) (xs'.set i y) from fun w3 L y w4 hg ho hp => hput w4 y L ho ⟨⟨hp.1.os.trans hg.os, hp.1.tape.trans hg.tape, hp.1.output.trans hg.output, Nat.le_trans hg.size hp.1.size, fun k hk hne => (hp.1.block k (Nat.lt_of_lt_of_le hk hg.size) hne).trans (hg.block k hk)⟩, hp.2.elim .inl fun ⟨k, h1, h2⟩ => .inr ⟨k, h1, Nat.le_trans hg.size h2⟩⟩)
              have HB0 := hide (show w.heap.size + 1 ≤ wr.heap.size by
                have := (World.ownsRow.lt hlo.own ad.block rfl)
                omega)
              rw [hy0] at a0 hlog
              have HLG := hide hlog
              have HX := hide hlog.entsX
              have HS := hide (fun W' (h : EntsX Any W' (.slice yA (lg ls' i).length yc) (lg ls' i)) => RefCut_ok _ (lg ls' i) W' h (by have := HM16.out; omega))
              change Hid (∀ W', EntsX Any W' (.slice yA (lg ls' i).length yc) (lg ls' i) → Calls _ _ _ _ fun e w' => ∃ u, e = .returned u ∧ RowsI w' W'.heap.size u (ct ls' i) ∧ Gr W' w') at HS
              have HNB := hide (show (ct ls' i).length = nb ls' i from rfl)
              have HSM := hide hsm
              have HNBI := hide hnbi
              have HLO := hide hlo
              have HEV := hide hev
              have HSUM := hide hsum
              have HGK := hide hgk
              have HLN := hide hN'
              have HY0 := hide hy0
              have HIL := hide hil
              have hm40 : ((lg ls' i).length : Int) ≤ 100 := by have := HM16.out; omega
              obtain ⟨L, hL⟩ : ∃ L, lg ls' i = L := ⟨_, rfl⟩
              have HLL := hide hL
              rw [hL] at a0 HLG HX HS HSM hm40 HY0
              clear hlo hlog e0 hev hsm hnbi hsum hgk hN' hil hput hB0 hrel hy0 hL
              go_wp2_with fail
              refine (HS.out _ HX.out).mono ?_
              rintro e w3 ⟨u, rfl, hr, hg3⟩
              obtain ⟨A2, c2, rfl⟩ := hr.is
              rw [HNB.out]
              have HG3 := hide hg3
              replace a0 := gr_cell hg3 _ _ a0
              clear hr hg3 HS
              by_cases hle : nb ls' i ≤ M
              · have hle' : ((nb ls' i : Nat) : Int) ≤ (M : Int) := by omega
                have HLE := hide hle
                generalize nb ls' i = b at hle' ⊢
                clear hle HX
                go_wp2_with (at_builtin; refine pause ?_)
                refine hide ?_
                refine wpList_pushEnt rfl (.tmp 49) (.tmp 51) rfl seal9 (.slice none 0 0, .slice none 0 0) rfl rfl (HLG.out.gr HG3.out) (bare_rows _ _ (e := seal9) ⟨rfl, rfl⟩) (Nat.le_trans HB0.out HG3.out.size) rfl (by omega) (fun y w4 ho4 hp4 => ?_)
                obtain ⟨y2, c4, rfl⟩ := ho4.is
                obtain ⟨k1, k2, hl4⟩ := HIN.out w3 _ _ w4 HG3.out ho4 (by rw [HY0.out]; exact hp4)
                rw [HY0.out] at k1
                have HST := hide (show ∃ ls' xs', ls'.length = N ∧ LgO w (w4.setCell (ad.add i) (.slice y2 (L ++ [seal9]).length c4)) (.slice (some ad) N vc) ls' xs' ∧ sumN (opN ls') i = q ∧ EvS M i ls' ∧ M + 1 ≤ (gk - 1) + nb ls' i ∧ gk - 1 < gk by
                  obtain ⟨g1, g2⟩ := HEV.out.push HLE.out (by have := HLN.out; omega)
                  rw [HLL.out] at g1 g2
                  have hgk := HGK.out
                  have hle := HLE.out
                  refine ⟨_, _, by rw [List.length_set]; exact HLN.out, hl4, by rw [opN_set]; exact HSUM.out, g1, by omega, by omega⟩)
                generalize (L ++ [seal9]).length = m5 at k1 HST ⊢
                clear hl4 hp4 ho4 HIN HY0 HLG a0 HSM HEV HGK
                go_wp2_with fail
                go_roundg (gk - 1)
                case rel =>
                  obtain ⟨ls'', xs'', g1, g2, g3, g4, g5, _⟩ := HST.out
                  exact ⟨ls'', xs'', g1, g2, g3, g4, g5⟩
                case measure =>
                  obtain ⟨ls'', xs'', g1, g2, g3, g4, g5, g6⟩ := HST.out
                  exact g6
              · have hle' : ¬ ((nb ls' i : Nat) : Int) ≤ (M : Int) := by omega
                have HLE := hide hle
                generalize nb ls' i = b at hle' ⊢
                have HL4 := hide (HLO.out.more HG3.out)
                replace HX := hide (HX.out.gr HG3.out)
                have hq300 : (q : Int) ≤ 300 := by
                  have := opN_le (HEV.out.ten HM16.out (by have := HLN.out; omega)) (n := i) (by omega)
                  have := HSUM.out
                  omega
                clear hle HG3 HIN HLG
                go_wp2_with fail
                go_loopw [5, 8] (fun sv k wr' => ∃ k' : Nat, k = .int .i64 k' ∧ k' ≤ L.length ∧ sv = .int .i64 ((q + openN (shuts L) k' : Nat) : Int) ∧ wr' = w3) (fun _ k _ => L.length - (intOf k).toNat)
                case atStart => exact ⟨0, rfl, by omega, rfl, rfl⟩
                case round =>
                  obtain ⟨k, rfl, hk, rfl, rfl⟩ := hrel
                  by_cases hkl : k < L.length
                  · have hkl' : (k : Int) < (L.length : Int) := by omega
                    obtain ⟨bd, d, p, e1, _, _, b1, _⟩ := HX.out.ent hkl
                    simp only [Value.slice.injEq, true_and] at e1
                    obtain ⟨rfl, rfl⟩ := e1
                    have hop : openN (shuts L) (k + 1) = if L[k].shut = true then openN (shuts L) k else openN (shuts L) k + 1 := by
                      rw [openN]
                      unfold shuts
                      rw [List.getD_eq_getElem?_getD, List.getElem?_map, List.getElem?_eq_getElem hkl]
                      rfl
                    have HOP := hide hop
                    have hz100 : ((openN (shuts L) k : Nat) : Int) ≤ 100 := by have := openN_le (shuts L) k; omega
                    clear hop
                    generalize openN (shuts L) k = z at HOP hz100 ⊢
                    cases hsh : L[k].shut with
                    | true =>
                      have HQ := hide (show openN (shuts L) (k + 1) = z by rw [HOP.out, hsh]; rfl)
                      rw [hsh] at b1
                      clear hsh HOP
                      go_wp2_with fail
                      go_roundw
                      case rel => exact ⟨k + 1, by go_num, by omega, by rw [HQ.out], trivial⟩
                      case measure => simp [intOf]; omega
                    | false =>
                      have HQ := hide (show openN (shuts L) (k + 1) = z + 1 by rw [HOP.out, hsh]; rfl)
                      rw [hsh] at b1
                      clear hsh HOP
                      go_wp2_with fail
                      go_roundw
                      case rel => exact ⟨k + 1, by go_num, by omega, by rw [HQ.out]; go_num, trivial⟩
                      case measure => simp [intOf]; omega
                  · obtain rfl : k = L.length := by omega
                    have HQQ := hide (show sumN (opN ls') (i + 1) = q + openN (shuts L) L.length by
                      rw [sumN, HSUM.out]
                      unfold opN
                      rw [HLL.out])
                    have HNEXT := hide (show ∃ ls' xs', ls'.length = N ∧ LgO w wr (.slice (some ad) N vc) ls' xs' ∧ sumN (opN ls') (i + 1) = q + openN (shuts L) L.length ∧ (i + 1 < N → EvS M (i + 1) ls') ∧ (i + 1 = N → (orderL ls').1.length = sumN (opN ls') N ∧ Logs10 ls') from
                      ⟨ls', xs', HLN.out, HL4.out, HQQ.out, fun h => HEV.out.next HLE.out (by have := HLN.out; omega), fun h => ⟨by rw [even_len HEV.out HLE.out (by have := HLN.out; omega), HLN.out], HEV.out.ten HM16.out (by have := HLN.out; omega)⟩⟩)
                    clear HX HL4 HQQ HSUM HEV HLE
                    generalize openN (shuts L) L.length = z at HNEXT ⊢
                    go_wp2_with fail
                    go_roundw
                    case rel => exact ⟨i + 1, q + z, by go_num, by go_num, by omega, HNEXT⟩
                    case measure => simp [intOf]; omega
          · obtain rfl : i = N := by omega
            obtain ⟨ls', xs', g1, g2, g3, _, g4⟩ := HI.out
            obtain ⟨g5, g6⟩ := g4 rfl
            rw [g3] at g5
            have HO := hide g5
            have HA := hide (fun W (h : LogsX W (.slice vA i vc) ls') => All_ok _ ls' W h g6.len g6.each g6.bnd)
            have HLg := hide g2.logs
            have HGr := hide g2.gr
            clear g1 g2 g3 g4 g5 g6 HI
            go_wp2_with fail
            refine (HA.out _ HLg.out).mono ?_
            rintro e w4 ⟨u, rfl, hp, hg4, _⟩
            obtain ⟨A3, c3, rfl, _⟩ := hp.is
            rw [HO.out]
            have HG4 := hide (HGr.out.trans hg4)
            clear hp hg4 HA HLg HGr
            go_wp2_with fail
            go_ret
            exact ⟨by simp, HG4.out⟩

end Go.Proofs.Ytncdmecppfmmgaa
