/-
  The document's MayChain, by its contract.
-/
import Derived.Test.YtbfbghfaeejicaaChDo
namespace Go.Proofs.Ytbfbghfaeejicaa
open Go Go.RowKit ChMath KeyMath
set_option maxRecDepth 100000

theorem prevP_le {l : List VerT} {k : Nat} (h : ∀ j (hj : j < l.length), j < k → 1 ≤ l[j].pos) (hk : k ≤ l.length) : 0 ≤ prevP l k := by
  rcases k with _ | k
  · exact Int.le_refl _
  · have := h k (by omega) (by omega)
    unfold prevP
    simp [show k < l.length by omega]
    omega
theorem noText_no {s : ByteArray} (h : noText s = false) : ¬ s = ⟨#[]⟩ := fun e => by
  have := noText_nothing
  rw [e] at h
  rw [show (⟨#[]⟩ : ByteArray) = nothing from rfl, this] at h
  cases h

theorem valued_long {p : Int} {t : ByteArray} {b : Bool} (h : (t.size : Int) > 16) : valuedV ⟨p, t, b⟩ = false := by
  unfold valuedV
  cases b
  · exact decide_eq_false (by show ¬ (t.size : Int) ≤ 16; omega)
  · show noText t = false
    unfold noText
    rw [ByteArray.toList_eq, List.isEmpty_eq_false_iff]
    intro e
    have : t.size = 0 := by rw [ByteArray.size, ← Array.length_toList, e]; rfl
    omega
theorem valued_short {p : Int} {t : ByteArray} (h : ¬ (t.size : Int) > 16) : valuedV ⟨p, t, false⟩ = true := decide_eq_true (by show (t.size : Int) ≤ 16; omega)
set_option maxHeartbeats 8000000 in
theorem RefChainMay_ok (v : Value) (l : List VerT) (w : World) (hv : VersX w v l) (hl : l.length ≤ 1000000000) (hb : VerBnd l) :
    Calls Try.prog 52 #[v] w fun e w' => e = .returned (.bool (mayL l)) ∧ Gr w w' := by
  have HV := hide hv
  have HBN := hide hb
  obtain ⟨A, c, rfl, hc⟩ := hv.is
  clear hv hb
  go_enter Try.func52, Try.ntmps52
  go_wp2_with fail
  go_loopw [3] (fun i wr => ∃ k : Nat, i = .int .i64 k ∧ k ≤ l.length ∧ Hid (mayL l = mayFrom (prevP l k) (l.drop k)) ∧ Hid (∀ j (hj : j < l.length), j < k → 1 ≤ l[j].pos) ∧ Hid (Gr w wr)) (fun i _ => l.length - (intOf i).toNat)
  case atStart => exact ⟨0, rfl, by omega, rfl, fun j _ hj => absurd hj (by omega), Gr.refl _⟩
  case round =>
    obtain ⟨k, rfl, hk, HE, HJ, HG⟩ := hrel
    by_cases hlt : k < l.length
    · have hlt' : (k : Int) < (l.length : Int) := by omega
      obtain ⟨ad, c', e1, a0, a1, a2⟩ := (HV.out.gr HG.out).at_ hlt
      simp only [Value.slice.injEq, true_and] at e1
      obtain ⟨rfl, rfl⟩ := e1
      have HS := hide (may_step hlt)
      have hsz := HBN.out _ (List.getElem_mem hlt)
      have hpl := prevP_le HJ.out hk
      have HJ1 : Hid (1 ≤ l[k].pos → ∀ j (hj : j < l.length), j < k + 1 → 1 ≤ l[j].pos) := hide (fun h j hj hjk => by
        by_cases hx : j < k
        · exact HJ.out j hj hx
        · obtain rfl : j = k := by omega
          exact h)
      have hpk : 0 < k → ∃ q : Int, prevP l k = q ∧ wr.cell? (ad.add ((k - 1) * 3)) = some (.int .i64 q) := fun h0 => by
        have hk1 : k - 1 < l.length := by omega
        obtain ⟨ad2, c2, e2, b0, _, _⟩ := (HV.out.gr HG.out).at_ hk1
        simp only [Value.slice.injEq, Option.some.injEq, true_and] at e2
        obtain ⟨rfl, rfl⟩ := e2
        refine ⟨_, ?_, b0⟩
        obtain ⟨j, rfl⟩ : ∃ j, k = j + 1 := ⟨k - 1, by omega⟩
        unfold prevP
        simp [show j < l.length by omega]
      generalize l[k] = x at a0 a1 a2 HS HJ1 hsz
      obtain ⟨xp, xt, xb⟩ := x
      simp only at a0 a1 a2 hsz HJ1
      rcases Nat.eq_zero_or_pos k with hk0 | hk0
      · subst hk0
        have hpz : prevP l 0 = 0 := rfl
        simp only [Nat.zero_mul, add_zero_] at a0 a1 a2
        by_cases c1 : xp < 1
        · have d1 : decide (xp < 1) = true := decide_eq_true c1
          have HR := hide (show mayL l = false from HE.out.trans (HS.out.trans (by rw [decide_eq_false (show ¬ prevP l 0 < xp by omega)]; rfl)))
          clear HE HS HJ1 hpk
          go_wp2_with fail
          go_quiet (fail)
          go_wp2_with fail
          go_ret
          exact ⟨by rw [HR.out]; rfl, Gr.drewN HG.out _⟩
        have d1 : decide (xp < 1) = false := decide_eq_false c1
        have HLT := hide (show prevP l 0 < xp by omega)
        by_cases c3 : (xt.size : Int) > 16
        · have d4 : decide ((xt.size : Int) > 16) = true := decide_eq_true c3
          have HR := hide (show mayL l = false from HE.out.trans (HS.out.trans (by rw [valued_long c3, Bool.and_false]; rfl)))
          clear HE HS HJ1 hpk
          go_wp2_with fail
          go_quiet (fail)
          go_wp2_with fail
          go_ret
          exact ⟨by rw [HR.out]; rfl, Gr.drewN HG.out _⟩
        have d4 : decide ((xt.size : Int) > 16) = false := decide_eq_false c3
        cases xb
        · skip
          have HR := hide (show mayL l = mayFrom (prevP l (0 + 1)) (l.drop (0 + 1)) from HE.out.trans (HS.out.trans (by rw [decide_eq_true HLT.out, valued_short c3]; rfl)))
          have HJ2 := hide (HJ1.out (by omega))
          clear HE HS HJ1 hpk
          go_wp2_with fail
          go_quiet (fail)
          go_wp2_with fail
          go_roundw
          case rel => exact ⟨0 + 1, by go_num, by omega, HR, HJ2, Gr.drewN HG.out _⟩
          case measure => simp [intOf]; omega
        · cases c5 : noText xt
          · have d5 : xt.toList.isEmpty = false := c5
            have HR := hide (show mayL l = false from HE.out.trans (HS.out.trans (by rw [show valuedV ⟨xp, xt, true⟩ = false from c5, Bool.and_false]; rfl)))
            clear HE HS HJ1 hpk
            go_wp2_with fail
            go_quiet (fail)
            go_wp2_with fail
            go_ret
            exact ⟨by rw [HR.out]; rfl, Gr.drewN HG.out _⟩
          · have d5 : xt.toList.isEmpty = true := c5
            have HR := hide (show mayL l = mayFrom (prevP l (0 + 1)) (l.drop (0 + 1)) from HE.out.trans (HS.out.trans (by rw [decide_eq_true HLT.out, show valuedV ⟨xp, xt, true⟩ = true from c5]; rfl)))
            have HJ2 := hide (HJ1.out (by omega))
            clear HE HS HJ1 hpk
            go_wp2_with fail
            go_quiet (fail)
            go_wp2_with fail
            go_roundw
            case rel => exact ⟨0 + 1, by go_num, by omega, HR, HJ2, Gr.drewN HG.out _⟩
            case measure => simp [intOf]; omega
      · have d2 : decide ((k : Int) > 0) = true := by rw [decide_eq_true]; omega
        obtain ⟨q, hpq, b0⟩ := hpk hk0
        obtain ⟨j, hj⟩ : ∃ j, k - 1 = j := ⟨_, rfl⟩
        rw [hj] at b0
        have hkj : (k : Int) - 1 = (j : Int) := by omega
        have hjl : (j : Int) < (l.length : Int) := by omega
        have hj0 : (0 : Int) ≤ (j : Int) := by omega
        have hpk := hj
        by_cases c1 : xp < 1
        · have d1 : decide (xp < 1) = true := decide_eq_true c1
          have HR := hide (show mayL l = false from HE.out.trans (HS.out.trans (by rw [decide_eq_false (show ¬ prevP l k < xp by omega)]; rfl)))
          clear HE HS HJ1 hpk
          go_wp2_with fail
          go_quiet (fail)
          go_wp2_with fail
          go_ret
          exact ⟨by rw [HR.out]; rfl, Gr.drewN HG.out _⟩
        have d1 : decide (xp < 1) = false := decide_eq_false c1
        by_cases c2 : xp ≤ q
        · have d3 : decide (xp ≤ q) = true := decide_eq_true c2
          have HR := hide (show mayL l = false from HE.out.trans (HS.out.trans (by rw [decide_eq_false (show ¬ prevP l k < xp by omega)]; rfl)))
          clear HE HS HJ1 hpk
          go_wp2_with fail
          go_quiet (fail)
          go_wp2_with fail
          go_ret
          exact ⟨by rw [HR.out]; rfl, Gr.drewN HG.out _⟩
        have d3 : decide (xp ≤ q) = false := decide_eq_false c2
        have HLT := hide (show prevP l k < xp by omega)
        by_cases c3 : (xt.size : Int) > 16
        · have d4 : decide ((xt.size : Int) > 16) = true := decide_eq_true c3
          have HR := hide (show mayL l = false from HE.out.trans (HS.out.trans (by rw [valued_long c3, Bool.and_false]; rfl)))
          clear HE HS HJ1 hpk
          go_wp2_with fail
          go_quiet (fail)
          go_wp2_with fail
          go_ret
          exact ⟨by rw [HR.out]; rfl, Gr.drewN HG.out _⟩
        have d4 : decide ((xt.size : Int) > 16) = false := decide_eq_false c3
        cases xb
        · skip
          have HR := hide (show mayL l = mayFrom (prevP l (k + 1)) (l.drop (k + 1)) from HE.out.trans (HS.out.trans (by rw [decide_eq_true HLT.out, valued_short c3]; rfl)))
          have HJ2 := hide (HJ1.out (by omega))
          clear HE HS HJ1 hpk
          go_wp2_with fail
          go_quiet (fail)
          go_wp2_with fail
          go_roundw
          case rel => exact ⟨k + 1, by go_num, by omega, HR, HJ2, Gr.drewN HG.out _⟩
          case measure => simp [intOf]; omega
        · cases c5 : noText xt
          · have d5 : xt.toList.isEmpty = false := c5
            have HR := hide (show mayL l = false from HE.out.trans (HS.out.trans (by rw [show valuedV ⟨xp, xt, true⟩ = false from c5, Bool.and_false]; rfl)))
            clear HE HS HJ1 hpk
            go_wp2_with fail
            go_quiet (fail)
            go_wp2_with fail
            go_ret
            exact ⟨by rw [HR.out]; rfl, Gr.drewN HG.out _⟩
          · have d5 : xt.toList.isEmpty = true := c5
            have HR := hide (show mayL l = mayFrom (prevP l (k + 1)) (l.drop (k + 1)) from HE.out.trans (HS.out.trans (by rw [decide_eq_true HLT.out, show valuedV ⟨xp, xt, true⟩ = true from c5]; rfl)))
            have HJ2 := hide (HJ1.out (by omega))
            clear HE HS HJ1 hpk
            go_wp2_with fail
            go_quiet (fail)
            go_wp2_with fail
            go_roundw
            case rel => exact ⟨k + 1, by go_num, by omega, HR, HJ2, Gr.drewN HG.out _⟩
            case measure => simp [intOf]; omega
    · obtain rfl : k = l.length := by omega
      have HR := hide (HE.out.trans (may_end l))
      clear HE
      go_wp2_with fail
      go_ret
      exact ⟨by rw [HR.out]; rfl, HG.out⟩

end Go.Proofs.Ytbfbghfaeejicaa
