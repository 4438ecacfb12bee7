/-
  A region whose order is the text's, walked by what is known of its slots (as an open one is). No program.
-/
import Derived.Test.YtpabppoohobjpaaGreatBaseG
namespace Go.Proofs.YtpabppoohobjpaaGreat.Grow
open Go Go.RowKit Go.Proofs.YtpabppoohobjpaaGreat

def dstB (l : List Oper) (n0 : Nat) : Bool := l.all fun o => match o.dst with | some d => Nat.blt d n0 | none => true

theorem list_of_grow {P : Program} {ops : Array Oper} {w0 : World} {n0 : Nat} {d0 : List Deferred} {Q : Exit → Act → World → Prop} {D : List Nat} {a0 : Act} {R : (Tmp → Known) → Prop}
    (hR : ∀ K, R K → ∀ a' w', Gr w0 w' → a'.tmps.size = n0 → a'.defers = d0 → (∀ t, D.contains t = false → a'.tmps.getD t undef = a0.tmps.getD t undef) → (∀ t, K t (a'.tmps.getD t undef) w') → Q .normal a' w') :
    ∀ (l : List Oper) (K : Tmp → Known) (a : Act) (w : World), writesB l D = true → dstB l n0 = true → Gr w0 w → a.tmps.size = n0 → a.defers = d0 → (∀ t, D.contains t = false → a.tmps.getD t undef = a0.tmps.getD t undef) →
      (∀ t, Stays (K t)) → (∀ t, K t (a.tmps.getD t undef) w) → wpGrow P ops w0 n0 R l K → wpList P ops Q l a w
  | [], K, a, w, _, _, hg, hs, hd, hu, _, hk, h => hR K h a w hg hs hd hu hk
  | o :: l, K, a, w, hD, hB, hg, hs, hd, hu, hst, hk, ⟨Φ, h1, h2, h3⟩ => by
    simp only [writesB, dstB, List.all_cons, Bool.and_eq_true] at hD hB
    have hΦ := h1 hst
    have next : ∀ u w', Gr w w' → Φ u w' → wpList P ops Q l (a.put o.dst u) w' := by
      intro u w' hgr hu'
      refine list_of_grow hR l (upd K o.dst Φ) (a.put o.dst u) w' (by unfold writesB; exact hD.2) (by unfold dstB; exact hB.2) (hg.trans hgr) (by rw [put_size, hs]) (by rw [put_defers, hd]) (fun t ht => ?_) (upd_stays hst hΦ) (fun t => ?_) h3
      · rw [put_getD_ne (fun e => ?_)]
        · exact hu t ht
        · have h4 := hD.1
          rw [e] at h4
          simp only at h4
          rw [ht] at h4
          cases h4
      · cases ho : o.dst with
        | none => rw [← ho, put_getD_ne (by rw [ho]; simp)]; rw [ho]; exact hst t _ _ _ (hk t) hgr
        | some d =>
          have h5 := hB.1
          rw [ho] at h5
          simp only [Nat.blt_eq] at h5
          show (bif Nat.beq d t then Φ else K t) _ _
          by_cases hdt : d = t
          · subst hdt
            rw [Nat.beq_refl, cond_true, put_getD_self (by rw [hs]; exact h5)]
            exact hu'
          · rw [show Nat.beq d t = false from Bool.eq_false_iff.2 (fun e => hdt (Nat.eq_of_beq_eq_true e)), cond_false, put_getD_ne (by simpa using hdt)]
            exact hst t _ _ _ (hk t) hgr
    have h6 := h2 a w hg hs (fun t _ => hk t)
    unfold wpList
    by_cases hw : Region.wanted o (yielded ops a.tmps) = true
    · rw [if_pos hw] at h6 ⊢
      refine .inl ?_
      unfold does at h6
      unfold Oper.wp
      generalize (execOp a.eval o).run P w = res at h6 ⊢
      match res, h6 with
      | .ok (.value u) w', h6 => exact next u w' h6.1 h6.2
      | .ok .skip w', h6 => exact next undef w' h6.1 h6.2
      | .ok (.enter f args) w', h6 =>
        refine h6.2.mono ?_
        rintro e w'' ⟨u, rfl, hg2, hu2⟩
        exact next u w'' hg2 hu2
    · rw [if_neg hw] at h6 ⊢
      exact next undef w (Gr.refl w) h6

/-- **A region in the text's order, walked by what is known ahead of it**; what it does not write is as it was. -/
theorem wp_region_text {P : Program} {l : List Oper} {id : Nat} {Q : Exit → Act → World → Prop} {a : Act} {w : World} (n0 : Nat) (D : List Nat) (hn : a.tmps.size = n0) (hD : writesB l D = true) (hB : dstB l n0 = true)
    {K : Tmp → Known} (hK : Ahead w a K)
    (h : wpGrow P l.toArray w n0 (fun K => ∀ a' w', Gr w w' → a'.tmps.size = n0 → a'.defers = a.defers → (∀ t, D.contains t = false → a'.tmps.getD t undef = a.tmps.getD t undef) → (∀ t, K t (a'.tmps.getD t undef) w') → Q .normal a' w') l K) :
    (Code.region id l.toArray false).wp P Q a w := by
  refine wp_region_list ?_
  rw [List.toList_toArray]
  exact list_of_grow (fun K hK => hK) l K a w hD hB (Gr.refl w) hn rfl (fun _ _ => rfl) hK.1 hK.2 h
/-- a region by its number: the walk stops here ('go_wp2_with (with_reducible refine Grow.stopR 11 ?_)') -/
def AtR (p : Prop) : Prop := p
theorem stopR (n : Nat) {P : Program} {l : Array Oper} {b : Bool} {Q : Exit → Act → World → Prop} {a : Act} {w : World} (h : AtR ((Code.region n l b).wp P Q a w)) : (Code.region n l b).wp P Q a w := h
theorem goR {p : Prop} (h : p) : AtR p := h
end Go.Proofs.YtpabppoohobjpaaGreat.Grow
