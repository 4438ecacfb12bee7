/-
  Rows of texts that the call owns, in blocks of which something is known; one such row behind another. No program.
-/
import Derived.Test.YtkcfieoflkhdpaaDoorFrAll
import Derived.Test.YtkcfieoflkhdpaaDoorDiskUse
namespace Go.Proofs.YtkcfieoflkhdpaaDoor
open Go Go.RowKit MapS
set_option maxRecDepth 100000

/-- a row of texts of the call's own: it and they lie in blocks that are Pd -/
def HeldP (Pd : Nat → Prop) (e : TypeId) (w : World) (v : Value) (ls : List (List UInt8)) : Prop :=
  ∃ vals, w.ownsRow 0 e 1 v ls.length vals ∧ (∀ k, v.ownBlock = some k → Pd k) ∧ ∀ j (h : j < ls.length), ∃ A c, vals[j]? = some (.slice A ls[j].length c) ∧ By w A c ls[j] ∧ Apart v.ownBlock A ls[j] ∧ (0 < ls[j].length → ∀ ad, A = some ad → Pd ad.block)

section
variable {P : Program} {e : TypeId} {Pd Pd' : Nat → Prop} {w0 w w' : World} {v u : Value} {ls ks : List (List UInt8)}
theorem own_zero {B n : Nat} {xs : List Value} (h : w.ownsRow B e 1 v n xs) : w.ownsRow 0 e 1 v n xs := by
  obtain ⟨h1, h2⟩ := h
  refine ⟨h1, ?_⟩
  rcases h2 with h2 | ⟨g, cap, cur, hv, hg, hh, r⟩
  · exact .inl h2
  · exact .inr ⟨g, cap, cur, hv, Nat.zero_le _, hh, r⟩
theorem HeldP.none_ (Pd : Nat → Prop) (e : TypeId) (w : World) : HeldP Pd e w (.slice none 0 0) [] := ⟨[], World.ownsRow_nil _ _ _ _, (fun _ h => nomatch h), fun j h => absurd h (by simp)⟩
theorem HeldN.p (h : HeldN e w0 w v ls) : HeldP (fun i => w0.heap.size ≤ i) e w v ls := by
  obtain ⟨vals, h1, h2⟩ := h
  exact ⟨vals, own_zero h1, fun k hk => (World.ownsRow.lt h1 k hk).1, h2⟩
theorem HeldP.mono (h : HeldP Pd e w v ls) (hp : ∀ i, Pd i → Pd' i) : HeldP Pd' e w v ls := by
  obtain ⟨vals, h1, h2, h3⟩ := h
  refine ⟨vals, h1, fun k hk => hp _ (h2 k hk), fun j hj => ?_⟩
  obtain ⟨A, c, k1, k2, k3, k4⟩ := h3 j hj
  exact ⟨A, c, k1, k2, k3, fun hl ad hA => hp _ (k4 hl ad hA)⟩
theorem rd_lt {A : Option Addr} {l : List UInt8} (h : Rd w A l) (hl : 0 < l.length) : ∀ ad, A = some ad → ad.block < w.heap.size := fun ad hA => by
  rcases Nat.lt_or_ge ad.block w.heap.size with h1 | h1
  · exact h1
  · obtain ⟨ad', h2, h3⟩ := h 0 hl
    rw [hA] at h2
    injection h2 with h2
    subst h2
    unfold World.cell? at h3
    rw [add_block, Array.getElem?_eq_none h1] at h3
    simp at h3
theorem HeldP.tight (h : HeldP Pd e w v ls) : HeldP (fun i => Pd i ∧ i < w.heap.size) e w v ls := by
  obtain ⟨vals, h1, h2, h3⟩ := h
  refine ⟨vals, h1, fun k hk => ⟨h2 k hk, (World.ownsRow.lt h1 k hk).2⟩, fun j hj => ?_⟩
  obtain ⟨A, c, k1, k2, k3, k4⟩ := h3 j hj
  exact ⟨A, c, k1, k2, k3, fun hl ad hA => ⟨k4 hl ad hA, rd_lt k2.rd hl ad hA⟩⟩
theorem ownsRow_only {S : Nat → Prop} {B n : Nat} {xs : List Value} (h : w.ownsRow B e 1 v n xs) (ho : Only S w w') (hv : ∀ k, v.ownBlock = some k → ¬ S k) : w'.ownsRow B e 1 v n xs := by
  obtain ⟨h1, h2⟩ := h
  refine ⟨h1, ?_⟩
  rcases h2 with h2 | ⟨g, cap, cur, rfl, hg, hh, r⟩
  · exact .inl h2
  · refine .inr ⟨g, cap, cur, rfl, hg, ?_, r⟩
    have hlt : g < w.heap.size := by
      rcases Nat.lt_or_ge g w.heap.size with h1 | h1
      · exact h1
      · rw [Array.getElem?_eq_none h1] at hh; cases hh
    rw [ho.block g hlt (hv g rfl)]
    exact hh
theorem HeldP.only {S : Nat → Prop} (h : HeldP Pd e w v ls) (ho : Only S w w') (hS : ∀ i, Pd i → ¬ S i) : HeldP Pd e w' v ls := by
  obtain ⟨vals, h1, h2, h3⟩ := h
  refine ⟨vals, ownsRow_only h1 ho (fun k hk => hS k (h2 k hk)), h2, fun j hj => ?_⟩
  obtain ⟨A, c, k1, k2, k3, k4⟩ := h3 j hj
  exact ⟨A, c, k1, By.only k2 ho (fun hl ad hA => hS _ (k4 hl ad hA)), k3, k4⟩
theorem HeldP.gr (h : HeldP Pd e w v ls) (hg : Gr w w') : HeldP Pd e w' v ls := h.only (S := noB) (Only.gr hg _) fun _ _ e => e
theorem HeldP.held (h : HeldP Pd e w v ls) : Held e w 0 v ls := by
  obtain ⟨vals, h1, _, h2⟩ := h
  exact ⟨vals, h1, fun j hj => by obtain ⟨A, c, h3, h4, h5, _⟩ := h2 j hj; exact ⟨A, c, h3, h4, h5⟩⟩
theorem HeldP.rws (h : HeldP Pd e w v ls) : ∃ A c, v = .slice A ls.length c ∧ Rws w A c ls := h.held.rws
theorem HeldP.lt (h : HeldP Pd e w v ls) : ∀ k, v.ownBlock = some k → Pd k ∧ k < w.heap.size := fun k hk => by
  obtain ⟨vals, h1, h2, _⟩ := h
  exact ⟨h2 k hk, (World.ownsRow.lt h1 k hk).2⟩

set_option maxHeartbeats 1000000 in
/-- 'append(a, b...)': both are the call's own -/
theorem wpList_appP {ops : Array Oper} {rest : List Oper} {o : Oper} {a : Act} {Q : Exit → Act → World → Prop} (hgd : o.guard = none) (s x : Operand) (t : TypeId)
    (ho : o.op = .call { callee := .builtin .append, args := #[s, x], argTypes := #[t, t] }) (e : TypeId) (i : TypeInfo) (ht : P.underlying t = some (.slice e)) (hi : P.info? e = some i)
    (hz : i.zero = some (.slice none 0 0)) (hsize : i.size = 1) (hby : i.bytes = 24)
    (hs : a.eval s = v) (hv : HeldP Pd e w v ls) (hx : a.eval x = u) (hu : HeldP (fun i => Pd i ∧ v.ownBlock ≠ some i) e w u ks)
    (hnew : Pd w.heap.size) (hl : (ls.length + ks.length : Int) ≤ 2000000000000)
    (h : ∀ v' w', HeldP Pd e w' v' (ls ++ ks) → w.grownBy w' v.ownBlock → (v'.ownBlock = v.ownBlock ∨ v'.ownBlock = some w.heap.size) → wpList P ops Q rest (a.put o.dst v') w') : wpList P ops Q (o :: rest) a w := by
  obtain ⟨vals, h1, h2, h3⟩ := hv
  obtain ⟨wals, g1, g2, g3⟩ := hu
  have hlen : vals.length = ls.length := by rw [h1.1]; omega
  have hlen2 : wals.length = ks.length := by rw [g1.1]; omega
  have hmx : maxLen = 281474976710656 ∨ 100000000000000 ≤ maxLen := by unfold maxLen; omega
  have hmax : ls.length + ks.length ≤ maxLen := by omega
  -- what the texts are behind the append
  have key : ∀ v' w', w'.ownsRow 0 e 1 v' (ls.length + ks.length) (vals ++ wals) → w.grownBy w' v.ownBlock → (v'.ownBlock = v.ownBlock ∨ v'.ownBlock = some w.heap.size) → HeldP Pd e w' v' (ls ++ ks) := by
    intro v' w' q1 q2 q3
    have hnw : ∀ {A : Option Addr} {c : Nat} {l : List UInt8}, By w A c l → Apart v.ownBlock A l → By w' A c l ∧ Apart v'.ownBlock A l := by
      intro A c l hb hapt
      refine ⟨hb.but_row q2 hapt, fun hlt ad hA => ?_⟩
      rcases q3 with q3 | q3
      · rw [q3]; exact hapt hlt ad hA
      · rw [q3]
        have := rd_lt hb.rd hlt ad hA
        intro e2
        injection e2 with e2
        omega
    refine ⟨vals ++ wals, by rw [List.length_append]; exact q1, fun k hk => ?_, fun j hj => ?_⟩
    · rcases q3 with q3 | q3
      · exact h2 k (q3 ▸ hk)
      · rw [q3] at hk; injection hk with hk; rw [← hk]; exact hnew
    · by_cases hjl : j < ls.length
      · obtain ⟨A, c, k1, k2, k3, k4⟩ := h3 j hjl
        have e1 : (ls ++ ks)[j] = ls[j] := List.getElem_append_left hjl
        rw [e1]
        obtain ⟨m1, m2⟩ := hnw k2 k3
        exact ⟨A, c, by rw [List.getElem?_append_left (by omega)]; exact k1, m1, m2, k4⟩
      · rw [List.length_append] at hj
        have hjk : j - ls.length < ks.length := by omega
        obtain ⟨A, c, k1, k2, k3, k4⟩ := g3 (j - ls.length) hjk
        have e1 : (ls ++ ks)[j]'(by rw [List.length_append]; omega) = ks[j - ls.length] := List.getElem_append_right (by omega)
        rw [e1]
        have hapt : Apart v.ownBlock A ks[j - ls.length] := by
          cases hvb : v.ownBlock with
          | none => intro _ ad _ e2; cases e2
          | some k =>
            intro hl0 ad hA e2
            injection e2 with e2
            exact (k4 hl0 ad hA).2 (e2 ▸ hvb)
        obtain ⟨m1, m2⟩ := hnw k2 hapt
        exact ⟨A, c, by rw [List.getElem?_append_right (by omega), hlen]; exact k1, m1, m2, fun hl0 ad hA => (k4 hl0 ad hA).1⟩
  rcases g1.2 with ⟨rfl, hn⟩ | ⟨g, cap, cur, rfl, _, hg, hnc, _, _, _⟩
  · have hk0 : ks = [] := List.eq_nil_of_length_eq_zero (by omega)
    subst hk0
    have hw0 : wals = [] := List.eq_nil_of_length_eq_zero (by simpa using hlen2)
    subst hw0
    refine wpList_append_own_none hgd s x t ho 0 e i 1 ht hi v ls.length vals hs h1 hx (h v w ?_ (World.grownBy.refl w _) (.inl rfl))
    have := key v w (by simpa using h1) (World.grownBy.refl w _) (.inl rfl)
    exact this
  · refine wpList_append_own_at _ hgd s x t ho 0 e i _ 1 24 ht hi hz hsize hby rfl (by decide) v ls.length vals hs h1 ⟨g, 0, none⟩ ks.length cap wals hx (by omega) (fun j y hj => World.ownsRow.cells g1 (g := g) rfl j y hj)
      (fun y hy => ?_) hmax (by omega) (Nat.zero_le _) ?_
    · obtain ⟨j, hj, rfl⟩ := List.mem_iff_getElem.1 hy
      obtain ⟨A, c, k1, _⟩ := g3 j (by omega)
      rw [List.getElem?_eq_getElem hj] at k1
      injection k1 with k1
      rw [k1]
      rfl
    · intro v' w' q1 q2 _ q4
      exact h v' w' (key v' w' q1 q2 q4) q2 q4
end

end Go.Proofs.YtkcfieoflkhdpaaDoor
