/-
  What a span of a store of few keys tells, key by key. No function of the program.
-/
import Derived.Test.YtbfbghfaeejicaaStFacts
namespace Go.Proofs.Ytbfbghfaeejicaa
open Go Go.RowKit ChMath KeyMath StMath TxnMath
set_option maxRecDepth 100000

theorem seen_nil (k : ByteArray) (p : Int) : (seenC k [] p).there = false := rfl
/-- key by key -/
def spanK (f t : ByteArray) (p : Int) (cs : List ChT) (ks : List ByteArray) : List RdT := (ks.map fun q => seenC q (findC q cs) p).filter fun r => r.there && withinK r.key f t
theorem spanK_cons {f t : ByteArray} {p : Int} {cs : List ChT} (k : ByteArray) (ks : List ByteArray) : spanK f t p cs (k :: ks) = (if (seenC k (findC k cs) p).there && withinK k f t then [seenC k (findC k cs) p] else []) ++ spanK f t p cs ks := by
  unfold spanK
  rw [List.map_cons, List.filter_cons]
  show (if ((seenC k (findC k cs) p).there && withinK k f t) = true then _ else _) = _
  split <;> rfl
theorem spanK_congr {f t : ByteArray} {p : Int} {cs ds : List ChT} {ks : List ByteArray} (h : ∀ k ∈ ks, findC k cs = findC k ds) : spanK f t p cs ks = spanK f t p ds ks := by
  unfold spanK
  rw [List.map_congr_left (fun k hk => by rw [h k hk])]
theorem spanK_none {f t : ByteArray} {p : Int} (ks : List ByteArray) : spanK f t p [] ks = [] := by
  induction ks with
  | nil => rfl
  | cons k r ih =>
    rw [spanK_cons, ih]
    show (if ((seenC k [] p).there && withinK k f t) = true then _ else _) ++ _ = _
    rw [seen_nil, Bool.false_and]
    rfl
theorem span_keys {f t : ByteArray} {p : Int} : ∀ {ks : List ByteArray} {cs : List ChT}, (ks.Pairwise fun a b => ltK a b = true) → Rise cs → (∀ c ∈ cs, c.key ∈ ks) → spanC f t p cs = spanK f t p cs ks
  | [], [], _, _, _ => rfl
  | [], c :: r, _, _, h => by have := h c (by simp); simp at this
  | k :: ks, [], _, _, _ => by rw [spanK_none]; rfl
  | k :: ks, c :: r, hk, hr, h => by
    have hk1 := (List.pairwise_cons.1 hk).1
    have hk2 := (List.pairwise_cons.1 hk).2
    by_cases e : c.key = k
    · have hin : ∀ d ∈ r, d.key ∈ ks := fun d hd => by
        have h1 := h d (by simp [hd])
        have h2 := lt_ne (hr.head d hd)
        rcases List.mem_cons.1 h1 with h1 | h1
        · exact absurd (e.trans h1.symm) h2
        · exact h1
      have ih := span_keys (f := f) (t := t) (p := p) hk2 hr.tail hin
      rw [spanK_cons, spanK_congr (cs := c :: r) (ds := r) (fun q hq => by rw [findC, if_neg (by rw [e]; exact lt_ne (hk1 q hq))]), ← ih]
      rw [show findC k (c :: r) = c.l by rw [findC, if_pos e]]
      unfold spanC
      rw [List.map_cons, List.filter_cons, ← e]
      show (if ((seenC c.key c.l p).there && withinK c.key f t) = true then _ else _) = _
      split <;> rfl
    · have hin : ∀ d ∈ c :: r, d.key ∈ ks := fun d hd => by
        have h1 := h d hd
        rcases List.mem_cons.1 h1 with h1 | h1
        · exfalso
          rcases List.mem_cons.1 hd with rfl | hd
          · exact e h1
          · have h2 := h c (by simp)
            rcases List.mem_cons.1 h2 with h2 | h2
            · exact e h2
            · have h3 := hr.head d hd
              rw [h1] at h3
              have h4 := hk1 _ h2
              rw [lt_asym h4] at h3
              cases h3
        · exact h1
      have ih := span_keys (f := f) (t := t) (p := p) hk2 hr hin
      have hf : findC k (c :: r) = [] := find_lo _ (fun d hd => (lt_ne (hk1 _ (hin d hd))).symm)
      rw [spanK_cons, ← ih, hf, seen_nil, Bool.false_and]
      rfl
theorem keysL_rise : keysL.Pairwise fun a b => ltK a b = true := by
  have : (keysL.Pairwise fun a b => ltK a b = true) ↔ True := by
    simp only [keysL, List.pairwise_cons, List.mem_cons, List.not_mem_nil, or_false, forall_eq_or_imp, forall_eq, false_implies, implies_true, List.Pairwise.nil, and_true, iff_true]
    refine ⟨⟨?_, ?_, ?_, ?_, ?_⟩, ⟨?_, ?_, ?_, ?_⟩, ⟨?_, ?_, ?_⟩, ⟨?_, ?_⟩, ?_⟩ <;> kernel_rfl
  exact this.2 trivial
theorem Good.span {P N : Nat} {s : StT} (h : Good P N s) (f t : ByteArray) (p : Int) : spanC f t p s.chains = spanK f t p s.chains keysL := span_keys keysL_rise h.ok.rise fun c hc => (h.ok.all c hc).key
theorem spanK_snoc {f t : ByteArray} {p : Int} {cs : List ChT} {ks : List ByteArray} {i : Nat} (h : i < ks.length) : spanK f t p cs (ks.take (i + 1)) = spanK f t p cs (ks.take i) ++ (if (seenC ks[i] (findC ks[i] cs) p).there && withinK ks[i] f t then [seenC ks[i] (findC ks[i] cs) p] else []) := by
  unfold spanK
  rw [List.take_succ_eq_append_getElem h, List.map_append, List.filter_append, List.map_cons, List.map_nil, List.filter_cons]
  show _ ++ (if ((seenC ks[i] (findC ks[i] cs) p).there && withinK ks[i] f t) = true then _ else _) = _
  split <;> rfl
theorem spanK_pre {f t : ByteArray} {p : Int} {cs : List ChT} {ks : List ByteArray} (i : Nat) : ∃ r, spanK f t p cs ks = spanK f t p cs (ks.take i) ++ r :=
  ⟨spanK f t p cs (ks.drop i), by unfold spanK; rw [← List.filter_append, ← List.map_append, List.take_append_drop]⟩
/-- the one that comes next -/
theorem spanK_next {f t : ByteArray} {p : Int} {cs : List ChT} {ks : List ByteArray} {i : Nat} (h : i < ks.length) :
    ((seenC ks[i] (findC ks[i] cs) p).there && withinK ks[i] f t) = true → (spanK f t p cs ks)[(spanK f t p cs (ks.take i)).length]? = some (seenC ks[i] (findC ks[i] cs) p) ∧ (spanK f t p cs (ks.take (i + 1))).length = (spanK f t p cs (ks.take i)).length + 1 := fun hy => by
  have h1 := spanK_snoc (f := f) (t := t) (p := p) (cs := cs) h
  rw [if_pos hy] at h1
  obtain ⟨r, hr⟩ := spanK_pre (f := f) (t := t) (p := p) (cs := cs) (ks := ks) (i + 1)
  constructor
  · rw [hr, h1, List.append_assoc, List.getElem?_append_right (Nat.le_refl _), Nat.sub_self]
    rfl
  · rw [h1, List.length_append]; rfl
theorem spanK_skip {f t : ByteArray} {p : Int} {cs : List ChT} {ks : List ByteArray} {i : Nat} (h : i < ks.length) (hn : ((seenC ks[i] (findC ks[i] cs) p).there && withinK ks[i] f t) = false) : (spanK f t p cs (ks.take (i + 1))).length = (spanK f t p cs (ks.take i)).length := by
  rw [spanK_snoc h, hn]
  simp
theorem spanK_le {f t : ByteArray} {p : Int} {cs : List ChT} (ks : List ByteArray) : (spanK f t p cs ks).length ≤ ks.length := by
  unfold spanK
  have := List.length_filter_le (fun r : RdT => r.there && withinK r.key f t) (ks.map fun q => seenC q (findC q cs) p)
  rw [List.length_map] at this
  exact this
end Go.Proofs.Ytbfbghfaeejicaa
