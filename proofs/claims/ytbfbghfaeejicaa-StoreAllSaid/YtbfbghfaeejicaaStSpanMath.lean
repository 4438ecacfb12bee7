/-
  What a span of a store of few keys tells, key by key. No function of the program.
-/
import Derived.Test.YtbfbghfaeejicaaStFacts
namespace Go.Proofs.Ytbfbghfaeejicaa
open Go Go.RowKit ChMath KeyMath StMath TxnMath
set_option maxRecDepth 100000

theorem seen_nil (k : ByteArray) (p : Int) : (seenC k [] p).there = false := rfl
/-- key by key -/
def spanK (f t : ByteArray) (p : Int) (cs : List ChT) (ks : List ByteArray) : List RdT := (ks.map fun q => seenC q (findC q cs) p).filter fun r => r.there && withinK r.key f t
theorem spanK_cons {f t : ByteArray} {p : Int} {cs : List ChT} (k : ByteArray) (ks : List ByteArray) : spanK f t p cs (k :: ks) = (if (seenC k (findC k cs) p).there && withinK k f t then [seenC k (findC k cs) p] else []) ++ spanK f t p cs ks := by
  unfold spanK
  rw [List.map_cons, List.filter_cons]
  show (if ((seenC k (findC k cs) p).there && withinK k f t) = true then _ else _) = _
  split <;> rfl
theorem spanK_congr {f t : ByteArray} {p : Int} {cs ds : List ChT} {ks : List ByteArray} (h : ∀ k ∈ ks, findC k cs = findC k ds) : spanK f t p cs ks = spanK f t p ds ks := by
  unfold spanK
  rw [List.map_congr_left (fun k hk => by rw [h k hk])]
theorem spanK_none {f t : ByteArray} {p : Int} (ks : List ByteArray) : spanK f t p [] ks = [] := by
  induction ks with
  | nil => rfl
  | cons k r ih =>
    rw [spanK_cons, ih]
    show (if ((seenC k [] p).there && withinK k f t) = true then _ else _) ++ _ = _
    rw [seen_nil, Bool.false_and]
    rfl
theorem span_keys {f t : ByteArray} {p : Int} : ∀ {ks : List ByteArray} {cs : List ChT}, (ks.Pairwise fun a b => ltK a b = true) → Rise cs → (∀ c ∈ cs, c.key ∈ ks) → spanC f t p cs = spanK f t p cs ks
  | [], [], _, _, _ => rfl
  | [], c :: r, _, _, h => by have := h c (by simp); simp at this
  | k :: ks, [], _, _, _ => by rw [spanK_none]; rfl
  | k :: ks, c :: r, hk, hr, h => by
    have hk1 := (List.pairwise_cons.1 hk).1
    have hk2 := (List.pairwise_cons.1 hk).2
    by_cases e : c.key = k
    · have hin : ∀ d ∈ r, d.key ∈ ks := fun d hd => by
        have h1 := h d (by simp [hd])
        have h2 := lt_ne (hr.head d hd)
        rcases List.mem_cons.1 h1 with h1 | h1
        · exact absurd (e.trans h1.symm) h2
        · exact h1
      have ih := span_keys (f := f) (t := t) (p := p) hk2 hr.tail hin
      rw [spanK_cons, spanK_congr (cs := c :: r) (ds := r) (fun q hq => by rw [findC, if_neg (by rw [e]; exact lt_ne (hk1 q hq))]), ← ih]
      rw [show findC k (c :: r) = c.l by rw [findC, if_pos e]]
      unfold spanC
      rw [List.map_cons, List.filter_cons, ← e]
      show (if ((seenC c.key c.l p).there && withinK c.key f t) = true then _ else _) = _
      split <;> rfl
    · have hin : ∀ d ∈ c :: r, d.key ∈ ks := fun d hd => by
        have h1 := h d hd
        rcases List.mem_cons.1 h1 with h1 | h1
        · exfalso
          rcases List.mem_cons.1 hd with rfl | hd
          · exact e h1
          · have h2 := h c (by simp)
            rcases List.mem_cons.1 h2 with h2 | h2
            · exact e h2
            · have h3 := hr.head d hd
              rw [h1] at h3
              have h4 := hk1 _ h2
              rw [lt_asym h4] at h3
              cases h3
        · exact h1
      have ih := span_keys (f := f) (t := t) (p := p) hk2 hr hin
      have hf : findC k (c :: r) = [] := find_lo _ (fun d hd => (lt_ne (hk1 _ (hin d hd))).symm)
      rw [spanK_cons, ← ih, hf, seen_nil, Bool.false_and]
      rfl
theorem keysL_rise : keysL.Pairwise fun a b => ltK a b = true := by
  have : (keysL.Pairwise fun a b => ltK a b = true) ↔ True := by
    simp only [keysL, List.pairwise_cons, List.mem_cons, List.not_mem_nil, or_false, forall_eq_or_imp, forall_eq, false_implies, implies_true, List.Pairwise.nil, and_true, iff_true]
    refine ⟨⟨?_, ?_, ?_, ?_, ?_⟩, ⟨?_, ?_, ?_, ?_⟩, ⟨?_, ?_, ?_⟩, ⟨?_, ?_⟩, ?_⟩ <;> kernel_rfl
  exact this.2 trivial
theorem Good.span {P N : Nat} {s : StT} (h : Good P N s) (f t : ByteArray) (p : Int) : spanC f t p s.chains = spanK f t p s.chains keysL := span_keys keysL_rise h.ok.rise fun c hc => (h.ok.all c hc).key
theorem spanK_snoc {f t : ByteArray} {p : Int} {cs : List ChT} {ks : List ByteArray} {i : Nat} (h : i < ks.length) : spanK f t p cs (ks.take (i + 1)) = spanK f t p cs (ks.take i) ++ (if (seenC ks[i] (findC ks[i] cs) p).there && withinK ks[i] f t then [seenC ks[i] (findC ks[i] cs) p] else []) := by
  unfold spanK
  rw [List.take_succ_eq_append_getElem h, List.map_append, List.filter_append, List.map_cons, List.map_nil, List.filter_cons]
  show _ ++ (if ((seenC ks[i] (findC ks[i] cs) p).there && withinK ks[i] f t) = true then _ else _) = _
  split <;> rfl
theorem spanK_pre {f t : ByteArray} {p : Int} {cs : List ChT} {ks : List ByteArray} (i : Nat) : ∃ r, spanK f t p cs ks = spanK f t p cs (ks.take i) ++ r :=
  ⟨spanK f t p cs (ks.drop i), by unfold spanK; rw [← List.filter_append, ← List.map_append, List.take_append_drop]⟩
/-- the one that comes next -/
theorem spanK_next {f t : ByteArray} {p : Int} {cs : List ChT} {ks : List ByteArray} {i : Nat} (h : i < ks.length) :
    ((seenC ks[i] (findC ks[i] cs) p).there && withinK ks[i] f t) = true → (spanK f t p cs ks)[(spanK f t p cs (ks.take i)).length]? = some (seenC ks[i] (findC ks[i] cs) p) ∧ (spanK f t p cs (ks.take (i + 1))).length = (spanK f t p cs (ks.take i)).length + 1 := fun hy => by
  have h1 := spanK_snoc (f := f) (t := t) (p := p) (cs := cs) h
  rw [if_pos hy] at h1
  obtain ⟨r, hr⟩ := spanK_pre (f := f) (t := t) (p := p) (cs := cs) (ks := ks) (i + 1)
  constructor
  · rw [hr, h1, List.append_assoc, List.getElem?_append_right (Nat.le_refl _), Nat.sub_self]
    rfl
  · rw [h1, List.length_append]; rfl
theorem spanK_skip {f t : ByteArray} {p : Int} {cs : List ChT} {ks : List ByteArray} {i : Nat} (h : i < ks.length) (hn : ((seenC ks[i] (findC ks[i] cs) p).there && withinK ks[i] f t) = false) : (spanK f t p cs (ks.take (i + 1))).length = (spanK f t p cs (ks.take i)).length := by
  rw [spanK_snoc h, hn]
  simp
theorem spanK_le {f t : ByteArray} {p : Int} {cs : List ChT} (ks : List ByteArray) : (spanK f t p cs ks).length ≤ ks.length := by
  unfold spanK
  have := List.length_filter_le (fun r : RdT => r.there && withinK r.key f t) (ks.map fun q => seenC q (findC q cs) p)
  rw [List.length_map] at this
  exact this
end Go.Proofs.Ytbfbghfaeejicaa

/-
  What is written behind a position is not seen at it. No function of the program.
-/
namespace Go.Proofs.Ytbfbghfaeejicaa
open Go Go.RowKit ChMath KeyMath StMath TxnMath
set_option maxRecDepth 100000

theorem at_add {l : List VerT} {v : VerT} {p : Int} (h : p < v.pos) : atV p (addL l v) = atV p l ∧ isV p (addL l v) = isV p l := by
  unfold addL
  split
  · exact ⟨rfl, rfl⟩
  · have e : lastN p (l ++ [v]) = lastN p l := by rw [lastN_snoc, if_neg (by omega)]
    have hle := lastN_le p l
    unfold atV isV
    rw [e]
    refine ⟨?_, rfl⟩
    split
    · rfl
    · rw [List.getD_eq_getElem?_getD, List.getD_eq_getElem?_getD, List.getElem?_append_left (by omega)]
theorem seen_congr {k : ByteArray} {l m : List VerT} {p : Int} (h : atV p l = atV p m ∧ isV p l = isV p m) : seenC k l p = seenC k m p := by unfold seenC; rw [h.1, h.2]
theorem seen_write {p t : Int} (ht : t < p) (q : ByteArray) : ∀ {ws : List WrT} {cs : List ChT}, Rise cs → seenC q (findC q (writeC p ws cs)) t = seenC q (findC q cs) t
  | [], cs, _ => rfl
  | x :: r, cs, h => by
    have e := addC_adds (k := x.key) (v := ⟨p, x.val, x.gone⟩) h
    rw [writeC, seen_write ht q (by rw [e]; exact addS_rise h), e, addS_find h]
    split
    · rename_i hq
      rw [hq]
      exact seen_congr (at_add ht)
    · rfl
theorem seen_trim {m t : Int} (h : m ≤ t) (q : ByteArray) (cs : List ChT) : seenC q (findC q (cs.map (trimC m))) t = seenC q (findC q cs) t := by
  rw [find_map]
  exact seen_congr (trim_at h _)
theorem trimS_seen {s : StT} {m t : Int} (h : m ≤ t) (q : ByteArray) : seenC q (findC q (trimS s m).chains) t = seenC q (findC q s.chains) t := by
  unfold trimS
  split
  · rfl
  · exact seen_trim h q _
theorem trimS_last {s : StT} {m : Int} (q : ByteArray) : lastP (findC q (trimS s m).chains) = lastP (findC q s.chains) := by
  unfold trimS
  split
  · rfl
  · show lastP (findC q (s.chains.map (trimC m))) = _
    rw [find_map, trim_last]
theorem trimS_mark {s : StT} {m t : Int} (h : m ≤ t) (hs : s.mark ≤ t) : (trimS s m).mark ≤ t := by unfold trimS; split <;> assumption
theorem Good.put {P N p M : Nat} {s : StT} {ws : List WrT} (h : Good P N s) (hp : 1 ≤ p) (hPM : P ≤ M) (hM : p ≤ M) (hw : ∀ x ∈ ws, WrOk KeyIn x) (hl : ws.length ≤ 4) : Good M (N + 4) ⟨writeC p ws s.chains, s.mark⟩ := by
  have h1 := write_adds (K := KeyIn) (M := (M : Int)) (p := (p : Int)) (by omega) (by omega) (h.ok.wide (by omega)) hw
  have h2 := CsBnd.write p ws h.bnd
  have hh := h.high
  exact ⟨h1.1, ⟨by have := h2.1; show (writeC p ws s.chains).length ≤ N + 4; omega, fun c hc => by have := h2.2 c hc; show c.l.length ≤ N + 4; omega⟩, h.low, by show s.mark ≤ (M : Int); omega⟩
theorem Good.cut {P N : Nat} {s : StT} (h : Good P N s) {m : Int} (hm : m ≤ P) : Good P N (trimS s m) := by rw [← trimRS_eq h.ok]; exact h.trim hm
/-- the span is the same -/
theorem past_span {P N P2 N2 : Nat} {s u : StT} (hs : Good P N s) (hu : Good P2 N2 u) (t : Int) (f g : ByteArray) (h : ∀ q, seenC q (findC q u.chains) t = seenC q (findC q s.chains) t) : spanC f g t u.chains = spanC f g t s.chains := by
  rw [hs.span, hu.span]
  unfold spanK
  rw [List.map_congr_left (fun q _ => h q)]
/-- each is what is got -/
theorem span_got {P N : Nat} {s : StT} (hs : Good P N s) {t : Int} {f g : ByteArray} {r : RdT} (hr : r ∈ spanC f g t s.chains) : seenC r.key (findC r.key s.chains) t = r := by
  rw [hs.span] at hr
  unfold spanK at hr
  obtain ⟨q, _, hq⟩ := List.mem_map.1 (List.mem_filter.1 hr).1
  have : r.key = q := by rw [← hq]; rfl
  rw [this]
  exact hq
end Go.Proofs.Ytbfbghfaeejicaa
