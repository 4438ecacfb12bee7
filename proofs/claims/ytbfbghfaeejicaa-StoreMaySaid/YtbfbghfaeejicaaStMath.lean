/-
  Stores as lists of keys with their versions: what is got, written, trimmed, and what follows. No program.
-/
import Derived.Test.YtbfbghfaeejicaaChMath
import Derived.Test.YtbfbghfaeejicaaTxnMath
import Derived.Test.YtbfbghfaeejicaaKeyEach
namespace Go.Proofs.Ytbfbghfaeejicaa.StMath
open Go KeyMath ChMath TxnMath Go.Proofs.Ytbfbghfaeejicaa

structure ChT where
  key : ByteArray
  l : List VerT
deriving DecidableEq
structure StT where
  chains : List ChT
  mark : Int
deriving DecidableEq

/-- where the first one stands that is so; behind all, if none is -/
def firstI (p : ChT → Bool) : List ChT → Nat
  | [] => 0
  | c :: r => if p c then 0 else firstI p r + 1
def isK (k : ByteArray) (c : ChT) : Bool := decide (c.key = k)
def aboveK (k : ByteArray) (c : ChT) : Bool := ltK k c.key
theorem firstI_le (p : ChT → Bool) : ∀ l : List ChT, firstI p l ≤ l.length
  | [] => Nat.le_refl _
  | c :: r => by unfold firstI; have := firstI_le p r; split <;> simp <;> omega
theorem firstI_at {p : ChT → Bool} : ∀ {l : List ChT} {k : Nat} (hk : k < l.length), p l[k] = true → (∀ j (hj : j < l.length), j < k → p l[j] = false) → firstI p l = k
  | [], k, hk, _, _ => by simp at hk
  | c :: r, 0, _, h, _ => by unfold firstI; rw [if_pos (by exact h)]
  | c :: r, k + 1, hk, h, hj => by
    unfold firstI
    rw [if_neg (by have := hj 0 (by simp) (by omega); simpa using this), firstI_at (l := r) (k := k) (by simpa using hk) (by simpa using h) (fun j hjl hjk => by have := hj (j + 1) (by simpa using hjl) (by omega); simpa using this)]
theorem firstI_none {p : ChT → Bool} : ∀ {l : List ChT}, (∀ j (hj : j < l.length), p l[j] = false) → firstI p l = l.length
  | [], _ => rfl
  | c :: r, h => by
    unfold firstI
    rw [if_neg (by have := h 0 (by simp); simpa using this), firstI_none (l := r) (fun j hj => by have := h (j + 1) (by simpa using hj); simpa using this)]
    rfl
theorem firstI_spec {p : ChT → Bool} : ∀ {l : List ChT} (h : firstI p l < l.length), p (l[firstI p l]) = true
  | [], h => by simp at h
  | c :: r, h => by
    by_cases hc : p c = true
    · have e : firstI p (c :: r) = 0 := by unfold firstI; rw [if_pos hc]
      simp only [e]
      exact hc
    · have e : firstI p (c :: r) = firstI p r + 1 := by rw [firstI, if_neg hc]
      have h2 : firstI p r < r.length := by rw [e] at h; simpa using h
      have := firstI_spec h2
      simp only [e]
      exact this
theorem firstI_before {p : ChT → Bool} : ∀ {l : List ChT} {j : Nat} (hj : j < l.length), j < firstI p l → p l[j] = false
  | [], j, hj, _ => by simp at hj
  | c :: r, j, hj, h => by
    by_cases hc : p c = true
    · rw [firstI, if_pos hc] at h; omega
    · rw [firstI, if_neg hc] at h
      cases j with
      | zero => simpa using hc
      | succ j => exact firstI_before (l := r) (by simpa using hj) (by omega)

/-- what there is of a key -/
def findC (k : ByteArray) : List ChT → List VerT
  | [] => []
  | c :: r => if c.key = k then c.l else findC k r
theorem findC_first (k : ByteArray) : ∀ cs : List ChT, findC k cs = (cs[firstI (isK k) cs]?.map (·.l)).getD []
  | [] => rfl
  | c :: r => by
    unfold findC firstI isK
    by_cases h : c.key = k
    · simp [h]
    · simp only [h, if_false, decide_false, Bool.false_eq_true, List.getElem?_cons_succ]
      exact findC_first k r
def seenC (k : ByteArray) (l : List VerT) (p : Int) : RdT := ⟨k, (atV p l).pos, (atV p l).val, isV p l && !(atV p l).gone⟩
def noRd : RdT := ⟨nothing, 0, nothing, false⟩
def getS (s : StT) (k : ByteArray) (p : Int) : RdT × Int := if p < s.mark then (noRd, 4) else (seenC k (findC k s.chains) p, 0)
def spanC (f t : ByteArray) (p : Int) (cs : List ChT) : List RdT := (cs.map fun c => seenC c.key c.l p).filter fun r => r.there && withinK r.key f t
def spanS (s : StT) (f t : ByteArray) (p : Int) : List RdT × Int := if p < s.mark then ([], 4) else (spanC f t p s.chains, 0)
def lastS (s : StT) (k : ByteArray) : Int := lastP (findC k s.chains)
/-- as the program writes -/
def addC (cs : List ChT) (k : ByteArray) (v : VerT) : List ChT :=
  if firstI (isK k) cs < cs.length then cs.modify (firstI (isK k) cs) fun c => ⟨c.key, addL c.l v⟩
  else if v.pos ≤ 0 then cs else cs.take (firstI (aboveK k) cs) ++ ⟨k, [v]⟩ :: cs.drop (firstI (aboveK k) cs)
def writeC (p : Int) : List WrT → List ChT → List ChT
  | [], cs => cs
  | x :: r, cs => writeC p r (addC cs x.key ⟨p, x.val, x.gone⟩)
def writeS (s : StT) (p : Int) (ws : List WrT) : StT := ⟨writeC p ws s.chains, s.mark⟩
def trimC (m : Int) (c : ChT) : ChT := ⟨c.key, trimL m c.l⟩
def trimS (s : StT) (m : Int) : StT := if m ≤ s.mark then s else ⟨s.chains.map (trimC m), m⟩
def mayC (c : ChT) : Bool := decide (0 < c.l.length) && mayL c.l
def mayS (s : StT) : Bool := decide (0 ≤ s.mark) && risingK (s.chains.map (·.key)) && s.chains.all mayC

/-! The document's. -/
def belowK (k : ByteArray) (c : ChT) : Bool := !ltK c.key k
def addR (cs : List ChT) (k : ByteArray) (v : VerT) : List ChT :=
  if (cs[firstI (belowK k) cs]?.map (·.key)) = some k then cs.modify (firstI (belowK k) cs) fun c => ⟨c.key, addL c.l v⟩
  else if v.pos < 1 then cs else cs.take (firstI (belowK k) cs) ++ ⟨k, [v]⟩ :: cs.drop (firstI (belowK k) cs)
def writeR (p : Int) : List WrT → List ChT → List ChT
  | [], cs => cs
  | x :: r, cs => writeR p r (addR cs x.key ⟨p, x.val, x.gone⟩)
def spanR (f t : ByteArray) (p : Int) (all : List ChT) (cs : List ChT) : List RdT := (cs.map fun c => seenC c.key (findC c.key all) p).filter fun r => withinK r.key f t && r.there
def trimRC (m : Int) (c : ChT) : ChT := ⟨c.key, trimR m c.l⟩

/-! Rising keys. -/
def Rise (cs : List ChT) : Prop := cs.Pairwise fun a b => ltK a.key b.key = true
theorem lt_irrefl (a : ByteArray) : ltK a a = false := bl_irrefl _
theorem lt_ne {a b : ByteArray} (h : ltK a b = true) : a ≠ b := fun e => by rw [e, lt_irrefl] at h; cases h
theorem lt_trans {a b c : ByteArray} (h1 : ltK a b = true) (h2 : ltK b c = true) : ltK a c = true := bl_trans _ _ _ h1 h2
theorem lt_asym {a b : ByteArray} (h : ltK a b = true) : ltK b a = false := by
  rw [Bool.eq_false_iff]
  intro h2
  have := lt_trans h h2
  rw [lt_irrefl] at this
  cases this
theorem list_inj {a b : ByteArray} (h : a.toList = b.toList) : a = b := by
  rw [ByteArray.toList_eq, ByteArray.toList_eq] at h
  cases a; cases b
  simp at h
  rw [h]
theorem lt_total (a b : ByteArray) : ltK a b = true ∨ a = b ∨ ltK b a = true := by
  rcases bl_total a.toList b.toList with h | h | h
  · exact .inl h
  · exact .inr (.inl (list_inj h))
  · exact .inr (.inr h)
theorem add_nil (v : VerT) : addL [] v = if v.pos ≤ 0 then [] else [v] := by
  unfold addL
  show (if v.pos ≤ 0 then _ else _) = _
  rfl

/-- a key with a version, put into its place -/
def addS (k : ByteArray) (v : VerT) : List ChT → List ChT
  | [] => if v.pos ≤ 0 then [] else [⟨k, [v]⟩]
  | c :: r => if c.key = k then ⟨c.key, addL c.l v⟩ :: r else if ltK k c.key then (if v.pos ≤ 0 then c :: r else ⟨k, [v]⟩ :: c :: r) else c :: addS k v r
theorem Rise.tail {c : ChT} {r : List ChT} (h : Rise (c :: r)) : Rise r := (List.pairwise_cons.1 h).2
theorem Rise.head {c : ChT} {r : List ChT} (h : Rise (c :: r)) : ∀ d ∈ r, ltK c.key d.key = true := (List.pairwise_cons.1 h).1
theorem first_is_none {k : ByteArray} {cs : List ChT} (h : ∀ d ∈ cs, d.key ≠ k) : firstI (isK k) cs = cs.length :=
  firstI_none fun _ hj => decide_eq_false (h _ (List.getElem_mem hj))
theorem addC_adds {k : ByteArray} {v : VerT} : ∀ {cs : List ChT}, Rise cs → addC cs k v = addS k v cs
  | [], _ => by
    unfold addC addS
    simp [firstI]
  | c :: r, h => by
    have ih := addC_adds (k := k) (v := v) h.tail
    by_cases hk : c.key = k
    · have e : firstI (isK k) (c :: r) = 0 := by unfold firstI isK; simp [hk]
      unfold addC addS
      rw [e, if_pos (by simp), if_pos hk]
      rfl
    · have e : firstI (isK k) (c :: r) = firstI (isK k) r + 1 := by rw [firstI, if_neg (by unfold isK; simp [hk])]
      by_cases hl : ltK k c.key = true
      · have hn : ∀ d ∈ r, d.key ≠ k := fun d hd => (lt_ne (lt_trans hl (h.head d hd))).symm
        have e2 := first_is_none hn
        have e3 : firstI (aboveK k) (c :: r) = 0 := by rw [firstI, if_pos (show aboveK k c = true from hl)]
        unfold addC addS
        rw [e, e2, e3, if_neg (by simp), if_neg hk, if_pos hl]
        rfl
      · have e3 : firstI (aboveK k) (c :: r) = firstI (aboveK k) r + 1 := by rw [firstI, if_neg (show ¬ aboveK k c = true from hl)]
        rw [addS, if_neg hk, if_neg hl, ← ih]
        unfold addC
        rw [e, e3]
        by_cases hi : firstI (isK k) r < r.length
        · rw [if_pos (by simpa using hi), if_pos hi]
          rfl
        · rw [if_neg (by simpa using hi), if_neg hi]
          split <;> rfl
theorem addR_adds {k : ByteArray} {v : VerT} : ∀ {cs : List ChT}, Rise cs → addR cs k v = addS k v cs
  | [], _ => by
    unfold addR addS
    simp [firstI]
    by_cases h : v.pos ≤ 0
    · rw [if_pos h, if_pos (by omega)]
    · rw [if_neg h, if_neg (by omega)]
  | c :: r, h => by
    have ih := addR_adds (k := k) (v := v) h.tail
    by_cases hk : c.key = k
    · have e : firstI (belowK k) (c :: r) = 0 := by rw [firstI, if_pos (show belowK k c = true by unfold belowK; rw [hk, lt_irrefl]; rfl)]
      unfold addR addS
      rw [e, if_pos (by simp [hk]), if_pos hk]
      rfl
    · by_cases hl : ltK k c.key = true
      · have e : firstI (belowK k) (c :: r) = 0 := by rw [firstI, if_pos (show belowK k c = true by unfold belowK; rw [lt_asym hl]; rfl)]
        unfold addR addS
        rw [e, if_neg (by simp [hk]), if_neg hk, if_pos hl]
        by_cases hv : v.pos ≤ 0
        · rw [if_pos hv, if_pos (by omega)]
        · rw [if_neg hv, if_neg (by omega)]
          rfl
      · have hlt : ltK c.key k = true := by
          rcases lt_total c.key k with h1 | h1 | h1
          · exact h1
          · exact absurd h1 hk
          · exact absurd h1 hl
        have e : firstI (belowK k) (c :: r) = firstI (belowK k) r + 1 := by rw [firstI, if_neg (show ¬ belowK k c = true by unfold belowK; rw [hlt]; simp)]
        rw [addS, if_neg hk, if_neg hl, ← ih]
        unfold addR
        rw [e, List.getElem?_cons_succ]
        split
        · rfl
        · split <;> rfl
theorem addS_keys {k : ByteArray} {v : VerT} : ∀ {cs : List ChT} {d : ChT}, d ∈ addS k v cs → d.key = k ∨ ∃ c ∈ cs, c.key = d.key
  | [], d, h => by
    unfold addS at h
    split at h
    · simp at h
    · simp at h; exact .inl (by rw [h])
  | c :: r, d, h => by
    unfold addS at h
    split at h
    · rcases List.mem_cons.1 h with rfl | h
      · exact .inr ⟨c, by simp, rfl⟩
      · exact .inr ⟨d, by simp [h], rfl⟩
    · split at h
      · split at h
        · exact .inr ⟨d, h, rfl⟩
        · rcases List.mem_cons.1 h with rfl | h
          · exact .inl rfl
          · exact .inr ⟨d, h, rfl⟩
      · rcases List.mem_cons.1 h with rfl | h
        · exact .inr ⟨d, by simp, rfl⟩
        · rcases addS_keys h with h | ⟨e, he, h⟩
          · exact .inl h
          · exact .inr ⟨e, by simp [he], h⟩
theorem addS_rise {k : ByteArray} {v : VerT} : ∀ {cs : List ChT}, Rise cs → Rise (addS k v cs)
  | [], _ => by unfold addS; split <;> simp [Rise]
  | c :: r, h => by
    unfold addS
    split
    · refine List.pairwise_cons.2 ⟨fun d hd => h.head d hd, h.tail⟩
    · split
      · split
        · exact h
        · rename_i hk hl _
          refine List.pairwise_cons.2 ⟨fun d hd => ?_, h⟩
          rcases List.mem_cons.1 hd with rfl | hd
          · exact hl
          · exact lt_trans hl (h.head d hd)
      · rename_i hk hl
        refine List.pairwise_cons.2 ⟨fun d hd => ?_, addS_rise h.tail⟩
        rcases addS_keys hd with e | ⟨x, hx, e⟩
        · rw [e]
          rcases lt_total c.key k with h1 | h1 | h1
          · exact h1
          · exact absurd h1 hk
          · exact absurd h1 hl
        · rw [← e]; exact h.head x hx
theorem addS_len {k : ByteArray} {v : VerT} : ∀ (cs : List ChT), (addS k v cs).length ≤ cs.length + 1
  | [] => by unfold addS; split <;> simp
  | c :: r => by
    have := addS_len (k := k) (v := v) r
    unfold addS
    split
    · simp
    · split
      · split <;> simp
      · simp; omega
theorem addS_find {k : ByteArray} {v : VerT} : ∀ {cs : List ChT}, Rise cs → ∀ q, findC q (addS k v cs) = if q = k then addL (findC k cs) v else findC q cs
  | [], _, q => by
    unfold addS
    by_cases hv : v.pos ≤ 0
    · rw [if_pos hv]
      simp only [findC, add_nil, if_pos hv]
      split <;> rfl
    · rw [if_neg hv]
      simp only [findC, add_nil, if_neg hv]
      by_cases hq : q = k
      · simp [hq]
      · rw [if_neg (fun e => hq e.symm), if_neg hq]
  | c :: r, h, q => by
    unfold addS
    by_cases hk : c.key = k
    · rw [if_pos hk]
      simp only [findC, if_pos hk]
      by_cases hq : q = k
      · simp [hq, hk]
      · rw [if_neg (fun e => hq (e.symm.trans hk)), if_neg hq, if_neg (fun e => hq (e.symm.trans hk))]
    · rw [if_neg hk]
      by_cases hl : ltK k c.key = true
      · rw [if_pos hl]
        have hn : findC k (c :: r) = [] := by
          have : ∀ l : List ChT, (∀ d ∈ l, d.key ≠ k) → findC k l = [] := fun l => by
            induction l with
            | nil => exact fun _ => rfl
            | cons d l ih => exact fun hd => by rw [findC, if_neg (hd d (by simp)), ih (fun x hx => hd x (by simp [hx]))]
          exact this _ (fun d hd => by
            rcases List.mem_cons.1 hd with rfl | hd
            · exact hk
            · exact (lt_ne (lt_trans hl (h.head d hd))).symm)
        rw [hn, add_nil]
        by_cases hv : v.pos ≤ 0
        · rw [if_pos hv, if_pos hv]
          by_cases hq : q = k
          · rw [if_pos hq, hq, hn]
          · rw [if_neg hq]
        · rw [if_neg hv, if_neg hv]
          by_cases hq : q = k
          · rw [if_pos hq, hq, findC, if_pos rfl]
          · rw [if_neg hq, findC, if_neg (fun e => hq e.symm)]
      · rw [if_neg hl]
        rw [findC, findC, findC, addS_find h.tail q, if_neg hk]
        by_cases hq : q = k
        · rw [if_pos hq, if_pos hq, hq, if_neg hk]
        · rw [if_neg hq, if_neg hq]
theorem find_at {cs : List ChT} (h : Rise cs) {c : ChT} (hc : c ∈ cs) : findC c.key cs = c.l := by
  induction cs with
  | nil => simp at hc
  | cons d r ih =>
    rcases List.mem_cons.1 hc with rfl | hc
    · rw [findC, if_pos rfl]
    · rw [findC, if_neg (lt_ne (h.head c hc)), ih h.tail hc]
theorem find_map {m : Int} (k : ByteArray) : ∀ cs : List ChT, findC k (cs.map (trimC m)) = trimL m (findC k cs)
  | [] => rfl
  | c :: r => by
    rw [List.map_cons, findC, findC, find_map k r]
    show (if c.key = k then trimL m c.l else _) = _
    split <;> rfl
theorem trimC_rise {m : Int} {cs : List ChT} (h : Rise cs) : Rise (cs.map (trimC m)) := by
  unfold Rise
  rw [List.pairwise_map]
  exact h

/-! A store that may be, of such keys; positions up to M. -/
structure ChOk (K : ByteArray → Prop) (M : Int) (c : ChT) : Prop where
  key : K c.key
  ne : 0 < c.l.length
  may : mayL c.l = true
  pos : ∀ v ∈ c.l, v.pos ≤ M
structure CsOk (K : ByteArray → Prop) (M : Int) (cs : List ChT) : Prop where
  rise : Rise cs
  all : ∀ c ∈ cs, ChOk K M c
theorem may_snoc {e : Int} {v : VerT} : ∀ {l : List VerT}, mayFrom e l = true → e < v.pos → (∀ u ∈ l, u.pos < v.pos) → valuedV v = true → mayFrom e (l ++ [v]) = true
  | [], _, he, _, hv => by simp [mayFrom, he, hv]
  | u :: r, h, he, hu, hv => by
    simp only [List.cons_append, mayFrom, Bool.and_eq_true, decide_eq_true_eq] at h ⊢
    exact ⟨h.1, may_snoc h.2 (hu u (by simp)) (fun x hx => hu x (by simp [hx])) hv⟩
theorem may_last {e : Int} : ∀ {l : List VerT}, mayFrom e l = true → ∀ u ∈ l, e < u.pos ∧ u.pos ≤ lastP l
  | [], _, u, hu => by simp at hu
  | [x], h, u, hu => by
    simp at hu
    subst hu
    simp only [mayFrom, Bool.and_eq_true, decide_eq_true_eq] at h
    exact ⟨h.1.1, Int.le_refl _⟩
  | x :: y :: r, h, u, hu => by
    have h0 := h
    rw [mayFrom, Bool.and_eq_true, Bool.and_eq_true, decide_eq_true_eq] at h
    have e1 : lastP (x :: y :: r) = lastP (y :: r) := by unfold lastP; rw [List.getLast?_cons_cons]
    have ih := may_last h.2
    rcases List.mem_cons.1 hu with rfl | hu
    · have := ih y (by simp)
      rw [e1]
      omega
    · have := ih u hu
      rw [e1]
      omega
theorem add_may {l : List VerT} {v : VerT} (h : mayL l = true) (h1 : 1 ≤ v.pos) (hv : valuedV v = true) : mayL (addL l v) = true := by
  unfold addL
  split
  · exact h
  · rename_i hp
    exact may_snoc h (by omega) (fun u hu => by have := (may_last h u hu).2; omega) hv
theorem add_pos {l : List VerT} {v : VerT} {M : Int} (h : ∀ u ∈ l, u.pos ≤ M) (hv : v.pos ≤ M) : ∀ u ∈ addL l v, u.pos ≤ M := by
  unfold addL
  split
  · exact h
  · intro u hu
    rcases List.mem_append.1 hu with hu | hu
    · exact h u hu
    · rw [List.mem_singleton.1 hu]; exact hv
theorem add_ne {l : List VerT} (v : VerT) (h : 0 < l.length) : 0 < (addL l v).length := by
  unfold addL
  split
  · exact h
  · rw [List.length_append]; omega
theorem one_may {v : VerT} (h1 : 1 ≤ v.pos) (hv : valuedV v = true) : mayL [v] = true := by unfold mayL mayFrom mayFrom; rw [hv]; simp; omega
theorem addS_ok {K : ByteArray → Prop} {M : Int} {k : ByteArray} {v : VerT} (hk : K k) (h1 : 1 ≤ v.pos) (hM : v.pos ≤ M) (hv : valuedV v = true) : ∀ {cs : List ChT}, (∀ c ∈ cs, ChOk K M c) → ∀ c ∈ addS k v cs, ChOk K M c
  | [], _, c, hc => by
    unfold addS at hc
    rw [if_neg (by omega)] at hc
    rw [List.mem_singleton.1 hc]
    exact ⟨hk, by simp, one_may h1 hv, fun u hu => by rw [List.mem_singleton.1 hu]; exact hM⟩
  | d :: r, h, c, hc => by
    unfold addS at hc
    have hd := h d (by simp)
    split at hc
    · rcases List.mem_cons.1 hc with rfl | hc
      · exact ⟨hd.key, add_ne v hd.ne, add_may hd.may h1 hv, add_pos hd.pos hM⟩
      · exact h c (by simp [hc])
    · split at hc
      · rw [if_neg (by omega)] at hc
        rcases List.mem_cons.1 hc with rfl | hc
        · exact ⟨hk, by simp, one_may h1 hv, fun u hu => by rw [List.mem_singleton.1 hu]; exact hM⟩
        · exact h c hc
      · rcases List.mem_cons.1 hc with rfl | hc
        · exact hd
        · exact addS_ok hk h1 hM hv (fun c hc => h c (by simp [hc])) c hc
theorem CsOk.add {K : ByteArray → Prop} {M : Int} {cs : List ChT} (h : CsOk K M cs) {k : ByteArray} {v : VerT} (hk : K k) (h1 : 1 ≤ v.pos) (hM : v.pos ≤ M) (hv : valuedV v = true) : CsOk K M (addS k v cs) := ⟨addS_rise h.rise, addS_ok hk h1 hM hv h.all⟩
theorem CsOk.trim {K : ByteArray → Prop} {M : Int} {cs : List ChT} (h : CsOk K M cs) (m : Int) : CsOk K M (cs.map (trimC m)) := by
  refine ⟨trimC_rise h.rise, fun c hc => ?_⟩
  obtain ⟨d, hd, rfl⟩ := List.mem_map.1 hc
  have := h.all d hd
  refine ⟨this.key, ?_, trim_may this.may, fun v hv => this.pos v (List.mem_of_mem_drop hv)⟩
  have h1 := lastN_le m d.l
  have h2 := this.ne
  show 0 < (d.l.drop (lastN m d.l - 1)).length
  rw [List.length_drop]
  omega
theorem CsOk.wide {K : ByteArray → Prop} {M M' : Int} {cs : List ChT} (h : CsOk K M cs) (hM : M ≤ M') : CsOk K M' cs := ⟨h.rise, fun c hc => ⟨(h.all c hc).key, (h.all c hc).ne, (h.all c hc).may, fun v hv => Int.le_trans ((h.all c hc).pos v hv) hM⟩⟩
/-- rows of versions are no longer than their positions allow -/
theorem may_len {M : Int} : ∀ {l : List VerT} {e : Int}, mayFrom e l = true → (∀ v ∈ l, v.pos ≤ M) → e ≤ M → (l.length : Int) ≤ M - e
  | [], e, _, _, he => by simp; omega
  | v :: r, e, h, hp, _ => by
    rw [mayFrom, Bool.and_eq_true, Bool.and_eq_true, decide_eq_true_eq] at h
    have hv := hp v (by simp)
    have := may_len h.2 (fun u hu => hp u (by simp [hu])) hv
    rw [List.length_cons]
    omega
/-- what is written: keys of such a kind, values that may be -/
def WrOk (K : ByteArray → Prop) (x : WrT) : Prop := K x.key ∧ valuedV ⟨0, x.val, x.gone⟩ = true
theorem wr_valued {K : ByteArray → Prop} {x : WrT} (h : WrOk K x) (p : Int) : valuedV ⟨p, x.val, x.gone⟩ = true := h.2
theorem write_adds {K : ByteArray → Prop} {M p : Int} (h1 : 1 ≤ p) (hM : p ≤ M) : ∀ {ws : List WrT} {cs : List ChT}, CsOk K M cs → (∀ x ∈ ws, WrOk K x) → CsOk K M (writeC p ws cs) ∧ writeR p ws cs = writeC p ws cs
  | [], cs, h, _ => ⟨h, rfl⟩
  | x :: r, cs, h, hw => by
    have hx := hw x (by simp)
    have e := addC_adds (k := x.key) (v := ⟨p, x.val, x.gone⟩) h.rise
    have h2 := h.add (v := ⟨p, x.val, x.gone⟩) hx.1 h1 hM hx.2
    have ih := write_adds (K := K) h1 hM (ws := r) (by rw [← e] at h2; exact h2) (fun y hy => hw y (by simp [hy]))
    refine ⟨ih.1, ?_⟩
    rw [writeR, writeC, addR_adds h.rise, ← e]
    exact ih.2
theorem write_rise {p : Int} : ∀ {ws : List WrT} {cs : List ChT}, Rise cs → Rise (writeC p ws cs)
  | [], _, h => h
  | x :: r, cs, h => by
    rw [writeC]
    refine write_rise ?_
    rw [addC_adds h]
    exact addS_rise h
theorem write_len {p : Int} : ∀ {ws : List WrT} {cs : List ChT}, Rise cs → (writeC p ws cs).length ≤ cs.length + ws.length
  | [], _, _ => Nat.le_refl _
  | x :: r, cs, h => by
    rw [writeC]
    have h2 : Rise (addC cs x.key ⟨p, x.val, x.gone⟩) := by rw [addC_adds h]; exact addS_rise h
    have := write_len (p := p) (ws := r) h2
    have h3 := addS_len (k := x.key) (v := ⟨p, x.val, x.gone⟩) cs
    rw [← addC_adds h] at h3
    rw [List.length_cons]
    omega
theorem rising_lt {cs : List ChT} (h : Rise cs) : lessK (cs.map (·.key)) = true := by
  refine lessK_yes (k := cs.length) (by simp) fun j hj => ?_
  have hr := h
  unfold Rise at hr
  rw [List.pairwise_iff_getElem] at hr
  have := hr j (j + 1) (by omega) hj (by omega)
  rw [getD_eq (by simp; omega), getD_eq (by simpa using hj)]
  simpa using this
theorem ok_may {K : ByteArray → Prop} {M : Int} {cs : List ChT} (h : CsOk K M cs) (hK : ∀ k, K k → mayK k = true) : risingK (cs.map (·.key)) = true ∧ cs.all mayC = true := by
  refine ⟨?_, ?_⟩
  · rw [rising_split, rising_lt h.rise, Bool.and_true, List.all_map, List.all_eq_true]
    exact fun c hc => hK _ (h.all c hc).key
  · rw [List.all_eq_true]
    intro c hc
    have := h.all c hc
    unfold mayC
    rw [this.may, decide_eq_true this.ne]
    rfl
theorem span_ref {f t : ByteArray} {p : Int} {all : List ChT} (h : Rise all) : ∀ {cs : List ChT}, (∀ c ∈ cs, c ∈ all) → spanR f t p all cs = spanC f t p cs := by
  intro cs hs
  unfold spanR spanC
  have e : (cs.map fun c => seenC c.key (findC c.key all) p) = cs.map fun c => seenC c.key c.l p := List.map_congr_left fun c hc => by rw [find_at h (hs c hc)]
  rw [e]
  congr 1
  funext r
  exact Bool.and_comm _ _

end Go.Proofs.Ytbfbghfaeejicaa.StMath
