/-
  Versions as lists: which was there, what is added, trimmed, what may be; and what follows. No program.
-/
import Derived.Test.YtbfbghfaeejicaaKeyMath
namespace Go.Proofs.Ytbfbghfaeejicaa.ChMath
open Go KeyMath

structure VerT where
  pos : Int
  val : ByteArray
  gone : Bool
deriving DecidableEq
def noText (s : ByteArray) : Bool := s.toList.isEmpty
theorem noText_nothing : noText nothing = true := by first | (simp [noText, nothing]; done) | decide | (unfold noText nothing ByteArray.toList; unfold ByteArray.toList.loop; rfl)
/-- a value that may be, or gone and none -/
def valuedV (v : VerT) : Bool := if v.gone then noText v.val else decide ((v.val.size : Int) ≤ 16)
def noVer : VerT := ⟨0, nothing, false⟩
/-- one more than where the last one stands that is not above p; 0: there is none -/
def lastN (p : Int) : List VerT → Nat
  | [] => 0
  | v :: r => if 0 < lastN p r then lastN p r + 1 else if v.pos ≤ p then 1 else 0
def atV (p : Int) (l : List VerT) : VerT := if lastN p l = 0 then noVer else l.getD (lastN p l - 1) noVer
def isV (p : Int) (l : List VerT) : Bool := decide (0 < lastN p l)
def lastP (l : List VerT) : Int := match l.getLast? with | none => 0 | some v => v.pos
def addL (l : List VerT) (v : VerT) : List VerT := if v.pos ≤ lastP l then l else l ++ [v]
def trimL (m : Int) (l : List VerT) : List VerT := l.drop (lastN m l - 1)
/-- each above the one ahead, the first above e, and of values that may be -/
def mayFrom (e : Int) : List VerT → Bool
  | [] => true
  | v :: r => decide (e < v.pos) && valuedV v && mayFrom v.pos r
def mayL (l : List VerT) : Bool := mayFrom 0 l

theorem lastN_cons (p : Int) (v : VerT) (r : List VerT) : lastN p (v :: r) = if 0 < lastN p r then lastN p r + 1 else if v.pos ≤ p then 1 else 0 := rfl
theorem lastN_le (p : Int) : ∀ l : List VerT, lastN p l ≤ l.length
  | [] => Nat.le_refl _
  | v :: r => by
    have := lastN_le p r
    unfold lastN
    split
    · simp; omega
    · split <;> simp
theorem lastN_snoc (p : Int) (v : VerT) : ∀ l : List VerT, lastN p (l ++ [v]) = if v.pos ≤ p then l.length + 1 else lastN p l
  | [] => by simp [lastN]
  | u :: r => by
    have ih := lastN_snoc p v r
    rw [List.cons_append]
    unfold lastN
    rw [ih]
    by_cases h : v.pos ≤ p
    · simp [h]
    · simp [h]
/-- as the search comes down -/
theorem lastN_take {p : Int} {l : List VerT} {k : Nat} (h : k < l.length) : lastN p (l.take (k + 1)) = if l[k].pos ≤ p then k + 1 else lastN p (l.take k) := by
  rw [List.take_succ_eq_append_getElem h, lastN_snoc, List.length_take, Nat.min_eq_left (by omega)]
theorem lastN_drop {p : Int} : ∀ {l : List VerT} {i : Nat}, i < lastN p l → lastN p (l.drop i) = lastN p l - i
  | l, 0, _ => rfl
  | [], i + 1, h => by simp [lastN] at h
  | v :: r, i + 1, h => by
    rw [lastN_cons] at h
    rw [lastN_cons, List.drop_succ_cons]
    by_cases h0 : 0 < lastN p r
    · rw [if_pos h0] at h ⊢
      rw [lastN_drop (by omega : i < lastN p r)]
      omega
    · rw [if_neg h0] at h
      split at h <;> omega
theorem lastN_mono {p q : Int} (h : p ≤ q) : ∀ l : List VerT, lastN p l ≤ lastN q l
  | [] => Nat.le_refl _
  | v :: r => by
    have ih := lastN_mono h r
    unfold lastN
    by_cases h1 : 0 < lastN p r
    · rw [if_pos h1, if_pos (by omega)]; omega
    · rw [if_neg h1]
      split
      · split
        · omega
        · rw [if_pos (by omega)]; omega
      · omega
theorem atV_at {p : Int} {l : List VerT} (h : 0 < lastN p l) : ∃ hk : lastN p l - 1 < l.length, atV p l = l[lastN p l - 1] := by
  have := lastN_le p l
  refine ⟨by omega, ?_⟩
  unfold atV
  rw [if_neg (by omega)]
  simp [List.getD_eq_getElem?_getD, show lastN p l - 1 < l.length by omega]
theorem atV_no {p : Int} {l : List VerT} (h : lastN p l = 0) : atV p l = noVer := by unfold atV; rw [if_pos h]

theorem lastP_snoc (l : List VerT) (v : VerT) : lastP (l ++ [v]) = v.pos := by unfold lastP; simp
theorem lastP_at {l : List VerT} (h : 0 < l.length) : lastP l = (l[l.length - 1]).pos := by
  unfold lastP
  rw [List.getLast?_eq_getElem?, List.getElem?_eq_getElem (by omega)]

/-! Trimmed. -/
theorem trim_at {m p : Int} (h : m ≤ p) (l : List VerT) : atV p (trimL m l) = atV p l ∧ isV p (trimL m l) = isV p l := by
  have hm := lastN_mono h l
  unfold trimL
  by_cases h0 : lastN p l = 0
  · rw [show lastN m l - 1 = 0 by omega]
    exact ⟨rfl, rfl⟩
  · have hlt : lastN m l - 1 < lastN p l := by omega
    have e := lastN_drop hlt
    have hle := lastN_le p l
    unfold atV isV
    rw [e, if_neg (by omega), if_neg h0]
    refine ⟨?_, by simp; omega⟩
    rw [List.getD_eq_getElem?_getD, List.getD_eq_getElem?_getD, List.getElem?_drop]
    congr 2
    omega
theorem trim_len (m : Int) (l : List VerT) : (trimL m l).length ≤ l.length := by unfold trimL; simp
theorem trim_last (m : Int) (l : List VerT) : lastP (trimL m l) = lastP l := by
  have h1 := lastN_le m l
  have e : (trimL m l).getLast? = l.getLast? := by
    unfold trimL
    rw [List.getLast?_drop]
    split
    · have : l = [] := List.eq_nil_of_length_eq_zero (by omega)
      rw [this]
      rfl
    · rfl
  unfold lastP
  rw [e]
theorem trim_twice (m : Int) (l : List VerT) : trimL m (trimL m l) = trimL m l := by
  unfold trimL
  by_cases h0 : lastN m l = 0
  · rw [show lastN m l - 1 = 0 by omega, List.drop_zero, h0]; rfl
  · rw [lastN_drop (by omega), show lastN m l - (lastN m l - 1) - 1 = 0 by omega, List.drop_zero]
theorem mayFrom_low {e e' : Int} (h : e' ≤ e) {l : List VerT} (hm : mayFrom e l = true) : mayFrom e' l = true := by
  cases l with
  | nil => rfl
  | cons v r =>
    simp only [mayFrom, Bool.and_eq_true, decide_eq_true_eq] at hm ⊢
    exact ⟨⟨by omega, hm.1.2⟩, hm.2⟩
theorem mayFrom_drop {e : Int} : ∀ {l : List VerT} (i : Nat), mayFrom e l = true → mayFrom e (l.drop i) = true
  | l, 0, h => h
  | [], i + 1, _ => rfl
  | v :: r, i + 1, h => by
    simp only [mayFrom, Bool.and_eq_true, decide_eq_true_eq] at h
    rw [List.drop_succ_cons]
    exact mayFrom_drop i (mayFrom_low (by omega) h.2)
theorem trim_may {m : Int} {l : List VerT} (h : mayL l = true) : mayL (trimL m l) = true := mayFrom_drop _ h

/-! Added. -/
theorem add_new {l : List VerT} {v : VerT} (h : lastP l < v.pos) : addL l v = l ++ [v] := by unfold addL; rw [if_neg (by omega)]
theorem add_old {l : List VerT} {v : VerT} (h : v.pos ≤ lastP l) : addL l v = l := by unfold addL; rw [if_pos h]
theorem add_from {l : List VerT} {v : VerT} {p : Int} (h : v.pos ≤ p) : atV p (l ++ [v]) = v ∧ isV p (l ++ [v]) = true := by
  unfold atV isV
  rw [lastN_snoc, if_pos h]
  simp
theorem add_below {l : List VerT} {v : VerT} {p : Int} (h : p < v.pos) : atV p (l ++ [v]) = atV p l ∧ isV p (l ++ [v]) = isV p l := by
  have hl := lastN_le p l
  have e : lastN p (l ++ [v]) = lastN p l := by rw [lastN_snoc, if_neg (by omega)]
  unfold atV isV
  rw [e]
  refine ⟨?_, rfl⟩
  by_cases h0 : lastN p l = 0
  · rw [if_pos h0, if_pos h0]
  · rw [if_neg h0, if_neg h0, List.getD_eq_getElem?_getD, List.getD_eq_getElem?_getD, List.getElem?_append_left (by omega)]

/-! As the document's trims: those stay behind which none is not above the mark. -/
def trimR (m : Int) : List VerT → List VerT
  | [] => []
  | [v] => [v]
  | v :: u :: r => if u.pos ≤ m then trimR m (u :: r) else v :: trimR m (u :: r)
theorem lastN_none {m e : Int} (he : m ≤ e) : ∀ {l : List VerT}, mayFrom e l = true → lastN m l = 0
  | [], _ => rfl
  | v :: r, h => by
    simp only [mayFrom, Bool.and_eq_true, decide_eq_true_eq] at h
    unfold lastN
    rw [lastN_none (by omega) h.2, if_neg (by omega), if_neg (by omega)]
theorem trimR_same {m e : Int} (he : m ≤ e) : ∀ {v : VerT} {l : List VerT}, mayFrom e l = true → trimR m (v :: l) = v :: l
  | v, [], _ => rfl
  | v, u :: r, h => by
    simp only [mayFrom, Bool.and_eq_true, decide_eq_true_eq] at h
    unfold trimR
    rw [if_neg (by omega), trimR_same (e := u.pos) (by omega) h.2]
theorem trim_ref {m e : Int} : ∀ {l : List VerT}, mayFrom e l = true → trimR m l = trimL m l
  | [], _ => rfl
  | [v], _ => by
    unfold trimL trimR
    have := lastN_le m [v]
    simp at this
    rw [show lastN m [v] - 1 = 0 by omega]
    rfl
  | v :: u :: r, h => by
    have h0 := h
    rw [mayFrom, Bool.and_eq_true, Bool.and_eq_true] at h
    have ih := trim_ref (m := m) h.2
    have h2 := h.2
    rw [mayFrom, Bool.and_eq_true, Bool.and_eq_true, decide_eq_true_eq] at h2
    unfold trimR
    by_cases hu : u.pos ≤ m
    · rw [if_pos hu, ih]
      have hp : 0 < lastN m (u :: r) := by
        rw [lastN_cons]
        split
        · exact Nat.succ_pos _
        · exact Nat.one_pos
      unfold trimL
      rw [show lastN m (v :: u :: r) = lastN m (u :: r) + 1 by rw [lastN, if_pos hp], show lastN m (u :: r) + 1 - 1 = (lastN m (u :: r) - 1) + 1 by omega, List.drop_succ_cons]
    · rw [if_neg hu, trimR_same (e := u.pos) (by omega) h2.2]
      have hz : lastN m (u :: r) = 0 := by
        unfold lastN
        rw [lastN_none (e := u.pos) (by omega) h2.2, if_neg (by omega), if_neg hu]
      unfold trimL
      rw [show lastN m (v :: u :: r) - 1 = 0 by unfold lastN; rw [hz, if_neg (by omega)]; split <;> rfl]
      rfl

/-! Made of numbers. -/
def textOf (n : Nat) : ByteArray := if n % 3 = 0 then nothing else if n % 3 = 1 then ⟨#[118]⟩ else ⟨#[119]⟩
def verOf (p : Int) (b : UInt8) : VerT := if b.toNat % 5 = 0 then ⟨p, nothing, true⟩ else ⟨p, textOf (b.toNat / 4), false⟩
def madeV (p : Int) : List UInt8 → List VerT
  | [] => []
  | b :: r => verOf (p + 1 + (b.toNat % 4 : Nat)) b :: madeV (p + 1 + (b.toNat % 4 : Nat)) r
theorem ver_pos (p : Int) (b : UInt8) : (verOf p b).pos = p := by unfold verOf; split <;> rfl
theorem text_len (n : Nat) : ((textOf n).size : Int) ≤ 16 := by
  unfold textOf
  split
  · decide
  · split <;> decide
theorem ver_ok (p : Int) (b : UInt8) : valuedV (verOf p b) = true := by
  unfold verOf valuedV
  split
  · exact noText_nothing
  · simp [text_len]
theorem made_may : ∀ (l : List UInt8) (p : Int), mayFrom p (madeV p l) = true
  | [], _ => rfl
  | b :: r, p => by
    unfold madeV mayFrom
    rw [ver_pos, ver_ok, made_may r]
    simp
    omega
theorem made_len : ∀ (l : List UInt8) (p : Int), (madeV p l).length = l.length
  | [], _ => rfl
  | b :: r, p => by unfold madeV; rw [List.length_cons, List.length_cons, made_len r]
/-- where they have come -/
def posV (p : Int) : List UInt8 → Int
  | [] => p
  | b :: r => posV (p + 1 + (b.toNat % 4 : Nat)) r
theorem pos_snoc (b : UInt8) : ∀ (l : List UInt8) (p : Int), posV p (l ++ [b]) = posV p l + 1 + (b.toNat % 4 : Nat)
  | [], _ => rfl
  | a :: r, p => by rw [List.cons_append, posV, posV, pos_snoc b r]
theorem made_snoc (b : UInt8) : ∀ (l : List UInt8) (p : Int), madeV p (l ++ [b]) = madeV p l ++ [verOf (posV p (l ++ [b])) b]
  | [], _ => rfl
  | a :: r, p => by rw [List.cons_append, madeV, madeV, made_snoc b r, posV]; rfl
theorem pos_bnd : ∀ (l : List UInt8) (p : Int), p ≤ posV p l ∧ posV p l ≤ p + 4 * l.length
  | [], _ => by simp [posV]
  | b :: r, p => by
    have := pos_bnd r (p + 1 + (b.toNat % 4 : Nat))
    have h4 : b.toNat % 4 < 4 := Nat.mod_lt _ (by omega)
    unfold posV
    simp only [List.length_cons]
    omega
theorem last_made : ∀ (l : List UInt8), lastP (madeV 0 l) = posV 0 l := by
  intro l
  rcases List.eq_nil_or_concat l with rfl | ⟨r, b, rfl⟩
  · rfl
  · rw [List.concat_eq_append, made_snoc, lastP_snoc, ver_pos]

end Go.Proofs.Ytbfbghfaeejicaa.ChMath
