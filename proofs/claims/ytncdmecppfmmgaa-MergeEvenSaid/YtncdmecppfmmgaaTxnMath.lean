/-
  The transactions of layer 5, as lists: which may be, which bytes they are, and what follows. No program.
-/
import Derived.Test.YtncdmecppfmmgaaNumPlain
import Derived.Test.YtncdmecppfmmgaaKeyMath
namespace Go.Proofs.Ytncdmecppfmmgaa.TxnMath
open Go NumPlain KeyMath

structure RdT where
  key : ByteArray
  ver : Int
  val : ByteArray
  there : Bool
deriving DecidableEq
structure WrT where
  key : ByteArray
  val : ByteArray
  gone : Bool
deriving DecidableEq
structure TxT where
  ses : Int
  seq : Int
  reads : List RdT
  writes : List WrT
deriving DecidableEq

def empty (s : ByteArray) : Bool := s.toList == nothing.toList
/-- a read that may be, but for its key -/
def rdOk (x : RdT) : Bool := !decide (x.ver < 0) && !decide (16 < x.val.size) && !(!x.there && !empty x.val) && !(x.there && x.ver == 0)
def wrOk (x : WrT) : Bool := !decide (16 < x.val.size) && !(x.gone && !empty x.val)
def mayT (t : TxT) : Bool :=
  t.reads.all rdOk && t.writes.all wrOk && decide (1 ≤ t.ses) && decide (t.ses ≤ 9) && decide (1 ≤ t.seq) && decide (t.seq ≤ 1000) && decide (t.reads.length ≤ 6) && decide (t.writes.length ≤ 4) && risingK (t.reads.map (·.key)) && risingK (t.writes.map (·.key))

def flagB (b : Bool) : UInt8 := if b then 1 else 0
def natOf (z : Int) : List UInt8 := putN z.toNat
def txtOf (s : ByteArray) : List UInt8 := putT s.data.toList
def encR (x : RdT) : List UInt8 := txtOf x.key ++ natOf x.ver ++ txtOf x.val ++ [flagB x.there]
def encW (x : WrT) : List UInt8 := txtOf x.key ++ txtOf x.val ++ [flagB x.gone]
def encT (t : TxT) : List UInt8 := natOf t.ses ++ natOf t.seq ++ putN t.reads.length ++ t.reads.flatMap encR ++ putN t.writes.length ++ t.writes.flatMap encW
def putTx (t : TxT) : List UInt8 := if mayT t then encT t else []

/-! Taking. -/
def numOf (l : List UInt8) : Option (Int × List UInt8) := match takeF 9 l with
  | none => none
  | some (v, k) => some ((v : Int), l.drop k)
def textOf (l : List UInt8) : Option (ByteArray × List UInt8) := match takeT l with
  | none => none
  | some (t, k) => some (⟨t.toArray⟩, l.drop k)
def flagOf : List UInt8 → Option (Bool × List UInt8)
  | [] => none
  | b :: r => if b = 0 then some (false, r) else if b = 1 then some (true, r) else none
def rdOf (l : List UInt8) : Option (RdT × List UInt8) := do
  let (k, l) ← textOf l
  let (v, l) ← numOf l
  let (x, l) ← textOf l
  let (f, l) ← flagOf l
  pure (⟨k, v, x, f⟩, l)
def wrOf (l : List UInt8) : Option (WrT × List UInt8) := do
  let (k, l) ← textOf l
  let (x, l) ← textOf l
  let (f, l) ← flagOf l
  pure (⟨k, x, f⟩, l)
def manyOf {α : Type} (one : List UInt8 → Option (α × List UInt8)) : Nat → List UInt8 → Option (List α × List UInt8)
  | 0, l => some ([], l)
  | n + 1, l => do
    let (x, l) ← one l
    let (r, l) ← manyOf one n l
    pure (x :: r, l)
/-- the transaction at the front, and what stands behind -/
def txOf (l : List UInt8) : Option (TxT × List UInt8) := do
  let (s, l) ← numOf l
  let (q, l) ← numOf l
  let (n, l) ← numOf l
  if 6 < n then none else do
  let (r, l) ← manyOf rdOf n.toNat l
  let (m, l) ← numOf l
  if 4 < m then none else do
  let (w, l) ← manyOf wrOf m.toNat l
  if mayT ⟨s, q, r, w⟩ then pure (⟨s, q, r, w⟩, l) else none

theorem numOf_put {z : Int} (h0 : 0 ≤ z) (h1 : z ≤ 9223372036854775807) (r : List UInt8) : numOf (natOf z ++ r) = some (z, r) := by
  obtain ⟨n, rfl⟩ := Int.eq_ofNat_of_zero_le h0
  unfold numOf natOf
  rw [show ((n : Int)).toNat = n from rfl, takeF_putN n r (by omega)]
  simp
theorem numOf_nat {n : Nat} (h1 : n ≤ 1000000) (r : List UInt8) : numOf (putN n ++ r) = some ((n : Int), r) := numOf_put (z := (n : Int)) (by omega) (by omega) r
theorem textOf_put {s : ByteArray} (h : s.size ≤ 255) (r : List UInt8) : textOf (txtOf s ++ r) = some (s, r) := by
  unfold textOf txtOf
  have e : s.data.toList.length = s.size := by rw [Array.length_toList]; rfl
  rw [takeT_putT _ _ (by omega)]
  simp
theorem flagOf_put (b : Bool) (r : List UInt8) : flagOf (flagB b :: r) = some (b, r) := by cases b <;> rfl

theorem mayK_size {s : ByteArray} (h : mayK s = true) : s.size ≤ 8 := by
  unfold mayK at h
  simp only [Bool.and_eq_true, decide_eq_true_eq] at h
  exact h.1.2
theorem rising_may {l : List ByteArray} (h : risingK l = true) : ∀ s ∈ l, mayK s = true := by
  intro s hs
  obtain ⟨i, hi, rfl⟩ := List.mem_iff_getElem.1 hs
  unfold risingK risesTo at h
  rw [List.all_eq_true] at h
  have h2 := h i (by simpa using hi)
  unfold riseAt at h2
  rw [Bool.and_eq_true] at h2
  have h3 := h2.1
  rw [List.getD_eq_getElem?_getD, List.getElem?_eq_getElem hi] at h3
  exact h3

theorem rdOf_put {x : RdT} (hk : x.key.size ≤ 255) (h0 : 0 ≤ x.ver) (h1 : x.ver ≤ 9223372036854775807) (hv : x.val.size ≤ 255) (r : List UInt8) : rdOf (encR x ++ r) = some (x, r) := by
  unfold rdOf encR
  simp only [List.append_assoc]
  rw [textOf_put hk]
  simp only [Option.bind_eq_bind, Option.bind_some]
  rw [numOf_put h0 h1]
  simp only [Option.bind_some]
  rw [textOf_put hv]
  simp only [Option.bind_some, List.cons_append, List.nil_append, flagOf_put]
  rfl
theorem wrOf_put {x : WrT} (hk : x.key.size ≤ 255) (hv : x.val.size ≤ 255) (r : List UInt8) : wrOf (encW x ++ r) = some (x, r) := by
  unfold wrOf encW
  simp only [List.append_assoc]
  rw [textOf_put hk]
  simp only [Option.bind_eq_bind, Option.bind_some]
  rw [textOf_put hv]
  simp only [Option.bind_some, List.cons_append, List.nil_append, flagOf_put]
  rfl
theorem manyOf_put {α : Type} {one : List UInt8 → Option (α × List UInt8)} {enc : α → List UInt8} : ∀ (l : List α), (∀ x ∈ l, ∀ r, one (enc x ++ r) = some (x, r)) → ∀ r, manyOf one l.length (l.flatMap enc ++ r) = some (l, r)
  | [], _, r => by simp [manyOf]
  | x :: l, h, r => by
    rw [List.length_cons, List.flatMap_cons, List.append_assoc, manyOf, h x (by simp)]
    simp only [Option.bind_eq_bind, Option.bind_some]
    rw [manyOf_put l (fun y hy => h y (by simp [hy])) r]
    rfl

/-- what may be, in its parts -/
theorem mayT_parts {t : TxT} (h : mayT t = true) : (∀ x ∈ t.reads, rdOk x = true) ∧ (∀ x ∈ t.writes, wrOk x = true) ∧ 1 ≤ t.ses ∧ t.ses ≤ 9 ∧ 1 ≤ t.seq ∧ t.seq ≤ 1000 ∧ t.reads.length ≤ 6 ∧ t.writes.length ≤ 4 ∧ risingK (t.reads.map (·.key)) = true ∧ risingK (t.writes.map (·.key)) = true := by
  unfold mayT at h
  simp only [Bool.and_eq_true, decide_eq_true_eq, List.all_eq_true] at h
  obtain ⟨⟨⟨⟨⟨⟨⟨⟨⟨h1, h2⟩, h3⟩, h4⟩, h5⟩, h6⟩, h7⟩, h8⟩, h9⟩, h10⟩ := h
  exact ⟨h1, h2, h3, h4, h5, h6, h7, h8, h9, h10⟩
theorem rdOk_parts {x : RdT} (h : rdOk x = true) : 0 ≤ x.ver ∧ x.val.size ≤ 16 := by
  unfold rdOk at h
  simp only [Bool.and_eq_true, Bool.not_eq_true', decide_eq_false_iff_not] at h
  omega
theorem wrOk_parts {x : WrT} (h : wrOk x = true) : x.val.size ≤ 16 := by
  unfold wrOk at h
  simp only [Bool.and_eq_true, Bool.not_eq_true', decide_eq_false_iff_not] at h
  omega

/-- what is put is taken, whatever stands behind -/
theorem txOf_put {t : TxT} (h : mayT t = true) (hv : ∀ x ∈ t.reads, x.ver ≤ 9223372036854775807) (r : List UInt8) : txOf (encT t ++ r) = some (t, r) := by
  obtain ⟨h1, h2, h3, h4, h5, h6, h7, h8, h9, h10⟩ := mayT_parts h
  have hk := rising_may h9
  have hw := rising_may h10
  unfold txOf encT
  simp only [List.append_assoc]
  rw [numOf_put (by omega) (by omega)]
  simp only [Option.bind_eq_bind, Option.bind_some]
  rw [numOf_put (by omega) (by omega)]
  simp only [Option.bind_some]
  rw [numOf_nat (by omega)]
  simp only [Option.bind_some]
  rw [if_neg (by omega), show ((t.reads.length : Int)).toNat = t.reads.length from rfl, manyOf_put t.reads (fun x hx r => rdOf_put (by have := mayK_size (hk x.key (List.mem_map.2 ⟨x, hx, rfl⟩)); omega) (rdOk_parts (h1 x hx)).1 (hv x hx) (by have := (rdOk_parts (h1 x hx)).2; omega) r)]
  simp only [Option.bind_some]
  rw [numOf_nat (by omega)]
  simp only [Option.bind_some]
  rw [if_neg (by omega), show ((t.writes.length : Int)).toNat = t.writes.length from rfl, manyOf_put t.writes (fun x hx r => wrOf_put (by have := mayK_size (hw x.key (List.mem_map.2 ⟨x, hx, rfl⟩)); omega) (by have := wrOk_parts (h2 x hx); omega) r)]
  simp only [Option.bind_some]
  rw [if_pos h]
  rfl

/-! What is taken was put. -/
theorem numOf_some {l r : List UInt8} {z : Int} (h : numOf l = some (z, r)) : 0 ≤ z ∧ z ≤ 9223372036854775807 ∧ l = natOf z ++ r := by
  unfold numOf at h
  cases ht : takeF 9 l with
  | none => rw [ht] at h; cases h
  | some vk =>
    obtain ⟨v, k⟩ := vk
    rw [ht] at h
    simp only [Option.some.injEq, Prod.mk.injEq] at h
    obtain ⟨rfl, rfl⟩ := h
    obtain ⟨h1, h2, _, _, h5⟩ := takeF_some9 l v k ht
    refine ⟨by omega, by omega, ?_⟩
    unfold natOf
    rw [show ((v : Int)).toNat = v from rfl, ← h5, List.take_append_drop]
theorem textOf_some {l r : List UInt8} {s : ByteArray} (h : textOf l = some (s, r)) : s.size ≤ 255 ∧ l = txtOf s ++ r := by
  unfold textOf takeT at h
  cases ht : takeF 9 l with
  | none => rw [ht] at h; cases h
  | some vk =>
    obtain ⟨v, k⟩ := vk
    rw [ht] at h
    obtain ⟨_, h2, _, _, h5⟩ := takeF_some9 l v k ht
    simp only [] at h
    by_cases hb : 255 < v ∨ l.length - k < v
    · rw [if_pos hb] at h; cases h
    · rw [if_neg hb] at h
      simp only [Option.some.injEq, Prod.mk.injEq] at h
      obtain ⟨rfl, rfl⟩ := h
      have hl : ((l.drop k).take v).length = v := by rw [List.length_take, List.length_drop]; omega
      refine ⟨?_, ?_⟩
      · show ((l.drop k).take v).toArray.size ≤ 255
        rw [List.size_toArray, hl]
        omega
      · unfold txtOf putT
        simp only []
        rw [if_neg (by rw [hl]; omega), hl, ← h5, List.append_assoc, ← List.drop_drop, List.take_append_drop, List.take_append_drop]
theorem flagOf_some {l r : List UInt8} {b : Bool} (h : flagOf l = some (b, r)) : l = flagB b :: r := by
  cases l with
  | nil => cases h
  | cons c l =>
    unfold flagOf at h
    simp only [] at h
    by_cases h0 : c = 0
    · rw [if_pos h0] at h
      simp only [Option.some.injEq, Prod.mk.injEq] at h
      obtain ⟨rfl, rfl⟩ := h
      rw [h0]; rfl
    · rw [if_neg h0] at h
      by_cases h1 : c = 1
      · rw [if_pos h1] at h
        simp only [Option.some.injEq, Prod.mk.injEq] at h
        obtain ⟨rfl, rfl⟩ := h
        rw [h1]; rfl
      · rw [if_neg h1] at h; cases h
theorem rdOf_some {l r : List UInt8} {x : RdT} (h : rdOf l = some (x, r)) : l = encR x ++ r ∧ x.ver ≤ 9223372036854775807 := by
  unfold rdOf at h
  simp only [Option.bind_eq_bind, Option.bind_eq_some_iff, Prod.exists] at h
  obtain ⟨k, l1, h1, v, l2, h2, y, l3, h3, f, l4, h4, h5⟩ := h
  simp only [Option.pure_def, Option.some.injEq, Prod.mk.injEq] at h5
  obtain ⟨rfl, rfl⟩ := h5
  obtain ⟨_, e1⟩ := textOf_some h1
  obtain ⟨_, b2, e2⟩ := numOf_some h2
  obtain ⟨_, e3⟩ := textOf_some h3
  have e4 := flagOf_some h4
  refine ⟨?_, b2⟩
  rw [e1, e2, e3, e4]
  unfold encR
  simp
theorem wrOf_some {l r : List UInt8} {x : WrT} (h : wrOf l = some (x, r)) : l = encW x ++ r := by
  unfold wrOf at h
  simp only [Option.bind_eq_bind, Option.bind_eq_some_iff, Prod.exists] at h
  obtain ⟨k, l1, h1, y, l3, h3, f, l4, h4, h5⟩ := h
  simp only [Option.pure_def, Option.some.injEq, Prod.mk.injEq] at h5
  obtain ⟨rfl, rfl⟩ := h5
  obtain ⟨_, e1⟩ := textOf_some h1
  obtain ⟨_, e3⟩ := textOf_some h3
  have e4 := flagOf_some h4
  rw [e1, e3, e4]
  unfold encW
  simp
theorem manyOf_some {α : Type} {one : List UInt8 → Option (α × List UInt8)} {enc : α → List UInt8} {ok : α → Prop} (ho : ∀ l x r, one l = some (x, r) → l = enc x ++ r ∧ ok x) : ∀ (n : Nat) (l : List UInt8) (xs : List α) (r : List UInt8), manyOf one n l = some (xs, r) → l = xs.flatMap enc ++ r ∧ xs.length = n ∧ ∀ x ∈ xs, ok x
  | 0, l, xs, r, h => by
    simp only [manyOf, Option.some.injEq, Prod.mk.injEq] at h
    obtain ⟨rfl, rfl⟩ := h
    simp
  | n + 1, l, xs, r, h => by
    simp only [manyOf, Option.bind_eq_bind, Option.bind_eq_some_iff, Prod.exists] at h
    obtain ⟨x, l1, h1, ys, l2, h2, h3⟩ := h
    simp only [Option.pure_def, Option.some.injEq, Prod.mk.injEq] at h3
    obtain ⟨rfl, rfl⟩ := h3
    obtain ⟨e1, k1⟩ := ho _ _ _ h1
    obtain ⟨e2, k2, k3⟩ := manyOf_some ho n _ _ _ h2
    refine ⟨by rw [e1, e2]; simp, by simp [k2], fun y hy => ?_⟩
    rcases List.mem_cons.1 hy with rfl | hy
    · exact k1
    · exact k3 y hy
theorem txOf_some {l r : List UInt8} {t : TxT} (h : txOf l = some (t, r)) : l = encT t ++ r ∧ mayT t = true ∧ ∀ x ∈ t.reads, x.ver ≤ 9223372036854775807 := by
  unfold txOf at h
  simp only [Option.bind_eq_bind, Option.bind_eq_some_iff, Prod.exists] at h
  obtain ⟨s, l1, h1, q, l2, h2, n, l3, h3, h⟩ := h
  by_cases hn : 6 < n
  · rw [if_pos hn] at h; cases h
  rw [if_neg hn] at h
  simp only [Option.bind_eq_some_iff, Prod.exists] at h
  obtain ⟨rs, l4, h4, m, l5, h5, h⟩ := h
  by_cases hm : 4 < m
  · rw [if_pos hm] at h; cases h
  rw [if_neg hm] at h
  simp only [Option.bind_eq_some_iff, Prod.exists] at h
  obtain ⟨ws, l6, h6, h⟩ := h
  by_cases hmay : mayT ⟨s, q, rs, ws⟩ = true
  · rw [if_pos hmay] at h
    simp only [Option.pure_def, Option.some.injEq, Prod.mk.injEq] at h
    obtain ⟨rfl, rfl⟩ := h
    obtain ⟨_, _, e1⟩ := numOf_some h1
    obtain ⟨_, _, e2⟩ := numOf_some h2
    obtain ⟨b3, _, e3⟩ := numOf_some h3
    obtain ⟨e4, k4, v4⟩ := manyOf_some (enc := encR) (ok := fun x => x.ver ≤ 9223372036854775807) (fun _ _ _ => rdOf_some) _ _ _ _ h4
    obtain ⟨b5, _, e5⟩ := numOf_some h5
    obtain ⟨e6, k6, _⟩ := manyOf_some (enc := encW) (ok := fun _ => True) (fun _ _ _ hh => ⟨wrOf_some hh, trivial⟩) _ _ _ _ h6
    refine ⟨?_, hmay, v4⟩
    unfold encT
    simp only []
    rw [e1, e2, e3, e4, e5, e6, k4, k6]
    unfold natOf
    simp
  · rw [if_neg hmay] at h; cases h

/-- no one's bytes begin with another one's -/
theorem encT_front {t u : TxT} {r : List UInt8} (ht : mayT t = true) (hvt : ∀ x ∈ t.reads, x.ver ≤ 9223372036854775807) (hu : mayT u = true) (hvu : ∀ x ∈ u.reads, x.ver ≤ 9223372036854775807) (h : encT t = encT u ++ r) : t = u ∧ r = [] := by
  have h1 := txOf_put ht hvt []
  rw [List.append_nil, h, txOf_put hu hvu r] at h1
  simp only [Option.some.injEq, Prod.mk.injEq] at h1
  exact ⟨h1.1.symm, h1.2⟩
/-- cut off it is none -/
theorem txOf_cut {t : TxT} (ht : mayT t = true) (hvt : ∀ x ∈ t.reads, x.ver ≤ 9223372036854775807) (j : Nat) (hj : j < (encT t).length) : txOf ((encT t).take j) = none := by
  cases h : txOf ((encT t).take j) with
  | none => rfl
  | some ur =>
    obtain ⟨u, r⟩ := ur
    obtain ⟨h1, h2, h3⟩ := txOf_some h
    have h4 : encT t = encT u ++ (r ++ (encT t).drop j) := by
      rw [← List.append_assoc, ← h1, List.take_append_drop]
    have h5 := (encT_front ht hvt h2 h3 h4).2
    have h6 := congrArg List.length h5
    rw [List.length_append, List.length_drop] at h6
    simp at h6
    omega

end Go.Proofs.Ytncdmecppfmmgaa.TxnMath
