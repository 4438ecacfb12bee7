/-
  The transactions of layer 5, as lists: which may be, which bytes they are, and what follows. No program.
-/
import Derived.Test.YthpaoeiackbdoaaNumPlain
import Derived.Test.YthpaoeiackbdoaaKeyMath
namespace Go.Proofs.Ythpaoeiackbdoaa.TxnMath
open Go NumPlain KeyMath

structure RdT where
  key : ByteArray
  ver : Int
  val : ByteArray
  there : Bool
deriving DecidableEq
structure WrT where
  key : ByteArray
  val : ByteArray
  gone : Bool
deriving DecidableEq
structure TxT where
  ses : Int
  seq : Int
  reads : List RdT
  writes : List WrT
deriving DecidableEq

def empty (s : ByteArray) : Bool := s.toList == nothing.toList
/-- a read that may be, but for its key -/
def rdOk (x : RdT) : Bool := !decide (x.ver < 0) && !decide (16 < x.val.size) && !(!x.there && !empty x.val) && !(x.there && x.ver == 0)
def wrOk (x : WrT) : Bool := !decide (16 < x.val.size) && !(x.gone && !empty x.val)
def mayT (t : TxT) : Bool :=
  t.reads.all rdOk && t.writes.all wrOk && decide (1 ≤ t.ses) && decide (t.ses ≤ 9) && decide (1 ≤ t.seq) && decide (t.seq ≤ 1000) && decide (t.reads.length ≤ 6) && decide (t.writes.length ≤ 4) && risingK (t.reads.map (·.key)) && risingK (t.writes.map (·.key))

def flagB (b : Bool) : UInt8 := if b then 1 else 0
def natOf (z : Int) : List UInt8 := putN z.toNat
def txtOf (s : ByteArray) : List UInt8 := putT s.data.toList
def encR (x : RdT) : List UInt8 := txtOf x.key ++ natOf x.ver ++ txtOf x.val ++ [flagB x.there]
def encW (x : WrT) : List UInt8 := txtOf x.key ++ txtOf x.val ++ [flagB x.gone]
def encT (t : TxT) : List UInt8 := natOf t.ses ++ natOf t.seq ++ putN t.reads.length ++ t.reads.flatMap encR ++ putN t.writes.length ++ t.writes.flatMap encW
def putTx (t : TxT) : List UInt8 := if mayT t then encT t else []

/-! Taking. -/
def numOf (l : List UInt8) : Option (Int × List UInt8) := match takeF 9 l with
  | none => none
  | some (v, k) => some ((v : Int), l.drop k)
def textOf (l : List UInt8) : Option (ByteArray × List UInt8) := match takeT l with
  | none => none
  | some (t, k) => some (⟨t.toArray⟩, l.drop k)
def flagOf : List UInt8 → Option (Bool × List UInt8)
  | [] => none
  | b :: r => if b = 0 then some (false, r) else if b = 1 then some (true, r) else none
def rdOf (l : List UInt8) : Option (RdT × List UInt8) := do
  let (k, l) ← textOf l
  let (v, l) ← numOf l
  let (x, l) ← textOf l
  let (f, l) ← flagOf l
  pure (⟨k, v, x, f⟩, l)
def wrOf (l : List UInt8) : Option (WrT × List UInt8) := do
  let (k, l) ← textOf l
  let (x, l) ← textOf l
  let (f, l) ← flagOf l
  pure (⟨k, x, f⟩, l)
def manyOf {α : Type} (one : List UInt8 → Option (α × List UInt8)) : Nat → List UInt8 → Option (List α × List UInt8)
  | 0, l => some ([], l)
  | n + 1, l => do
    let (x, l) ← one l
    let (r, l) ← manyOf one n l
    pure (x :: r, l)
/-- the transaction at the front, and what stands behind -/
def txOf (l : List UInt8) : Option (TxT × List UInt8) := do
  let (s, l) ← numOf l
  let (q, l) ← numOf l
  let (n, l) ← numOf l
  if 6 < n then none else do
  let (r, l) ← manyOf rdOf n.toNat l
  let (m, l) ← numOf l
  if 4 < m then none else do
  let (w, l) ← manyOf wrOf m.toNat l
  if mayT ⟨s, q, r, w⟩ then pure (⟨s, q, r, w⟩, l) else none

theorem numOf_put {z : Int} (h0 : 0 ≤ z) (h1 : z ≤ 9223372036854775807) (r : List UInt8) : numOf (natOf z ++ r) = some (z, r) := by
  obtain ⟨n, rfl⟩ := Int.eq_ofNat_of_zero_le h0
  unfold numOf natOf
  rw [show ((n : Int)).toNat = n from rfl, takeF_putN n r (by omega)]
  simp
theorem numOf_nat {n : Nat} (h1 : n ≤ 1000000) (r : List UInt8) : numOf (putN n ++ r) = some ((n : Int), r) := numOf_put (z := (n : Int)) (by omega) (by omega) r
theorem textOf_put {s : ByteArray} (h : s.size ≤ 255) (r : List UInt8) : textOf (txtOf s ++ r) = some (s, r) := by
  unfold textOf txtOf
  have e : s.data.toList.length = s.size := by rw [Array.length_toList]; rfl
  rw [takeT_putT _ _ (by omega)]
  simp
theorem flagOf_put (b : Bool) (r : List UInt8) : flagOf (flagB b :: r) = some (b, r) := by cases b <;> rfl

theorem mayK_size {s : ByteArray} (h : mayK s = true) : s.size ≤ 8 := by
  unfold mayK at h
  simp only [Bool.and_eq_true, decide_eq_true_eq] at h
  exact h.1.2
theorem rising_may {l : List ByteArray} (h : risingK l = true) : ∀ s ∈ l, mayK s = true := by
  intro s hs
  obtain ⟨i, hi, rfl⟩ := List.mem_iff_getElem.1 hs
  unfold risingK risesTo at h
  rw [List.all_eq_true] at h
  have h2 := h i (by simpa using hi)
  unfold riseAt at h2
  rw [Bool.and_eq_true] at h2
  have h3 := h2.1
  rw [List.getD_eq_getElem?_getD, List.getElem?_eq_getElem hi] at h3
  exact h3

theorem rdOf_put {x : RdT} (hk : x.key.size ≤ 255) (h0 : 0 ≤ x.ver) (h1 : x.ver ≤ 9223372036854775807) (hv : x.val.size ≤ 255) (r : List UInt8) : rdOf (encR x ++ r) = some (x, r) := by
  unfold rdOf encR
  simp only [List.append_assoc]
  rw [textOf_put hk]
  simp only [Option.bind_eq_bind, Option.bind_some]
  rw [numOf_put h0 h1]
  simp only [Option.bind_some]
  rw [textOf_put hv]
  simp only [Option.bind_some, List.cons_append, List.nil_append, flagOf_put]
  rfl
theorem wrOf_put {x : WrT} (hk : x.key.size ≤ 255) (hv : x.val.size ≤ 255) (r : List UInt8) : wrOf (encW x ++ r) = some (x, r) := by
  unfold wrOf encW
  simp only [List.append_assoc]
  rw [textOf_put hk]
  simp only [Option.bind_eq_bind, Option.bind_some]
  rw [textOf_put hv]
  simp only [Option.bind_some, List.cons_append, List.nil_append, flagOf_put]
  rfl
theorem manyOf_put {α : Type} {one : List UInt8 → Option (α × List UInt8)} {enc : α → List UInt8} : ∀ (l : List α), (∀ x ∈ l, ∀ r, one (enc x ++ r) = some (x, r)) → ∀ r, manyOf one l.length (l.flatMap enc ++ r) = some (l, r)
  | [], _, r => by simp [manyOf]
  | x :: l, h, r => by
    rw [List.length_cons, List.flatMap_cons, List.append_assoc, manyOf, h x (by simp)]
    simp only [Option.bind_eq_bind, Option.bind_some]
    rw [manyOf_put l (fun y hy => h y (by simp [hy])) r]
    rfl

/-- what may be, in its parts -/
theorem mayT_parts {t : TxT} (h : mayT t = true) : (∀ x ∈ t.reads, rdOk x = true) ∧ (∀ x ∈ t.writes, wrOk x = true) ∧ 1 ≤ t.ses ∧ t.ses ≤ 9 ∧ 1 ≤ t.seq ∧ t.seq ≤ 1000 ∧ t.reads.length ≤ 6 ∧ t.writes.length ≤ 4 ∧ risingK (t.reads.map (·.key)) = true ∧ risingK (t.writes.map (·.key)) = true := by
  unfold mayT at h
  simp only [Bool.and_eq_true, decide_eq_true_eq, List.all_eq_true] at h
  obtain ⟨⟨⟨⟨⟨⟨⟨⟨⟨h1, h2⟩, h3⟩, h4⟩, h5⟩, h6⟩, h7⟩, h8⟩, h9⟩, h10⟩ := h
  exact ⟨h1, h2, h3, h4, h5, h6, h7, h8, h9, h10⟩
theorem rdOk_parts {x : RdT} (h : rdOk x = true) : 0 ≤ x.ver ∧ x.val.size ≤ 16 := by
  unfold rdOk at h
  simp only [Bool.and_eq_true, Bool.not_eq_true', decide_eq_false_iff_not] at h
  omega
theorem wrOk_parts {x : WrT} (h : wrOk x = true) : x.val.size ≤ 16 := by
  unfold wrOk at h
  simp only [Bool.and_eq_true, Bool.not_eq_true', decide_eq_false_iff_not] at h
  omega

/-- what is put is taken, whatever stands behind -/
theorem txOf_put {t : TxT} (h : mayT t = true) (hv : ∀ x ∈ t.reads, x.ver ≤ 9223372036854775807) (r : List UInt8) : txOf (encT t ++ r) = some (t, r) := by
  obtain ⟨h1, h2, h3, h4, h5, h6, h7, h8, h9, h10⟩ := mayT_parts h
  have hk := rising_may h9
  have hw := rising_may h10
  unfold txOf encT
  simp only [List.append_assoc]
  rw [numOf_put (by omega) (by omega)]
  simp only [Option.bind_eq_bind, Option.bind_some]
  rw [numOf_put (by omega) (by omega)]
  simp only [Option.bind_some]
  rw [numOf_nat (by omega)]
  simp only [Option.bind_some]
  rw [if_neg (by omega), show ((t.reads.length : Int)).toNat = t.reads.length from rfl, manyOf_put t.reads (fun x hx r => rdOf_put (by have := mayK_size (hk x.key (List.mem_map.2 ⟨x, hx, rfl⟩)); omega) (rdOk_parts (h1 x hx)).1 (hv x hx) (by have := (rdOk_parts (h1 x hx)).2; omega) r)]
  simp only [Option.bind_some]
  rw [numOf_nat (by omega)]
  simp only [Option.bind_some]
  rw [if_neg (by omega), show ((t.writes.length : Int)).toNat = t.writes.length from rfl, manyOf_put t.writes (fun x hx r => wrOf_put (by have := mayK_size (hw x.key (List.mem_map.2 ⟨x, hx, rfl⟩)); omega) (by have := wrOk_parts (h2 x hx); omega) r)]
  simp only [Option.bind_some]
  rw [if_pos h]
  rfl

/-! What is taken was put. -/
theorem numOf_some {l r : List UInt8} {z : Int} (h : numOf l = some (z, r)) : 0 ≤ z ∧ z ≤ 9223372036854775807 ∧ l = natOf z ++ r := by
  unfold numOf at h
  cases ht : takeF 9 l with
  | none => rw [ht] at h; cases h
  | some vk =>
    obtain ⟨v, k⟩ := vk
    rw [ht] at h
    simp only [Option.some.injEq, Prod.mk.injEq] at h
    obtain ⟨rfl, rfl⟩ := h
    obtain ⟨h1, h2, _, _, h5⟩ := takeF_some9 l v k ht
    refine ⟨by omega, by omega, ?_⟩
    unfold natOf
    rw [show ((v : Int)).toNat = v from rfl, ← h5, List.take_append_drop]
theorem textOf_some {l r : List UInt8} {s : ByteArray} (h : textOf l = some (s, r)) : s.size ≤ 255 ∧ l = txtOf s ++ r := by
  unfold textOf takeT at h
  cases ht : takeF 9 l with
  | none => rw [ht] at h; cases h
  | some vk =>
    obtain ⟨v, k⟩ := vk
    rw [ht] at h
    obtain ⟨_, h2, _, _, h5⟩ := takeF_some9 l v k ht
    simp only [] at h
    by_cases hb : 255 < v ∨ l.length - k < v
    · rw [if_pos hb] at h; cases h
    · rw [if_neg hb] at h
      simp only [Option.some.injEq, Prod.mk.injEq] at h
      obtain ⟨rfl, rfl⟩ := h
      have hl : ((l.drop k).take v).length = v := by rw [List.length_take, List.length_drop]; omega
      refine ⟨?_, ?_⟩
      · show ((l.drop k).take v).toArray.size ≤ 255
        rw [List.size_toArray, hl]
        omega
      · unfold txtOf putT
        simp only []
        rw [if_neg (by rw [hl]; omega), hl, ← h5, List.append_assoc, ← List.drop_drop, List.take_append_drop, List.take_append_drop]
theorem flagOf_some {l r : List UInt8} {b : Bool} (h : flagOf l = some (b, r)) : l = flagB b :: r := by
  cases l with
  | nil => cases h
  | cons c l =>
    unfold flagOf at h
    simp only [] at h
    by_cases h0 : c = 0
    · rw [if_pos h0] at h
      simp only [Option.some.injEq, Prod.mk.injEq] at h
      obtain ⟨rfl, rfl⟩ := h
      rw [h0]; rfl
    · rw [if_neg h0] at h
      by_cases h1 : c = 1
      · rw [if_pos h1] at h
        simp only [Option.some.injEq, Prod.mk.injEq] at h
        obtain ⟨rfl, rfl⟩ := h
        rw [h1]; rfl
      · rw [if_neg h1] at h; cases h
theorem rdOf_some {l r : List UInt8} {x : RdT} (h : rdOf l = some (x, r)) : l = encR x ++ r ∧ x.ver ≤ 9223372036854775807 := by
  unfold rdOf at h
  simp only [Option.bind_eq_bind, Option.bind_eq_some_iff, Prod.exists] at h
  obtain ⟨k, l1, h1, v, l2, h2, y, l3, h3, f, l4, h4, h5⟩ := h
  simp only [Option.pure_def, Option.some.injEq, Prod.mk.injEq] at h5
  obtain ⟨rfl, rfl⟩ := h5
  obtain ⟨_, e1⟩ := textOf_some h1
  obtain ⟨_, b2, e2⟩ := numOf_some h2
  obtain ⟨_, e3⟩ := textOf_some h3
  have e4 := flagOf_some h4
  refine ⟨?_, b2⟩
  rw [e1, e2, e3, e4]
  unfold encR
  simp
theorem wrOf_some {l r : List UInt8} {x : WrT} (h : wrOf l = some (x, r)) : l = encW x ++ r := by
  unfold wrOf at h
  simp only [Option.bind_eq_bind, Option.bind_eq_some_iff, Prod.exists] at h
  obtain ⟨k, l1, h1, y, l3, h3, f, l4, h4, h5⟩ := h
  simp only [Option.pure_def, Option.some.injEq, Prod.mk.injEq] at h5
  obtain ⟨rfl, rfl⟩ := h5
  obtain ⟨_, e1⟩ := textOf_some h1
  obtain ⟨_, e3⟩ := textOf_some h3
  have e4 := flagOf_some h4
  rw [e1, e3, e4]
  unfold encW
  simp
theorem manyOf_some {α : Type} {one : List UInt8 → Option (α × List UInt8)} {enc : α → List UInt8} {ok : α → Prop} (ho : ∀ l x r, one l = some (x, r) → l = enc x ++ r ∧ ok x) : ∀ (n : Nat) (l : List UInt8) (xs : List α) (r : List UInt8), manyOf one n l = some (xs, r) → l = xs.flatMap enc ++ r ∧ xs.length = n ∧ ∀ x ∈ xs, ok x
  | 0, l, xs, r, h => by
    simp only [manyOf, Option.some.injEq, Prod.mk.injEq] at h
    obtain ⟨rfl, rfl⟩ := h
    simp
  | n + 1, l, xs, r, h => by
    simp only [manyOf, Option.bind_eq_bind, Option.bind_eq_some_iff, Prod.exists] at h
    obtain ⟨x, l1, h1, ys, l2, h2, h3⟩ := h
    simp only [Option.pure_def, Option.some.injEq, Prod.mk.injEq] at h3
    obtain ⟨rfl, rfl⟩ := h3
    obtain ⟨e1, k1⟩ := ho _ _ _ h1
    obtain ⟨e2, k2, k3⟩ := manyOf_some ho n _ _ _ h2
    refine ⟨by rw [e1, e2]; simp, by simp [k2], fun y hy => ?_⟩
    rcases List.mem_cons.1 hy with rfl | hy
    · exact k1
    · exact k3 y hy
theorem txOf_some {l r : List UInt8} {t : TxT} (h : txOf l = some (t, r)) : l = encT t ++ r ∧ mayT t = true ∧ ∀ x ∈ t.reads, x.ver ≤ 9223372036854775807 := by
  unfold txOf at h
  simp only [Option.bind_eq_bind, Option.bind_eq_some_iff, Prod.exists] at h
  obtain ⟨s, l1, h1, q, l2, h2, n, l3, h3, h⟩ := h
  by_cases hn : 6 < n
  · rw [if_pos hn] at h; cases h
  rw [if_neg hn] at h
  simp only [Option.bind_eq_some_iff, Prod.exists] at h
  obtain ⟨rs, l4, h4, m, l5, h5, h⟩ := h
  by_cases hm : 4 < m
  · rw [if_pos hm] at h; cases h
  rw [if_neg hm] at h
  simp only [Option.bind_eq_some_iff, Prod.exists] at h
  obtain ⟨ws, l6, h6, h⟩ := h
  by_cases hmay : mayT ⟨s, q, rs, ws⟩ = true
  · rw [if_pos hmay] at h
    simp only [Option.pure_def, Option.some.injEq, Prod.mk.injEq] at h
    obtain ⟨rfl, rfl⟩ := h
    obtain ⟨_, _, e1⟩ := numOf_some h1
    obtain ⟨_, _, e2⟩ := numOf_some h2
    obtain ⟨b3, _, e3⟩ := numOf_some h3
    obtain ⟨e4, k4, v4⟩ := manyOf_some (enc := encR) (ok := fun x => x.ver ≤ 9223372036854775807) (fun _ _ _ => rdOf_some) _ _ _ _ h4
    obtain ⟨b5, _, e5⟩ := numOf_some h5
    obtain ⟨e6, k6, _⟩ := manyOf_some (enc := encW) (ok := fun _ => True) (fun _ _ _ hh => ⟨wrOf_some hh, trivial⟩) _ _ _ _ h6
    refine ⟨?_, hmay, v4⟩
    unfold encT
    simp only []
    rw [e1, e2, e3, e4, e5, e6, k4, k6]
    unfold natOf
    simp
  · rw [if_neg hmay] at h; cases h

/-- no one's bytes begin with another one's -/
theorem encT_front {t u : TxT} {r : List UInt8} (ht : mayT t = true) (hvt : ∀ x ∈ t.reads, x.ver ≤ 9223372036854775807) (hu : mayT u = true) (hvu : ∀ x ∈ u.reads, x.ver ≤ 9223372036854775807) (h : encT t = encT u ++ r) : t = u ∧ r = [] := by
  have h1 := txOf_put ht hvt []
  rw [List.append_nil, h, txOf_put hu hvu r] at h1
  simp only [Option.some.injEq, Prod.mk.injEq] at h1
  exact ⟨h1.1.symm, h1.2⟩
/-- cut off it is none -/
theorem txOf_cut {t : TxT} (ht : mayT t = true) (hvt : ∀ x ∈ t.reads, x.ver ≤ 9223372036854775807) (j : Nat) (hj : j < (encT t).length) : txOf ((encT t).take j) = none := by
  cases h : txOf ((encT t).take j) with
  | none => rfl
  | some ur =>
    obtain ⟨u, r⟩ := ur
    obtain ⟨h1, h2, h3⟩ := txOf_some h
    have h4 : encT t = encT u ++ (r ++ (encT t).drop j) := by
      rw [← List.append_assoc, ← h1, List.take_append_drop]
    have h5 := (encT_front ht hvt h2 h3 h4).2
    have h6 := congrArg List.length h5
    rw [List.length_append, List.length_drop] at h6
    simp at h6
    omega

end Go.Proofs.Ythpaoeiackbdoaa.TxnMath

/-
  Taking a transaction as the document's answer does: reading on, then putting again. No program.
-/
namespace Go.Proofs.Ythpaoeiackbdoaa.TakeMath
open Go NumPlain KeyMath TxnMath

/-- a reader: where it is; was there too little? -/
structure RdS where
  at_ : Nat
  bad : Bool
def numS (l : List UInt8) (s : RdS) : Int × RdS := match takeF 9 (l.drop s.at_) with
  | none => (0, ⟨s.at_, true⟩)
  | some (v, k) => ((v : Int), ⟨s.at_ + k, s.bad⟩)
def txtS (l : List UInt8) (s : RdS) : ByteArray × RdS := match takeT (l.drop s.at_) with
  | none => (⟨#[]⟩, ⟨s.at_, true⟩)
  | some (t, k) => (⟨t.toArray⟩, ⟨s.at_ + k, s.bad⟩)
def flagS (l : List UInt8) (s : RdS) : Bool × RdS := if l.length ≤ s.at_ then (false, ⟨s.at_, true⟩) else (l.getD s.at_ 0 == 1, ⟨s.at_ + 1, s.bad⟩)
def rdS (l : List UInt8) (s : RdS) : RdT × RdS :=
  (⟨(txtS l s).1, (numS l (txtS l s).2).1, (txtS l (numS l (txtS l s).2).2).1, (flagS l (txtS l (numS l (txtS l s).2).2).2).1⟩, (flagS l (txtS l (numS l (txtS l s).2).2).2).2)
def wrS (l : List UInt8) (s : RdS) : WrT × RdS :=
  (⟨(txtS l s).1, (txtS l (txtS l s).2).1, (flagS l (txtS l (txtS l s).2).2).1⟩, (flagS l (txtS l (txtS l s).2).2).2)
def loopS {α : Type} (one : RdS → α × RdS) (M : Nat) : Nat → Int → List α → RdS → List α × RdS
  | 0, _, xs, s => (xs, s)
  | f + 1, n, xs, s => if 0 < n ∧ s.bad = false ∧ xs.length ≤ M then loopS one M f (n - 1) (xs ++ [(one s).1]) (one s).2 else (xs, s)
def readsS (l : List UInt8) (n : Int) (s : RdS) : List RdT × RdS := loopS (rdS l) 6 7 n [] s
def writesS (l : List UInt8) (n : Int) (s : RdS) : List WrT × RdS := loopS (wrS l) 4 5 n [] s

/-- what is read, and where the reader is behind it -/
def runS (l : List UInt8) : TxT × RdS :=
  let a := numS l ⟨0, false⟩
  let b := numS l a.2
  let n := numS l b.2
  let r := readsS l n.1 n.2
  let m := numS l r.2
  let w := writesS l m.1 m.2
  (⟨a.1, b.1, r.1, w.1⟩, w.2)
/-- what is taken: the transaction, how many bytes, is it? -/
def takenT (l : List UInt8) : TxT := match txOf l with | none => ⟨0, 0, [], []⟩ | some (t, _) => t
def takenK (l : List UInt8) : Nat := match txOf l with | none => 0 | some (t, _) => (encT t).length
def takenB (l : List UInt8) : Bool := (txOf l).isSome
/-- does what was read put again come to what stood there? -/
def goodS (l : List UInt8) : Bool := !(runS l).2.bad && !(putTx (runS l).1).isEmpty && putTx (runS l).1 == l.take (runS l).2.at_

theorem loopS_stop {α : Type} {one : RdS → α × RdS} {M f : Nat} {n : Int} {xs : List α} {s : RdS} (h : ¬ (0 < n ∧ s.bad = false ∧ xs.length ≤ M)) : loopS one M f n xs s = (xs, s) := by
  cases f with
  | zero => rfl
  | succ f => rw [loopS, if_neg h]
theorem loopS_next {α : Type} {one : RdS → α × RdS} {M : Nat} {n : Int} {xs : List α} {s : RdS} (h : 0 < n ∧ s.bad = false ∧ xs.length ≤ M) :
    loopS one M (M + 1 - xs.length) n xs s = loopS one M (M + 1 - (xs ++ [(one s).1]).length) (n - 1) (xs ++ [(one s).1]) (one s).2 := by
  rw [show M + 1 - xs.length = (M + 1 - (xs ++ [(one s).1]).length) + 1 by rw [List.length_append, List.length_singleton]; omega, loopS, if_pos h]

/-! What there is is within limits. -/
theorem numS_lim (l : List UInt8) (s : RdS) : 0 ≤ (numS l s).1 ∧ (numS l s).1 ≤ 9223372036854775807 ∧ s.at_ ≤ (numS l s).2.at_ ∧ (s.at_ ≤ l.length → (numS l s).2.at_ ≤ l.length) := by
  unfold numS
  cases h : takeF 9 (l.drop s.at_) with
  | none => exact ⟨by simp, by simp, Nat.le_refl _, id⟩
  | some vk =>
    obtain ⟨v, k⟩ := vk
    obtain ⟨_, h2, _, h4, _⟩ := takeF_some9 _ v k h
    rw [List.length_drop] at *
    refine ⟨by simp, by simp; omega, by simp, fun _ => by simp; omega⟩
theorem txtS_lim (l : List UInt8) (s : RdS) : (txtS l s).1.size ≤ 255 ∧ s.at_ ≤ (txtS l s).2.at_ ∧ (s.at_ ≤ l.length → (txtS l s).2.at_ ≤ l.length) := by
  unfold txtS
  cases h : takeT (l.drop s.at_) with
  | none => exact ⟨by simp [ByteArray.size], Nat.le_refl _, id⟩
  | some tk =>
    obtain ⟨t, k⟩ := tk
    have h2 : textOf (l.drop s.at_) = some (⟨t.toArray⟩, (l.drop s.at_).drop k) := by unfold textOf; rw [h]
    obtain ⟨h3, h4⟩ := textOf_some h2
    refine ⟨h3, by simp, fun hle => ?_⟩
    unfold takeT at h
    cases hf : takeF 9 (l.drop s.at_) with
    | none => rw [hf] at h; cases h
    | some vk =>
      obtain ⟨v, k'⟩ := vk
      obtain ⟨_, _, _, h8, _⟩ := takeF_some9 _ v k' hf
      rw [hf] at h
      simp only [] at h
      by_cases hb : 255 < v ∨ (l.drop s.at_).length - k' < v
      · rw [if_pos hb] at h; cases h
      · rw [if_neg hb] at h
        simp only [Option.some.injEq, Prod.mk.injEq] at h
        obtain ⟨_, rfl⟩ := h
        rw [List.length_drop] at *
        simp
        omega
theorem flagS_lim (l : List UInt8) (s : RdS) : s.at_ ≤ (flagS l s).2.at_ ∧ (s.at_ ≤ l.length → (flagS l s).2.at_ ≤ l.length) := by
  unfold flagS
  split
  · exact ⟨Nat.le_refl _, id⟩
  · exact ⟨by simp, fun _ => by simp; omega⟩

structure RdFine (x : RdT) : Prop where
  key : x.key.size ≤ 255
  val : x.val.size ≤ 255
  lo : 0 ≤ x.ver
  hi : x.ver ≤ 9223372036854775807
structure WrFine (x : WrT) : Prop where
  key : x.key.size ≤ 255
  val : x.val.size ≤ 255
theorem rdS_lim (l : List UInt8) (s : RdS) : RdFine (rdS l s).1 ∧ s.at_ ≤ (rdS l s).2.at_ ∧ (s.at_ ≤ l.length → (rdS l s).2.at_ ≤ l.length) := by
  unfold rdS
  obtain ⟨a1, a2, a3⟩ := txtS_lim l s
  obtain ⟨b0, b1, b2, b3⟩ := numS_lim l (txtS l s).2
  obtain ⟨c1, c2, c3⟩ := txtS_lim l (numS l (txtS l s).2).2
  obtain ⟨d1, d2⟩ := flagS_lim l (txtS l (numS l (txtS l s).2).2).2
  exact ⟨⟨a1, c1, b0, b1⟩, by simp only []; omega, fun h => d2 (c3 (b3 (a3 h)))⟩
theorem wrS_lim (l : List UInt8) (s : RdS) : WrFine (wrS l s).1 ∧ s.at_ ≤ (wrS l s).2.at_ ∧ (s.at_ ≤ l.length → (wrS l s).2.at_ ≤ l.length) := by
  unfold wrS
  obtain ⟨a1, a2, a3⟩ := txtS_lim l s
  obtain ⟨c1, c2, c3⟩ := txtS_lim l (txtS l s).2
  obtain ⟨d1, d2⟩ := flagS_lim l (txtS l (txtS l s).2).2
  exact ⟨⟨a1, c1⟩, by simp only []; omega, fun h => d2 (c3 (a3 h))⟩
theorem loopS_lim {α : Type} {one : RdS → α × RdS} {ok : α → Prop} {N M : Nat} (ho : ∀ s, ok (one s).1 ∧ (s.at_ ≤ N → (one s).2.at_ ≤ N)) : ∀ (f : Nat) (n : Int) (xs : List α) (s : RdS), (∀ x ∈ xs, ok x) → xs.length ≤ M + 1 → s.at_ ≤ N →
    (∀ x ∈ (loopS one M f n xs s).1, ok x) ∧ (loopS one M f n xs s).1.length ≤ M + 1 ∧ (loopS one M f n xs s).2.at_ ≤ N
  | 0, _, xs, s, h, hl, hs => ⟨h, hl, hs⟩
  | f + 1, n, xs, s, h, hl, hs => by
    rw [loopS]
    by_cases hc : 0 < n ∧ s.bad = false ∧ xs.length ≤ M
    · rw [if_pos hc]
      refine loopS_lim ho f (n - 1) _ _ (fun x hx => ?_) (by rw [List.length_append, List.length_singleton]; omega) ((ho s).2 hs)
      rcases List.mem_append.1 hx with hx | hx
      · exact h x hx
      · rw [List.mem_singleton.1 hx]; exact (ho s).1
    · rw [if_neg hc]
      exact ⟨h, hl, hs⟩

theorem readsS_lim (l : List UInt8) (n : Int) (s : RdS) (h : s.at_ ≤ l.length) : (readsS l n s).2.at_ ≤ l.length ∧ (readsS l n s).1.length ≤ 7 := by
  obtain ⟨_, d2, d3⟩ := loopS_lim (one := rdS l) (ok := RdFine) (N := l.length) (M := 6) (fun s => ⟨(rdS_lim l s).1, (rdS_lim l s).2.2⟩) 7 n [] s (fun x hx => absurd hx (by simp)) (by simp) h
  exact ⟨d3, d2⟩
theorem writesS_lim (l : List UInt8) (n : Int) (s : RdS) (h : s.at_ ≤ l.length) : (writesS l n s).2.at_ ≤ l.length ∧ (writesS l n s).1.length ≤ 5 := by
  obtain ⟨_, d2, d3⟩ := loopS_lim (one := wrS l) (ok := WrFine) (N := l.length) (M := 4) (fun s => ⟨(wrS_lim l s).1, (wrS_lim l s).2.2⟩) 5 n [] s (fun x hx => absurd hx (by simp)) (by simp) h
  exact ⟨d3, d2⟩

/-! Where there is one it is read. -/
def At (l : List UInt8) (s : RdS) (r : List UInt8) : Prop := l.drop s.at_ = r ∧ s.at_ ≤ l.length ∧ s.bad = false
theorem At.len {l r : List UInt8} {s : RdS} (h : At l s r) : s.at_ + r.length = l.length := by
  obtain ⟨h1, h2, _⟩ := h
  rw [← h1, List.length_drop]
  omega
theorem At.go {l x r : List UInt8} {s : RdS} (h : At l s (x ++ r)) : At l ⟨s.at_ + x.length, s.bad⟩ r := by
  have hl := h.len
  rw [List.length_append] at hl
  refine ⟨?_, by simp only []; omega, h.2.2⟩
  simp only []
  rw [← List.drop_drop, h.1, List.drop_left]
theorem numS_at {l r : List UInt8} {s : RdS} {z : Int} (h0 : 0 ≤ z) (h1 : z ≤ 9223372036854775807) (h : At l s (natOf z ++ r)) : (numS l s).1 = z ∧ At l (numS l s).2 r := by
  obtain ⟨n, rfl⟩ := Int.eq_ofNat_of_zero_le h0
  have e : natOf ((n : Nat) : Int) = putN n := rfl
  have ht : takeF 9 (l.drop s.at_) = some (n, (putN n).length) := by rw [h.1, e, takeF_putN n r (by omega)]
  have g := h.go
  unfold numS
  rw [ht]
  exact ⟨rfl, g⟩
theorem txtS_at {l r : List UInt8} {s : RdS} {x : ByteArray} (hx : x.size ≤ 255) (h : At l s (txtOf x ++ r)) : (txtS l s).1 = x ∧ At l (txtS l s).2 r := by
  have e : x.data.toList.length = x.size := by rw [Array.length_toList]; rfl
  have ht : takeT (l.drop s.at_) = some (x.data.toList, (putT x.data.toList).length) := by
    rw [h.1]
    exact takeT_putT _ _ (by omega)
  have g := h.go
  unfold txtS
  rw [ht]
  exact ⟨by simp, g⟩
theorem flagS_at {l r : List UInt8} {s : RdS} {b : Bool} (h : At l s (flagB b :: r)) : (flagS l s).1 = b ∧ At l (flagS l s).2 r := by
  have hl := h.len
  rw [List.length_cons] at hl
  have g : At l ⟨s.at_ + 1, s.bad⟩ r := At.go (x := [flagB b]) h
  have e : l.getD s.at_ 0 = flagB b := by
    have h1 := congrArg (fun m => m[0]?) h.1
    simp only [List.getElem?_drop, Nat.add_zero, List.getElem?_cons_zero] at h1
    rw [List.getD_eq_getElem?_getD, h1]
    rfl
  unfold flagS
  rw [if_neg (by omega), e]
  exact ⟨by cases b <;> rfl, g⟩
theorem rdS_at {l r : List UInt8} {s : RdS} {x : RdT} (hk : x.key.size ≤ 255) (h0 : 0 ≤ x.ver) (h1 : x.ver ≤ 9223372036854775807) (hv : x.val.size ≤ 255) (h : At l s (encR x ++ r)) : (rdS l s).1 = x ∧ At l (rdS l s).2 r := by
  unfold encR at h
  simp only [List.append_assoc, List.singleton_append] at h
  obtain ⟨e1, a1⟩ := txtS_at hk h
  obtain ⟨e2, a2⟩ := numS_at h0 h1 a1
  obtain ⟨e3, a3⟩ := txtS_at hv a2
  obtain ⟨e4, a4⟩ := flagS_at a3
  unfold rdS
  simp only [e1, e2, e3, e4]
  exact ⟨trivial, a4⟩
theorem wrS_at {l r : List UInt8} {s : RdS} {x : WrT} (hk : x.key.size ≤ 255) (hv : x.val.size ≤ 255) (h : At l s (encW x ++ r)) : (wrS l s).1 = x ∧ At l (wrS l s).2 r := by
  unfold encW at h
  simp only [List.append_assoc, List.singleton_append] at h
  obtain ⟨e1, a1⟩ := txtS_at hk h
  obtain ⟨e3, a3⟩ := txtS_at hv a1
  obtain ⟨e4, a4⟩ := flagS_at a3
  unfold wrS
  simp only [e1, e3, e4]
  exact ⟨trivial, a4⟩
theorem loopS_at {α : Type} {one : RdS → α × RdS} {enc : α → List UInt8} {l r : List UInt8} {M : Nat} : ∀ (ys : List α) (f : Nat) (xs : List α) (s : RdS), (∀ x ∈ ys, ∀ s r, At l s (enc x ++ r) → (one s).1 = x ∧ At l (one s).2 r) →
    xs.length + ys.length ≤ M + 1 → ys.length ≤ f → At l s (ys.flatMap enc ++ r) → (loopS one M f (ys.length : Int) xs s).1 = xs ++ ys ∧ At l (loopS one M f (ys.length : Int) xs s).2 r
  | [], f, xs, s, _, _, _, h => by
    rw [loopS_stop (by simp)]
    exact ⟨by simp, h⟩
  | y :: ys, 0, _, _, _, _, hf, _ => by simp at hf
  | y :: ys, f + 1, xs, s, ho, hM, hf, h => by
    rw [List.length_cons] at hM hf
    rw [List.flatMap_cons, List.append_assoc] at h
    obtain ⟨e1, a1⟩ := ho y (by simp) s _ h
    rw [loopS, if_pos ⟨by rw [List.length_cons]; omega, h.2.2, by omega⟩, e1]
    have := loopS_at (M := M) ys f (xs ++ [y]) (one s).2 (fun x hx => ho x (by simp [hx])) (by rw [List.length_append, List.length_singleton]; omega) (by omega) a1
    rw [show (((y :: ys).length : Nat) : Int) - 1 = (ys.length : Int) by rw [List.length_cons]; omega]
    rw [List.append_assoc] at this
    exact this
theorem runS_at {t : TxT} (h : mayT t = true) (hv : ∀ x ∈ t.reads, x.ver ≤ 9223372036854775807) {l r : List UInt8} (hl : l = encT t ++ r) : (runS l).1 = t ∧ At l (runS l).2 r := by
  obtain ⟨h1, h2, h3, h4, h5, h6, h7, h8, h9, h10⟩ := mayT_parts h
  have hk := rising_may h9
  have hw := rising_may h10
  have h0 : At l ⟨0, false⟩ (encT t ++ r) := ⟨by simpa using hl, by simp, rfl⟩
  unfold encT at h0
  simp only [List.append_assoc] at h0
  obtain ⟨e1, a1⟩ := numS_at (by omega) (by omega) h0
  obtain ⟨e2, a2⟩ := numS_at (by omega) (by omega) a1
  obtain ⟨e3, a3⟩ := numS_at (z := (t.reads.length : Int)) (by omega) (by omega) a2
  obtain ⟨e4, a4⟩ := loopS_at (one := rdS l) (enc := encR) (M := 6) t.reads 7 [] _ (fun x hx s r hh => rdS_at (by have := mayK_size (hk x.key (List.mem_map.2 ⟨x, hx, rfl⟩)); omega) (rdOk_parts (h1 x hx)).1 (hv x hx) (by have := (rdOk_parts (h1 x hx)).2; omega) hh) (by simp; omega) (by omega) a3
  obtain ⟨e5, a5⟩ := numS_at (z := (t.writes.length : Int)) (by omega) (by omega) a4
  obtain ⟨e6, a6⟩ := loopS_at (one := wrS l) (enc := encW) (M := 4) t.writes 5 [] _ (fun x hx s r hh => wrS_at (by have := mayK_size (hw x.key (List.mem_map.2 ⟨x, hx, rfl⟩)); omega) (by have := wrOk_parts (h2 x hx); omega) hh) (by simp; omega) (by omega) a5
  unfold runS readsS writesS
  simp only [e1, e2, e3]
  rw [List.nil_append] at e4 e6
  simp only [e4, e5, e6]
  exact ⟨trivial, a6⟩

theorem runS_lim (l : List UInt8) : (∀ x ∈ (runS l).1.reads, RdFine x) ∧ (∀ x ∈ (runS l).1.writes, WrFine x) ∧ (runS l).1.reads.length ≤ 7 ∧ (runS l).1.writes.length ≤ 5 ∧ 0 ≤ (runS l).1.ses ∧ (runS l).1.ses ≤ 9223372036854775807 ∧ 0 ≤ (runS l).1.seq ∧ (runS l).1.seq ≤ 9223372036854775807 ∧ (runS l).2.at_ ≤ l.length := by
  unfold runS readsS writesS
  obtain ⟨a0, a1, _, a3⟩ := numS_lim l ⟨0, false⟩
  obtain ⟨b0, b1, _, b3⟩ := numS_lim l (numS l ⟨0, false⟩).2
  obtain ⟨_, _, _, c3⟩ := numS_lim l (numS l (numS l ⟨0, false⟩).2).2
  obtain ⟨d1, d2, d3⟩ := loopS_lim (one := rdS l) (ok := RdFine) (N := l.length) (M := 6) (fun s => ⟨(rdS_lim l s).1, (rdS_lim l s).2.2⟩) 7 (numS l (numS l (numS l ⟨0, false⟩).2).2).1 [] (numS l (numS l (numS l ⟨0, false⟩).2).2).2 (fun x hx => absurd hx (by simp)) (by simp) (c3 (b3 (a3 (by simp))))
  have h3 := (numS_lim l (loopS (rdS l) 6 7 (numS l (numS l (numS l ⟨0, false⟩).2).2).1 [] (numS l (numS l (numS l ⟨0, false⟩).2).2).2).2).2.2.2 d3
  obtain ⟨e1, e2, e3⟩ := loopS_lim (one := wrS l) (ok := WrFine) (N := l.length) (M := 4) (fun s => ⟨(wrS_lim l s).1, (wrS_lim l s).2.2⟩) 5 (numS l (loopS (rdS l) 6 7 (numS l (numS l (numS l ⟨0, false⟩).2).2).1 [] (numS l (numS l (numS l ⟨0, false⟩).2).2).2).2).1 [] (numS l (loopS (rdS l) 6 7 (numS l (numS l (numS l ⟨0, false⟩).2).2).1 [] (numS l (numS l (numS l ⟨0, false⟩).2).2).2).2).2 (fun x hx => absurd hx (by simp)) (by simp) h3
  exact ⟨d1, e1, d2, e2, a0, a1, b0, b1, e3⟩

/-- **what is read put again comes to what stood there just where there is a transaction** -/
theorem taken_yes {l : List UInt8} (h : goodS l = true) : takenT l = (runS l).1 ∧ takenK l = (runS l).2.at_ ∧ takenB l = true := by
  obtain ⟨f1, _, _, _, _, _, _, _, f9⟩ := runS_lim l
  unfold goodS at h
  simp only [Bool.and_eq_true, Bool.not_eq_true', beq_iff_eq] at h
  obtain ⟨⟨h1, h2⟩, h3⟩ := h
  unfold putTx at h2 h3
  by_cases hm : mayT (runS l).1 = true
  · rw [if_pos hm] at h3
    have hl : l = encT (runS l).1 ++ l.drop (runS l).2.at_ := by rw [h3, List.take_append_drop]
    have ht : txOf l = some ((runS l).1, l.drop (runS l).2.at_) := by
      have := txOf_put hm (fun x hx => (f1 x hx).hi) (l.drop (runS l).2.at_)
      rwa [← hl] at this
    unfold takenT takenK takenB
    rw [ht]
    refine ⟨rfl, ?_, rfl⟩
    simp only []
    rw [h3, List.length_take]
    omega
  · rw [if_neg hm] at h2
    simp at h2
theorem taken_no {l : List UInt8} (h : goodS l = false) : takenT l = ⟨0, 0, [], []⟩ ∧ takenK l = 0 ∧ takenB l = false := by
  cases ht : txOf l with
  | none =>
    unfold takenT takenK takenB
    rw [ht]
    exact ⟨rfl, rfl, rfl⟩
  | some tr =>
    exfalso
    obtain ⟨t, r⟩ := tr
    obtain ⟨hl, hm, hv⟩ := txOf_some ht
    obtain ⟨e1, a1⟩ := runS_at hm hv hl
    have hlen := a1.len
    have hk : (runS l).2.at_ = (encT t).length := by
      have := congrArg List.length hl
      rw [List.length_append] at this
      omega
    unfold goodS at h
    rw [e1, a1.2.2, hk] at h
    unfold putTx at h
    rw [if_pos hm] at h
    have hne : (encT t).isEmpty = false := by
      unfold encT natOf
      have := (putN_len t.ses.toNat).1
      cases hp : putN t.ses.toNat with
      | nil => rw [hp] at this; simp at this
      | cons a b => simp
    have htk : l.take (encT t).length = encT t := by
      rw [hl, List.take_left]
    rw [hne, htk] at h
    simp at h

end Go.Proofs.Ythpaoeiackbdoaa.TakeMath

/-
  Reading on: a reader that stops for good where there is too little comes to what the list's reader says. No program.
-/
namespace Go.Proofs.Ythpaoeiackbdoaa.TakeMath
open Go NumPlain KeyMath TxnMath

/-- a reader of the list, as a walk along it -/
structure Sim {α : Type} (l : List UInt8) (f : RdS → α × RdS) (p : List UInt8 → Option (α × List UInt8)) : Prop where
  bad : ∀ s, s.bad = true → (f s).2.bad = true
  no : ∀ s, s.bad = false → p (l.drop s.at_) = none → (f s).2.bad = true
  yes : ∀ s v r, s.bad = false → p (l.drop s.at_) = some (v, r) → (f s).1 = v ∧ (f s).2.bad = false ∧ r = l.drop (f s).2.at_
  le : ∀ s, s.at_ ≤ l.length → (f s).2.at_ ≤ l.length

def thenS {α β : Type} (f : RdS → α × RdS) (g : α → RdS → β × RdS) (s : RdS) : β × RdS := g (f s).1 (f s).2
def thenP {α β : Type} (p : List UInt8 → Option (α × List UInt8)) (q : α → List UInt8 → Option (β × List UInt8)) (l : List UInt8) : Option (β × List UInt8) := match p l with
  | none => none
  | some (v, r) => q v r
def giveS {α : Type} (v : α) (s : RdS) : α × RdS := (v, s)
def giveP {α : Type} (v : α) (l : List UInt8) : Option (α × List UInt8) := some (v, l)
theorem Sim.give {α : Type} {l : List UInt8} (v : α) : Sim l (giveS v) (giveP v) :=
  ⟨fun _ h => h, (fun _ _ h => by cases h), (fun s u r h e => by unfold giveP at e; simp only [Option.some.injEq, Prod.mk.injEq] at e; obtain ⟨rfl, rfl⟩ := e; exact ⟨rfl, h, rfl⟩), fun _ h => h⟩
theorem Sim.fail {α : Type} {l : List UInt8} (v : α) : Sim l (fun s => (v, ⟨s.at_, true⟩)) (fun _ => none) :=
  ⟨fun _ _ => rfl, fun _ _ _ => rfl, (fun _ _ _ _ h => by cases h), fun _ h => h⟩
theorem Sim.then_ {α β : Type} {l : List UInt8} {f : RdS → α × RdS} {p : List UInt8 → Option (α × List UInt8)} {g : α → RdS → β × RdS} {q : α → List UInt8 → Option (β × List UInt8)} (h : Sim l f p) (k : ∀ v, Sim l (g v) (q v)) : Sim l (thenS f g) (thenP p q) := by
  refine ⟨fun s hs => (k _).bad _ (h.bad s hs), fun s hs hp => ?_, fun s v r hs hp => ?_, fun s hs => (k _).le _ (h.le s hs)⟩
  · unfold thenP at hp
    cases e : p (l.drop s.at_) with
    | none => exact (k _).bad _ (h.no s hs e)
    | some vr =>
      obtain ⟨v, r⟩ := vr
      rw [e] at hp
      obtain ⟨h1, h2, h3⟩ := h.yes s v r hs e
      simp only [] at hp
      rw [h3] at hp
      unfold thenS
      rw [h1]
      exact (k v).no _ h2 hp
  · unfold thenP at hp
    cases e : p (l.drop s.at_) with
    | none => rw [e] at hp; cases hp
    | some ur =>
      obtain ⟨u, r'⟩ := ur
      rw [e] at hp
      obtain ⟨h1, h2, h3⟩ := h.yes s u r' hs e
      simp only [] at hp
      rw [h3] at hp
      unfold thenS
      rw [h1]
      exact (k u).yes _ v r h2 hp

/-- one that does nothing more once there was too little -/
def nx {α : Type} (z : α) (f : RdS → α × RdS) (s : RdS) : α × RdS := if s.bad then (z, s) else f s
theorem nx_bad {α : Type} {z : α} {f : RdS → α × RdS} {s : RdS} (h : s.bad = true) : nx z f s = (z, s) := by unfold nx; rw [h]; rfl
theorem nx_go {α : Type} {z : α} {f : RdS → α × RdS} {s : RdS} (h : s.bad = false) : nx z f s = f s := by unfold nx; rw [h]; rfl
def flgS (l : List UInt8) (s : RdS) : Bool × RdS := match flagOf (l.drop s.at_) with
  | none => (false, ⟨s.at_, true⟩)
  | some (b, _) => (b, ⟨s.at_ + 1, s.bad⟩)
def nN (l : List UInt8) : RdS → Int × RdS := nx 0 (numS l)
def nT (l : List UInt8) : RdS → ByteArray × RdS := nx ⟨#[]⟩ (txtS l)
def nF (l : List UInt8) : RdS → Bool × RdS := nx false (flgS l)

theorem simN (l : List UInt8) : Sim l (nN l) numOf := by
  refine ⟨fun s h => by unfold nN; rw [nx_bad h]; exact h, fun s h e => ?_, fun s v r h e => ?_, fun s hs => ?_⟩
  · unfold nN; rw [nx_go h]; unfold numS
    unfold numOf at e
    cases ht : takeF 9 (l.drop s.at_) with
    | none => rfl
    | some vk => obtain ⟨v, k⟩ := vk; rw [ht] at e; cases e
  · unfold nN; rw [nx_go h]; unfold numS
    unfold numOf at e
    cases ht : takeF 9 (l.drop s.at_) with
    | none => rw [ht] at e; cases e
    | some vk =>
      obtain ⟨u, k⟩ := vk
      rw [ht] at e
      simp only [Option.some.injEq, Prod.mk.injEq] at e
      obtain ⟨rfl, rfl⟩ := e
      exact ⟨rfl, h, by rw [List.drop_drop]⟩
  · unfold nN nx
    split
    · exact hs
    · exact (numS_lim l s).2.2.2 hs
theorem simT (l : List UInt8) : Sim l (nT l) textOf := by
  refine ⟨fun s h => by unfold nT; rw [nx_bad h]; exact h, fun s h e => ?_, fun s v r h e => ?_, fun s hs => ?_⟩
  · unfold nT; rw [nx_go h]; unfold txtS
    unfold textOf at e
    cases ht : takeT (l.drop s.at_) with
    | none => rfl
    | some vk => obtain ⟨v, k⟩ := vk; rw [ht] at e; cases e
  · unfold nT; rw [nx_go h]; unfold txtS
    unfold textOf at e
    cases ht : takeT (l.drop s.at_) with
    | none => rw [ht] at e; cases e
    | some vk =>
      obtain ⟨u, k⟩ := vk
      rw [ht] at e
      simp only [Option.some.injEq, Prod.mk.injEq] at e
      obtain ⟨rfl, rfl⟩ := e
      exact ⟨rfl, h, by rw [List.drop_drop]⟩
  · unfold nT nx
    split
    · exact hs
    · exact (txtS_lim l s).2.2 hs
theorem flagOf_cases (l : List UInt8) : flagOf l = none ∨ ∃ b r, flagOf l = some (b, r) ∧ l = flagB b :: r := by
  cases h : flagOf l with
  | none => exact .inl rfl
  | some br => obtain ⟨b, r⟩ := br; exact .inr ⟨b, r, rfl, flagOf_some h⟩
theorem simF (l : List UInt8) : Sim l (nF l) flagOf := by
  refine ⟨fun s h => by unfold nF; rw [nx_bad h]; exact h, fun s h e => ?_, fun s v r h e => ?_, fun s hs => ?_⟩
  · unfold nF; rw [nx_go h]; unfold flgS; rw [e]
  · unfold nF; rw [nx_go h]; unfold flgS; rw [e]
    refine ⟨rfl, h, ?_⟩
    have := flagOf_some e
    rw [← List.drop_drop, this]
    rfl
  · unfold nF nx
    split
    · exact hs
    · unfold flgS
      rcases flagOf_cases (l.drop s.at_) with h | ⟨b, r, h, h2⟩
      · rw [h]; exact hs
      · rw [h]
        have := congrArg List.length h2
        rw [List.length_drop, List.length_cons] at this
        simp only []
        omega

def nR (l : List UInt8) : RdS → RdT × RdS := thenS (nT l) fun k => thenS (nN l) fun v => thenS (nT l) fun x => thenS (nF l) fun f => giveS ⟨k, v, x, f⟩
def nW (l : List UInt8) : RdS → WrT × RdS := thenS (nT l) fun k => thenS (nT l) fun x => thenS (nF l) fun f => giveS ⟨k, x, f⟩
def repS {α : Type} (one : RdS → α × RdS) : Nat → RdS → List α × RdS
  | 0 => giveS []
  | n + 1 => thenS one fun x => thenS (repS one n) fun r => giveS (x :: r)
/-- a list of at most so many -/
def nL {α : Type} (l : List UInt8) (one : RdS → α × RdS) (most : Int) : RdS → List α × RdS := thenS (nN l) fun n => if most < n then fun s => ([], ⟨s.at_, true⟩) else repS one n.toNat
def nTx (l : List UInt8) : RdS → TxT × RdS := thenS (nN l) fun s => thenS (nN l) fun q => thenS (nL l (nR l) 6) fun r => thenS (nL l (nW l) 4) fun w => giveS ⟨s, q, r, w⟩

theorem rdOf_as : rdOf = thenP textOf fun k => thenP numOf fun v => thenP textOf fun x => thenP flagOf fun f => giveP ⟨k, v, x, f⟩ := by
  funext l
  unfold rdOf thenP giveP
  cases textOf l with
  | none => rfl
  | some a =>
    obtain ⟨a, l⟩ := a
    simp only [Option.bind_eq_bind, Option.bind_some]
    cases numOf l with
    | none => rfl
    | some a =>
      obtain ⟨a, l⟩ := a
      simp only [Option.bind_some]
      cases textOf l with
      | none => rfl
      | some a =>
        obtain ⟨a, l⟩ := a
        simp only [Option.bind_some]
        cases flagOf l with
        | none => rfl
        | some a => rfl
theorem wrOf_as : wrOf = thenP textOf fun k => thenP textOf fun x => thenP flagOf fun f => giveP ⟨k, x, f⟩ := by
  funext l
  unfold wrOf thenP giveP
  cases textOf l with
  | none => rfl
  | some a =>
    obtain ⟨a, l⟩ := a
    simp only [Option.bind_eq_bind, Option.bind_some]
    cases textOf l with
    | none => rfl
    | some a =>
      obtain ⟨a, l⟩ := a
      simp only [Option.bind_some]
      cases flagOf l with
      | none => rfl
      | some a => rfl
theorem manyOf_as {α : Type} (one : List UInt8 → Option (α × List UInt8)) (n : Nat) : manyOf one (n + 1) = thenP one fun x => thenP (manyOf one n) fun r => giveP (x :: r) := by
  funext l
  show manyOf one (n + 1) l = _
  rw [manyOf]
  unfold thenP giveP
  cases one l with
  | none => rfl
  | some a =>
    obtain ⟨a, l⟩ := a
    simp only [Option.bind_eq_bind, Option.bind_some]
    cases manyOf one n l with
    | none => rfl
    | some a => rfl
/-- the transaction at the front, may it be or not -/
def txAny : List UInt8 → Option (TxT × List UInt8) := thenP numOf fun s => thenP numOf fun q => thenP (thenP numOf fun n => if 6 < n then fun _ => none else manyOf rdOf n.toNat) fun r => thenP (thenP numOf fun n => if 4 < n then fun _ => none else manyOf wrOf n.toNat) fun w => giveP ⟨s, q, r, w⟩
theorem txOf_as (l : List UInt8) : txOf l = match txAny l with
    | none => none
    | some (t, r) => if mayT t then some (t, r) else none := by
  unfold txOf txAny thenP giveP
  cases numOf l with
  | none => rfl
  | some a =>
    obtain ⟨a, l⟩ := a
    simp only [Option.bind_eq_bind, Option.bind_some]
    cases numOf l with
    | none => rfl
    | some b =>
      obtain ⟨b, l⟩ := b
      simp only [Option.bind_some]
      cases numOf l with
      | none => rfl
      | some n =>
        obtain ⟨n, l⟩ := n
        simp only [Option.bind_some]
        by_cases hn : 6 < n
        · rw [if_pos hn, if_pos hn]
        · rw [if_neg hn, if_neg hn]
          cases manyOf rdOf n.toNat l with
          | none => rfl
          | some r =>
            obtain ⟨r, l⟩ := r
            simp only [Option.bind_some]
            cases numOf l with
            | none => rfl
            | some m =>
              obtain ⟨m, l⟩ := m
              simp only [Option.bind_some]
              by_cases hm : 4 < m
              · rw [if_pos hm, if_pos hm]
              · rw [if_neg hm, if_neg hm]
                cases manyOf wrOf m.toNat l with
                | none => rfl
                | some w =>
                  obtain ⟨w, l⟩ := w
                  simp only [Option.bind_some]
                  rfl

theorem simR (l : List UInt8) : Sim l (nR l) rdOf := by
  rw [rdOf_as]
  exact (simT l).then_ fun _ => (simN l).then_ fun _ => (simT l).then_ fun _ => (simF l).then_ fun _ => Sim.give _
theorem simW (l : List UInt8) : Sim l (nW l) wrOf := by
  rw [wrOf_as]
  exact (simT l).then_ fun _ => (simT l).then_ fun _ => (simF l).then_ fun _ => Sim.give _
theorem simRep {α : Type} {l : List UInt8} {f : RdS → α × RdS} {p : List UInt8 → Option (α × List UInt8)} (h : Sim l f p) : ∀ n, Sim l (repS f n) (manyOf p n)
  | 0 => Sim.give _
  | n + 1 => by
    rw [manyOf_as]
    exact h.then_ fun _ => (simRep h n).then_ fun _ => Sim.give _
theorem simL {α : Type} {l : List UInt8} {f : RdS → α × RdS} {p : List UInt8 → Option (α × List UInt8)} (h : Sim l f p) (most : Int) : Sim l (nL l f most) (thenP numOf fun n => if most < n then fun _ => none else manyOf p n.toNat) :=
  (simN l).then_ fun n => by
    by_cases hn : most < n
    · rw [if_pos hn, if_pos hn]; exact Sim.fail _
    · rw [if_neg hn, if_neg hn]; exact simRep h _
theorem simTx (l : List UInt8) : Sim l (nTx l) txAny :=
  (simN l).then_ fun _ => (simN l).then_ fun _ => (simL (simR l) 6).then_ fun _ => (simL (simW l) 4).then_ fun _ => Sim.give _

/-- what the reader has come to is what is taken -/
theorem run_no {l : List UInt8} (h : (nTx l ⟨0, false⟩).2.bad = true ∨ mayT (nTx l ⟨0, false⟩).1 = false) : takenT l = ⟨0, 0, [], []⟩ ∧ takenK l = 0 ∧ takenB l = false := by
  have e : txOf l = none := by
    rw [txOf_as]
    cases ha : txAny l with
    | none => rfl
    | some tr =>
      obtain ⟨t, r⟩ := tr
      obtain ⟨h1, h2, h3⟩ := (simTx l).yes ⟨0, false⟩ t r rfl ha
      rcases h with h | h
      · rw [h2] at h; cases h
      · rw [h1] at h
        simp only [h]
        rfl
  unfold takenT takenK takenB
  rw [e]
  exact ⟨rfl, rfl, rfl⟩
theorem run_yes {l : List UInt8} (h1 : (nTx l ⟨0, false⟩).2.bad = false) (h2 : mayT (nTx l ⟨0, false⟩).1 = true) : takenT l = (nTx l ⟨0, false⟩).1 ∧ takenK l = (nTx l ⟨0, false⟩).2.at_ ∧ takenB l = true := by
  have hs := simTx l
  cases ha : txAny l with
  | none =>
    have := hs.no ⟨0, false⟩ rfl ha
    rw [this] at h1
    cases h1
  | some tr =>
    obtain ⟨t, r⟩ := tr
    obtain ⟨g1, g2, g3⟩ := hs.yes ⟨0, false⟩ t r rfl ha
    have e : txOf l = some (t, r) := by
      rw [txOf_as, ha]
      simp only []
      rw [← g1, if_pos h2]
    obtain ⟨k1, _, _⟩ := txOf_some e
    have hle := hs.le ⟨0, false⟩ (Nat.zero_le _)
    have hlen := congrArg List.length k1
    rw [List.length_append, g3, List.length_drop] at hlen
    unfold takenT takenK takenB
    rw [e]
    exact ⟨g1.symm, by simp only []; omega, rfl⟩

/-! What is read is within limits. -/
theorem nN_lim (l : List UInt8) (s : RdS) : 0 ≤ (nN l s).1 ∧ (nN l s).1 ≤ 9223372036854775807 := by
  unfold nN nx
  split
  · simp
  · exact ⟨(numS_lim l s).1, (numS_lim l s).2.1⟩
theorem nT_lim (l : List UInt8) (s : RdS) : (nT l s).1.size ≤ 255 := by
  unfold nT nx
  split
  · simp [ByteArray.size]
  · exact (txtS_lim l s).1
theorem nR_lim (l : List UInt8) (s : RdS) : RdFine (nR l s).1 := ⟨nT_lim l _, nT_lim l _, (nN_lim l _).1, (nN_lim l _).2⟩
theorem nW_lim (l : List UInt8) (s : RdS) : WrFine (nW l s).1 := ⟨nT_lim l _, nT_lim l _⟩
theorem repS_all {α : Type} {one : RdS → α × RdS} {ok : α → Prop} (h : ∀ s, ok (one s).1) : ∀ n s, (∀ x ∈ (repS one n s).1, ok x) ∧ (repS one n s).1.length = n
  | 0, s => ⟨(fun x hx => by cases hx), rfl⟩
  | n + 1, s => by
    obtain ⟨h1, h2⟩ := repS_all h n (one s).2
    refine ⟨fun x hx => ?_, ?_⟩
    · rcases List.mem_cons.1 (show x ∈ (one s).1 :: (repS one n (one s).2).1 from hx) with rfl | hx
      · exact h s
      · exact h1 x hx
    · show ((one s).1 :: (repS one n (one s).2).1).length = n + 1
      rw [List.length_cons, h2]
theorem nL_lim {α : Type} {l : List UInt8} {one : RdS → α × RdS} {ok : α → Prop} (h : ∀ s, ok (one s).1) {most : Int} (hm : 0 ≤ most) (s : RdS) : (∀ x ∈ (nL l one most s).1, ok x) ∧ ((nL l one most s).1.length : Int) ≤ most := by
  have hn := nN_lim l s
  unfold nL thenS
  simp only []
  by_cases hc : most < (nN l s).1
  · rw [if_pos hc]
    exact ⟨(fun x hx => by cases hx), by simpa using hm⟩
  · rw [if_neg hc]
    obtain ⟨h1, h2⟩ := repS_all h (nN l s).1.toNat (nN l s).2
    exact ⟨h1, by rw [h2]; omega⟩
/-- one round more -/
theorem repS_next {α : Type} (one : RdS → α × RdS) (n : Nat) (s : RdS) : repS one (n + 1) s = ((one s).1 :: (repS one n (one s).2).1, (repS one n (one s).2).2) := rfl

end Go.Proofs.Ythpaoeiackbdoaa.TakeMath
