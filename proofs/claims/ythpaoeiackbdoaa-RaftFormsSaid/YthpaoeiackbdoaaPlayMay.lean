/-
  What diwanplay makes may be. No program's run.
-/
import Derived.Test.YthpaoeiackbdoaaPlayTxn
namespace Go.Proofs.Ythpaoeiackbdoaa
open Go Go.RowKit Go.Proofs.Ythpaoeiackbdoaa.TxnMath Go.Proofs.Ythpaoeiackbdoaa.KeyMath

theorem picked_rise_all : (List.range 64).all (fun b => risingK (pickKeys keysL b 3)) = true := by kernel_rfl
theorem picked_rise (l : List UInt8) (n : Nat) : risingK (pickKeys keysL (pickV l n 64) 3) = true :=
  List.all_eq_true.1 picked_rise_all _ (List.mem_range.2 (pickV_lt l n 64 (by decide)))
theorem vals_short : valsL.all (fun v => decide (v.size ≤ 16)) = true := by kernel_rfl
theorem pickVal_short (l : List UInt8) (n : Nat) : (pickVal l n).size ≤ 16 := by
  have h := pickV_lt l n 5 (by decide)
  unfold pickVal
  have hm : valsL.getD (pickV l n 5) ⟨#[]⟩ ∈ valsL := by
    rw [List.getD_eq_getElem?_getD, List.getElem?_eq_getElem (show pickV l n 5 < valsL.length from h)]
    exact List.getElem_mem _
  simpa using List.all_eq_true.1 vals_short _ hm
theorem empty_nil : empty nilS = true := by unfold empty; simp [nilS, nothing]

theorem manyP_all {α : Type} {one : ByteArray → Nat → α × Nat} {p : α → Bool} {f : α → ByteArray} (hp : ∀ k n, p (one k n).1 = true) (hf : ∀ k n, f (one k n).1 = k) : ∀ (ks : List ByteArray) (n : Nat), (manyP one ks n).1.all p = true ∧ (manyP one ks n).1.map f = ks
  | [], n => ⟨rfl, rfl⟩
  | k :: ks, n => by
    have ih := manyP_all hp hf ks (one k n).2
    exact ⟨by rw [manyP]; simp only [List.all_cons, hp, ih.1, Bool.and_self], by rw [manyP]; simp only [List.map_cons, hf, ih.2]⟩

theorem rdP_ok (l : List UInt8) (m : Nat) (k : ByteArray) (n : Nat) : rdOk (rdP l m k n).1 = true ∧ (rdP l m k n).1.key = k := by
  have h16 := pickVal_short l (pickN l (pickN l n))
  unfold rdP
  split
  · rename_i hv
    split
    · refine ⟨?_, rfl⟩
      unfold rdOk
      have e1 : decide (((pickV l n m : Nat) : Int) < 0) = false := by rw [decide_eq_false_iff_not]; omega
      have e2 : decide (16 < (pickVal l (pickN l (pickN l n))).size) = false := by rw [decide_eq_false_iff_not]; omega
      have e3 : (((pickV l n m : Nat) : Int) == 0) = false := by rw [beq_eq_false_iff_ne]; omega
      simp [e1, e2, e3]
    · refine ⟨?_, rfl⟩
      unfold rdOk
      have e1 : decide (((pickV l n m : Nat) : Int) < 0) = false := by rw [decide_eq_false_iff_not]; omega
      simp [e1, empty_nil]
      decide
  · refine ⟨?_, rfl⟩
    unfold rdOk
    have e1 : decide (((pickV l n m : Nat) : Int) < 0) = false := by rw [decide_eq_false_iff_not]; omega
    simp [e1, empty_nil]
    decide
theorem wrP_ok (l : List UInt8) (k : ByteArray) (n : Nat) : wrOk (wrP l k n).1 = true ∧ (wrP l k n).1.key = k := by
  have h16 := pickVal_short l n
  unfold wrP
  split
  · refine ⟨?_, rfl⟩
    unfold wrOk
    simp [empty_nil]
    decide
  · refine ⟨?_, rfl⟩
    unfold wrOk
    have e2 : decide (16 < (pickVal l n).size) = false := by rw [decide_eq_false_iff_not]; omega
    simp [e2]
/-- a made transaction may be -/
theorem txP_may (l : List UInt8) (n most : Nat) : mayT (txP l n most).1 = true := by
  have h3 := pickV_lt l n 3 (by decide)
  have h6 := pickV_lt l (pickN l n) 6 (by decide)
  have hr := manyP_all (fun k n => (rdP_ok l (max most 1) k n).1) (fun k n => (rdP_ok l (max most 1) k n).2) (pickKeys keysL (pickV l (pickN l (pickN l n)) 64) 3) (pickN l (pickN l (pickN l n)))
  have hw := manyP_all (fun k n => (wrP_ok l k n).1) (fun k n => (wrP_ok l k n).2) (pickKeys keysL (pickV l (readsP l (pickN l (pickN l n)) (max most 1)).2 64) 3) (pickN l (readsP l (pickN l (pickN l n)) (max most 1)).2)
  have lr : (readsP l (pickN l (pickN l n)) (max most 1)).1.length ≤ 6 := by
    have e := congrArg List.length hr.2
    rw [List.length_map] at e
    have := pickKeys_len keysL (pickV l (pickN l (pickN l n)) 64) 3
    unfold readsP
    omega
  have lw : (writesP l (readsP l (pickN l (pickN l n)) (max most 1)).2).1.length ≤ 4 := by
    have e := congrArg List.length hw.2
    rw [List.length_map] at e
    have := pickKeys_len keysL (pickV l (readsP l (pickN l (pickN l n)) (max most 1)).2 64) 3
    unfold writesP
    omega
  unfold mayT txP
  simp only [Bool.and_eq_true, decide_eq_true_eq]
  refine ⟨⟨⟨⟨⟨⟨⟨⟨⟨hr.1, hw.1⟩, by omega⟩, by omega⟩, by omega⟩, by omega⟩, lr⟩, lw⟩, ?_⟩, ?_⟩
  · show risingK ((readsP l (pickN l (pickN l n)) (max most 1)).1.map (·.key)) = true
    unfold readsP
    rw [hr.2]
    exact picked_rise _ _
  · show risingK ((writesP l (readsP l (pickN l (pickN l n)) (max most 1)).2).1.map (·.key)) = true
    unfold writesP
    rw [hw.2]
    exact picked_rise _ _
end Go.Proofs.Ythpaoeiackbdoaa
