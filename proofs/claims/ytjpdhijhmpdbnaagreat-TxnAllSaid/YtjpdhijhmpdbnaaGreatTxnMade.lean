/-
  Made transactions in the statements on txn: their limits, their bytes, what is taken of them.
-/
import Derived.Test.YtjpdhijhmpdbnaaGreatTxnBegun
import Derived.Test.YtjpdhijhmpdbnaaGreatPlayMade
namespace Go.Proofs.YtjpdhijhmpdbnaaGreat
open Go Go.RowKit TxnMath KeyMath NumPlain TakeMath

theorem txP_ver (l : List UInt8) (n most : Nat) : ∀ x ∈ (txP l n most).1.reads, x.ver < ((max most 1 : Nat) : Int) := by
  have h := (manyP_all (one := rdP l (max most 1)) (p := fun x => decide (x.ver < ((max most 1 : Nat) : Int))) (f := fun x => x.key)
    (fun k n => by
      have hv := pickV_lt l n (max most 1) (by omega)
      unfold rdP
      split
      · split <;> (simp only [decide_eq_true_eq]; omega)
      · simp only [decide_eq_true_eq]; omega) (fun k n => (rdP_ok l (max most 1) k n).2)
    (pickKeys keysL (pickV l (pickN l (pickN l n)) 64) 3) (pickN l (pickN l (pickN l n)))).1
  intro x hx
  rw [List.all_eq_true] at h
  have := h x hx
  simpa using this

theorem txP_lim (l : List UInt8) (n most : Nat) (hm : most ≤ 1000000) : TxLim 1000000 (txP l n most).1 := by
  obtain ⟨h1, h2, h3, h4, h5, h6, h7, h8, h9, h10⟩ := mayT_parts (txP_may l n most)
  have hk := rising_may h9
  have hw := rising_may h10
  have hv := txP_ver l n most
  exact ⟨⟨by omega, by omega⟩, ⟨by omega, by omega⟩, by omega, by omega,
    fun x hx => ⟨by have := mayK_size (hk x.key (List.mem_map.2 ⟨x, hx, rfl⟩)); omega, by have := (rdOk_parts (h1 x hx)).2; omega, by have := (rdOk_parts (h1 x hx)).1; omega, by have := hv x hx; omega⟩,
    fun x hx => ⟨by have := mayK_size (hw x.key (List.mem_map.2 ⟨x, hx, rfl⟩)); omega, by have := wrOk_parts (h2 x hx); omega⟩⟩
theorem txP_hi (l : List UInt8) (n most : Nat) (hm : most ≤ 1000000) : ∀ x ∈ (txP l n most).1.reads, x.ver ≤ 9223372036854775807 := fun x hx => ((txP_lim l n most hm).rd x hx).ver.2
theorem put_may {t : TxT} (h : mayT t = true) : putTx t = encT t := by unfold putTx; rw [if_pos h]
theorem encT_len {t : TxT} (h : mayT t = true) : 0 < (encT t).length ∧ (encT t).length ≤ 10000 := by
  obtain ⟨h1, h2, h3, h4, h5, h6, h7, h8, h9, h10⟩ := mayT_parts h
  have a1 := natOf_len t.ses
  have a2 := natOf_len t.seq
  have a3 := (putN_len t.reads.length).2
  have a4 := putN_len t.writes.length
  have a5 := flat_len encR 541 encR_len t.reads
  have a6 := flat_len encW 531 encW_len t.writes
  have e : (encT t).length = (natOf t.ses).length + (natOf t.seq).length + (putN t.reads.length).length + (t.reads.flatMap encR).length + (putN t.writes.length).length + (t.writes.flatMap encW).length := by
    unfold encT
    simp only [List.length_append]
  omega
/-- what is put is taken, whatever stands behind -/
theorem taken_put {t : TxT} (h : mayT t = true) (hv : ∀ x ∈ t.reads, x.ver ≤ 9223372036854775807) (r : List UInt8) : takenT (encT t ++ r) = t ∧ takenK (encT t ++ r) = (encT t).length ∧ takenB (encT t ++ r) = true := by
  have e := txOf_put h hv r
  unfold takenT takenK takenB
  rw [e]
  exact ⟨rfl, rfl, rfl⟩
/-- cut off it is none -/
theorem taken_cut {t : TxT} (h : mayT t = true) (hv : ∀ x ∈ t.reads, x.ver ≤ 9223372036854775807) (j : Nat) (hj : j < (encT t).length) : takenT ((encT t).take j) = ⟨0, 0, [], []⟩ ∧ takenK ((encT t).take j) = 0 ∧ takenB ((encT t).take j) = false := by
  have e := txOf_cut h hv j hj
  unfold takenT takenK takenB
  rw [e]
  exact ⟨rfl, rfl, rfl⟩

theorem TxAt.shape {w : World} {v : Value} {t : TxT} (h : TxAt w v t) : ∃ a b A n c B m d, v = .agg #[.int .i64 a, .int .i64 b, .slice A n c, .slice B m d] := by
  obtain ⟨A, c, B, d, e⟩ := h.is
  exact ⟨_, _, A, _, c, B, _, d, e⟩
/-- a transaction that was made -/
theorem TxnPost.made {g : Nat} {A : Option Addr} {c : Nat} {l : List UInt8} {n most : Nat} {w : World} {e : Ending} {w' : World} (h : TxnPost g A c l n most w e w') :
    ∃ a b A n' c B m d, e = .returned (.agg #[.int .i64 a, .int .i64 b, .slice A n' c, .slice B m d]) ∧ TxAt w' (.agg #[.int .i64 a, .int .i64 b, .slice A n' c, .slice B m d]) (txP l n most).1 ∧ But w w' g := by
  obtain ⟨v, rfl, ho, hb, _⟩ := h
  have ht := ho.at_
  obtain ⟨a, b, A, n', c, B, m, d, rfl⟩ := ht.shape
  exact ⟨a, b, A, n', c, B, m, d, rfl, ht, hb⟩

end Go.Proofs.YtjpdhijhmpdbnaaGreat
