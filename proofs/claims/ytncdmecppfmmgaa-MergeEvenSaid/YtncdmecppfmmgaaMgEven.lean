/-
  Logs that are sealed as often: all their transactions stand in the order. No program.
-/
import Derived.Test.YtncdmecppfmmgaaMgMath
namespace Go.Proofs.Ytncdmecppfmmgaa.MgMath
open Go TxnMath KeyMath MsgMath EpMath

def sumN (f : Nat → Nat) : Nat → Nat
  | 0 => 0
  | n + 1 => sumN f n + f n
theorem sumN_add (f g : Nat → Nat) : ∀ n, sumN (fun q => f q + g q) n = sumN f n + sumN g n
  | 0 => rfl
  | n + 1 => by simp only [sumN]; rw [sumN_add f g n]; omega
theorem sumN_congr {f g : Nat → Nat} : ∀ n, (∀ q, q < n → f q = g q) → sumN f n = sumN g n
  | 0, _ => rfl
  | n + 1, h => by rw [sumN, sumN, sumN_congr n fun q hq => h q (by omega), h n (by omega)]
theorem bat_length (ls : List (List EntT)) (p e : Nat) : (bat ls p e).length = ((ct ls p).getD e []).length := by unfold bat; rw [List.length_map]
theorem row_length (ls : List (List EntT)) (e : Nat) : ∀ p, (rowB ls e p).length = sumN (fun q => ((ct ls q).getD e []).length) p
  | 0 => rfl
  | p + 1 => by rw [rowB, List.length_append, row_length ls e p, bat_length, sumN]
theorem upto_length (ls : List (List EntT)) : ∀ e, (uptoB ls e).length = sumN (fun q => ((ct ls q).take e).flatten.length) ls.length
  | 0 => by
    have : ∀ n, sumN (fun q => ((ct ls q).take 0).flatten.length) n = 0 := fun n => by
      induction n with
      | zero => rfl
      | succ n ih => rw [sumN, ih]; simp
    rw [this]
    rfl
  | e + 1 => by
    rw [uptoB, List.length_append, upto_length ls e, row_length, ← sumN_add]
    refine sumN_congr _ fun q _ => ?_
    rw [flat_take, List.length_append]
theorem order_even {ls : List (List EntT)} {k : Nat} (hl : 0 < ls.length) (hn : ∀ p, p < ls.length → nb ls p = k + 1) (he : ∀ p, p < ls.length → (ct ls p).getD k [] = []) :
    (orderL ls).1.length = sumN (fun q => (txI ((lg ls q).map (·.shut)) (lg ls q).length).length) ls.length := by
  have hs : Stop ls k 0 := ⟨hl, (hn 0 hl).symm, fun q hq => by omega, fun q hq => by rw [hn q hq]; exact Nat.le_refl _⟩
  rw [order_stop hs, List.length_append, upto_length, row_length]
  have h0 : sumN (fun q => ((ct ls q).getD k []).length) (0 + 1) = 0 := by simp only [sumN]; rw [he 0 hl]; rfl
  rw [h0, Nat.add_zero]
  refine sumN_congr _ fun q hq => ?_
  have hf : (ct ls q).flatten = txI ((lg ls q).map (·.shut)) (lg ls q).length := by
    unfold ct
    rw [cut_flat, List.length_map]
  have h2 : ct ls q = (ct ls q).take (k + 1) := by
    rw [List.take_of_length_le]
    have := hn q hq
    unfold nb at this
    omega
  rw [← hf]
  conv => rhs; rw [h2, flat_take, he q hq, List.append_nil]

/-- Seals behind a log -/
theorem cut_seals (l : List Bool) : ∀ n, cutL (l ++ List.replicate n true) = cutL l ++ List.replicate n []
  | 0 => by simp
  | n + 1 => by
    rw [List.replicate_succ', ← List.append_assoc, cut_sealed, cut_seals l n, List.replicate_succ', List.append_assoc]
/-- how many are no Seals -/
def openN (l : List Bool) : Nat → Nat
  | 0 => 0
  | k + 1 => if l.getD k false = true then openN l k else openN l k + 1
theorem txI_length (l : List Bool) : ∀ k, (txI l k).length = openN l k
  | 0 => rfl
  | k + 1 => by
    rw [txI, openN]
    split
    · exact txI_length l k
    · rw [List.length_append, txI_length l k]
      rfl

end Go.Proofs.Ytncdmecppfmmgaa.MgMath
