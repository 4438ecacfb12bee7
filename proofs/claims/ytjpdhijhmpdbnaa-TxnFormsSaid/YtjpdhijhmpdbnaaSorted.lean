/-
  Numbers of the call's own, sorted and each once: what the library's sort and compact leave. No program.
-/
import Derived.Test.YtjpdhijhmpdbnaaBaseW
import Derived.Lib.OwnBridge
import Derived.Lib.SlicesCompact
import Derived.Sort.Grow
namespace Go.Proofs.Ytjpdhijhmpdbnaa
open Go Go.RowKit Go.Sort

theorem gr_grow (w : World) (os : Array Obj) : Gr w (grow w os) := ⟨rfl, rfl, rfl, by simp, fun _ hk => heap_grow_old w os hk⟩
def intV (z : Int) : Value := .int .i64 z
/-- behind the sort -/
theorem own_sorted {e : TypeId} {w0 w : World} {g n cap q : Nat} {os : Array Obj} {zs ys : List Int} (h : w.ownsRow w0.heap.size e 1 (.slice (some ⟨g, 0, none⟩) n cap) n (zs.map (Value.int .i64))) (hy : ys.length = n) (hg : Gr w0 w) (hb : w0.heap.size ≤ g) :
    (grow (putRow (Value.int .i64) (Sort.ahead w q) g 0 ys.toArray) os).ownsRow w0.heap.size e 1 (.slice (some ⟨g, 0, none⟩) n cap) n (ys.map (Value.int .i64)) ∧ Gr w0 (grow (putRow (Value.int .i64) (Sort.ahead w q) g 0 ys.toArray) os) := by
  have h1 := Lib.ownsRow_putRow (q := q) h hy (Nat.le_refl n)
  rw [List.take_of_length_le (by omega)] at h1
  exact ⟨OwnV.gr (xs := ys.map (Value.int .i64)) (v := .slice (some ⟨g, 0, none⟩) n cap) (by unfold OwnV; rw [List.length_map, hy]; exact h1) (gr_grow _ os) |> fun k => by unfold OwnV at k; rw [List.length_map, hy] at k; exact k, Gr.trans (Lib.below_putRow hg hb) (gr_grow _ _)⟩
/-- behind the compaction -/
theorem own_compact {e : TypeId} {w0 w : World} {g n cap q : Nat} {zs ys : List Int} (h : w.ownsRow w0.heap.size e 1 (.slice (some ⟨g, 0, none⟩) n cap) n (zs.map (Value.int .i64))) (hn : zs.length = n) (hl : ys.length ≤ n) (hg : Gr w0 w) (hb : w0.heap.size ≤ g) :
    (putRow (Value.int .i64) (Sort.ahead w q) g 0 (ys ++ List.replicate (zs.length - ys.length) 0).toArray).ownsRow w0.heap.size e 1 (.slice (some ⟨g, 0, none⟩) ys.length cap) ys.length (ys.map (Value.int .i64)) ∧ Gr w0 (putRow (Value.int .i64) (Sort.ahead w q) g 0 (ys ++ List.replicate (zs.length - ys.length) 0).toArray) := by
  have h1 := Lib.ownsRow_putRow (q := q) (k := ys.length) (ys := ys ++ List.replicate (zs.length - ys.length) 0) h (by simp; omega) hl
  rw [List.take_left] at h1
  exact ⟨h1, Lib.below_putRow hg hb⟩

/-! The list that it is. -/
theorem strict_ext : ∀ (a b : List Int), a.Pairwise (· < ·) → b.Pairwise (· < ·) → (∀ x, x ∈ a ↔ x ∈ b) → a = b
  | [], [], _, _, _ => rfl
  | [], y :: b, _, _, h => absurd ((h y).2 (by simp)) (by simp)
  | x :: a, [], _, _, h => absurd ((h x).1 (by simp)) (by simp)
  | x :: a, y :: b, ha, hb, h => by
    rw [List.pairwise_cons] at ha hb
    have e : x = y := by
      rcases List.mem_cons.1 ((h x).1 (by simp)) with h1 | h1
      · exact h1
      · rcases List.mem_cons.1 ((h y).2 (by simp)) with h2 | h2
        · exact h2.symm
        · have := hb.1 x h1
          have := ha.1 y h2
          omega
    subst e
    rw [strict_ext a b ha.2 hb.2 fun z => ⟨fun hz => ?_, fun hz => ?_⟩]
    · rcases List.mem_cons.1 ((h z).1 (by simp [hz])) with h1 | h1
      · have := ha.1 z hz; omega
      · exact h1
    · rcases List.mem_cons.1 ((h z).2 (by simp [hz])) with h1 | h1
      · have := hb.1 z hz; omega
      · exact h1

theorem compact_of_sorted (d : Array Int) (hs : ∀ i j, i ≤ j → j < d.size → d[i]! ≤ d[j]!) : ∀ m, m ≤ d.size → (Lib.compactUpTo d m).Pairwise (· < ·) ∧ ∀ x, x ∈ Lib.compactUpTo d m ↔ ∃ j, j < m ∧ d[j]! = x
  | 0, _ => by simp [Lib.compactUpTo]
  | m + 1, hm => by
    obtain ⟨h1, h2⟩ := compact_of_sorted d hs m (by omega)
    rw [Lib.compactUpTo_succ]
    by_cases hk : Lib.keeps d m = true
    · rw [if_pos hk]
      refine ⟨?_, fun x => ?_⟩
      · rw [List.pairwise_append]
        refine ⟨h1, by simp, fun a ha b hb => ?_⟩
        obtain rfl : b = d[m]! := by simpa using hb
        obtain ⟨j, hj, rfl⟩ := (h2 a).1 ha
        have h3 : m ≠ 0 := by omega
        unfold Lib.keeps at hk
        rw [decide_eq_true_eq] at hk
        have h4 : d[m]! ≠ d[m - 1]! := by
          rcases hk with h | h
          · exact absurd h h3
          · exact h
        have h5 := hs j (m - 1) (by omega) (by omega)
        have h6 := hs (m - 1) m (by omega) (by omega)
        omega
      · rw [List.mem_append, h2, List.mem_singleton]
        constructor
        · rintro (⟨j, hj, h⟩ | h)
          · exact ⟨j, by omega, h⟩
          · exact ⟨m, by omega, h.symm⟩
        · rintro ⟨j, hj, h⟩
          by_cases hjm : j < m
          · exact .inl ⟨j, hjm, h⟩
          · obtain rfl : j = m := by omega
            exact .inr h.symm
    · rw [if_neg hk, List.append_nil]
      refine ⟨h1, fun x => ?_⟩
      rw [h2]
      constructor
      · rintro ⟨j, hj, h⟩
        exact ⟨j, by omega, h⟩
      · rintro ⟨j, hj, h⟩
        by_cases hjm : j < m
        · exact ⟨j, hjm, h⟩
        · obtain rfl : j = m := by omega
          unfold Lib.keeps at hk
          rw [decide_eq_true_eq] at hk
          have h0 : j ≠ 0 := fun e => hk (.inl e)
          have h4 : d[j]! = d[j - 1]! := Decidable.byContradiction fun e => hk (.inr e)
          exact ⟨j - 1, by omega, by rw [← h4]; exact h⟩

theorem sorted_each (zs : List Int) : (Lib.compact (zs.mergeSort fun x y => decide (x ≤ y))).Pairwise (· < ·) ∧ ∀ x, x ∈ Lib.compact (zs.mergeSort fun x y => decide (x ≤ y)) ↔ x ∈ zs := by
  obtain ⟨l, hl⟩ : ∃ l, zs.mergeSort (fun x y => decide (x ≤ y)) = l := ⟨_, rfl⟩
  have hp : l.Perm zs := by rw [← hl]; exact List.mergeSort_perm _ _
  have hs : l.Pairwise (fun x y => decide (x ≤ y) = true) := by
    rw [← hl]
    exact List.pairwise_mergeSort (fun a b c h1 h2 => by simp at h1 h2 ⊢; omega) (fun a b => by simp; omega) _
  rw [hl]
  unfold Lib.compact
  obtain ⟨h1, h2⟩ := compact_of_sorted l.toArray (fun i j hij hj => by
    rw [List.size_toArray] at hj
    rw [getElem!_pos _ i (by simpa using (by omega : i < l.length)), getElem!_pos _ j (by simpa using hj)]
    rcases Nat.lt_or_eq_of_le hij with h | h
    · have := List.pairwise_iff_getElem.1 hs i j (by omega) hj h
      simpa using this
    · subst h; simp) l.length (by simp)
  refine ⟨h1, fun x => ?_⟩
  rw [h2, ← hp.mem_iff, List.mem_iff_getElem]
  constructor
  · rintro ⟨j, hj, h⟩
    exact ⟨j, hj, by rw [← h, getElem!_pos _ j (by simpa using hj)]; simp⟩
  · rintro ⟨j, hj, h⟩
    exact ⟨j, hj, by rw [← h, getElem!_pos _ j (by simpa using hj)]; simp⟩

end Go.Proofs.Ytjpdhijhmpdbnaa
