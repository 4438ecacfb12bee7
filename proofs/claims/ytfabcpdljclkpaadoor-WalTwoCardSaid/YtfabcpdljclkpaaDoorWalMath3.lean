/-
  What lies in the pieces, record by record.
-/
import Derived.Test.YtfabcpdljclkpaaDoorWalMath2
namespace Go.Proofs.YtfabcpdljclkpaaDoor.WalMath
open Go Go.RowKit MapS DiskMem DiskHit DiskBegin DiskOps DiskApp DiskCrash KeyMath WalDo WalWalk WalRead WalOpen WalBegun FrameMath
set_option maxRecDepth 100000

/-- just these records lie in the pieces -/
structure AllIn (fs : List FileT) (ls : List (List UInt8)) : Prop where
  rows : ∀ g ∈ fs, ∃ R, g.b = rows R ∧ ∀ r ∈ R, r.length ≤ 60000
  recs : recsOf fs = ls
theorem AllIn.nil : AllIn [] [] := ⟨(fun _ hg => nomatch hg), rfl⟩
theorem AllIn.add {fs : List FileT} {ls : List (List UInt8)} (h : AllIn fs ls) (n : Nat) {l : List UInt8} (hl : l.length ≤ 60000) : AllIn (addP n fs l) (ls ++ [l]) := by
  have hone : ∃ R, enc l = FrameMath.rows R ∧ ∀ r ∈ R, r.length ≤ 60000 := ⟨[l], enc_rows l, by simpa using hl⟩
  rcases List.eq_nil_or_concat fs with rfl | ⟨gs, f, rfl⟩
  · rw [addP_nil, ← h.recs]
    refine ⟨fun g hg => ?_, ?_⟩
    · rw [List.mem_singleton] at hg
      subst hg
      exact hone
    · rw [recsOf_one]
      simp only [all_one hl]
      rfl
  · rw [List.concat_eq_append] at h ⊢
    obtain ⟨R, h1, h2⟩ := h.rows f (by simp)
    have h3 := h.recs
    rw [recsOf_app, recsOf_one, h1, all_rows_ h2] at h3
    by_cases hs : n ≤ f.b.length
    · rw [addP_next hs]
      refine ⟨fun g hg => ?_, ?_⟩
      · simp only [List.mem_append, List.mem_singleton] at hg
        rcases hg with (hg | rfl) | rfl
        · exact h.rows g (by simp [hg])
        · exact ⟨R, h1, h2⟩
        · exact hone
      · rw [recsOf_app, recsOf_app, recsOf_one, recsOf_one, h1, all_rows_ h2, h3]
        simp only [all_one hl]
    · rw [addP_same hs]
      have h4 : ∀ r ∈ R ++ [l], r.length ≤ 60000 := fun r hr => by
        rw [List.mem_append, List.mem_singleton] at hr
        rcases hr with hr | rfl
        · exact h2 r hr
        · exact hl
      have h5 : f.b ++ enc l = FrameMath.rows (R ++ [l]) := by rw [rows_app, ← enc_rows, h1]
      refine ⟨fun g hg => ?_, ?_⟩
      · simp only [List.mem_append, List.mem_singleton] at hg
        rcases hg with hg | rfl
        · exact h.rows g (by simp [hg])
        · exact ⟨R ++ [l], h5, h4⟩
      · rw [recsOf_app, recsOf_one]
        simp only [h5]
        rw [all_rows_ h4, ← List.append_assoc, h3]
theorem AllIn.whole {fs : List FileT} {ls : List (List UInt8)} (h : AllIn fs ls) : ∀ g ∈ fs, whole_ g := fun g hg => by
  obtain ⟨R, h1, h2⟩ := h.rows g hg
  unfold whole_
  rw [h1, all_rows_ h2, rows_length]
theorem AllIn.open {F : Fs} {b : UInt8} {fs : List FileT} {ls : List (List UInt8)} (h : AllIn fs ls) (hp : Pcs F b fs) : openM F b = (fs.length, ls, F) := by
  rw [openM_whole hp h.whole, h.recs]

end Go.Proofs.YtfabcpdljclkpaaDoor.WalMath
