/-
  A row of appends, with nothing made sure but what is behind: the pieces; what a crash leaves.
-/
import Derived.Test.YtfabcpdljclkpaaDoorWalBegun
namespace Go.Proofs.YtfabcpdljclkpaaDoor.WalMath
open Go Go.RowKit MapS DiskMem DiskHit DiskBegin DiskOps DiskApp DiskCrash KeyMath WalDo WalWalk WalRead WalOpen WalBegun FrameMath
set_option maxRecDepth 100000

theorem enc_rows (l : List UInt8) : enc l = rows [l] := by simp [rows]
theorem rows_app (a c : List (List UInt8)) : rows (a ++ c) = rows a ++ rows c := by simp [rows]
theorem all_rows_ {R : List (List UInt8)} (h : ∀ r ∈ R, r.length ≤ 60000) : all (rows R) = R := by
  have := all_rows (ls := R) [] h
  rw [List.append_nil, all_nil, List.append_nil] at this
  exact this
theorem whole_rows {R : List (List UInt8)} (h : ∀ r ∈ R, r.length ≤ 60000) (n : Nat) : whole_ ⟨rows R, n⟩ := by
  unfold whole_
  simp only [all_rows_ h, rows_length]
theorem whole_nil (n : Nat) : whole_ ⟨[], n⟩ := whole_rows (R := []) (fun _ h => by cases h) n
/-- the pieces behind a crash that keeps nothing -/
theorem Pcs.crash0 {F : Fs} {b : UInt8} {fs : List FileT} (h : Pcs F b fs) : Pcs (crashF [] F) b (fs.map (hitF · 0)) := by
  refine ⟨by simpa using h.len, fun j hj => ?_, fun j hj hj9 => ?_⟩
  · rw [List.length_map] at hj
    rw [crash_zero, h.at_ j hj]
    simp
  · rw [List.length_map] at hj
    rw [crash_zero, h.no j hj hj9]
    rfl

/-- how far the pieces are: i records so far, 'last' bytes in the last piece, 'ahead' records ahead of it -/
structure PInv (fs : List FileT) (i pieces last ahead : Nat) : Prop where
  pieces : fs.length = pieces
  nil : fs = [] → i = 0 ∧ last = 0 ∧ ahead = 0
  more : ∀ gs f, fs = gs ++ [f] → f.b.length = last ∧ (∀ g ∈ gs, whole_ g ∧ g.sure = g.b.length) ∧ (recsOf gs).length = ahead ∧ f.sure = 0 ∧ ∃ R, f.b = rows R ∧ (∀ r ∈ R, r.length ≤ 60000) ∧ ahead + R.length = i
theorem PInv.begin : PInv [] 0 0 0 0 := ⟨rfl, fun _ => ⟨rfl, rfl, rfl⟩, fun gs f e => by simp at e⟩
theorem PInv.le {fs : List FileT} {i pieces last ahead : Nat} (h : PInv fs i pieces last ahead) (hc : pieces ≤ i) (n : Nat) (l : List UInt8) : (addP n fs l).length ≤ i + 1 := by
  have := (addP_len n fs l).1
  have := h.pieces
  omega
theorem app_inj {gs gs' : List FileT} {f f' : FileT} (h : gs ++ [f] = gs' ++ [f']) : gs = gs' ∧ f = f' := by
  have := List.append_inj' h rfl
  exact ⟨this.1, by simpa using this.2⟩
/-- a piece is begun -/
theorem PInv.next {fs : List FileT} {i pieces last ahead n : Nat} (h : PInv fs i pieces last ahead) (hn : pieces = 0 ∨ n ≤ last) {l : List UInt8} (hl : l.length ≤ 60000) : PInv (addP n fs l) (i + 1) (pieces + 1) (l.length + 6) i := by
  have hp := h.pieces
  rcases List.eq_nil_or_concat fs with rfl | ⟨gs, f, rfl⟩
  · obtain ⟨rfl, rfl, rfl⟩ := h.nil rfl
    rw [addP_nil]
    obtain rfl : pieces = 0 := hp.symm
    refine ⟨rfl, fun e => by simp at e, fun gs f e => ?_⟩
    obtain ⟨rfl, rfl⟩ := app_inj (gs := []) e
    exact ⟨by simp [enc_length], (fun g hg => nomatch hg), rfl, rfl, [l], enc_rows l, by simpa using hl, rfl⟩
  · rw [List.concat_eq_append] at h hp ⊢
    obtain ⟨h1, h2, h3, h4, R, h5, h6, h7⟩ := h.more gs f rfl
    have hn2 : n ≤ f.b.length := by
      rw [List.length_append, List.length_singleton] at hp
      omega
    rw [addP_next hn2]
    have hw : whole_ ⟨f.b, f.b.length⟩ := by rw [h5]; exact whole_rows h6 _
    have hrec : (recsOf (gs ++ [⟨f.b, f.b.length⟩])).length = i := by
      rw [recsOf_app, recsOf_one, List.length_append, h3, h5, all_rows_ h6, h7]
    refine ⟨by simp at hp ⊢; omega, fun e => by simp at e, fun gs' f' e => ?_⟩
    obtain ⟨rfl, rfl⟩ := app_inj e
    refine ⟨by simp [enc_length], fun g hg => ?_, hrec, rfl, [l], enc_rows l, by simpa using hl, rfl⟩
    rw [List.mem_append, List.mem_singleton] at hg
    rcases hg with hg | rfl
    · exact h2 g hg
    · exact ⟨hw, rfl⟩
/-- the last piece takes it -/
theorem PInv.same {fs : List FileT} {i pieces last ahead n : Nat} (h : PInv fs i pieces last ahead) (h0 : pieces ≠ 0) (hn : last < n) {l : List UInt8} (hl : l.length ≤ 60000) : PInv (addP n fs l) (i + 1) pieces (last + (l.length + 6)) ahead := by
  have hp := h.pieces
  rcases List.eq_nil_or_concat fs with rfl | ⟨gs, f, rfl⟩
  · exact absurd hp.symm h0
  · rw [List.concat_eq_append] at h hp ⊢
    obtain ⟨h1, h2, h3, h4, R, h5, h6, h7⟩ := h.more gs f rfl
    rw [addP_same (by omega)]
    refine ⟨by simp at hp ⊢; omega, fun e => by simp at e, fun gs' f' e => ?_⟩
    obtain ⟨rfl, rfl⟩ := app_inj e
    refine ⟨by simp [enc_length, h1], h2, h3, h4, R ++ [l], by rw [rows_app, ← enc_rows, h5], fun r hr => ?_, by rw [List.length_append, List.length_singleton]; omega⟩
    rw [List.mem_append, List.mem_singleton] at hr
    rcases hr with hr | rfl
    · exact h6 r hr
    · exact hl
/-- behind the crash all ahead of the last piece are there -/
theorem PInv.crash {F : Fs} {b : UInt8} {fs : List FileT} {i pieces last ahead : Nat} (h : PInv fs i pieces last ahead) (hp : Pcs F b fs) : (openM (crashF [] F) b).2.1.length = ahead := by
  have hc := hp.crash0
  rcases List.eq_nil_or_concat fs with rfl | ⟨gs, f, rfl⟩
  · rw [openM_whole hc (fun g hg => by cases hg)]
    exact (h.nil rfl).2.2.symm
  · rw [List.concat_eq_append] at h hc
    obtain ⟨h1, h2, h3, h4, R, h5, h6, h7⟩ := h.more gs f rfl
    have e1 : (gs ++ [f]).map (hitF · 0) = gs ++ [⟨[], 0⟩] := by
      rw [List.map_append, List.map_singleton, hit_none, h4, List.take_zero]
      congr 1
      rw [List.map_congr_left (g := id) (fun g hg => hit_sure (h2 g hg).2 0), List.map_id]
    rw [e1] at hc
    rw [openM_whole hc (fun g hg => by
      rw [List.mem_append, List.mem_singleton] at hg
      rcases hg with hg | rfl
      · exact (h2 g hg).1
      · exact whole_nil 0)]
    simp only [recsOf_app, recsOf_one, all_nil, List.append_nil]
    exact h3

end Go.Proofs.YtfabcpdljclkpaaDoor.WalMath
