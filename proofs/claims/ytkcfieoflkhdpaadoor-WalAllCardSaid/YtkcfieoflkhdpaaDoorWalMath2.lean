/-
  A row of appends, with nothing made sure but what is behind: the pieces; what a crash leaves.
-/
import Derived.Test.YtkcfieoflkhdpaaDoorWalBegun
namespace Go.Proofs.YtkcfieoflkhdpaaDoor.WalMath
open Go Go.RowKit MapS DiskMem DiskHit DiskBegin DiskOps DiskApp DiskCrash KeyMath WalDo WalWalk WalRead WalOpen WalBegun FrameMath
set_option maxRecDepth 100000

theorem enc_rows (l : List UInt8) : enc l = rows [l] := by simp [rows]
theorem rows_app (a c : List (List UInt8)) : rows (a ++ c) = rows a ++ rows c := by simp [rows]
theorem all_rows_ {R : List (List UInt8)} (h : ∀ r ∈ R, r.length ≤ 60000) : all (rows R) = R := by
  have := all_rows (ls := R) [] h
  rw [List.append_nil, all_nil, List.append_nil] at this
  exact this
theorem whole_rows {R : List (List UInt8)} (h : ∀ r ∈ R, r.length ≤ 60000) (n : Nat) : whole_ ⟨rows R, n⟩ := by
  unfold whole_
  simp only [all_rows_ h, rows_length]
theorem whole_nil (n : Nat) : whole_ ⟨[], n⟩ := whole_rows (R := []) (fun _ h => by cases h) n
/-- the pieces behind a crash that keeps nothing -/
theorem Pcs.crash0 {F : Fs} {b : UInt8} {fs : List FileT} (h : Pcs F b fs) : Pcs (crashF [] F) b (fs.map (hitF · 0)) := by
  refine ⟨by simpa using h.len, fun j hj => ?_, fun j hj hj9 => ?_⟩
  · rw [List.length_map] at hj
    rw [crash_zero, h.at_ j hj]
    simp
  · rw [List.length_map] at hj
    rw [crash_zero, h.no j hj hj9]
    rfl

/-- how far the pieces are: i records so far, 'last' bytes in the last piece, 'ahead' records ahead of it -/
structure PInv (fs : List FileT) (i pieces last ahead : Nat) : Prop where
  pieces : fs.length = pieces
  nil : fs = [] → i = 0 ∧ last = 0 ∧ ahead = 0
  more : ∀ gs f, fs = gs ++ [f] → f.b.length = last ∧ (∀ g ∈ gs, whole_ g ∧ g.sure = g.b.length) ∧ (recsOf gs).length = ahead ∧ f.sure = 0 ∧ ∃ R, f.b = rows R ∧ (∀ r ∈ R, r.length ≤ 60000) ∧ ahead + R.length = i
theorem PInv.begin : PInv [] 0 0 0 0 := ⟨rfl, fun _ => ⟨rfl, rfl, rfl⟩, fun gs f e => by simp at e⟩
theorem PInv.le {fs : List FileT} {i pieces last ahead : Nat} (h : PInv fs i pieces last ahead) (hc : pieces ≤ i) (n : Nat) (l : List UInt8) : (addP n fs l).length ≤ i + 1 := by
  have := (addP_len n fs l).1
  have := h.pieces
  omega
theorem app_inj {gs gs' : List FileT} {f f' : FileT} (h : gs ++ [f] = gs' ++ [f']) : gs = gs' ∧ f = f' := by
  have := List.append_inj' h rfl
  exact ⟨this.1, by simpa using this.2⟩
/-- a piece is begun -/
theorem PInv.next {fs : List FileT} {i pieces last ahead n : Nat} (h : PInv fs i pieces last ahead) (hn : pieces = 0 ∨ n ≤ last) {l : List UInt8} (hl : l.length ≤ 60000) : PInv (addP n fs l) (i + 1) (pieces + 1) (l.length + 6) i := by
  have hp := h.pieces
  rcases List.eq_nil_or_concat fs with rfl | ⟨gs, f, rfl⟩
  · obtain ⟨rfl, rfl, rfl⟩ := h.nil rfl
    rw [addP_nil]
    obtain rfl : pieces = 0 := hp.symm
    refine ⟨rfl, fun e => by simp at e, fun gs f e => ?_⟩
    obtain ⟨rfl, rfl⟩ := app_inj (gs := []) e
    exact ⟨by simp [enc_length], (fun g hg => nomatch hg), rfl, rfl, [l], enc_rows l, by simpa using hl, rfl⟩
  · rw [List.concat_eq_append] at h hp ⊢
    obtain ⟨h1, h2, h3, h4, R, h5, h6, h7⟩ := h.more gs f rfl
    have hn2 : n ≤ f.b.length := by
      rw [List.length_append, List.length_singleton] at hp
      omega
    rw [addP_next hn2]
    have hw : whole_ ⟨f.b, f.b.length⟩ := by rw [h5]; exact whole_rows h6 _
    have hrec : (recsOf (gs ++ [⟨f.b, f.b.length⟩])).length = i := by
      rw [recsOf_app, recsOf_one, List.length_append, h3, h5, all_rows_ h6, h7]
    refine ⟨by simp at hp ⊢; omega, fun e => by simp at e, fun gs' f' e => ?_⟩
    obtain ⟨rfl, rfl⟩ := app_inj e
    refine ⟨by simp [enc_length], fun g hg => ?_, hrec, rfl, [l], enc_rows l, by simpa using hl, rfl⟩
    rw [List.mem_append, List.mem_singleton] at hg
    rcases hg with hg | rfl
    · exact h2 g hg
    · exact ⟨hw, rfl⟩
/-- the last piece takes it -/
theorem PInv.same {fs : List FileT} {i pieces last ahead n : Nat} (h : PInv fs i pieces last ahead) (h0 : pieces ≠ 0) (hn : last < n) {l : List UInt8} (hl : l.length ≤ 60000) : PInv (addP n fs l) (i + 1) pieces (last + (l.length + 6)) ahead := by
  have hp := h.pieces
  rcases List.eq_nil_or_concat fs with rfl | ⟨gs, f, rfl⟩
  · exact absurd hp.symm h0
  · rw [List.concat_eq_append] at h hp ⊢
    obtain ⟨h1, h2, h3, h4, R, h5, h6, h7⟩ := h.more gs f rfl
    rw [addP_same (by omega)]
    refine ⟨by simp at hp ⊢; omega, fun e => by simp at e, fun gs' f' e => ?_⟩
    obtain ⟨rfl, rfl⟩ := app_inj e
    refine ⟨by simp [enc_length, h1], h2, h3, h4, R ++ [l], by rw [rows_app, ← enc_rows, h5], fun r hr => ?_, by rw [List.length_append, List.length_singleton]; omega⟩
    rw [List.mem_append, List.mem_singleton] at hr
    rcases hr with hr | rfl
    · exact h6 r hr
    · exact hl
/-- behind the crash all ahead of the last piece are there -/
theorem PInv.crash {F : Fs} {b : UInt8} {fs : List FileT} {i pieces last ahead : Nat} (h : PInv fs i pieces last ahead) (hp : Pcs F b fs) : (openM (crashF [] F) b).2.1.length = ahead := by
  have hc := hp.crash0
  rcases List.eq_nil_or_concat fs with rfl | ⟨gs, f, rfl⟩
  · rw [openM_whole hc (fun g hg => by cases hg)]
    exact (h.nil rfl).2.2.symm
  · rw [List.concat_eq_append] at h hc
    obtain ⟨h1, h2, h3, h4, R, h5, h6, h7⟩ := h.more gs f rfl
    have e1 : (gs ++ [f]).map (hitF · 0) = gs ++ [⟨[], 0⟩] := by
      rw [List.map_append, List.map_singleton, hit_none, h4, List.take_zero]
      congr 1
      rw [List.map_congr_left (g := id) (fun g hg => hit_sure (h2 g hg).2 0), List.map_id]
    rw [e1] at hc
    rw [openM_whole hc (fun g hg => by
      rw [List.mem_append, List.mem_singleton] at hg
      rcases hg with hg | rfl
      · exact (h2 g hg).1
      · exact whole_nil 0)]
    simp only [recsOf_app, recsOf_one, all_nil, List.append_nil]
    exact h3

end Go.Proofs.YtkcfieoflkhdpaaDoor.WalMath

/-
  What lies in the pieces, record by record.
-/
namespace Go.Proofs.YtkcfieoflkhdpaaDoor.WalMath
open Go Go.RowKit MapS DiskMem DiskHit DiskBegin DiskOps DiskApp DiskCrash KeyMath WalDo WalWalk WalRead WalOpen WalBegun FrameMath
set_option maxRecDepth 100000

/-- just these records lie in the pieces -/
structure AllIn (fs : List FileT) (ls : List (List UInt8)) : Prop where
  rows : ∀ g ∈ fs, ∃ R, g.b = rows R ∧ ∀ r ∈ R, r.length ≤ 60000
  recs : recsOf fs = ls
theorem AllIn.nil : AllIn [] [] := ⟨(fun _ hg => nomatch hg), rfl⟩
theorem AllIn.add {fs : List FileT} {ls : List (List UInt8)} (h : AllIn fs ls) (n : Nat) {l : List UInt8} (hl : l.length ≤ 60000) : AllIn (addP n fs l) (ls ++ [l]) := by
  have hone : ∃ R, enc l = FrameMath.rows R ∧ ∀ r ∈ R, r.length ≤ 60000 := ⟨[l], enc_rows l, by simpa using hl⟩
  rcases List.eq_nil_or_concat fs with rfl | ⟨gs, f, rfl⟩
  · rw [addP_nil, ← h.recs]
    refine ⟨fun g hg => ?_, ?_⟩
    · rw [List.mem_singleton] at hg
      subst hg
      exact hone
    · rw [recsOf_one]
      simp only [all_one hl]
      rfl
  · rw [List.concat_eq_append] at h ⊢
    obtain ⟨R, h1, h2⟩ := h.rows f (by simp)
    have h3 := h.recs
    rw [recsOf_app, recsOf_one, h1, all_rows_ h2] at h3
    by_cases hs : n ≤ f.b.length
    · rw [addP_next hs]
      refine ⟨fun g hg => ?_, ?_⟩
      · simp only [List.mem_append, List.mem_singleton] at hg
        rcases hg with (hg | rfl) | rfl
        · exact h.rows g (by simp [hg])
        · exact ⟨R, h1, h2⟩
        · exact hone
      · rw [recsOf_app, recsOf_app, recsOf_one, recsOf_one, h1, all_rows_ h2, h3]
        simp only [all_one hl]
    · rw [addP_same hs]
      have h4 : ∀ r ∈ R ++ [l], r.length ≤ 60000 := fun r hr => by
        rw [List.mem_append, List.mem_singleton] at hr
        rcases hr with hr | rfl
        · exact h2 r hr
        · exact hl
      have h5 : f.b ++ enc l = FrameMath.rows (R ++ [l]) := by rw [rows_app, ← enc_rows, h1]
      refine ⟨fun g hg => ?_, ?_⟩
      · simp only [List.mem_append, List.mem_singleton] at hg
        rcases hg with hg | rfl
        · exact h.rows g (by simp [hg])
        · exact ⟨R ++ [l], h5, h4⟩
      · rw [recsOf_app, recsOf_one]
        simp only [h5]
        rw [all_rows_ h4, ← List.append_assoc, h3]
theorem AllIn.whole {fs : List FileT} {ls : List (List UInt8)} (h : AllIn fs ls) : ∀ g ∈ fs, whole_ g := fun g hg => by
  obtain ⟨R, h1, h2⟩ := h.rows g hg
  unfold whole_
  rw [h1, all_rows_ h2, rows_length]
theorem AllIn.open {F : Fs} {b : UInt8} {fs : List FileT} {ls : List (List UInt8)} (h : AllIn fs ls) (hp : Pcs F b fs) : openM F b = (fs.length, ls, F) := by
  rw [openM_whole hp h.whole, h.recs]

end Go.Proofs.YtkcfieoflkhdpaaDoor.WalMath

/-
  Records that were made sure, and how many pieces their sizes make: what a run of deeds keeps.
-/
namespace Go.Proofs.YtkcfieoflkhdpaaDoor.WalMath
open Go Go.RowKit MapS DiskMem DiskHit DiskBegin DiskOps DiskApp DiskCrash KeyMath WalDo WalWalk WalRead WalOpen WalBegun FrameMath
set_option maxRecDepth 100000

/-- how many pieces sizes make, and how long the last one is -/
def cntS (n : Nat) (s : Nat × Nat) (l : List UInt8) : Nat × Nat := if s.1 = 0 ∨ n ≤ s.2 then (s.1 + 1, 6 + l.length) else (s.1, s.2 + 6 + l.length)
def cntL (n : Nat) (ls : List (List UInt8)) : Nat × Nat := ls.foldl (cntS n) (0, n)
theorem cntL_app (n : Nat) (a : List (List UInt8)) (l : List UInt8) : cntL n (a ++ [l]) = cntS n (cntL n a) l := by simp [cntL]
theorem cntL_take {n : Nat} {ls : List (List UInt8)} {k : Nat} (hk : k < ls.length) : cntL n (ls.take (k + 1)) = cntS n (cntL n (ls.take k)) ls[k] := by
  rw [List.take_succ_eq_append_getElem hk, cntL_app]

theorem cntL_le {n m : Nat} {ls : List (List UInt8)} (h : ∀ r ∈ ls, r.length ≤ m) : ∀ k, k ≤ ls.length → (cntL n (ls.take k)).1 ≤ k ∧ (cntL n (ls.take k)).2 ≤ n + (6 + m) * k
  | 0, _ => ⟨Nat.le_refl _, Nat.le_refl _⟩
  | k + 1, hk => by
    obtain ⟨h1, h2⟩ := cntL_le (n := n) h k (by omega)
    have h3 := h _ (List.getElem_mem (show k < ls.length by omega))
    rw [cntL_take (by omega)]
    unfold cntS
    rw [Nat.mul_add, Nat.mul_one]
    split
    · exact ⟨by simp only; omega, by simp only; omega⟩
    · exact ⟨by simp only; omega, by simp only; omega⟩

/-- the pieces ahead of the last one, and the records of the last one -/
structure CntOk (n : Nat) (gs : List FileT) (R : List (List UInt8)) : Prop where
  len : (cntL n (recsOf gs)).1 = gs.length
  full : gs = [] ∨ n ≤ (cntL n (recsOf gs)).2
  low : ∀ j, j < R.length → fspan (R.take j) < n
theorem fspan_app (a : List (List UInt8)) (l : List UInt8) : fspan (a ++ [l]) = fspan a + 6 + l.length := by rw [size_append]; simp [fspan]; omega
theorem CntOk.run {n : Nat} {gs : List FileT} {R : List (List UInt8)} (h : CntOk n gs R) : ∀ j, j < R.length → cntL n (recsOf gs ++ R.take (j + 1)) = (gs.length + 1, fspan (R.take (j + 1)))
  | 0, hj => by
    rw [List.take_succ_eq_append_getElem hj, List.take_zero, List.nil_append, cntL_app]
    unfold cntS
    have h1 := h.len
    rw [if_pos (by
      rcases h.full with e | e
      · subst e; left; rw [h1]; rfl
      · exact .inr e), h1]
    simp [fspan]
    omega
  | j + 1, hj => by
    have ih := CntOk.run h j (by omega)
    rw [List.take_succ_eq_append_getElem hj, ← List.append_assoc, cntL_app, ih]
    unfold cntS
    have := h.low (j + 1) hj
    rw [if_neg (by simp only; omega), fspan_app]
theorem CntOk.all {n : Nat} {gs : List FileT} {R : List (List UInt8)} (h : CntOk n gs R) (hR : R ≠ []) : cntL n (recsOf gs ++ R) = (gs.length + 1, fspan R) := by
  have h0 := List.length_pos_iff.2 hR
  have := h.run (R.length - 1) (by omega)
  rw [Nat.sub_add_cancel h0, List.take_length] at this
  exact this
theorem CntOk.le {n : Nat} {gs : List FileT} {R : List (List UInt8)} (h : CntOk n gs R) : (cntL n (recsOf gs ++ R)).1 ≤ gs.length + 1 := by
  by_cases hR : R = []
  · subst hR; rw [List.append_nil, h.len]; omega
  · rw [h.all hR]; exact Nat.le_refl _
theorem CntOk.front {n : Nat} {gs : List FileT} {R : List (List UInt8)} (h : CntOk n gs R) (k : Nat) : CntOk n gs (R.take k) :=
  ⟨h.len, h.full, fun j hj => by
    rw [List.length_take] at hj
    rw [List.take_take, Nat.min_eq_left (by omega)]
    exact h.low j (by omega)⟩

theorem whole_mono (R : List (List UInt8)) {a b : Nat} (h : a ≤ b) : whole R a ≤ whole R b := by
  have hk := whole_le R a
  have h1 := (ends_le R a (whole R a) hk).2 (Nat.le_refl _)
  exact (ends_le R b (whole R a) hk).1 (Nat.le_trans h1 h)
theorem whole_more (R : List (List UInt8)) (l : List UInt8) (a : Nat) : whole R a ≤ whole (R ++ [l]) a := by
  have hk := whole_le R a
  have h1 := (ends_le R a (whole R a) hk).2 (Nat.le_refl _)
  refine (ends_le (R ++ [l]) a (whole R a) (by simp; omega)).1 ?_
  rw [List.take_append_of_le_length hk]
  exact h1
theorem whole_all (R : List (List UInt8)) : whole R (fspan R) = R.length := by
  refine Nat.le_antisymm (whole_le _ _) ((ends_le R (fspan R) R.length (Nat.le_refl _)).1 ?_)
  rw [List.take_length]
  exact Nat.le_refl _

/-- what a run of deeds keeps: n: how long a piece is; ls: all that is there; sure: how many of it are sure -/
structure AInv (n : Nat) (fs : List FileT) (ls : List (List UInt8)) (sure : Nat) : Prop where
  nil : fs = [] → ls = [] ∧ sure = 0
  more : ∀ gs f, fs = gs ++ [f] → (∀ g ∈ gs, whole_ g ∧ g.sure = g.b.length) ∧ ∃ R, f.b = rows R ∧ (∀ r ∈ R, r.length ≤ 60000) ∧ recsOf gs ++ R = ls ∧ f.sure ≤ f.b.length ∧ sure ≤ (recsOf gs).length + whole R f.sure ∧ CntOk n gs R
theorem AInv.begin (n : Nat) : AInv n [] [] 0 := ⟨fun _ => ⟨rfl, rfl⟩, fun gs f e => by simp at e⟩
theorem AInv.sure_le {n : Nat} {fs : List FileT} {ls : List (List UInt8)} {sure : Nat} (h : AInv n fs ls sure) : sure ≤ ls.length := by
  rcases List.eq_nil_or_concat fs with rfl | ⟨gs, f, rfl⟩
  · obtain ⟨rfl, rfl⟩ := h.nil rfl
    exact Nat.le_refl _
  · rw [List.concat_eq_append] at h
    obtain ⟨_, R, _, _, rfl, _, h5, _⟩ := h.more gs f rfl
    have := whole_le R f.sure
    rw [List.length_append]
    omega
theorem AInv.cnt {n : Nat} {fs : List FileT} {ls : List (List UInt8)} {sure : Nat} (h : AInv n fs ls sure) : (cntL n ls).1 ≤ fs.length := by
  rcases List.eq_nil_or_concat fs with rfl | ⟨gs, f, rfl⟩
  · obtain ⟨rfl, rfl⟩ := h.nil rfl
    exact Nat.le_refl _
  · rw [List.concat_eq_append] at h ⊢
    obtain ⟨_, R, _, _, rfl, _, _, h6⟩ := h.more gs f rfl
    rw [List.length_append]
    exact h6.le
theorem AInv.ends {n : Nat} {fs : List FileT} {ls : List (List UInt8)} {sure : Nat} (h : AInv n fs ls sure) : ∀ g ∈ fs, whole_ g := by
  intro g hg
  rcases List.eq_nil_or_concat fs with rfl | ⟨gs, f, rfl⟩
  · cases hg
  · rw [List.concat_eq_append] at h hg
    obtain ⟨h1, R, h2, h3, _⟩ := h.more gs f rfl
    rw [List.mem_append, List.mem_singleton] at hg
    rcases hg with hg | rfl
    · exact (h1 g hg).1
    · unfold whole_
      rw [h2, all_rows_ h3, rows_length]
theorem AInv.recs {n : Nat} {fs : List FileT} {ls : List (List UInt8)} {sure : Nat} (h : AInv n fs ls sure) : recsOf fs = ls := by
  rcases List.eq_nil_or_concat fs with rfl | ⟨gs, f, rfl⟩
  · exact (h.nil rfl).1.symm
  · rw [List.concat_eq_append] at h ⊢
    obtain ⟨h1, R, h2, h3, h4, _⟩ := h.more gs f rfl
    rw [recsOf_app, recsOf_one, h2, all_rows_ h3, h4]
/-- opened anew -/
theorem AInv.open {n : Nat} {F : Fs} {b : UInt8} {fs : List FileT} {ls : List (List UInt8)} {sure : Nat} (h : AInv n fs ls sure) (hp : Pcs F b fs) : openM F b = (fs.length, ls, F) := by
  rw [openM_whole hp h.ends, h.recs]
/-- a record more -/
theorem AInv.add {n : Nat} {fs : List FileT} {ls : List (List UInt8)} {sure : Nat} (h : AInv n fs ls sure) (hn : 1 ≤ n) {l : List UInt8} (hl : l.length ≤ 60000) : AInv n (addP n fs l) (ls ++ [l]) sure := by
  have hlow : ∀ j, j < [l].length → fspan (([l] : List (List UInt8)).take j) < n := fun j hj => by
    have : j = 0 := by simpa using hj
    subst this
    simp [fspan]
    omega
  have hone : ∀ r ∈ [l], r.length ≤ 60000 := by simpa using hl
  rcases List.eq_nil_or_concat fs with rfl | ⟨gs, f, rfl⟩
  · obtain ⟨rfl, rfl⟩ := h.nil rfl
    rw [addP_nil]
    refine ⟨fun e => by simp at e, fun gs f e => ?_⟩
    obtain ⟨rfl, rfl⟩ := app_inj (gs := []) e
    exact ⟨fun g hg => (nomatch hg), [l], enc_rows l, hone, rfl, Nat.zero_le _, Nat.zero_le _, rfl, .inl rfl, hlow⟩
  · rw [List.concat_eq_append] at h ⊢
    obtain ⟨h1, R, h2, h3, h4, h5, h6, h7⟩ := h.more gs f rfl
    by_cases hs : n ≤ f.b.length
    · rw [addP_next hs]
      have hw : whole_ ⟨f.b, f.b.length⟩ := by rw [h2]; exact whole_rows h3 _
      have hrec : recsOf (gs ++ [⟨f.b, f.b.length⟩]) = ls := by rw [recsOf_app, recsOf_one, h2, all_rows_ h3, h4]
      have hR : R ≠ [] := fun e => by subst e; rw [h2] at hs; simp [rows] at hs; omega
      refine ⟨fun e => by simp at e, fun gs' f' e => ?_⟩
      obtain ⟨rfl, rfl⟩ := app_inj e
      refine ⟨fun g hg => ?_, [l], enc_rows l, hone, by rw [hrec], Nat.zero_le _, ?_, ?_, ?_, hlow⟩
      · rw [List.mem_append, List.mem_singleton] at hg
        rcases hg with hg | rfl
        · exact h1 g hg
        · exact ⟨hw, rfl⟩
      · rw [hrec]; have := h.sure_le; omega
      · rw [hrec, ← h4, h7.all hR]; simp
      · right
        rw [hrec, ← h4, h7.all hR]
        rw [h2, rows_length] at hs
        exact hs
    · rw [addP_same hs]
      refine ⟨fun e => by simp at e, fun gs' f' e => ?_⟩
      obtain ⟨rfl, rfl⟩ := app_inj e
      refine ⟨h1, R ++ [l], by rw [rows_app, ← enc_rows, h2], fun r hr => ?_, by rw [← List.append_assoc, h4], by simp; omega, ?_, h7.len, h7.full, fun j hj => ?_⟩
      · rw [List.mem_append, List.mem_singleton] at hr
        rcases hr with hr | rfl
        · exact h3 r hr
        · exact hl
      · have := whole_more R l f.sure
        simp only
        omega
      · rw [List.length_append, List.length_singleton] at hj
        rw [List.take_append_of_le_length (by omega)]
        rcases Nat.lt_or_ge j R.length with hj2 | hj2
        · exact h7.low j hj2
        · rw [List.take_of_length_le hj2, ← rows_length, ← h2]
          omega
/-- all is made sure -/
theorem AInv.sync {n : Nat} {gs : List FileT} {f : FileT} {ls : List (List UInt8)} {sure : Nat} (h : AInv n (gs ++ [f]) ls sure) : AInv n (gs ++ [⟨f.b, f.b.length⟩]) ls ls.length := by
  obtain ⟨h1, R, h2, h3, h4, h5, h6, h7⟩ := h.more gs f rfl
  refine ⟨fun e => by simp at e, fun gs' f' e => ?_⟩
  obtain ⟨rfl, rfl⟩ := app_inj e
  refine ⟨h1, R, h2, h3, h4, Nat.le_refl _, ?_, h7⟩
  rw [h2, rows_length, whole_all, ← h4, List.length_append]
  exact Nat.le_refl _
theorem put_len {s : List UInt8} {x y : FileT} {G : Fs} (hG : Ris G) (hx : getE G s = some x) : (putE s y G).length = G.length := by
  obtain ⟨l, r, rfl⟩ := List.append_of_mem ((mem_getE hG).1 hx)
  rw [put_split hG]
  simp
theorem rows_take {R : List (List UInt8)} {k : Nat} : (rows R).take (fspan (R.take k)) = rows (R.take k) := by
  have h : rows R = rows (R.take k) ++ rows (R.drop k) := by rw [← rows_app, List.take_append_drop]
  rw [h, ← rows_length, List.take_left]
/-- a crash, and opened anew -/
theorem AInv.crash {n : Nat} {F : Fs} {b : UInt8} {fs : List FileT} {ls : List (List UInt8)} {sure : Nat} (h : AInv n fs ls sure) (hr : Ris F) (hp : Pcs F b fs) (zs : List Int) :
    ∃ (F' : Fs) (fs' : List FileT) (k : Nat), openM (crashF zs F) b = (fs.length, ls.take k, F') ∧ fs'.length = fs.length ∧ sure ≤ k ∧ k ≤ ls.length ∧ AInv n fs' (ls.take k) k ∧ Pcs F' b fs' ∧ Ris F' ∧ usedF F' ≤ usedF F ∧ F'.length ≤ F.length := by
  have hrc := crash_ris zs F hr
  have hus := crash_used zs F
  have hln : ∀ (zs : List Int) (F : Fs), (crashF zs F).length = F.length := by
    intro zs F
    induction F generalizing zs with
    | nil => rfl
    | cons p r ih => simp only [crashF, List.length_cons, ih]
  rcases List.eq_nil_or_concat fs with rfl | ⟨gs, f, rfl⟩
  · obtain ⟨rfl, rfl⟩ := h.nil rfl
    have hp' : Pcs (crashF zs F) b [] := ⟨hp.len, fun j hj => absurd hj (by simp), fun j hj hj9 => by
      obtain ⟨z, hz⟩ := crash_get zs F (pieceL b (j + 1))
      rw [hz, hp.no j hj hj9]; rfl⟩
    exact ⟨_, [], 0, by rw [openM_whole hp' (fun g hg => nomatch hg)]; rfl, rfl, Nat.le_refl _, Nat.le_refl _, AInv.begin n, hp', hrc, hus, Nat.le_of_eq (hln _ _)⟩
  · rw [List.concat_eq_append] at h hp ⊢
    obtain ⟨h1, R, h2, h3, h4, h5, h6, h7⟩ := h.more gs f rfl
    obtain ⟨z, hz⟩ := crash_get zs F (pieceL b (gs.length + 1))
    rw [hp.at_ gs.length (by simp)] at hz
    simp only [List.getElem_concat_length, Option.map_some] at hz
    obtain ⟨m, hm⟩ : ∃ m, f.sure + min z.toNat (f.b.length - f.sure) = m := ⟨_, rfl⟩
    have hm1 : f.sure ≤ m := by omega
    have hm2 : m ≤ f.b.length := by omega
    unfold hitF at hz
    rw [hm] at hz
    clear hm
    have hlen := hp.len
    rw [List.length_append, List.length_singleton] at hlen
    have hp' : Pcs (crashF zs F) b (gs ++ [⟨f.b.take m, m⟩]) := by
      refine ⟨by simpa using hlen, fun j hj => ?_, fun j hj hj9 => ?_⟩
      · rw [List.length_append, List.length_singleton] at hj
        rcases Nat.lt_or_ge j gs.length with hj2 | hj2
        · obtain ⟨z2, hz2⟩ := crash_get zs F (pieceL b (j + 1))
          rw [hp.at_ j (by simp; omega), List.getElem_append_left hj2, Option.map_some, hit_sure (h1 _ (List.getElem_mem hj2)).2] at hz2
          rw [hz2, List.getElem_append_left hj2]
        · obtain rfl : j = gs.length := by omega
          rw [hz]
          simp
      · obtain ⟨z2, hz2⟩ := crash_get zs F (pieceL b (j + 1))
        rw [hz2, hp.no j (by simpa using hj) hj9]
        rfl
    have hall : all (f.b.take m) = R.take (whole R m) := by rw [h2]; exact all_cut R m h3
    have hkR := whole_le R m
    have hmono := whole_mono R hm1
    have hend := (ends_le R m (whole R m) hkR).2 (Nat.le_refl _)
    generalize whole R m = k at hall hkR hmono hend
    have hml : (f.b.take m).length = m := by rw [List.length_take]; omega
    have hrec : recsOf (gs ++ [⟨f.b.take m, m⟩]) = ls.take ((recsOf gs).length + k) := by
      rw [recsOf_app, recsOf_one]
      simp only [hall]
      rw [← h4, List.take_append, List.take_of_length_le (l := recsOf gs) (Nat.le_add_right _ _), Nat.add_sub_cancel_left]
    have h3' : ∀ r ∈ R.take k, r.length ≤ 60000 := fun r hr => h3 r (List.mem_of_mem_take hr)
    have hfs : f.b.take (fspan (R.take k)) = rows (R.take k) := by rw [h2]; exact rows_take
    have hkl : (R.take k).length = k := by rw [List.length_take]; omega
    have hinv : AInv n (gs ++ [⟨rows (R.take k), fspan (R.take k)⟩]) (ls.take ((recsOf gs).length + k)) ((recsOf gs).length + k) := by
      refine ⟨fun e => by simp at e, fun gs' f' e => ?_⟩
      obtain ⟨rfl, rfl⟩ := app_inj e
      refine ⟨h1, R.take k, rfl, h3', ?_, by rw [rows_length]; exact Nat.le_refl _, ?_, h7.front k⟩
      · rw [← h4, List.take_append, List.take_of_length_le (l := recsOf gs) (Nat.le_add_right _ _), Nat.add_sub_cancel_left]
      · rw [whole_all, hkl]; exact Nat.le_refl _
    have hls : (recsOf gs).length + k ≤ ls.length := by rw [← h4, List.length_append]; omega
    by_cases hw : whole_ ⟨f.b.take m, m⟩
    · have hsm : fspan (R.take k) = m := by
        have h8 := hw
        unfold whole_ at h8
        simp only [hall, hml] at h8
        exact h8
      refine ⟨crashF zs F, gs ++ [⟨f.b.take m, m⟩], (recsOf gs).length + k, ?_, by simp, by omega, hls, ?_, hp', hrc, hus, Nat.le_of_eq (hln _ _)⟩
      · rw [openM_whole hp' (fun g hg => by
          rw [List.mem_append, List.mem_singleton] at hg
          rcases hg with hg | rfl
          · exact (h1 g hg).1
          · exact hw), hrec]
        simp
      · rw [hsm] at hfs hinv
        rw [hfs]
        exact hinv
    · have hz' : getE (crashF zs F) (pieceL b (gs.length + 1)) = some ⟨f.b.take m, m⟩ := hz
      have hcut : (f.b.take m).take (fspan (R.take k)) = rows (R.take k) := by rw [List.take_take, Nat.min_eq_left hend, hfs]
      have ho := openM_part hrc hp' (fun g hg => (h1 g hg).1) hw
      have hpp := hp'.put hrc ⟨rows (R.take k), fspan (R.take k)⟩
      simp only [hall, hcut] at ho
      refine ⟨_, gs ++ [⟨rows (R.take k), fspan (R.take k)⟩], (recsOf gs).length + k, by rw [ho, hrec]; simp, by simp, by omega, hls, hinv, hpp, hrc.put _ _, ?_, ?_⟩
      · have := put_used hrc (pieceL b (gs.length + 1)) ⟨rows (R.take k), fspan (R.take k)⟩
        rw [hz'] at this
        simp only [Option.getD_some, hml, rows_length] at this
        omega
      · rw [put_len hrc hz', hln]
        exact Nat.le_refl _

end Go.Proofs.YtkcfieoflkhdpaaDoor.WalMath
