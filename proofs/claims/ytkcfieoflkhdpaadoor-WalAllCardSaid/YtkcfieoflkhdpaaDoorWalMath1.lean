/-
  What Open, Append and Sync make of a letter's pieces.
-/
import Derived.Test.YtkcfieoflkhdpaaDoorWalOpen
namespace Go.Proofs.YtkcfieoflkhdpaaDoor.WalMath
open Go Go.RowKit MapS DiskMem DiskHit DiskBegin DiskOps DiskApp DiskCrash KeyMath WalDo WalWalk WalRead WalOpen FrameMath
set_option maxRecDepth 100000

/-! the disk's words -/
theorem app_no {room : Nat} {F : Fs} {s : ByteArray} {l : List UInt8} (h : mayK s = true) (hr : room < usedF F + l.length) : appendF room F s l = (3, F) := by unfold appendF; rw [if_pos h, if_pos hr]
theorem app_yes {room : Nat} {F : Fs} {s : ByteArray} {l : List UInt8} (h : mayK s = true) (hr : usedF F + l.length ≤ room) : appendF room F s l = (0, putE s.data.toList ⟨((getE F s.data.toList).getD f0).b ++ l, ((getE F s.data.toList).getD f0).sure⟩ F) := by
  unfold appendF
  rw [if_pos h, if_neg (by omega)]
theorem put_used_new {F : Fs} {s : List UInt8} (hs : getE F s = none) (f : FileT) : usedF (putE s f F) = usedF F + f.b.length := by
  obtain ⟨l, r, rfl, e⟩ := put_new (y := f) hs
  rw [e, usedF_app, usedF_cons, usedF_app]
  simp only
  omega
theorem put_used {F : Fs} (hr : Ris F) (s : List UInt8) (f : FileT) : usedF (putE s f F) + ((getE F s).getD f0).b.length = usedF F + f.b.length := by
  cases h : getE F s with
  | none =>
    rw [put_used_new h]
    simp [f0]
  | some g =>
    have hm : (s, g) ∈ F := (mem_getE hr).1 h
    obtain ⟨l, r, rfl⟩ := List.append_of_mem hm
    rw [put_split hr, usedF_app, usedF_app, usedF_cons, usedF_cons]
    simp
    omega
theorem crash_used : ∀ (zs : List Int) (F : Fs), usedF (crashF zs F) ≤ usedF F
  | _, [] => Nat.le_refl _
  | zs, p :: r => by
    have h1 := crash_used zs.tail r
    simp only [crashF, usedF_cons]
    have : (hitF p.2 (zs.headD 0)).b.length ≤ p.2.b.length := by simp [hitF]; omega
    omega
theorem crash_ris : ∀ (zs : List Int) (F : Fs), Ris F → Ris (crashF zs F) := by
  intro zs F h
  have e : ∀ (zs : List Int) (F : Fs), (crashF zs F).map (·.1) = F.map (·.1) := by
    intro zs F
    induction F generalizing zs with
    | nil => rfl
    | cons p r ih => simp only [crashF, List.map_cons, ih]
  have h2 : (F.map (·.1)).Pairwise fun p q => bytesBefore p q = true := List.pairwise_map.2 h
  rw [← e zs F] at h2
  exact List.pairwise_map.1 h2
theorem crash_get : ∀ (zs : List Int) (F : Fs) (s : List UInt8), ∃ z, getE (crashF zs F) s = (getE F s).map (hitF · z)
  | _, [], _ => ⟨0, rfl⟩
  | zs, p :: r, s => by
    by_cases e : p.1 = s
    · exact ⟨zs.headD 0, by simp [crashF, getE, e]⟩
    · obtain ⟨z, hz⟩ := crash_get zs.tail r s
      refine ⟨z, ?_⟩
      unfold getE at hz ⊢
      simp only [crashF, List.find?_cons, beq_eq_false_iff_ne.2 e]
      exact hz
theorem crash_zero : ∀ (F : Fs) (s : List UInt8), getE (crashF [] F) s = (getE F s).map (hitF · 0)
  | [], _ => rfl
  | p :: r, s => by
    by_cases e : p.1 = s
    · simp [crashF, getE, e]
    · have hz := crash_zero r s
      unfold getE at hz ⊢
      simp only [crashF, List.find?_cons, beq_eq_false_iff_ne.2 e, List.tail_nil]
      exact hz
theorem hit_sure {f : FileT} (h : f.sure = f.b.length) (z : Int) : hitF f z = f := by
  unfold hitF
  rw [h]
  simp
  cases f
  simp_all
theorem hit_none (f : FileT) : hitF f 0 = ⟨f.b.take f.sure, f.sure⟩ := by
  unfold hitF
  simp

/-! names -/
theorem mayK_piece {b : UInt8} (hb : 97 ≤ b.toNat ∧ b.toNat ≤ 122) (i : Nat) : mayK (pname b i) = true := by
  unfold mayK
  rw [pname_size, pname_list]
  have := (pieceL_ok hb i).2.2
  simp only [decide_true, Bool.true_and, Nat.reduceLeDiff, List.all_eq_true]
  intro c hc
  have h1 := this c hc
  unfold okB
  simp
  omega

/-! a letter's pieces -/
structure Pcs (F : Fs) (b : UInt8) (fs : List FileT) : Prop where
  len : fs.length ≤ 9999
  at_ : ∀ j (h : j < fs.length), getE F (pieceL b (j + 1)) = some fs[j]
  no : ∀ j, fs.length ≤ j → j < 9999 → getE F (pieceL b (j + 1)) = none
def whole_ (f : FileT) : Prop := fspan (all f.b) = f.b.length
def recsOf (fs : List FileT) : List (List UInt8) := fs.flatMap fun f => all f.b
theorem recsOf_app (a c : List FileT) : recsOf (a ++ c) = recsOf a ++ recsOf c := by simp [recsOf]
theorem recsOf_one (f : FileT) : recsOf [f] = all f.b := by simp [recsOf]

theorem walkS_to {c : Nat → Int} : ∀ (n i k : Nat), k - i = n → i ≤ k → k ≤ 10000 → (∀ j, i ≤ j → j < k → c j = 0) → (k ≤ 9999 → c k ≠ 0) → walkS c i = (k, if k ≤ 9999 then c k else 6) := by
  intro n
  induction n with
  | zero =>
    intro i k hn hi hk h0 h1
    obtain rfl : i = k := by omega
    by_cases h9 : i ≤ 9999
    · rw [walkS_stop h9 (h1 h9), if_pos h9]
    · obtain rfl : i = 10000 := by omega
      rw [walkS_end (by omega), if_neg (by omega)]
  | succ n ih =>
    intro i k hn hi hk h0 h1
    rw [walkS_on (by omega) (h0 i (Nat.le_refl _) (by omega))]
    exact ih (i + 1) k (by omega) (by omega) hk (fun j hj hjk => h0 j (by omega) hjk) h1
section
variable {F : Fs} {b : UInt8} {fs : List FileT} {f : FileT}
theorem Pcs.rc (h : Pcs F b fs) : ∀ t, t ≤ fs.length → WalOpen.rc F b t = recsOf (fs.take t)
  | 0, _ => rfl
  | t + 1, ht => by
    have h1 := Pcs.rc h t (by omega)
    have h2 := h.at_ t (by omega)
    simp only [WalOpen.rc, h1, recsR, h2]
    rw [List.take_succ_eq_append_getElem (by omega), recsOf_app, recsOf_one]
theorem readC_whole (h : Pcs F b fs) {j : Nat} (hj : j < fs.length) (hw : whole_ fs[j]) : readC F b (j + 1) = 0 := by
  unfold readC codeR
  rw [h.at_ j hj]
  exact if_pos hw
theorem readC_part (h : Pcs F b fs) {j : Nat} (hj : j < fs.length) (hw : ¬ whole_ fs[j]) : readC F b (j + 1) = 2 := by
  unfold readC codeR
  rw [h.at_ j hj]
  exact if_neg hw
theorem readC_no (h : Pcs F b fs) {j : Nat} (hj : fs.length ≤ j) (hj9 : j < 9999) : readC F b (j + 1) = 6 := by
  unfold readC codeR
  rw [h.no j hj hj9]
/-- all pieces are frames to their end -/
theorem openM_whole (h : Pcs F b fs) (hw : ∀ g ∈ fs, whole_ g) : openM F b = (fs.length, recsOf fs, F) := by
  have hl := h.len
  have hk : walkS (readC F b) 1 = (fs.length + 1, 6) := by
    rw [walkS_to fs.length 1 (fs.length + 1) (by omega) (by omega) (by omega) (fun j hj hjk => ?_) (fun h9 => ?_)]
    · split
      · rw [readC_no h (Nat.le_refl _) (by omega)]
      · rfl
    · obtain ⟨i, rfl⟩ : ∃ i, j = i + 1 := ⟨j - 1, by omega⟩
      exact readC_whole h (by omega) (hw _ (List.getElem_mem _))
    · rw [readC_no h (Nat.le_refl _) (by omega)]
      decide
  unfold openM
  rw [hk, if_neg (fun e => by cases e)]
  simp only [Nat.add_sub_cancel]
  rw [h.rc _ (Nat.le_refl _), List.take_length]
theorem allK_le (l : List UInt8) : ¬ (allK l < 0 ∨ (l.length : Int) < allK l) := by
  have := all_span l
  unfold allK
  omega
/-- a piece is put anew -/
theorem Pcs.put (hr : Ris F) (h : Pcs F b (fs ++ [f])) (g : FileT) : Pcs (putE (pieceL b (fs.length + 1)) g F) b (fs ++ [g]) := by
  have hl := h.len
  rw [List.length_append, List.length_singleton] at hl
  refine ⟨by simpa using hl, fun j hj => ?_, fun j hj hj9 => ?_⟩
  · rw [List.length_append, List.length_singleton] at hj
    rw [getE_put hr]
    by_cases e : j = fs.length
    · subst e
      rw [if_pos rfl]
      simp
    · rw [if_neg (fun e2 => e (by have := (pieceL_inj (by omega) (by omega) e2).2; omega)), h.at_ j (by rw [List.length_append, List.length_singleton]; omega), List.getElem_append_left (by omega), List.getElem_append_left (by omega)]
  · rw [List.length_append, List.length_singleton] at hj
    rw [getE_put hr, if_neg (fun e2 => by have := (pieceL_inj (by omega) (by omega) e2).2; omega), h.no j (by rw [List.length_append, List.length_singleton]; omega) hj9]
/-- a piece more -/
theorem Pcs.more (hr : Ris F) (h : Pcs F b fs) (hl : fs.length < 9999) (g : FileT) : Pcs (putE (pieceL b (fs.length + 1)) g F) b (fs ++ [g]) := by
  refine ⟨by rw [List.length_append, List.length_singleton]; omega, fun j hj => ?_, fun j hj hj9 => ?_⟩
  · rw [List.length_append, List.length_singleton] at hj
    rw [getE_put hr]
    by_cases e : j = fs.length
    · subst e
      rw [if_pos rfl]
      simp
    · rw [if_neg (fun e2 => e (by have := (pieceL_inj (by omega) (by omega) e2).2; omega)), h.at_ j (by omega), List.getElem_append_left (by omega)]
  · rw [List.length_append, List.length_singleton] at hj
    rw [getE_put hr, if_neg (fun e2 => by have := (pieceL_inj (by omega) (by omega) e2).2; omega), h.no j (by omega) hj9]
/-- another letter's pieces don't meet these -/
theorem Pcs.other (hr : Ris F) {c : UInt8} (hc : c ≠ b) (h : Pcs F c fs) {i : Nat} (hi : i ≤ 9999) (g : FileT) : Pcs (putE (pieceL b i) g F) c fs := by
  have hl := h.len
  refine ⟨h.len, fun j hj => ?_, fun j hj hj9 => ?_⟩
  · rw [getE_put hr, if_neg (fun e => hc (pieceL_inj (by omega) hi e).1)]
    exact h.at_ j hj
  · rw [getE_put hr, if_neg (fun e => hc (pieceL_inj (by omega) hi e).1)]
    exact h.no j hj hj9
/-- the last piece is not frames to its end -/
theorem openM_part (hr : Ris F) (h : Pcs F b (fs ++ [f])) (hw : ∀ g ∈ fs, whole_ g) (hf : ¬ whole_ f) :
    openM F b = (fs.length + 1, recsOf (fs ++ [f]), putE (pieceL b (fs.length + 1)) ⟨f.b.take (fspan (all f.b)), fspan (all f.b)⟩ F) := by
  have hl := h.len
  rw [List.length_append, List.length_singleton] at hl
  have hlen : (fs ++ [f]).length = fs.length + 1 := by simp
  have hk : walkS (readC F b) 1 = (fs.length + 1, 2) := by
    have h2 : readC F b (fs.length + 1) = 2 := readC_part h (j := fs.length) (by omega) (by simpa using hf)
    rw [walkS_to fs.length 1 (fs.length + 1) (by omega) (by omega) (by omega) (fun j hj hjk => ?_) (fun h9 => by rw [h2]; decide), if_pos (by omega), h2]
    obtain ⟨i, rfl⟩ : ∃ i, j = i + 1 := ⟨j - 1, by omega⟩
    refine readC_whole h (by omega) ?_
    rw [List.getElem_append_left (by omega)]
    exact hw _ (List.getElem_mem _)
  have hcut : cutR F (pieceL b (fs.length + 1)) = putE (pieceL b (fs.length + 1)) ⟨f.b.take (fspan (all f.b)), fspan (all f.b)⟩ F := by
    unfold cutR
    rw [h.at_ fs.length (by omega)]
    simp only [List.getElem_concat_length]
    rw [if_neg (show ¬ fspan (all f.b) = f.b.length from hf)]
    unfold cutF
    rw [h.at_ fs.length (by omega)]
    simp only [List.getElem_concat_length]
    rw [if_neg (allK_le f.b)]
    rfl
  have hp := h.put hr ⟨f.b.take (fspan (all f.b)), fspan (all f.b)⟩
  unfold openM
  rw [hk, if_pos rfl]
  simp only [hcut]
  rw [h.rc _ (by omega), List.take_of_length_le (by omega)]
  congr 2
  unfold rmTo
  by_cases h9 : fs.length + 2 ≤ 9999
  · have h6 : rmC (putE (pieceL b (fs.length + 1)) ⟨f.b.take (fspan (all f.b)), fspan (all f.b)⟩ F) b (fs.length + 1 + 1) (fs.length + 1 + 1) = 6 := by
      unfold rmC
      rw [Nat.sub_self]
      unfold rm removeF
      rw [hp.no (fs.length + 1) (by simp) (by omega)]
    rw [walkS_stop h9 (by rw [h6]; decide), Nat.sub_self]
    rfl
  · rw [walkS_end (by omega)]
    have : 10000 - (fs.length + 1 + 1) = 0 := by omega
    simp only [this]
    rfl

/-- what Append makes of a letter's pieces -/
def addP (size : Nat) (fs : List FileT) (l : List UInt8) : List FileT :=
  match fs.getLast? with
  | none => [⟨enc l, 0⟩]
  | some f => if size ≤ f.b.length then fs.dropLast ++ [⟨f.b, f.b.length⟩] ++ [⟨enc l, 0⟩] else fs.dropLast ++ [⟨f.b ++ enc l, f.sure⟩]
theorem addP_nil (size : Nat) (l : List UInt8) : addP size [] l = [⟨enc l, 0⟩] := rfl
theorem addP_next {size : Nat} {l : List UInt8} (hs : size ≤ f.b.length) : addP size (fs ++ [f]) l = fs ++ [⟨f.b, f.b.length⟩] ++ [⟨enc l, 0⟩] := by simp [addP, hs]
theorem addP_same {size : Nat} {l : List UInt8} (hs : ¬ size ≤ f.b.length) : addP size (fs ++ [f]) l = fs ++ [⟨f.b ++ enc l, f.sure⟩] := by simp [addP, hs]

/-- what has become of the disk -/
structure Added (room : Nat) (F F' : Fs) (b : UInt8) (size : Nat) (fs : List FileT) (l : List UInt8) : Prop where
  pcs : Pcs F' b (addP size fs l)
  ris : Ris F'
  used : usedF F' = usedF F + (l.length + 6)
  len : F'.length ≤ F.length + 1
  other : ∀ (c : UInt8) (gs : List FileT), c ≠ b → Pcs F c gs → Pcs F' c gs
theorem sync_last (h : Pcs F b (fs ++ [f])) : syncW F b (fs.length + 1) = (0, putE (pieceL b (fs.length + 1)) ⟨f.b, f.b.length⟩ F) := by
  unfold syncW
  rw [if_neg (by omega)]
  unfold syncF
  rw [h.at_ fs.length (by simp)]
  simp
theorem append_same {room size : Nat} {l : List UInt8} (hb : 97 ≤ b.toNat ∧ b.toNat ≤ 122) (hr : Ris F) (h : Pcs F b (fs ++ [f])) (hl : l.length ≤ 60000) (hs : ¬ size ≤ f.b.length) (hroom : usedF F + (l.length + 6) ≤ room) :
    ∃ F', appendW room F b size (fs.length + 1) l = (0, F', fs.length + 1) ∧ Added room F F' b size (fs ++ [f]) l := by
  have hlen := h.len
  rw [List.length_append, List.length_singleton] at hlen
  have hg : getE F (pieceL b (fs.length + 1)) = some f := by rw [h.at_ fs.length (by simp)]; simp
  refine ⟨putE (pieceL b (fs.length + 1)) ⟨f.b ++ enc l, f.sure⟩ F, ?_, ?_, hr.put _ _, ?_, ?_, fun c gs hc hp => hp.other hr hc (by omega) _⟩
  · unfold appendW
    rw [if_neg (by omega), if_neg]
    · rw [app_yes (mayK_piece hb _) (by rw [enc_length]; omega), pname_list, hg]
      rfl
    · unfold wantB lenOf
      rw [hg]
      simp [hs]
  · rw [addP_same hs]
    exact h.put hr _
  · have := put_used hr (pieceL b (fs.length + 1)) ⟨f.b ++ enc l, f.sure⟩
    rw [hg] at this
    simp only [Option.getD_some, List.length_append, enc_length] at this
    omega
  · exact len_put_le _ _ _
theorem append_next {room size : Nat} {l : List UInt8} (hb : 97 ≤ b.toNat ∧ b.toNat ≤ 122) (hr : Ris F) (h : Pcs F b (fs ++ [f])) (hl : l.length ≤ 60000) (hs : size ≤ f.b.length) (hn : fs.length + 1 < 9999) (hroom : usedF F + (l.length + 6) ≤ room) :
    ∃ F', appendW room F b size (fs.length + 1) l = (0, F', fs.length + 2) ∧ Added room F F' b size (fs ++ [f]) l := by
  have hg : getE F (pieceL b (fs.length + 1)) = some f := by rw [h.at_ fs.length (by simp)]; simp
  have hno : getE F (pieceL b (fs.length + 2)) = none := h.no (fs.length + 1) (by simp) (by omega)
  have h1 : Pcs (putE (pieceL b (fs.length + 2)) ⟨enc l, 0⟩ F) b (fs ++ [f] ++ [⟨enc l, 0⟩]) := by
    have := h.more hr (by simpa using hn) ⟨enc l, 0⟩
    rw [List.length_append, List.length_singleton] at this
    exact this
  have hr1 := hr.put (pieceL b (fs.length + 2)) ⟨enc l, 0⟩
  have hg1 : getE (putE (pieceL b (fs.length + 2)) ⟨enc l, 0⟩ F) (pieceL b (fs.length + 1)) = some f := by
    rw [getE_put hr, if_neg (fun e => by have := (pieceL_inj (by omega) (by omega) e).2; omega), hg]
  refine ⟨putE (pieceL b (fs.length + 1)) ⟨f.b, f.b.length⟩ (putE (pieceL b (fs.length + 2)) ⟨enc l, 0⟩ F), ?_, ?_, hr1.put _ _, ?_, ?_, fun c gs hc hp => (hp.other hr hc (by omega) _).other hr1 hc (by omega) _⟩
  · unfold appendW
    rw [if_neg (by omega), if_pos]
    · unfold beginW
      rw [if_neg (by omega), app_yes (mayK_piece hb _) (by rw [enc_length]; omega), pname_list, hno]
      simp only [Option.getD_none, f0, List.nil_append]
      rw [if_pos trivial]
      unfold syncW syncF
      rw [if_neg (by omega), hg1]
    · unfold wantB lenOf
      rw [hg]
      simp [hs]
  · rw [addP_next hs]
    have hlen := h1.len
    simp only [List.length_append, List.length_singleton] at hlen
    refine ⟨by simp; omega, fun j hj => ?_, fun j hj hj9 => ?_⟩
    · rw [getE_put hr1]
      simp only [List.length_append, List.length_singleton] at hj
      by_cases e : j = fs.length
      · subst e
        rw [if_pos rfl]
        simp
      · rw [if_neg (fun e2 => e (by have := (pieceL_inj (by omega) (by omega) e2).2; omega)), h1.at_ j (by simp; omega)]
        by_cases e2 : j < fs.length
        · simp [e2]
        · obtain rfl : j = fs.length + 1 := by omega
          simp
    · simp only [List.length_append, List.length_singleton] at hj
      rw [getE_put hr1, if_neg (fun e2 => by have := (pieceL_inj (by omega) (by omega) e2).2; omega), h1.no j (by simp; omega) hj9]
  · have e1 := put_used hr1 (pieceL b (fs.length + 1)) ⟨f.b, f.b.length⟩
    rw [hg1] at e1
    have e2 := put_used_new hno (⟨enc l, 0⟩ : FileT)
    simp only [Option.getD_some, enc_length] at e1 e2
    omega
  · have e1 : ∀ (s : List UInt8) (x y : FileT) (G : Fs), Ris G → getE G s = some x → (putE s y G).length = G.length := by
      intro s x y G hG hx
      obtain ⟨l, r, rfl⟩ := List.append_of_mem ((mem_getE hG).1 hx)
      rw [put_split hG]
      simp
    rw [e1 _ _ _ _ hr1 hg1]
    exact len_put_le _ _ _
theorem append_first {room size : Nat} {l : List UInt8} (hb : 97 ≤ b.toNat ∧ b.toNat ≤ 122) (hr : Ris F) (h : Pcs F b []) (hl : l.length ≤ 60000) (hroom : usedF F + (l.length + 6) ≤ room) :
    ∃ F', appendW room F b size 0 l = (0, F', 1) ∧ Added room F F' b size [] l := by
  have hno : getE F (pieceL b 1) = none := h.no 0 (Nat.le_refl _) (by omega)
  refine ⟨putE (pieceL b 1) ⟨enc l, 0⟩ F, ?_, ?_, hr.put _ _, ?_, ?_, fun c gs hc hp => hp.other hr hc (by omega) _⟩
  · unfold appendW
    rw [if_neg (by omega), if_pos (by rfl)]
    unfold beginW
    rw [if_neg (by omega), app_yes (mayK_piece hb _) (by rw [enc_length]; omega), pname_list, hno]
    simp only [Option.getD_none, f0, List.nil_append]
    rw [if_pos trivial]
    rfl
  · exact h.more hr (by simp) _
  · have := put_used_new hno (⟨enc l, 0⟩ : FileT)
    simp only [enc_length] at this
    omega
  · exact len_put_le _ _ _
theorem addP_len (size : Nat) (fs : List FileT) (l : List UInt8) : (addP size fs l).length ≤ fs.length + 1 ∧ fs.length ≤ (addP size fs l).length := by
  unfold addP
  rcases List.eq_nil_or_concat fs with rfl | ⟨gs, g, rfl⟩
  · simp
  · rw [List.concat_eq_append]
    simp only [List.getLast?_append, List.getLast?_singleton, Option.some_or, List.dropLast_concat]
    split <;> simp
/-- Append where there is room -/
theorem append_yes {room size : Nat} {l : List UInt8} (hb : 97 ≤ b.toNat ∧ b.toNat ≤ 122) (hr : Ris F) (h : Pcs F b fs) (hl : l.length ≤ 60000) (hn : fs.length < 9999) (hroom : usedF F + (l.length + 6) ≤ room) :
    ∃ F', appendW room F b size fs.length l = (0, F', (addP size fs l).length) ∧ Added room F F' b size fs l := by
  rcases List.eq_nil_or_concat fs with rfl | ⟨gs, g, rfl⟩
  · exact append_first hb hr h hl hroom
  · rw [List.concat_eq_append] at h hn ⊢
    rw [List.length_append, List.length_singleton] at hn ⊢
    by_cases hs : size ≤ g.b.length
    · obtain ⟨F', h1, h2⟩ := append_next (room := room) hb hr h hl hs hn hroom
      exact ⟨F', by rw [h1, addP_next hs]; simp, h2⟩
    · obtain ⟨F', h1, h2⟩ := append_same (room := room) hb hr h hl hs hroom
      exact ⟨F', by rw [h1, addP_same hs]; simp, h2⟩
/-- Append where there is none -/
theorem append_full {room size : Nat} {l : List UInt8} (hb : 97 ≤ b.toNat ∧ b.toNat ≤ 122) (hl : l.length ≤ 60000) {n : Nat} (hroom : room < usedF F + (l.length + 6)) : appendW room F b size n l = (3, F, n) := by
  unfold appendW
  rw [if_neg (by omega)]
  split
  · unfold beginW
    split
    · rfl
    · rw [app_no (mayK_piece hb _) (by rw [enc_length]; omega), if_neg (by simp)]
  · rw [app_no (mayK_piece hb _) (by rw [enc_length]; omega)]
theorem pcs_nil (b : UInt8) : Pcs [] b [] := ⟨Nat.zero_le _, fun j hj => absurd hj (by simp), fun _ _ _ => rfl⟩
theorem openM_nil (b : UInt8) : openM [] b = (0, [], []) := openM_whole (pcs_nil b) (fun g hg => by cases hg)
end

end Go.Proofs.YtkcfieoflkhdpaaDoor.WalMath
