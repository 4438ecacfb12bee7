/-
  An entry and a read, handed to a hand, by their contracts; what a list's elements are.
-/
import Derived.Test.YtpabppoohobjpaaGreatHandR
import Derived.Test.YtpabppoohobjpaaGreatPlayKeys
namespace Go.Proofs.YtpabppoohobjpaaGreat
open Go Go.RowKit TxnMath KeyMath MsgMath
set_option maxRecDepth 100000

section
variable {O : World → Nat → Prop} {rd : Prop} {k o : Nat} {a b c w w' : World} {l L : List Value}
theorem Sit.gr (h : Sit w k o l) (hg : Gr w w') : Sit w' k o l := fun i u hi => gr_cell hg _ _ (h i u hi)
theorem Sit.inn {u : Value} (h : Sit w k o [u]) : k < w.heap.size := h.lt
/-- what has only grown ahead of it does not count -/
theorem Wr.pre (hg : Gr a b) (ho : ∀ j, O b j ↔ O a j) (hk : k < a.heap.size) (h : Wr O rd k o l b c) : Wr O rd k o l a c :=
  ⟨(Hr.of_gr hg ho).trans h.hr, fun t cs hb => h.bl t cs (hb.gr hg), fun p hp => (h.out p hp).trans (World.cell?_of_block (show b.heap[(⟨k, p, none⟩ : Addr).block]? = a.heap[(⟨k, p, none⟩ : Addr).block]? from hg.block k hk)), h.at_⟩
end

section
variable {σ : Type} {H : Hand σ} {rd : Prop} {hv : Value} {S : σ → World → Prop} {O : World → Nat → Prop} {wt : σ → Nat}

/-- the methods in the world that an open region begins with -/
theorem HandOk.num_ (hH : HandOk Tryz.prog H rd hv S O wt) : ∃ f r, Disp Tryz.prog hv "diwan/msg.number" f r ∧ ∀ s w k o z, S s w → wt s ≤ 500000000 → ¬ O w k → Sit w k o [.int .i64 z] → Open rd w k → I64 z → Calls Tryz.prog f #[r, .pointer (some ⟨k, o, none⟩)] w.drew (LaidPost O rd S k o [.int .i64 (H.num s z).1] (H.num s z).2 w) := by
  obtain ⟨f, r, hD, hC⟩ := hH.num
  refine ⟨f, r, hD, fun s w k o z hS hw hO hs hop hz => ?_⟩
  have hg := (Gr.refl w).drew
  obtain ⟨hS1, ho1⟩ := hH.gr hS hg
  exact (hC s w.drew k o z hS1 hw (fun h => hO ((ho1 k).1 h)) (hs.gr hg) (hop.gr hg) hz).mono fun e w' ⟨h1, h2, h3⟩ => ⟨h1, h2, h3.pre hg ho1 hs.lt⟩
theorem HandOk.flag_ (hH : HandOk Tryz.prog H rd hv S O wt) : ∃ f r, Disp Tryz.prog hv "diwan/msg.flag" f r ∧ ∀ s w k o z, S s w → wt s ≤ 500000000 → ¬ O w k → Sit w k o [.bool z] → Open rd w k → Calls Tryz.prog f #[r, .pointer (some ⟨k, o, none⟩)] w.drew (LaidPost O rd S k o [.bool (H.flag s z).1] (H.flag s z).2 w) := by
  obtain ⟨f, r, hD, hC⟩ := hH.flag
  refine ⟨f, r, hD, fun s w k o z hS hw hO hs hop => ?_⟩
  have hg := (Gr.refl w).drew
  obtain ⟨hS1, ho1⟩ := hH.gr hS hg
  exact (hC s w.drew k o z hS1 hw (fun h => hO ((ho1 k).1 h)) (hs.gr hg) (hop.gr hg)).mono fun e w' ⟨h1, h2, h3⟩ => ⟨h1, h2, h3.pre hg ho1 hs.lt⟩
theorem HandOk.text_ (hH : HandOk Tryz.prog H rd hv S O wt) : ∃ f r, Disp Tryz.prog hv "diwan/msg.text" f r ∧ ∀ s w k o z, S s w → wt s ≤ 500000000 → ¬ O w k → Sit w k o [.string z] → Open rd w k → z.size ≤ 1000000 → Calls Tryz.prog f #[r, .pointer (some ⟨k, o, none⟩)] w.drew (LaidPost O rd S k o [.string (H.text s z).1] (H.text s z).2 w) := by
  obtain ⟨f, r, hD, hC⟩ := hH.text
  refine ⟨f, r, hD, fun s w k o z hS hw hO hs hop hz => ?_⟩
  have hg := (Gr.refl w).drew
  obtain ⟨hS1, ho1⟩ := hH.gr hS hg
  exact (hC s w.drew k o z hS1 hw (fun h => hO ((ho1 k).1 h)) (hs.gr hg) (hop.gr hg) hz).mono fun e w' ⟨h1, h2, h3⟩ => ⟨h1, h2, h3.pre hg ho1 hs.lt⟩
theorem HandOk.txn_ (hH : HandOk Tryz.prog H rd hv S O wt) : ∃ f r, Disp Tryz.prog hv "diwan/msg.txn" f r ∧ ∀ s w k o t p X, S s w → wt s ≤ 500000000 → ¬ O w k → Sit w k o (txC t p) → (∀ j, X j → ¬ O w j ∧ (rd ∨ j ≠ k)) → RowsX X w t p → Open rd w k → TxLim 1000000 t →
    Calls Tryz.prog f #[r, .pointer (some ⟨k, o, none⟩)] w.drew (TxnLaid O rd S k o X (H.txn s t).1 (H.txn s t).2 w) := by
  obtain ⟨f, r, hD, hC⟩ := hH.txn
  refine ⟨f, r, hD, fun s w k o t p X hS hw hO hs hX hR hop hz => ?_⟩
  have hg := (Gr.refl w).drew
  obtain ⟨hS1, ho1⟩ := hH.gr hS hg
  exact (hC s w.drew k o t p X hS1 hw (fun h => hO ((ho1 k).1 h)) (hs.gr hg) (fun j hj => ⟨fun h => (hX j hj).1 ((ho1 j).1 h), (hX j hj).2⟩) (hR.move (Moves.of_gr hg)) (hop.gr hg) hz).mono fun e w' ⟨h1, h2, p', h3, h4⟩ => ⟨h1, h2, p', h3.pre hg ho1 hs.lt, h4⟩

/-- what an element's function comes to -/
def OnePost {α : Type} (C : α → Value × Value → List Value) (R : (Nat → Prop) → World → α → Value × Value → Prop) (O : World → Nat → Prop) (rd : Prop) (S : σ → World → Prop) (k o : Nat) (X : Nat → Prop) (x : α × σ) (w : World) (e : Ending) (w' : World) : Prop :=
  e = .returned (.tuple #[]) ∧ S x.2 w' ∧ ∃ p, Wr O rd k o (C x.1 p) w w' ∧ R (fun j => ¬ O w' j ∧ (X j ∨ w.heap.size ≤ j)) w' x.1 p
structure EltOk {α : Type} (P : Program) (rd : Prop) (S : σ → World → Prop) (O : World → Nat → Prop) (wt : σ → Nat) (C : α → Value × Value → List Value) (kc : Nat) (R : (Nat → Prop) → World → α → Value × Value → Prop) (ok : α → Prop) (zero : α) (one : σ → α → α × σ) (f : FuncId) (q : Value) : Prop where
  len : ∀ x p, (C x p).length = kc
  pos : 0 < kc
  move : ∀ {X X' : Nat → Prop} {w w' : World} {x : α} {p : Value × Value}, R X w x p → Moves X X' w w' → R X' w' x p
  zok : ok zero
  zR : ∀ X w, R X w zero (.slice none 0 0, .slice none 0 0)
  okOne : ∀ s x, ok x → ok (one s x).1
  rdOne : rd → ∀ s x, (one s x).1 = x
  wOne : ∀ s x, wt (one s x).2 ≤ wt s + 50000
  call : ∀ s w k o x p X, S s w → wt s ≤ 400000000 → ¬ O w k → Sit w k o (C x p) → (∀ j, X j → ¬ O w j ∧ (rd ∨ j ≠ k)) → R X w x p → Open rd w k → ok x → Calls P f #[q, .pointer (some ⟨k, o, none⟩)] w (OnePost C R O rd S k o X (one s x) w)

/-- how the world stands behind some cells laid at k -/
theorem Hr.keeps {k : Nat} {X : Nat → Prop} {w w' : World} (h : Hr O rd (· = k) w w') (hX : ∀ j, X j → ¬ O w j ∧ (rd ∨ j ≠ k)) : Moves X (fun j => ¬ O w' j ∧ (X j ∨ w.heap.size ≤ j)) w w' :=
  h.moves (fun j hj => hX j hj) (fun _ _ hj ho => ⟨ho, .inl hj⟩)

set_option maxHeartbeats 1000000 in
theorem read_ok (hH : HandOk Tryz.prog H rd hv S O wt) (s : σ) (w : World) (k o : Nat) (x : RdT) (hS : S s w) (hw : wt s ≤ 400000000) (hO : ¬ O w k) (hs : Sit w k o (rdC x)) (hop : Open rd w k) (hx : RdLim 1000000 x) :
    Calls Tryz.prog 91 #[hv, .pointer (some ⟨k, o, none⟩)] w (LaidPost O rd S k o (rdC (H.read s x).1) (H.read s x).2 w) := by
  obtain ⟨fN, rN, dN, cN⟩ := hH.num_
  obtain ⟨fT, rT, dT, cT⟩ := hH.text_
  obtain ⟨fF, rF, dF, cF⟩ := hH.flag_
  have hk := hs.lt
  obtain ⟨y1, e1⟩ : ∃ y, y = H.text s x.key := ⟨_, rfl⟩
  obtain ⟨y2, e2⟩ : ∃ y, y = H.num y1.2 x.ver := ⟨_, rfl⟩
  obtain ⟨y3, e3⟩ : ∃ y, y = H.text y2.2 x.val := ⟨_, rfl⟩
  obtain ⟨y4, e4⟩ : ∃ y, y = H.flag y3.2 x.there := ⟨_, rfl⟩
  have HM : H.read s x = (⟨y1.1, y2.1, y3.1, y4.1⟩, y4.2) := by subst e4 e3 e2 e1; rfl
  have u1 : wt y1.2 ≤ wt s + 10000 := by rw [e1]; exact hH.wText _ _
  have u2 : wt y2.2 ≤ wt y1.2 + 10000 := by rw [e2]; exact hH.wNum _ _
  have u3 : wt y3.2 ≤ wt y2.2 + 10000 := by rw [e3]; exact hH.wText _ _
  rw [HM]
  have s1 : Sit w k o [.string x.key] := Sit.left (l := [.string x.key]) (r := [.int .i64 x.ver, .string x.val, .bool x.there]) hs
  have t1 : Sit w k (o + 1) [.int .i64 x.ver, .string x.val, .bool x.there] := hs.tail
  have C1 := hide (show Calls Tryz.prog fT #[rT, .pointer (some ⟨k, o, none⟩)] w.drew (LaidPost O rd S k o [.string y1.1] y1.2 w) by rw [e1]; exact cT s w k o x.key hS (by omega) hO s1 hop hx.key)
  have C2 := hide (show ∀ w', S y1.2 w' → ¬ O w' k → Sit w' k (o + 1) [.int .i64 x.ver] → Open rd w' k → Calls Tryz.prog fN #[rN, .pointer (some ⟨k, o + 1, none⟩)] w'.drew (LaidPost O rd S k (o + 1) [.int .i64 y2.1] y2.2 w') by
    intro w' h1 h2 h3 h4; rw [e2]; exact cN y1.2 w' k (o + 1) x.ver h1 (by omega) h2 h3 h4 hx.ver)
  have C3 := hide (show ∀ w', S y2.2 w' → ¬ O w' k → Sit w' k (o + 2) [.string x.val] → Open rd w' k → Calls Tryz.prog fT #[rT, .pointer (some ⟨k, o + 2, none⟩)] w'.drew (LaidPost O rd S k (o + 2) [.string y3.1] y3.2 w') by
    intro w' h1 h2 h3 h4; rw [e3]; exact cT y2.2 w' k (o + 2) x.val h1 (by omega) h2 h3 h4 hx.val)
  have C4 := hide (show ∀ w', S y3.2 w' → ¬ O w' k → Sit w' k (o + 3) [.bool x.there] → Open rd w' k → Calls Tryz.prog fF #[rF, .pointer (some ⟨k, o + 3, none⟩)] w'.drew (LaidPost O rd S k (o + 3) [.bool y4.1] y4.2 w') by
    intro w' h1 h2 h3 h4; rw [e4]; exact cF y3.2 w' k (o + 3) x.there h1 (by omega) h2 h3 h4)
  have HT := hide t1
  have HO := hide hO
  have HP := hide hop
  clear e1 e2 e3 e4 HM u1 u2 u3 s1 t1 hs hO hS hop cN cT cF hw
  go_enter Tryz.func91, Tryz.ntmps91
  go_wp2_with fail
  refine wp_hand dT (by kernel_rfl) (by kernel_rfl) (by simp) rfl rfl (by decide) (fun w => by kernel_rfl) C1.out ?_
  rintro e w1 ⟨rfl, hS1, W1⟩
  refine ⟨_, rfl, ?_⟩
  simp only [Act.put, Nat.reduceAdd, List.setIfInBounds_toArray, List.set_cons_succ, List.set_cons_zero]
  have T1 : Sit w1 k (o + 1) [.int .i64 x.ver, .string x.val, .bool x.there] := HT.out.out W1 (.inr (by simp))
  have O1 := W1.hr.own k hk HO.out
  have P1 := HP.out.wr W1
  replace C2 := hide (C2.out w1 hS1 O1 (Sit.left (l := [.int .i64 x.ver]) T1) P1)
  have H1 := hide W1
  have HT1 := hide (show Sit w1 k (o + 2) [.string x.val, .bool x.there] from T1.tail)
  have HO1 := hide O1
  have HP1 := hide P1
  have hk1 : k < w1.heap.size := T1.lt
  clear hS1 W1 T1 O1 P1 C1
  go_wp2_with fail
  refine wp_hand dN (by kernel_rfl) (by kernel_rfl) (by simp) rfl rfl (by decide) (fun w => by kernel_rfl) C2.out ?_
  rintro e w2 ⟨rfl, hS2, W2⟩
  refine ⟨_, rfl, ?_⟩
  simp only [Act.put, Nat.reduceAdd, List.setIfInBounds_toArray, List.set_cons_succ, List.set_cons_zero]
  have T2 : Sit w2 k (o + 2) [.string x.val, .bool x.there] := HT1.out.out W2 (.inr (by simp))
  have O2 := W2.hr.own k hk1 HO1.out
  have P2 := HP1.out.wr W2
  replace C3 := hide (C3.out w2 hS2 O2 (Sit.left (l := [.string x.val]) T2) P2)
  have H2 := hide (H1.out.app W2)
  have HT2 := hide (show Sit w2 k (o + 3) [.bool x.there] from T2.tail)
  have HO2 := hide O2
  have HP2 := hide P2
  have hk2 : k < w2.heap.size := T2.lt
  clear hS2 W2 T2 O2 P2 C2 H1 HT1 HO1 HP1
  go_wp2_with fail
  refine wp_hand dT (by kernel_rfl) (by kernel_rfl) (by simp) rfl rfl (by decide) (fun w => by kernel_rfl) C3.out ?_
  rintro e w3 ⟨rfl, hS3, W3⟩
  refine ⟨_, rfl, ?_⟩
  simp only [Act.put, Nat.reduceAdd, List.setIfInBounds_toArray, List.set_cons_succ, List.set_cons_zero]
  have T3 : Sit w3 k (o + 3) [.bool x.there] := HT2.out.out W3 (.inr (by simp))
  have O3 := W3.hr.own k hk2 HO2.out
  have P3 := HP2.out.wr W3
  replace C4 := hide (C4.out w3 hS3 O3 T3 P3)
  have H3 := hide (H2.out.app W3)
  clear hS3 W3 T3 O3 P3 C3 H2 HT2 HO2 HP2
  go_wp2_with fail
  refine wp_hand dF (by kernel_rfl) (by kernel_rfl) (by simp) rfl rfl (by decide) (fun w => by kernel_rfl) C4.out ?_
  rintro e w4 ⟨rfl, hS4, W4⟩
  refine ⟨_, rfl, ?_⟩
  simp only [Act.put, Nat.reduceAdd, List.setIfInBounds_toArray, List.set_cons_succ, List.set_cons_zero]
  have HF := hide (show LaidPost O rd S k o (rdC ⟨y1.1, y2.1, y3.1, y4.1⟩) y4.2 w (.returned (.tuple #[])) w4 from ⟨rfl, hS4, H3.out.app W4⟩)
  clear hS4 W4 C4 H3
  go_wp2_with fail
  go_end0
  exact HF.out

/-- what an entry's function comes to -/
def entR : (Nat → Prop) → World → EntT → Value × Value → Prop := fun X w e p => RowsX X w e.t p

set_option maxHeartbeats 1000000 in
theorem entry_ok (hH : HandOk Tryz.prog H rd hv S O wt) (s : σ) (w : World) (k o : Nat) (x : EntT) (p : Value × Value) (X : Nat → Prop) (hS : S s w) (hw : wt s ≤ 400000000) (hO : ¬ O w k) (hs : Sit w k o (entC x p)) (hX : ∀ j, X j → ¬ O w j ∧ (rd ∨ j ≠ k)) (hR : RowsX X w x.t p)
    (hop : Open rd w k) (hx : I64 x.term) (hxt : TxLim 1000000 x.t) :
    Calls Tryz.prog 88 #[hv, .pointer (some ⟨k, o, none⟩)] w (OnePost entC entR O rd S k o X (H.entry s x) w) := by
  obtain ⟨fN, rN, dN, cN⟩ := hH.num_
  obtain ⟨fT, rT, dT, cT⟩ := hH.txn_
  obtain ⟨fF, rF, dF, cF⟩ := hH.flag_
  have hk := hs.lt
  obtain ⟨y1, e1⟩ : ∃ y, y = H.num s x.term := ⟨_, rfl⟩
  obtain ⟨y2, e2⟩ : ∃ y, y = H.flag y1.2 x.shut := ⟨_, rfl⟩
  obtain ⟨y3, e3⟩ : ∃ y, y = H.txn y2.2 x.t := ⟨_, rfl⟩
  have HM : Hid (H.entry s x = if y2.1 = true then (⟨y1.1, y2.1, x.t⟩, y2.2) else (⟨y1.1, y2.1, y3.1⟩, y3.2)) := hide (by subst e3 e2 e1; rfl)
  have u1 : wt y1.2 ≤ wt s + 10000 := by rw [e1]; exact hH.wNum _ _
  have u2 : wt y2.2 ≤ wt y1.2 + 10000 := by rw [e2]; exact hH.wFlag _ _
  have s1 : Sit w k o [.int .i64 x.term] := Sit.left (l := [.int .i64 x.term]) (r := .bool x.shut :: txC x.t p) hs
  have t1 : Sit w k (o + 1) (.bool x.shut :: txC x.t p) := hs.tail
  have C1 := hide (show Calls Tryz.prog fN #[rN, .pointer (some ⟨k, o, none⟩)] w.drew (LaidPost O rd S k o [.int .i64 y1.1] y1.2 w) by rw [e1]; exact cN s w k o x.term hS (by omega) hO s1 hop hx)
  have C2 := hide (show ∀ w', S y1.2 w' → ¬ O w' k → Sit w' k (o + 1) [.bool x.shut] → Open rd w' k → Calls Tryz.prog fF #[rF, .pointer (some ⟨k, o + 1, none⟩)] w'.drew (LaidPost O rd S k (o + 1) [.bool y2.1] y2.2 w') by
    intro w' h1 h2 h3 h4; rw [e2]; exact cF y1.2 w' k (o + 1) x.shut h1 (by omega) h2 h3 h4)
  have C3 := hide (show ∀ w' X', S y2.2 w' → ¬ O w' k → Sit w' k (o + 2) (txC x.t p) → (∀ j, X' j → ¬ O w' j ∧ (rd ∨ j ≠ k)) → RowsX X' w' x.t p → Open rd w' k → Calls Tryz.prog fT #[rT, .pointer (some ⟨k, o + 2, none⟩)] w'.drew (TxnLaid O rd S k (o + 2) X' y3.1 y3.2 w') by
    intro w' X' h1 h2 h3 h4 h5 h6; rw [e3]; exact cT y2.2 w' k (o + 2) x.t p X' h1 (by omega) h2 h3 h4 h5 h6 hxt)
  have HT := hide t1
  have HO := hide hO
  have HP := hide hop
  have HR := hide hR
  have HX := hide hX
  clear e1 e2 e3 u1 u2 s1 t1 hs hO hS hop cN cT cF hw hR hX
  go_enter Tryz.func88, Tryz.ntmps88
  go_wp2_with fail
  refine wp_hand dN (by kernel_rfl) (by kernel_rfl) (by simp) rfl rfl (by decide) (fun w => by kernel_rfl) C1.out ?_
  rintro e w1 ⟨rfl, hS1, W1⟩
  refine ⟨_, rfl, ?_⟩
  simp only [Act.put, Nat.reduceAdd, List.setIfInBounds_toArray, List.set_cons_succ, List.set_cons_zero]
  have T1 : Sit w1 k (o + 1) (.bool x.shut :: txC x.t p) := HT.out.out W1 (.inr (by simp))
  have O1 := W1.hr.own k hk HO.out
  have P1 := HP.out.wr W1
  replace C2 := hide (C2.out w1 hS1 O1 (Sit.left (l := [.bool x.shut]) T1) P1)
  have H1 := hide W1
  have HT1 := hide (show Sit w1 k (o + 2) (txC x.t p) from T1.tail)
  have HO1 := hide O1
  have HP1 := hide P1
  have hk1 : k < w1.heap.size := T1.lt
  clear hS1 W1 T1 O1 P1 C1
  go_wp2_with fail
  refine wp_hand dF (by kernel_rfl) (by kernel_rfl) (by simp) rfl rfl (by decide) (fun w => by kernel_rfl) C2.out ?_
  rintro e w2 ⟨rfl, hS2, W2⟩
  refine ⟨_, rfl, ?_⟩
  simp only [Act.put, Nat.reduceAdd, List.setIfInBounds_toArray, List.set_cons_succ, List.set_cons_zero]
  have T2 : Sit w2 k (o + 2) (txC x.t p) := HT1.out.out W2 (.inr (by simp))
  have O2 := W2.hr.own k hk1 HO1.out
  have P2 := HP1.out.wr W2
  have c1 : w2.cell? ⟨k, o + 1, none⟩ = some (.bool y2.1) := W2.at_.head
  have W12 : Wr O rd k o ([.int .i64 y1.1] ++ [.bool y2.1]) w w2 := H1.out.app W2
  have R2 : RowsX (fun j => ¬ O w2 j ∧ (X j ∨ w.heap.size ≤ j)) w2 x.t p := HR.out.move (W12.hr.keeps HX.out)
  have hk2 : k < w2.heap.size := T2.lt
  have HS2 := hide hS2
  have HW2 := hide W12
  have HR2 := hide R2
  have HT2 := hide T2
  have HO2 := hide O2
  have HP2 := hide P2
  have HKW := hide hk
  clear hS2 W2 W12 R2 T2 O2 P2 C2 H1 HT1 HO1 HP1 hk
  obtain ⟨b, hb⟩ : ∃ b, y2.1 = b := ⟨_, rfl⟩
  rw [hb] at c1
  have HB := hide hb
  clear hb
  cases b
  · have e := HM.out
    rw [if_neg (by rw [HB.out]; simp)] at e
    have HE := hide e
    replace C3 := hide (C3.out w2 (fun j => ¬ O w2 j ∧ (X j ∨ w.heap.size ≤ j) ∧ (rd ∨ j ≠ k)) HS2.out HO2.out HT2.out (fun j hj => ⟨hj.1, hj.2.2⟩)
      (HR.out.move (HW2.out.hr.moves (fun j hj => HX.out j hj) (fun j _ hj ho => ⟨ho, .inl hj, (HX.out j hj).2⟩))) HP2.out)
    clear e HM
    go_wp2_with fail
    refine wp_hand dT (by kernel_rfl) (by kernel_rfl) (by simp) rfl rfl (by decide) (fun w => by kernel_rfl) C3.out ?_
    rintro e w3 ⟨rfl, hS3, p3, W3, R3⟩
    refine ⟨_, rfl, ?_⟩
    simp only [Act.put, Nat.reduceAdd, List.setIfInBounds_toArray, List.set_cons_succ, List.set_cons_zero]
    have hsz := HW2.out.hr.size
    have HF := hide (show OnePost entC entR O rd S k o X (⟨y1.1, y2.1, y3.1⟩, y3.2) w (.returned (.tuple #[])) w3 from
      ⟨rfl, hS3, p3, HW2.out.app W3, R3.wide fun j hj => ⟨hj.1, by
        rcases hj.2 with h | h
        · exact h.2.1
        · exact .inr (by omega)⟩⟩)
    clear hS3 W3 R3 C3
    go_wp2_with fail
    go_end0
    rw [HE.out]
    exact HF.out
  · have e := HM.out
    rw [if_pos HB.out] at e
    have HE := hide e
    have HF := hide (show OnePost entC entR O rd S k o X (⟨y1.1, y2.1, x.t⟩, y2.2) w (.returned (.tuple #[])) w2 from
      ⟨rfl, HS2.out, p, HW2.out.app (Wr.same (l := txC x.t p) (Hr.refl O rd _ w2) rfl HT2.out), HR2.out⟩)
    clear e HM C3
    go_wp2_with fail
    go_end0
    rw [HE.out]
    exact HF.out
end

end Go.Proofs.YtpabppoohobjpaaGreat

/-
  A list, handed to a hand, element by element: what its loop comes to.
-/
namespace Go.Proofs.YtpabppoohobjpaaGreat
open Go Go.RowKit TxnMath KeyMath MsgMath
set_option maxRecDepth 100000

/-- a list as a row of cells -/
def ListX {α : Type} (C : α → Value × Value → List Value) (R : (Nat → Prop) → World → α → Value × Value → Prop) (kc : Nat) (X : Nat → Prop) (w : World) (v : Value) (xs : List α) : Prop :=
  ∃ f : Nat → Value × Value, RowX X kc w v (xs.mapIdx fun j x => C x (f j)) ∧ ∀ j x, xs[j]? = some x → R X w x (f j)

section
variable {σ α : Type} {P : Program} {rd : Prop} {S : σ → World → Prop} {O : World → Nat → Prop} {wt : σ → Nat} {C : α → Value × Value → List Value} {kc : Nat} {R : (Nat → Prop) → World → α → Value × Value → Prop} {ok : α → Prop} {zero : α} {one : σ → α → α × σ} {f : FuncId} {q : Value}

/-- what the loop stands at behind k elements of the row at (b, o) -/
structure LoopAt (rd : Prop) (S : σ → World → Prop) (O : World → Nat → Prop) (C : α → Value × Value → List Value) (kc : Nat) (R : (Nat → Prop) → World → α → Value × Value → Prop) (one : σ → α → α × σ) (g b o : Nat) (s : σ) (ys : List α) (w0 : World) (k : Nat) (w : World) : Prop where
  st : S (many one s (ys.take k)).2 w
  hr : Hr O rd (· = b) w0 w
  els : ∀ j x, (rowNow one s ys k)[j]? = some x → ∃ p, Sit w b (o + j * kc) (C x p) ∧ R (fun i => ¬ O w i ∧ i ≠ g ∧ (rd ∨ i ≠ b)) w x p
  op : Open rd w b
  no : ¬ O w b
  gl : g < w.heap.size

theorem LoopAt.next (hE : EltOk P rd S O wt C kc R ok zero one f q) {g b o : Nat} {s : σ} {ys : List α} {w0 w w' : World} {k : Nat} (h : LoopAt rd S O C kc R one g b o s ys w0 k w) (hk : k < ys.length) (hb : b < w.heap.size)
    {e : Ending} (hp : OnePost C R O rd S b (o + k * kc) (fun i => ¬ O w i ∧ i ≠ g ∧ (rd ∨ i ≠ b)) (one (many one s (ys.take k)).2 ys[k]) w e w') : LoopAt rd S O C kc R one g b o s ys w0 (k + 1) w' := by
  obtain ⟨_, hS, p', hW, hR⟩ := hp
  have hno : ¬ O w' b := hW.hr.own b hb h.no
  refine ⟨by rw [many_take one hk]; exact hS, h.hr.trans hW.hr, fun j x hj => ?_, h.op.wr hW, hno, Nat.lt_of_lt_of_le h.gl hW.hr.size⟩
  rw [rowNow_next one s hk] at hj
  have hgl := h.gl
  by_cases hjk : j = k
  · subst hjk
    rw [if_pos rfl] at hj
    injection hj with hj
    subst hj
    refine ⟨p', hW.at_, hE.move hR (Moves.same fun i _ hi => ⟨hi.1, ?_⟩)⟩
    rcases hi.2 with h1 | h1
    · exact h1.2
    · exact ⟨by omega, .inr (by omega)⟩
  · rw [if_neg hjk] at hj
    obtain ⟨p, h1, h2⟩ := h.els j x hj
    refine ⟨p, h1.out hW ?_, hE.move h2 (hW.hr.moves (fun i hi => ⟨hi.1, hi.2.2⟩) (fun i _ hi ho => ⟨ho, hi.2⟩))⟩
    rw [hE.len, hE.len]
    rcases Nat.lt_or_gt_of_ne hjk with hl | hl
    · left
      have : (j + 1) * kc ≤ k * kc := Nat.mul_le_mul_right _ hl
      rw [Nat.succ_mul] at this
      omega
    · right
      have : (k + 1) * kc ≤ j * kc := Nat.mul_le_mul_right _ hl
      rw [Nat.succ_mul] at this
      omega
/-- the call for element k -/
theorem LoopAt.call (hE : EltOk P rd S O wt C kc R ok zero one f q) {g b o : Nat} {s : σ} {ys : List α} {w0 w : World} {k : Nat} (h : LoopAt rd S O C kc R one g b o s ys w0 k w) (hk : k < ys.length) (hw : wt s ≤ 300000000) (hn : ys.length ≤ 1000) (hok : ∀ x ∈ ys, ok x) :
    b < w.heap.size ∧ Calls P f #[q, .pointer (some ⟨b, o + k * kc, none⟩)] w (fun e w' => e = .returned (.tuple #[]) ∧ LoopAt rd S O C kc R one g b o s ys w0 (k + 1) w') := by
  obtain ⟨p, h1, h2⟩ := h.els k ys[k] (rowNow_at one s hk)
  have hlen := hE.len ys[k] p
  have hpos := hE.pos
  have hb : b < w.heap.size := by
    cases hc : C ys[k] p with
    | nil => rw [hc] at hlen; simp at hlen; omega
    | cons u l => rw [hc] at h1; exact h1.lt
  refine ⟨hb, (hE.call (many one s (ys.take k)).2 w b (o + k * kc) ys[k] p _ h.st ?_ h.no h1 (fun i hi => ⟨hi.1, hi.2.2⟩) h2 h.op (hok _ (List.getElem_mem hk))).mono fun e w' hp => ⟨hp.1, h.next hE hk hb hp⟩⟩
  have h3 := many_wt hE.wOne (ys.take k) s
  rw [List.length_take] at h3
  have h4 : min k ys.length * 50000 ≤ 1000 * 50000 := Nat.mul_le_mul_right _ (by omega)
  omega
/-- at the end -/
theorem LoopAt.done (hE : EltOk P rd S O wt C kc R ok zero one f q) {g b o c : Nat} {s : σ} {ys : List α} {w0 w : World} (h : LoopAt rd S O C kc R one g b o s ys w0 ys.length w) (hc : ys.length ≤ c) (hbg : b ≠ g) :
    S (many one s ys).2 w ∧ ListX C R kc (fun i => ¬ O w i ∧ i ≠ g) w (.slice (some ⟨b, o, none⟩) ys.length c) (many one s ys).1 := by
  have hst := h.st
  rw [List.take_length] at hst
  refine ⟨hst, ?_⟩
  have hels := h.els
  rw [rowNow_all] at hels
  have hlen := many_len one ys s
  let F : Nat → Value × Value := fun j => Classical.epsilon fun p => ∀ x, (many one s ys).1[j]? = some x → Sit w b (o + j * kc) (C x p) ∧ R (fun i => ¬ O w i ∧ i ≠ g ∧ (rd ∨ i ≠ b)) w x p
  have hF : ∀ j x, (many one s ys).1[j]? = some x → Sit w b (o + j * kc) (C x (F j)) ∧ R (fun i => ¬ O w i ∧ i ≠ g ∧ (rd ∨ i ≠ b)) w x (F j) := by
    intro j x hj
    obtain ⟨p, hp⟩ := hels j x hj
    exact Classical.epsilon_spec (p := fun p => ∀ x, (many one s ys).1[j]? = some x → Sit w b (o + j * kc) (C x p) ∧ R (fun i => ¬ O w i ∧ i ≠ g ∧ (rd ∨ i ≠ b)) w x p) ⟨p, fun y hy => by rw [hj] at hy; injection hy with hy; subst hy; exact hp⟩ x hj
  refine ⟨F, ⟨⟨some ⟨b, o, none⟩, c, ?_, ?_, fun j i r u hj hi => ⟨_, rfl, ?_⟩⟩, fun ad n d e _ => ?_⟩, fun j x hj => hE.move (hF j x hj).2 (Moves.same fun i _ hi => ⟨hi.1, hi.2.1⟩)⟩
  · rw [List.length_mapIdx, hlen]
  · rw [List.length_mapIdx, hlen]; exact hc
  · rw [List.getElem?_mapIdx] at hj
    cases hx : (many one s ys).1[j]? with
    | none => rw [hx] at hj; cases hj
    | some x =>
      rw [hx] at hj
      simp only [Option.map_some, Option.some.injEq] at hj
      subst hj
      have := (hF j x hx).1 i u hi
      have e2 : (⟨b, o, none⟩ : Addr).add (j * kc + i) = ⟨b, o + j * kc + i, none⟩ := by
        unfold Addr.add
        split
        · rename_i h0; simp only [Addr.mk.injEq, and_true, true_and]; omega
        · simp only [Addr.mk.injEq, and_true, true_and]; omega
      rw [e2]
      exact this
  · injection e with e1 _ _
    injection e1 with e1
    subst e1
    exact ⟨h.no, hbg⟩

/-- at the start, over a row that is there -/
theorem LoopAt.start (hE : EltOk P rd S O wt C kc R ok zero one f q) {g c : Nat} {s : σ} {ys : List α} {w : World} {ad : Addr} (hS : S s w) (hg : g < w.heap.size) (hX : ListX C R kc (fun i => ¬ O w i ∧ i ≠ g) w (.slice (some ad) ys.length c) ys) (h0 : 0 < ys.length) (hop : rd ∨ ∃ t cs, Bl w ad.block t cs ∧ ∀ j x, ys[j]? = some x → ∀ X, ∃ p, Sit w ad.block (ad.off + j * kc) (C x p) ∧ R X w x p) :
    ad.block ≠ g ∧ ad = ⟨ad.block, ad.off, none⟩ ∧ LoopAt rd S O C kc R one g ad.block ad.off s ys w 0 w := by
  obtain ⟨F, ⟨⟨A, c', e, hc, hrow⟩, hWh⟩, hR⟩ := hX
  injection e with eA _ _
  subst eA
  have hpos := hE.pos
  have hcell : ∀ j x i u, ys[j]? = some x → (C x (F j))[i]? = some u → w.cell? (ad.add (j * kc + i)) = some u := by
    intro j x i u hj hi
    obtain ⟨ad', h1, h2⟩ := hrow j i (C x (F j)) u (by rw [List.getElem?_mapIdx, hj]; rfl) hi
    injection h1 with h1
    subst h1
    exact h2
  have had : ad = ⟨ad.block, ad.off, none⟩ := by
    have hl := hE.len ys[0] (F 0)
    have h2 := hcell 0 ys[0] 0 (C ys[0] (F 0))[0] (List.getElem?_eq_getElem h0) (List.getElem?_eq_getElem (by omega))
    rw [Nat.zero_mul, Nat.zero_add, add_zero_] at h2
    unfold World.cell? at h2
    split at h2
    · split at h2
      · cases h2
      · rename_i hs
        cases hsp : ad.spot with
        | none => rw [← hsp]
        | some z => rw [hsp] at hs; simp at hs
    · cases h2
  have hW := hWh ad _ _ rfl h0
  have hsit : ∀ j x, ys[j]? = some x → Sit w ad.block (ad.off + j * kc) (C x (F j)) := by
    intro j x hj i u hi
    have h2 := hcell j x i u hj hi
    have e2 : ad.add (j * kc + i) = ⟨ad.block, ad.off + j * kc + i, none⟩ := by
      rw [had]
      unfold Addr.add
      split
      · rename_i h0; simp only [Addr.mk.injEq, and_true, true_and]; omega
      · simp only [Addr.mk.injEq, and_true, true_and]; omega
    rw [← e2]
    exact h2
  refine ⟨hW.2, had, by simpa [many] using hS, Hr.refl _ _ _ _, fun j x hj => ?_, ?_, hW.1, hg⟩
  · rw [rowNow_zero] at hj
    rcases hop with hop | ⟨_, _, _, h3⟩
    · exact ⟨F j, hsit j x hj, hE.move (hR j x hj) (Moves.same fun i _ hi => ⟨hi.1, hi.2, .inl hop⟩)⟩
    · exact h3 j x hj _
  · exact hop.imp id fun ⟨t, cs, h, _⟩ => ⟨t, cs, h⟩
end

end Go.Proofs.YtpabppoohobjpaaGreat

/-
  The three lists of a letter, handed to a hand, by their contracts.
-/
namespace Go.Proofs.YtpabppoohobjpaaGreat
open Go Go.RowKit TxnMath KeyMath MsgMath
set_option maxRecDepth 100000

section
variable {O : World → Nat → Prop} {rd : Prop} {k o b g : Nat} {a w c w' : World} {l : List Value}
/-- behind what was laid at g only block b has changed -/
theorem Wr.beyond (h : Wr O rd g o l a w) (h2 : Hr O rd (· = b) w c) (hbg : b ≠ g) (hb : rd ∨ a.heap.size ≤ b) (hg : g < w.heap.size) (hO : ¬ O w g) : Wr O rd g o l a c := by
  have hgb := h2.block g hg hO (.inr fun e => hbg e.symm)
  refine ⟨⟨h2.os.trans h.hr.os, h2.tape.trans h.hr.tape, h2.output.trans h.hr.output, Nat.le_trans h.hr.size h2.size, fun j hj ho hx => ?_, fun j hj ho => h2.own j (Nat.lt_of_lt_of_le hj h.hr.size) (h.hr.own j hj ho)⟩, fun t cs hx => ?_, fun p hp => ?_, h.at_.of_block hgb⟩
  · rw [h2.block j (Nat.lt_of_lt_of_le hj h.hr.size) (h.hr.own j hj ho) ?_, h.hr.block j hj ho hx]
    rcases hb with hb | hb
    · exact .inl hb
    · exact .inr (by omega)
  · obtain ⟨cs1, h3, e3⟩ := h.bl t cs hx
    exact ⟨cs1, hgb.trans h3, e3⟩
  · rw [← h.out p hp]
    exact World.cell?_of_block (show c.heap[(⟨g, p, none⟩ : Addr).block]? = w.heap[(⟨g, p, none⟩ : Addr).block]? from hgb)
end

section
variable {σ α : Type} {P : Program} {rd : Prop} {S : σ → World → Prop} {O : World → Nat → Prop} {wt : σ → Nat} {C : α → Value × Value → List Value} {kc : Nat} {R : (Nat → Prop) → World → α → Value × Value → Prop} {ok : α → Prop} {zero : α} {one : σ → α → α × σ} {f : FuncId} {q : Value}

/-- what a list's function comes to -/
def ListPost (O : World → Nat → Prop) (rd : Prop) (S : σ → World → Prop) (C : α → Value × Value → List Value) (R : (Nat → Prop) → World → α → Value × Value → Prop) (kc g o : Nat) (w : World) (x : List α × σ) (e : Ending) (w' : World) : Prop :=
  e = .returned (.tuple #[]) ∧ S x.2 w' ∧ ∃ v, Wr O rd g o [v] w w' ∧ ListX C R kc (fun i => ¬ O w' i ∧ i ≠ g) w' v x.1
/-- where the loop over the row at A stands -/
def LoopI (rd : Prop) (S : σ → World → Prop) (O : World → Nat → Prop) (C : α → Value × Value → List Value) (kc : Nat) (R : (Nat → Prop) → World → α → Value × Value → Prop) (one : σ → α → α × σ) (g b o : Nat) (s : σ) (ys : List α) (w2 : World) (A : Option Addr) (k : Nat) (w : World) : Prop :=
  (ys = [] ∧ w = w2) ∨ (0 < ys.length ∧ b ≠ g ∧ A = some ⟨b, o, none⟩ ∧ LoopAt rd S O C kc R one g b o s ys w2 k w)
theorem LoopI.end_ (hE : EltOk P rd S O wt C kc R ok zero one f q) {g b o o' c : Nat} {s : σ} {ys : List α} {w w2 w3 : World} {A : Option Addr} (h : LoopI rd S O C kc R one g b o' s ys w2 A ys.length w3) (hS : S s w2) (hW : Wr O rd g o [.slice A ys.length c] w w2) (hc : ys.length ≤ c) (hg : g < w2.heap.size) (hO : ¬ O w2 g)
    (hb : rd ∨ w.heap.size ≤ b) : ListPost O rd S C R kc g o w (many one s ys) (.returned (.tuple #[])) w3 := by
  rcases h with ⟨rfl, rfl⟩ | ⟨_, hbg, rfl, hl⟩
  · refine ⟨rfl, hS, _, hW, fun _ => (undef, undef), ?_, fun j x hj => by simp [many] at hj⟩
    exact RowX.empty _ _ _ _ _
  · obtain ⟨h1, h2⟩ := hl.done hE hc hbg
    exact ⟨rfl, h1, _, hW.beyond hl.hr hbg hb hg hO, h2⟩
/-- the row that was made -/
theorem made_sit {w : World} {b n : Nat} {t : TypeId} {z : Array Value} (hb : Bl w b t (madeCells z (n * z.size))) (j : Nat) (hj : j < n) : Sit w b (0 + j * z.size) z.toList := fun i u hi => by
  have hl : i < z.size := by simpa using (List.getElem?_eq_some_iff.1 hi).1
  rw [hb.cell, Nat.zero_add]
  have hlt : j * z.size + i < n * z.size := by
    have : (j + 1) * z.size ≤ n * z.size := Nat.mul_le_mul_right _ hj
    rw [Nat.succ_mul] at this
    omega
  simp only [madeCells, Array.getElem?_map, Array.getElem?_range, hlt, if_true, Option.map_some]
  rw [show (j * z.size + i) % z.size = i from by rw [Nat.add_comm, Nat.add_mul_mod_self_right, Nat.mod_eq_of_lt hl]]
  rw [← hi]
  simp [hl]
theorem made_start (hE : EltOk P rd S O wt C kc R ok zero one f q) {g b n : Nat} {s : σ} {w : World} {t : TypeId} {z : Array Value} (hS : S s w) (hb : Bl w b t (madeCells z (n * kc))) (hz : C zero (.slice none 0 0, .slice none 0 0) = z.toList) (hO : ¬ O w b) (hbg : b ≠ g) (hg : g < w.heap.size) :
    LoopI rd S O C kc R one g b 0 s (List.replicate n zero) w (some ⟨b, 0, none⟩) 0 w := by
  have hzs : z.size = kc := by
    have := hE.len zero (.slice none 0 0, .slice none 0 0)
    rw [hz] at this
    simpa using this
  rcases Nat.eq_zero_or_pos n with h0 | h0
  · subst h0
    exact .inl ⟨rfl, rfl⟩
  · refine .inr ⟨by simpa using h0, hbg, rfl, by simpa [many] using hS, Hr.refl _ _ _ _, fun j x hj => ?_, .inr ⟨_, _, hb⟩, hO, hg⟩
    rw [rowNow_zero] at hj
    obtain ⟨hjn, rfl⟩ := List.getElem?_eq_some_iff.1 hj
    rw [List.length_replicate] at hjn
    rw [List.getElem_replicate]
    refine ⟨(.slice none 0 0, .slice none 0 0), ?_, hE.zR _ _⟩
    rw [hz]
    subst hzs
    exact made_sit hb j hjn
theorem Wr.behind {O : World → Nat → Prop} {rd : Prop} {k o : Nat} {l : List Value} {a b c : World} (h : Hr O rd (fun _ => False) a b) (hk : k < a.heap.size) (hO : ¬ O a k) (h2 : Wr O rd k o l b c) : Wr O rd k o l a c := by
  have hb := h.block k hk hO (.inr fun h => h)
  exact ⟨(h.wider fun _ _ h => h.elim).trans h2.hr, fun t cs hx => h2.bl t cs (hb.trans hx), fun p hp => (h2.out p hp).trans (World.cell?_of_block (show b.heap[(⟨k, p, none⟩ : Addr).block]? = a.heap[(⟨k, p, none⟩ : Addr).block]? from hb)), h2.at_⟩
end

end Go.Proofs.YtpabppoohobjpaaGreat

/-
  The three lists of a letter: the functions that go through them.
-/
namespace Go.Proofs.YtpabppoohobjpaaGreat
open Go Go.RowKit TxnMath KeyMath MsgMath
set_option maxRecDepth 100000

section
variable {σ α : Type} {H : Hand σ} {rd : Prop} {hv : Value} {S : σ → World → Prop} {O : World → Nat → Prop} {wt : σ → Nat} {C : α → Value × Value → List Value} {R : (Nat → Prop) → World → α → Value × Value → Prop} {ok : α → Prop} {zero : α} {one : σ → α → α × σ} {f : FuncId} {q : Value}
theorem run_mk (P : Program) (fn : Fn) (first cap : Array Value) (w : World) : (Instr.makeFunc fn first cap).run P w = .ok (.func fn first cap) w := rfl
theorem info_cells {o : Option TypeInfo} {z : Value} {n b : Nat} (h : o.map (fun i => (i.zero, i.size, i.bytes)) = some (some z, n, b)) : ∃ i, o = some i ∧ i.zero = some z ∧ i.size = n ∧ i.bytes = b := by
  cases o with
  | none => cases h
  | some i =>
    simp only [Option.map_some, Option.some.injEq, Prod.mk.injEq] at h
    exact ⟨i, rfl, h.1, h.2.1, h.2.2⟩

theorem make_E (w : World) (n : Nat) (hn : n ≤ 1000) : (Instr.makeSlice 23 (.int .i64 (n : Int)) (.int .i64 (n : Int))).run Tryz.prog w = .ok (.slice (some ⟨w.heap.size, 0, none⟩) n n) (w.alloc (.cells (madeCells #[.int .i64 0, .bool false, .int .i64 0, .int .i64 0, .slice none 0 0, .slice none 0 0] (n * 6)) 45)) := by
  obtain ⟨i0, hi, hz0, hz1, hz2⟩ := info_cells (show (Tryz.prog.info? 45).map (fun i => (i.zero, i.size, i.bytes)) = some (some (.agg #[.int .i64 0, .bool false, .int .i64 0, .int .i64 0, .slice none 0 0, .slice none 0 0]), 6, 80) by kernel_rfl)
  have h := run_make (P := Tryz.prog) w 23 45 i0 _ Tryz.underlying23 hi hz0 .i64 .i64 (n : Int) (n : Int) (by omega) (Int.le_refl _) (by rw [hz2]; omega) (by omega)
  rw [hz1] at h
  exact h

set_option maxHeartbeats 1000000 in
theorem listE_ok (hH : HandOk Tryz.prog H rd hv S O wt) (hE : EltOk Tryz.prog rd S O wt C 6 R ok zero one f q) {fv : Value} (hF : RunsAs Tryz.prog fv hv f q) (hz : C zero (.slice none 0 0, .slice none 0 0) = [.int .i64 0, .bool false, .int .i64 0, .int .i64 0, .slice none 0 0, .slice none 0 0])
    (s : σ) (xs : List α) (w : World) (g o most : Nat) (v : Value) (hS : S s w) (hw : wt s ≤ 200000000) (hO : ¬ O w g) (hv0 : Sit w g o [v]) (hB : ∃ t cs, Bl w g t cs ∧ o < cs.size) (hX : ListX C R 6 (fun i => ¬ O w i ∧ i ≠ g) w v xs) (hok : ∀ x ∈ xs, ok x) (hn : xs.length ≤ 1000) (hm : most ≤ 1000)
    (hfree : rd ∨ (H.size s xs.length most).1 ≠ xs.length ∨ xs = []) :
    Calls Tryz.prog 87 #[hv, .pointer (some ⟨g, o, none⟩), .int .i64 (most : Int), fv] w (ListPost O rd S C R 6 g o w (H.list zero one most s xs)) := by
  obtain ⟨fS, rS, dS, cS⟩ := hH.size
  have hgl : g < w.heap.size := hv0.lt
  have hg := (Gr.refl w).drew
  obtain ⟨hS0, ho0⟩ := hH.gr hS hg
  have C1 := hide (cS s w.drew xs.length most hS0 (by omega) (by omega) (by omega))
  have hmf := run_mk Tryz.prog
  have hfew := hH.few s xs.length most
  have hwS := hH.wSize s xs.length most
  have hrS := hide (fun h : rd => hH.rdSize h s xs.length most)
  have HL : Hid (H.list zero one most s xs = many one (H.size s xs.length most).2 (sized zero (H.size s xs.length most).1 xs)) := hide rfl
  generalize H.size s xs.length most = y at C1 hfew hwS HL hfree hrS
  obtain ⟨n1, s1⟩ := y
  simp only at C1 hfew hwS HL hfree hrS
  have h0 : Hr O rd (fun _ => False) w w.drew := Hr.of_gr hg ho0
  obtain ⟨A, c, hA⟩ : ∃ A c, v = .slice A xs.length c := by
    obtain ⟨F, ⟨⟨A, c, e, _⟩, _⟩, _⟩ := hX
    rw [List.length_mapIdx] at e
    exact ⟨A, c, e⟩
  subst hA
  have c0 : w.cell? ⟨g, o, none⟩ = some (.slice A xs.length c) := hv0.head
  have HX := hide hX
  have HB := hide hB
  have H0 := hide h0
  have HV := hide hv0
  have HOK := hide hok
  have HZ := hide hz
  clear hX hB h0 hv0 hS0 ho0 hg cS hS hok hz
  go_enter Tryz.func87, Tryz.ntmps87
  go_wp2_with fail
  refine wp_region_still_tail 9 (by kernel_rfl) (by kernel_rfl) ?_
  simp only [List.take_succ_cons, List.take_zero, List.drop_succ_cons, List.drop_zero]
  iterate 7 still_step
  refine still_val 17 rfl rfl (run_ahead dS rfl rfl) (fun b hb => ?_)
  subst hb
  simp only [Act.put, List.setIfInBounds_toArray, List.set_cons_succ, List.set_cons_zero]
  still_step
  refine wpStill_nil ?_
  change wpList _ _ _ _ _ w.drew
  refine wpList_hand2 dS rfl rfl rfl rfl rfl C1.out ?_
  rintro e w1 ⟨rfl, hS1, hR1⟩
  refine ⟨_, rfl, ?_⟩
  simp only [Act.put, List.setIfInBounds_toArray, List.set_cons_succ, List.set_cons_zero]
  have H1 := hide (H0.out.trans hR1)
  have hb1 := H1.out.block g hgl hO (.inr fun h => h)
  have c1 : w1.cell? ⟨g, o, none⟩ = some (.slice A xs.length c) := (World.cell?_of_block (show w1.heap[(⟨g, o, none⟩ : Addr).block]? = w.heap[(⟨g, o, none⟩ : Addr).block]? from hb1)).trans c0
  have HS1 := hide hS1
  have HB1 := hide hb1
  clear hS1 hR1 hb1 c0 C1
  by_cases hnl : n1 = xs.length
  · have hnl' : (n1 : Int) = (xs.length : Int) := by omega
    have HY : Hid (H.list zero one most s xs = many one s1 xs) := hide (by rw [HL.out]; unfold sized; rw [if_pos hnl])
    have hmm : xs.length = n1 := hnl.symm
    have hW2 : Wr O rd g o [.slice A xs.length c] w w1 := Wr.same (H1.out.wider fun _ _ h => h.elim) HB1.out HV.out
    have hX1 : ListX C R 6 (fun i => ¬ O w1 i ∧ i ≠ g) w1 (.slice A xs.length c) xs := by
      obtain ⟨F, h1, h2⟩ := HX.out
      have hmv : Moves (fun i => ¬ O w i ∧ i ≠ g) (fun i => ¬ O w1 i ∧ i ≠ g) w w1 := H1.out.moves (fun i hi => ⟨hi.1, .inr fun h => h⟩) (fun i _ hi ho => ⟨ho, hi.2⟩)
      refine ⟨F, h1.move hmv (fun r hr => ?_), fun j x hj => hE.move (h2 j x hj) hmv⟩
      obtain ⟨j, hj, rfl⟩ := List.mem_mapIdx.1 hr
      rw [hE.len]
      exact hE.pos
    have hg1 : g < w1.heap.size := Nat.lt_of_lt_of_le hgl H1.out.size
    obtain ⟨b, bo, hI, hbb⟩ : ∃ b bo, LoopI rd S O C 6 R one g b bo s1 xs w1 A 0 w1 ∧ (rd ∨ w.heap.size ≤ b) := by
      rcases Nat.eq_zero_or_pos xs.length with h0 | h0
      · exact ⟨w.heap.size, 0, .inl ⟨List.eq_nil_of_length_eq_zero h0, rfl⟩, .inr (Nat.le_refl _)⟩
      · have hrd : rd := by
          rcases hfree with h | h | h
          · exact h
          · exact absurd hnl h
          · rw [h] at h0; simp at h0
        obtain ⟨ad, rfl⟩ : ∃ ad, A = some ad := by
          obtain ⟨F, ⟨⟨A', c', e, _, hr⟩, _⟩, _⟩ := hX1
          injection e with e1 _ _
          have hp := hE.len xs[0] (F 0)
          have hq := hE.pos
          obtain ⟨ad, h1, _⟩ := hr 0 0 (C xs[0] (F 0)) (C xs[0] (F 0))[0] (by rw [List.getElem?_mapIdx, List.getElem?_eq_getElem h0]; rfl) (List.getElem?_eq_getElem (by omega))
          exact ⟨ad, e1.trans h1⟩
        obtain ⟨h1, h2, h3⟩ := LoopAt.start hE HS1.out hg1 hX1 h0 (.inl hrd)
        exact ⟨ad.block, ad.off, .inr ⟨h0, h1, by rw [← h2], h3⟩, .inl hrd⟩
    have hcc : xs.length ≤ c := by
      obtain ⟨F, ⟨⟨A', c', e, hc, _⟩, _⟩, _⟩ := hX1
      rw [List.length_mapIdx] at hc
      injection e with _ _ e3
      omega
    have hO1 := H1.out.own g hgl hO
    have HOY := hide (show ∀ x ∈ xs, ok x from HOK.out)
    have HLM := hide hmm
    have hn1 : n1 ≤ 1000 := by omega
    have HN := hide hn
    have HE := hide (fun w3 (h : LoopI rd S O C 6 R one g b bo s1 xs w1 A xs.length w3) => h.end_ hE HS1.out hW2 hcc hg1 hO1 hbb)
    have HI := hide hI
    have hw1 : wt s1 ≤ 300000000 := by omega
    have HO1 := hide hO1
    have hcg : Hid (∀ bb oo kk wr, LoopI rd S O C 6 R one g bb oo s1 xs w1 A kk wr → wr.cell? ⟨g, o, none⟩ = some (.slice A n1 c)) := hide (by
      intro bb oo kk wr h
      rw [← hmm]
      rcases h with ⟨_, rfl⟩ | ⟨_, hbg, _, hl⟩
      · exact c1
      · exact (World.cell?_of_block (show wr.heap[(⟨g, o, none⟩ : Addr).block]? = w1.heap[(⟨g, o, none⟩ : Addr).block]? from hl.hr.block g hg1 hO1 (.inr fun e => hbg e.symm))).trans c1)
    clear hX1 hW2 hI hcc hO1 hbb hfree HX HV H1 HB1 HS1 HB HL HOK HZ hrS hfew hwS
    rw [hmm] at c1
    rw [hmm]
    clear hmm hnl hnl' hn
    go_wp2_with fail
    go_loopw [34] (fun i wr => ∃ k : Nat, i = .int .i64 k ∧ k ≤ n1 ∧ LoopI rd S O C 6 R one g b bo s1 xs w1 A k wr) (fun i _ => n1 - (intOf i).toNat)
    case atStart => exact ⟨0, rfl, by omega, HI.out⟩
    case round =>
      obtain ⟨k, rfl, hk, hI⟩ := hrel
      have cg := hcg.out _ _ _ _ hI
      by_cases hlt : k < n1
      · have hlt' : (k : Int) < (n1 : Int) := by omega
        rcases hI with ⟨hy, _⟩ | ⟨hpos, hbg, rfl, hl⟩
        · have := HLM.out
          rw [hy] at this
          simp at this
          omega
        have hkl : k < xs.length := by have := HLM.out; omega
        have HC := hide (hl.call hE hkl hw1 HN.out HOY.out).2
        have HPOS := hide hpos
        clear hkl hl hpos
        go_wp2_with (with_reducible refine stop_value rfl ?_)
        change wpList _ _ _ _ _ _
        refine wpList_fn hF rfl rfl rfl rfl (p := .pointer (some ⟨b, bo + k * 6, none⟩)) (by first | rfl | exact congrArg (fun z => Value.pointer (some (Addr.mk b z none))) (show k * 6 = bo + k * 6 by omega) | exact congrArg (fun z => Value.pointer (some (Addr.mk b z none))) (show k = bo + k * 6 by omega) | exact congrArg (fun z => Value.pointer (some (Addr.mk b z none))) (show bo + k = bo + k * 6 by omega)) HC.out ?_
        rintro e w3 ⟨rfl, hl'⟩
        refine ⟨_, rfl, ?_⟩
        have HL3 := hide hl'
        clear hl' HC
        go_wp2_with fail
        go_roundw
        case rel => exact ⟨k + 1, by go_num, by omega, .inr ⟨HPOS.out, hbg, rfl, HL3.out⟩⟩
        case measure => simp [intOf]; omega
      · obtain rfl : n1 = k := by omega
        have HI2 := hide (show LoopI rd S O C 6 R one g b bo s1 xs w1 A xs.length wr by rw [HLM.out]; exact hI)
        clear hI cg
        go_wp2_with fail
        go_end0
        rw [HY.out]
        exact HE.out _ HI2.out
  · have hnl' : ¬ (n1 : Int) = (xs.length : Int) := by omega
    have hno : ¬ rd := fun h => hnl (hrS.out h)
    have hn1 : n1 ≤ 1000 := by omega
    have hmk := fun w => make_E w n1 hn1
    have hneq : ((n1 : Int) != (xs.length : Int)) = true := by
      rw [bne_iff_ne]
      exact hnl'
    have HY : Hid (H.list zero one most s xs = many one s1 (List.replicate n1 zero)) := hide (by rw [HL.out]; unfold sized; rw [if_neg hnl])
    obtain ⟨t0, cs0, hb0, ho0⟩ := HB.out
    have hb1 : Bl w1 g t0 cs0 := HB1.out.trans hb0
    have f1 : w1.frozen? ⟨g, o, none⟩ = false := hb1.frozen o
    have hg1 : g < w1.heap.size := hb1.lt
    have hO1 := H1.out.own g hgl hO
    obtain ⟨v2, hv2⟩ : ∃ v2, v2 = Value.slice (some ⟨w1.heap.size, 0, none⟩) n1 n1 := ⟨_, rfl⟩
    have hbut := hH.but HS1.out hO1 ((But.refl w1 g).set o v2)
    have hset := Wr.set (O := O) (rd := rd) (v := v2) hb1 ho0 (fun h => absurd h hno) hbut.2
    obtain ⟨w2, hw2⟩ : ∃ w2, w2 = (w1.setCell ⟨g, o, none⟩ v2).alloc (.cells (madeCells #[.int .i64 0, .bool false, .int .i64 0, .int .i64 0, .slice none 0 0, .slice none 0 0] (n1 * 6)) 45) := ⟨_, rfl⟩
    have hga : Gr (w1.setCell ⟨g, o, none⟩ v2) w2 := by rw [hw2]; exact (Gr.refl _).alloc _
    obtain ⟨hS2, ho2⟩ := hH.gr hbut.1 hga
    have hsz : (w1.setCell ⟨g, o, none⟩ v2).heap.size = w1.heap.size := by simp [World.setCell]
    obtain ⟨b, hb⟩ : ∃ b, b = w1.heap.size := ⟨_, rfl⟩
    have hbl : Bl w2 b 45 (madeCells #[.int .i64 0, .bool false, .int .i64 0, .int .i64 0, .slice none 0 0, .slice none 0 0] (n1 * 6)) := by rw [hw2, hb, ← hsz]; exact Bl.new _ _ _
    have hOb : ¬ O w2 b := fun h => by
      have := hH.lt HS1.out ((hbut.2 b).1 ((ho2 b).1 h))
      omega
    have hgo : ¬ O (w1.setCell ⟨g, o, none⟩ v2) g := fun h => hO1 ((hbut.2 g).1 h)
    have hW2 : Wr O rd g o [v2] w w2 := (hset.of_hr (Hr.of_gr hga ho2) (by rw [hsz]; exact hg1) hgo).behind H1.out hgl hO
    have hg2 : g < w2.heap.size := by have := hga.size; omega
    have hO2 : ¬ O w2 g := fun h => hgo ((ho2 g).1 h)
    have hI := made_start (rd := rd) hE hS2 hbl HZ.out hOb (show b ≠ g by omega) hg2
    have hsize1 := H1.out.size
    have HE := hide (fun w3 (h : LoopI rd S O C 6 R one g b 0 s1 (List.replicate n1 zero) w2 (some ⟨b, 0, none⟩) (List.replicate n1 zero).length w3) => h.end_ (c := n1) (o := o) hE hS2 (by rw [List.length_replicate, hb, ← hv2]; exact hW2) (by simp) hg2 hO2 (.inr (by omega)))
    have HI := hide hI
    have hw1 : wt s1 ≤ 300000000 := by omega
    have HLM : Hid ((List.replicate n1 zero).length = n1) := hide (by simp)
    have HN : Hid ((List.replicate n1 zero).length ≤ 1000) := hide (by simpa using hn1)
    have HOY : Hid (∀ x ∈ List.replicate n1 zero, ok x) := hide (fun x hx => by obtain ⟨_, rfl⟩ := List.mem_replicate.1 hx; exact hE.zok)
    have c2 : w2.cell? ⟨g, o, none⟩ = some (.slice (some ⟨b, 0, none⟩) n1 n1) := by
      have := hW2.at_.head
      rw [hv2, ← hb] at this
      exact this
    have hcg : Hid (∀ bb oo kk wr, LoopI rd S O C 6 R one g bb oo s1 (List.replicate n1 zero) w2 (some ⟨b, 0, none⟩) kk wr → wr.cell? ⟨g, o, none⟩ = some (.slice (some ⟨b, 0, none⟩) n1 n1)) := hide (by
      intro bb oo kk wr h
      rcases h with ⟨_, rfl⟩ | ⟨_, hbg, _, hl⟩
      · exact c2
      · exact (World.cell?_of_block (show wr.heap[(⟨g, o, none⟩ : Addr).block]? = w2.heap[(⟨g, o, none⟩ : Addr).block]? from hl.hr.block g hg2 hO2 (.inr fun e => hbg e.symm))).trans c2)
    rw [hv2] at hw2
    have HW := hide hw2
    have HBB := hide hb
    clear hI hW2 hS2 ho2 hbl hOb hgo hO2 hg2 hset hbut hga hsz hO1 hb1 hb0 ho0 hfree HX HV H1 HB1 HS1 HB HL HOK HZ hrS hfew hwS c2 hsize1 hno hnl hw2 hb hv2 v2 cs0
    go_wp2_with fail
    rw [← HW.out, ← HBB.out]
    go_loopw [34] (fun i wr => ∃ k : Nat, i = .int .i64 k ∧ k ≤ n1 ∧ LoopI rd S O C 6 R one g b 0 s1 (List.replicate n1 zero) w2 (some ⟨b, 0, none⟩) k wr) (fun i _ => n1 - (intOf i).toNat)
    case atStart => exact ⟨0, rfl, by omega, HI.out⟩
    case round =>
      obtain ⟨k, rfl, hk, hI⟩ := hrel
      have cg := hcg.out _ _ _ _ hI
      by_cases hlt : k < n1
      · have hlt' : (k : Int) < (n1 : Int) := by omega
        rcases hI with ⟨hy, _⟩ | ⟨hpos, hbg, _, hl⟩
        · have := HLM.out
          rw [hy] at this
          simp at this
          omega
        have hkl : k < (List.replicate n1 zero).length := by have := HLM.out; omega
        have HC := hide (hl.call hE hkl hw1 HN.out HOY.out).2
        have HPOS := hide hpos
        clear hkl hl hpos
        go_wp2_with (with_reducible refine stop_value rfl ?_)
        change wpList _ _ _ _ _ _
        refine wpList_fn hF rfl rfl rfl rfl (p := .pointer (some ⟨b, 0 + k * 6, none⟩)) (by first | rfl | exact congrArg (fun z => Value.pointer (some (Addr.mk b z none))) (show k * 6 = 0 + k * 6 by omega) | exact congrArg (fun z => Value.pointer (some (Addr.mk b z none))) (show k = 0 + k * 6 by omega) | exact congrArg (fun z => Value.pointer (some (Addr.mk b z none))) (show 0 + k = 0 + k * 6 by omega)) HC.out ?_
        rintro e w3 ⟨rfl, hl'⟩
        refine ⟨_, rfl, ?_⟩
        have HL3 := hide hl'
        clear hl' HC
        go_wp2_with fail
        go_roundw
        case rel => exact ⟨k + 1, by go_num, by omega, .inr ⟨HPOS.out, hbg, rfl, HL3.out⟩⟩
        case measure => simp [intOf]; omega
      · obtain rfl : n1 = k := by omega
        have HI2 := hide (show LoopI rd S O C 6 R one g b 0 s1 (List.replicate n1 zero) w2 (some ⟨b, 0, none⟩) (List.replicate n1 zero).length wr by rw [HLM.out]; exact hI)
        clear hI cg
        go_wp2_with fail
        go_end0
        rw [HY.out]
        exact HE.out _ HI2.out

theorem make_S (w : World) (n : Nat) (hn : n ≤ 1000) : (Instr.makeSlice 28 (.int .i64 (n : Int)) (.int .i64 (n : Int))).run Tryz.prog w = .ok (.slice (some ⟨w.heap.size, 0, none⟩) n n) (w.alloc (.cells (madeCells #[.string ⟨#[]⟩] (n * 1)) 9)) := by
  obtain ⟨i0, hi, hz0, hz1, hz2⟩ := info_cells (show (Tryz.prog.info? 9).map (fun i => (i.zero, i.size, i.bytes)) = some (some (.string ⟨#[]⟩), 1, 16) by kernel_rfl)
  have h := run_make (P := Tryz.prog) w 28 9 i0 _ Tryz.underlying28 hi hz0 .i64 .i64 (n : Int) (n : Int) (by omega) (Int.le_refl _) (by rw [hz2]; omega) (by omega)
  rw [hz1] at h
  exact h

set_option maxHeartbeats 1000000 in
theorem listS_ok (hH : HandOk Tryz.prog H rd hv S O wt) (hE : EltOk Tryz.prog rd S O wt C 1 R ok zero one f q) {fv : Value} (hF : RunsAs Tryz.prog fv hv f q) (hz : C zero (.slice none 0 0, .slice none 0 0) = [.string ⟨#[]⟩])
    (s : σ) (xs : List α) (w : World) (g o most : Nat) (v : Value) (hS : S s w) (hw : wt s ≤ 200000000) (hO : ¬ O w g) (hv0 : Sit w g o [v]) (hB : ∃ t cs, Bl w g t cs ∧ o < cs.size) (hX : ListX C R 1 (fun i => ¬ O w i ∧ i ≠ g) w v xs) (hok : ∀ x ∈ xs, ok x) (hn : xs.length ≤ 1000) (hm : most ≤ 1000)
    (hfree : rd ∨ (H.size s xs.length most).1 ≠ xs.length ∨ xs = []) :
    Calls Tryz.prog 89 #[hv, .pointer (some ⟨g, o, none⟩), .int .i64 (most : Int), fv] w (ListPost O rd S C R 1 g o w (H.list zero one most s xs)) := by
  obtain ⟨fS, rS, dS, cS⟩ := hH.size
  have hgl : g < w.heap.size := hv0.lt
  have hg := (Gr.refl w).drew
  obtain ⟨hS0, ho0⟩ := hH.gr hS hg
  have C1 := hide (cS s w.drew xs.length most hS0 (by omega) (by omega) (by omega))
  have hmf := run_mk Tryz.prog
  have hfew := hH.few s xs.length most
  have hwS := hH.wSize s xs.length most
  have hrS := hide (fun h : rd => hH.rdSize h s xs.length most)
  have HL : Hid (H.list zero one most s xs = many one (H.size s xs.length most).2 (sized zero (H.size s xs.length most).1 xs)) := hide rfl
  generalize H.size s xs.length most = y at C1 hfew hwS HL hfree hrS
  obtain ⟨n1, s1⟩ := y
  simp only at C1 hfew hwS HL hfree hrS
  have h0 : Hr O rd (fun _ => False) w w.drew := Hr.of_gr hg ho0
  obtain ⟨A, c, hA⟩ : ∃ A c, v = .slice A xs.length c := by
    obtain ⟨F, ⟨⟨A, c, e, _⟩, _⟩, _⟩ := hX
    rw [List.length_mapIdx] at e
    exact ⟨A, c, e⟩
  subst hA
  have c0 : w.cell? ⟨g, o, none⟩ = some (.slice A xs.length c) := hv0.head
  have HX := hide hX
  have HB := hide hB
  have H0 := hide h0
  have HV := hide hv0
  have HOK := hide hok
  have HZ := hide hz
  clear hX hB h0 hv0 hS0 ho0 hg cS hS hok hz
  go_enter Tryz.func89, Tryz.ntmps89
  go_wp2_with fail
  refine wp_region_still_tail 9 (by kernel_rfl) (by kernel_rfl) ?_
  simp only [List.take_succ_cons, List.take_zero, List.drop_succ_cons, List.drop_zero]
  iterate 7 still_step
  refine still_val 17 rfl rfl (run_ahead dS rfl rfl) (fun b hb => ?_)
  subst hb
  simp only [Act.put, List.setIfInBounds_toArray, List.set_cons_succ, List.set_cons_zero]
  still_step
  refine wpStill_nil ?_
  change wpList _ _ _ _ _ w.drew
  refine wpList_hand2 dS rfl rfl rfl rfl rfl C1.out ?_
  rintro e w1 ⟨rfl, hS1, hR1⟩
  refine ⟨_, rfl, ?_⟩
  simp only [Act.put, List.setIfInBounds_toArray, List.set_cons_succ, List.set_cons_zero]
  have H1 := hide (H0.out.trans hR1)
  have hb1 := H1.out.block g hgl hO (.inr fun h => h)
  have c1 : w1.cell? ⟨g, o, none⟩ = some (.slice A xs.length c) := (World.cell?_of_block (show w1.heap[(⟨g, o, none⟩ : Addr).block]? = w.heap[(⟨g, o, none⟩ : Addr).block]? from hb1)).trans c0
  have HS1 := hide hS1
  have HB1 := hide hb1
  clear hS1 hR1 hb1 c0 C1
  by_cases hnl : n1 = xs.length
  · have hnl' : (n1 : Int) = (xs.length : Int) := by omega
    have HY : Hid (H.list zero one most s xs = many one s1 xs) := hide (by rw [HL.out]; unfold sized; rw [if_pos hnl])
    have hmm : xs.length = n1 := hnl.symm
    have hW2 : Wr O rd g o [.slice A xs.length c] w w1 := Wr.same (H1.out.wider fun _ _ h => h.elim) HB1.out HV.out
    have hX1 : ListX C R 1 (fun i => ¬ O w1 i ∧ i ≠ g) w1 (.slice A xs.length c) xs := by
      obtain ⟨F, h1, h2⟩ := HX.out
      have hmv : Moves (fun i => ¬ O w i ∧ i ≠ g) (fun i => ¬ O w1 i ∧ i ≠ g) w w1 := H1.out.moves (fun i hi => ⟨hi.1, .inr fun h => h⟩) (fun i _ hi ho => ⟨ho, hi.2⟩)
      refine ⟨F, h1.move hmv (fun r hr => ?_), fun j x hj => hE.move (h2 j x hj) hmv⟩
      obtain ⟨j, hj, rfl⟩ := List.mem_mapIdx.1 hr
      rw [hE.len]
      exact hE.pos
    have hg1 : g < w1.heap.size := Nat.lt_of_lt_of_le hgl H1.out.size
    obtain ⟨b, bo, hI, hbb⟩ : ∃ b bo, LoopI rd S O C 1 R one g b bo s1 xs w1 A 0 w1 ∧ (rd ∨ w.heap.size ≤ b) := by
      rcases Nat.eq_zero_or_pos xs.length with h0 | h0
      · exact ⟨w.heap.size, 0, .inl ⟨List.eq_nil_of_length_eq_zero h0, rfl⟩, .inr (Nat.le_refl _)⟩
      · have hrd : rd := by
          rcases hfree with h | h | h
          · exact h
          · exact absurd hnl h
          · rw [h] at h0; simp at h0
        obtain ⟨ad, rfl⟩ : ∃ ad, A = some ad := by
          obtain ⟨F, ⟨⟨A', c', e, _, hr⟩, _⟩, _⟩ := hX1
          injection e with e1 _ _
          have hp := hE.len xs[0] (F 0)
          have hq := hE.pos
          obtain ⟨ad, h1, _⟩ := hr 0 0 (C xs[0] (F 0)) (C xs[0] (F 0))[0] (by rw [List.getElem?_mapIdx, List.getElem?_eq_getElem h0]; rfl) (List.getElem?_eq_getElem (by omega))
          exact ⟨ad, e1.trans h1⟩
        obtain ⟨h1, h2, h3⟩ := LoopAt.start hE HS1.out hg1 hX1 h0 (.inl hrd)
        exact ⟨ad.block, ad.off, .inr ⟨h0, h1, by rw [← h2], h3⟩, .inl hrd⟩
    have hcc : xs.length ≤ c := by
      obtain ⟨F, ⟨⟨A', c', e, hc, _⟩, _⟩, _⟩ := hX1
      rw [List.length_mapIdx] at hc
      injection e with _ _ e3
      omega
    have hO1 := H1.out.own g hgl hO
    have HOY := hide (show ∀ x ∈ xs, ok x from HOK.out)
    have HLM := hide hmm
    have hn1 : n1 ≤ 1000 := by omega
    have HN := hide hn
    have HE := hide (fun w3 (h : LoopI rd S O C 1 R one g b bo s1 xs w1 A xs.length w3) => h.end_ hE HS1.out hW2 hcc hg1 hO1 hbb)
    have HI := hide hI
    have hw1 : wt s1 ≤ 300000000 := by omega
    have HO1 := hide hO1
    have hcg : Hid (∀ bb oo kk wr, LoopI rd S O C 1 R one g bb oo s1 xs w1 A kk wr → wr.cell? ⟨g, o, none⟩ = some (.slice A n1 c)) := hide (by
      intro bb oo kk wr h
      rw [← hmm]
      rcases h with ⟨_, rfl⟩ | ⟨_, hbg, _, hl⟩
      · exact c1
      · exact (World.cell?_of_block (show wr.heap[(⟨g, o, none⟩ : Addr).block]? = w1.heap[(⟨g, o, none⟩ : Addr).block]? from hl.hr.block g hg1 hO1 (.inr fun e => hbg e.symm))).trans c1)
    clear hX1 hW2 hI hcc hO1 hbb hfree HX HV H1 HB1 HS1 HB HL HOK HZ hrS hfew hwS
    rw [hmm] at c1
    rw [hmm]
    clear hmm hnl hnl' hn
    go_wp2_with fail
    go_loopw [34] (fun i wr => ∃ k : Nat, i = .int .i64 k ∧ k ≤ n1 ∧ LoopI rd S O C 1 R one g b bo s1 xs w1 A k wr) (fun i _ => n1 - (intOf i).toNat)
    case atStart => exact ⟨0, rfl, by omega, HI.out⟩
    case round =>
      obtain ⟨k, rfl, hk, hI⟩ := hrel
      have cg := hcg.out _ _ _ _ hI
      by_cases hlt : k < n1
      · have hlt' : (k : Int) < (n1 : Int) := by omega
        rcases hI with ⟨hy, _⟩ | ⟨hpos, hbg, rfl, hl⟩
        · have := HLM.out
          rw [hy] at this
          simp at this
          omega
        have hkl : k < xs.length := by have := HLM.out; omega
        have HC := hide (hl.call hE hkl hw1 HN.out HOY.out).2
        have HPOS := hide hpos
        clear hkl hl hpos
        go_wp2_with (with_reducible refine stop_value rfl ?_)
        change wpList _ _ _ _ _ _
        refine wpList_fn hF rfl rfl rfl rfl (p := .pointer (some ⟨b, bo + k * 1, none⟩)) (by first | rfl | exact congrArg (fun z => Value.pointer (some (Addr.mk b z none))) (show k * 1 = bo + k * 1 by omega) | exact congrArg (fun z => Value.pointer (some (Addr.mk b z none))) (show k = bo + k * 1 by omega) | exact congrArg (fun z => Value.pointer (some (Addr.mk b z none))) (show bo + k = bo + k * 1 by omega)) HC.out ?_
        rintro e w3 ⟨rfl, hl'⟩
        refine ⟨_, rfl, ?_⟩
        have HL3 := hide hl'
        clear hl' HC
        go_wp2_with fail
        go_roundw
        case rel => exact ⟨k + 1, by go_num, by omega, .inr ⟨HPOS.out, hbg, rfl, HL3.out⟩⟩
        case measure => simp [intOf]; omega
      · obtain rfl : n1 = k := by omega
        have HI2 := hide (show LoopI rd S O C 1 R one g b bo s1 xs w1 A xs.length wr by rw [HLM.out]; exact hI)
        clear hI cg
        go_wp2_with fail
        go_end0
        rw [HY.out]
        exact HE.out _ HI2.out
  · have hnl' : ¬ (n1 : Int) = (xs.length : Int) := by omega
    have hno : ¬ rd := fun h => hnl (hrS.out h)
    have hn1 : n1 ≤ 1000 := by omega
    have hmk := fun w => make_S w n1 hn1
    have hneq : ((n1 : Int) != (xs.length : Int)) = true := by
      rw [bne_iff_ne]
      exact hnl'
    have HY : Hid (H.list zero one most s xs = many one s1 (List.replicate n1 zero)) := hide (by rw [HL.out]; unfold sized; rw [if_neg hnl])
    obtain ⟨t0, cs0, hb0, ho0⟩ := HB.out
    have hb1 : Bl w1 g t0 cs0 := HB1.out.trans hb0
    have f1 : w1.frozen? ⟨g, o, none⟩ = false := hb1.frozen o
    have hg1 : g < w1.heap.size := hb1.lt
    have hO1 := H1.out.own g hgl hO
    obtain ⟨v2, hv2⟩ : ∃ v2, v2 = Value.slice (some ⟨w1.heap.size, 0, none⟩) n1 n1 := ⟨_, rfl⟩
    have hbut := hH.but HS1.out hO1 ((But.refl w1 g).set o v2)
    have hset := Wr.set (O := O) (rd := rd) (v := v2) hb1 ho0 (fun h => absurd h hno) hbut.2
    obtain ⟨w2, hw2⟩ : ∃ w2, w2 = (w1.setCell ⟨g, o, none⟩ v2).alloc (.cells (madeCells #[.string ⟨#[]⟩] (n1 * 1)) 9) := ⟨_, rfl⟩
    have hga : Gr (w1.setCell ⟨g, o, none⟩ v2) w2 := by rw [hw2]; exact (Gr.refl _).alloc _
    obtain ⟨hS2, ho2⟩ := hH.gr hbut.1 hga
    have hsz : (w1.setCell ⟨g, o, none⟩ v2).heap.size = w1.heap.size := by simp [World.setCell]
    obtain ⟨b, hb⟩ : ∃ b, b = w1.heap.size := ⟨_, rfl⟩
    have hbl : Bl w2 b 9 (madeCells #[.string ⟨#[]⟩] (n1 * 1)) := by rw [hw2, hb, ← hsz]; exact Bl.new _ _ _
    have hOb : ¬ O w2 b := fun h => by
      have := hH.lt HS1.out ((hbut.2 b).1 ((ho2 b).1 h))
      omega
    have hgo : ¬ O (w1.setCell ⟨g, o, none⟩ v2) g := fun h => hO1 ((hbut.2 g).1 h)
    have hW2 : Wr O rd g o [v2] w w2 := (hset.of_hr (Hr.of_gr hga ho2) (by rw [hsz]; exact hg1) hgo).behind H1.out hgl hO
    have hg2 : g < w2.heap.size := by have := hga.size; omega
    have hO2 : ¬ O w2 g := fun h => hgo ((ho2 g).1 h)
    have hI := made_start (rd := rd) hE hS2 hbl HZ.out hOb (show b ≠ g by omega) hg2
    have hsize1 := H1.out.size
    have HE := hide (fun w3 (h : LoopI rd S O C 1 R one g b 0 s1 (List.replicate n1 zero) w2 (some ⟨b, 0, none⟩) (List.replicate n1 zero).length w3) => h.end_ (c := n1) (o := o) hE hS2 (by rw [List.length_replicate, hb, ← hv2]; exact hW2) (by simp) hg2 hO2 (.inr (by omega)))
    have HI := hide hI
    have hw1 : wt s1 ≤ 300000000 := by omega
    have HLM : Hid ((List.replicate n1 zero).length = n1) := hide (by simp)
    have HN : Hid ((List.replicate n1 zero).length ≤ 1000) := hide (by simpa using hn1)
    have HOY : Hid (∀ x ∈ List.replicate n1 zero, ok x) := hide (fun x hx => by obtain ⟨_, rfl⟩ := List.mem_replicate.1 hx; exact hE.zok)
    have c2 : w2.cell? ⟨g, o, none⟩ = some (.slice (some ⟨b, 0, none⟩) n1 n1) := by
      have := hW2.at_.head
      rw [hv2, ← hb] at this
      exact this
    have hcg : Hid (∀ bb oo kk wr, LoopI rd S O C 1 R one g bb oo s1 (List.replicate n1 zero) w2 (some ⟨b, 0, none⟩) kk wr → wr.cell? ⟨g, o, none⟩ = some (.slice (some ⟨b, 0, none⟩) n1 n1)) := hide (by
      intro bb oo kk wr h
      rcases h with ⟨_, rfl⟩ | ⟨_, hbg, _, hl⟩
      · exact c2
      · exact (World.cell?_of_block (show wr.heap[(⟨g, o, none⟩ : Addr).block]? = w2.heap[(⟨g, o, none⟩ : Addr).block]? from hl.hr.block g hg2 hO2 (.inr fun e => hbg e.symm))).trans c2)
    rw [hv2] at hw2
    rw [Nat.mul_one] at hw2
    have HW := hide hw2
    have HBB := hide hb
    clear hI hW2 hS2 ho2 hbl hOb hgo hO2 hg2 hset hbut hga hsz hO1 hb1 hb0 ho0 hfree HX HV H1 HB1 HS1 HB HL HOK HZ hrS hfew hwS c2 hsize1 hno hnl hw2 hb hv2 v2 cs0
    go_wp2_with fail
    rw [← HW.out, ← HBB.out]
    go_loopw [34] (fun i wr => ∃ k : Nat, i = .int .i64 k ∧ k ≤ n1 ∧ LoopI rd S O C 1 R one g b 0 s1 (List.replicate n1 zero) w2 (some ⟨b, 0, none⟩) k wr) (fun i _ => n1 - (intOf i).toNat)
    case atStart => exact ⟨0, rfl, by omega, HI.out⟩
    case round =>
      obtain ⟨k, rfl, hk, hI⟩ := hrel
      have cg := hcg.out _ _ _ _ hI
      by_cases hlt : k < n1
      · have hlt' : (k : Int) < (n1 : Int) := by omega
        rcases hI with ⟨hy, _⟩ | ⟨hpos, hbg, _, hl⟩
        · have := HLM.out
          rw [hy] at this
          simp at this
          omega
        have hkl : k < (List.replicate n1 zero).length := by have := HLM.out; omega
        have HC := hide (hl.call hE hkl hw1 HN.out HOY.out).2
        have HPOS := hide hpos
        clear hkl hl hpos
        go_wp2_with (with_reducible refine stop_value rfl ?_)
        change wpList _ _ _ _ _ _
        refine wpList_fn hF rfl rfl rfl rfl (p := .pointer (some ⟨b, 0 + k * 1, none⟩)) (by first | rfl | exact congrArg (fun z => Value.pointer (some (Addr.mk b z none))) (show k * 1 = 0 + k * 1 by omega) | exact congrArg (fun z => Value.pointer (some (Addr.mk b z none))) (show k = 0 + k * 1 by omega) | exact congrArg (fun z => Value.pointer (some (Addr.mk b z none))) (show 0 + k = 0 + k * 1 by omega)) HC.out ?_
        rintro e w3 ⟨rfl, hl'⟩
        refine ⟨_, rfl, ?_⟩
        have HL3 := hide hl'
        clear hl' HC
        go_wp2_with fail
        go_roundw
        case rel => exact ⟨k + 1, by go_num, by omega, .inr ⟨HPOS.out, hbg, rfl, HL3.out⟩⟩
        case measure => simp [intOf]; omega
      · obtain rfl : n1 = k := by omega
        have HI2 := hide (show LoopI rd S O C 1 R one g b 0 s1 (List.replicate n1 zero) w2 (some ⟨b, 0, none⟩) (List.replicate n1 zero).length wr by rw [HLM.out]; exact hI)
        clear hI cg
        go_wp2_with fail
        go_end0
        rw [HY.out]
        exact HE.out _ HI2.out

theorem make_R (w : World) (n : Nat) (hn : n ≤ 1000) : (Instr.makeSlice 24 (.int .i64 (n : Int)) (.int .i64 (n : Int))).run Tryz.prog w = .ok (.slice (some ⟨w.heap.size, 0, none⟩) n n) (w.alloc (.cells (madeCells #[.string ⟨#[]⟩, .int .i64 0, .string ⟨#[]⟩, .bool false] (n * 4)) 47)) := by
  obtain ⟨i0, hi, hz0, hz1, hz2⟩ := info_cells (show (Tryz.prog.info? 47).map (fun i => (i.zero, i.size, i.bytes)) = some (some (.agg #[.string ⟨#[]⟩, .int .i64 0, .string ⟨#[]⟩, .bool false]), 4, 48) by kernel_rfl)
  have h := run_make (P := Tryz.prog) w 24 47 i0 _ Tryz.underlying24 hi hz0 .i64 .i64 (n : Int) (n : Int) (by omega) (Int.le_refl _) (by rw [hz2]; omega) (by omega)
  rw [hz1] at h
  exact h

set_option maxHeartbeats 1000000 in
theorem listR_ok (hH : HandOk Tryz.prog H rd hv S O wt) (hE : EltOk Tryz.prog rd S O wt C 4 R ok zero one f q) {fv : Value} (hF : RunsAs Tryz.prog fv hv f q) (hz : C zero (.slice none 0 0, .slice none 0 0) = [.string ⟨#[]⟩, .int .i64 0, .string ⟨#[]⟩, .bool false])
    (s : σ) (xs : List α) (w : World) (g o most : Nat) (v : Value) (hS : S s w) (hw : wt s ≤ 200000000) (hO : ¬ O w g) (hv0 : Sit w g o [v]) (hB : ∃ t cs, Bl w g t cs ∧ o < cs.size) (hX : ListX C R 4 (fun i => ¬ O w i ∧ i ≠ g) w v xs) (hok : ∀ x ∈ xs, ok x) (hn : xs.length ≤ 1000) (hm : most ≤ 1000)
    (hfree : rd ∨ (H.size s xs.length most).1 ≠ xs.length ∨ xs = []) :
    Calls Tryz.prog 90 #[hv, .pointer (some ⟨g, o, none⟩), .int .i64 (most : Int), fv] w (ListPost O rd S C R 4 g o w (H.list zero one most s xs)) := by
  obtain ⟨fS, rS, dS, cS⟩ := hH.size
  have hgl : g < w.heap.size := hv0.lt
  have hg := (Gr.refl w).drew
  obtain ⟨hS0, ho0⟩ := hH.gr hS hg
  have C1 := hide (cS s w.drew xs.length most hS0 (by omega) (by omega) (by omega))
  have hmf := run_mk Tryz.prog
  have hfew := hH.few s xs.length most
  have hwS := hH.wSize s xs.length most
  have hrS := hide (fun h : rd => hH.rdSize h s xs.length most)
  have HL : Hid (H.list zero one most s xs = many one (H.size s xs.length most).2 (sized zero (H.size s xs.length most).1 xs)) := hide rfl
  generalize H.size s xs.length most = y at C1 hfew hwS HL hfree hrS
  obtain ⟨n1, s1⟩ := y
  simp only at C1 hfew hwS HL hfree hrS
  have h0 : Hr O rd (fun _ => False) w w.drew := Hr.of_gr hg ho0
  obtain ⟨A, c, hA⟩ : ∃ A c, v = .slice A xs.length c := by
    obtain ⟨F, ⟨⟨A, c, e, _⟩, _⟩, _⟩ := hX
    rw [List.length_mapIdx] at e
    exact ⟨A, c, e⟩
  subst hA
  have c0 : w.cell? ⟨g, o, none⟩ = some (.slice A xs.length c) := hv0.head
  have HX := hide hX
  have HB := hide hB
  have H0 := hide h0
  have HV := hide hv0
  have HOK := hide hok
  have HZ := hide hz
  clear hX hB h0 hv0 hS0 ho0 hg cS hS hok hz
  go_enter Tryz.func90, Tryz.ntmps90
  go_wp2_with fail
  refine wp_region_still_tail 9 (by kernel_rfl) (by kernel_rfl) ?_
  simp only [List.take_succ_cons, List.take_zero, List.drop_succ_cons, List.drop_zero]
  iterate 7 still_step
  refine still_val 17 rfl rfl (run_ahead dS rfl rfl) (fun b hb => ?_)
  subst hb
  simp only [Act.put, List.setIfInBounds_toArray, List.set_cons_succ, List.set_cons_zero]
  still_step
  refine wpStill_nil ?_
  change wpList _ _ _ _ _ w.drew
  refine wpList_hand2 dS rfl rfl rfl rfl rfl C1.out ?_
  rintro e w1 ⟨rfl, hS1, hR1⟩
  refine ⟨_, rfl, ?_⟩
  simp only [Act.put, List.setIfInBounds_toArray, List.set_cons_succ, List.set_cons_zero]
  have H1 := hide (H0.out.trans hR1)
  have hb1 := H1.out.block g hgl hO (.inr fun h => h)
  have c1 : w1.cell? ⟨g, o, none⟩ = some (.slice A xs.length c) := (World.cell?_of_block (show w1.heap[(⟨g, o, none⟩ : Addr).block]? = w.heap[(⟨g, o, none⟩ : Addr).block]? from hb1)).trans c0
  have HS1 := hide hS1
  have HB1 := hide hb1
  clear hS1 hR1 hb1 c0 C1
  by_cases hnl : n1 = xs.length
  · have hnl' : (n1 : Int) = (xs.length : Int) := by omega
    have HY : Hid (H.list zero one most s xs = many one s1 xs) := hide (by rw [HL.out]; unfold sized; rw [if_pos hnl])
    have hmm : xs.length = n1 := hnl.symm
    have hW2 : Wr O rd g o [.slice A xs.length c] w w1 := Wr.same (H1.out.wider fun _ _ h => h.elim) HB1.out HV.out
    have hX1 : ListX C R 4 (fun i => ¬ O w1 i ∧ i ≠ g) w1 (.slice A xs.length c) xs := by
      obtain ⟨F, h1, h2⟩ := HX.out
      have hmv : Moves (fun i => ¬ O w i ∧ i ≠ g) (fun i => ¬ O w1 i ∧ i ≠ g) w w1 := H1.out.moves (fun i hi => ⟨hi.1, .inr fun h => h⟩) (fun i _ hi ho => ⟨ho, hi.2⟩)
      refine ⟨F, h1.move hmv (fun r hr => ?_), fun j x hj => hE.move (h2 j x hj) hmv⟩
      obtain ⟨j, hj, rfl⟩ := List.mem_mapIdx.1 hr
      rw [hE.len]
      exact hE.pos
    have hg1 : g < w1.heap.size := Nat.lt_of_lt_of_le hgl H1.out.size
    obtain ⟨b, bo, hI, hbb⟩ : ∃ b bo, LoopI rd S O C 4 R one g b bo s1 xs w1 A 0 w1 ∧ (rd ∨ w.heap.size ≤ b) := by
      rcases Nat.eq_zero_or_pos xs.length with h0 | h0
      · exact ⟨w.heap.size, 0, .inl ⟨List.eq_nil_of_length_eq_zero h0, rfl⟩, .inr (Nat.le_refl _)⟩
      · have hrd : rd := by
          rcases hfree with h | h | h
          · exact h
          · exact absurd hnl h
          · rw [h] at h0; simp at h0
        obtain ⟨ad, rfl⟩ : ∃ ad, A = some ad := by
          obtain ⟨F, ⟨⟨A', c', e, _, hr⟩, _⟩, _⟩ := hX1
          injection e with e1 _ _
          have hp := hE.len xs[0] (F 0)
          have hq := hE.pos
          obtain ⟨ad, h1, _⟩ := hr 0 0 (C xs[0] (F 0)) (C xs[0] (F 0))[0] (by rw [List.getElem?_mapIdx, List.getElem?_eq_getElem h0]; rfl) (List.getElem?_eq_getElem (by omega))
          exact ⟨ad, e1.trans h1⟩
        obtain ⟨h1, h2, h3⟩ := LoopAt.start hE HS1.out hg1 hX1 h0 (.inl hrd)
        exact ⟨ad.block, ad.off, .inr ⟨h0, h1, by rw [← h2], h3⟩, .inl hrd⟩
    have hcc : xs.length ≤ c := by
      obtain ⟨F, ⟨⟨A', c', e, hc, _⟩, _⟩, _⟩ := hX1
      rw [List.length_mapIdx] at hc
      injection e with _ _ e3
      omega
    have hO1 := H1.out.own g hgl hO
    have HOY := hide (show ∀ x ∈ xs, ok x from HOK.out)
    have HLM := hide hmm
    have hn1 : n1 ≤ 1000 := by omega
    have HN := hide hn
    have HE := hide (fun w3 (h : LoopI rd S O C 4 R one g b bo s1 xs w1 A xs.length w3) => h.end_ hE HS1.out hW2 hcc hg1 hO1 hbb)
    have HI := hide hI
    have hw1 : wt s1 ≤ 300000000 := by omega
    have HO1 := hide hO1
    have hcg : Hid (∀ bb oo kk wr, LoopI rd S O C 4 R one g bb oo s1 xs w1 A kk wr → wr.cell? ⟨g, o, none⟩ = some (.slice A n1 c)) := hide (by
      intro bb oo kk wr h
      rw [← hmm]
      rcases h with ⟨_, rfl⟩ | ⟨_, hbg, _, hl⟩
      · exact c1
      · exact (World.cell?_of_block (show wr.heap[(⟨g, o, none⟩ : Addr).block]? = w1.heap[(⟨g, o, none⟩ : Addr).block]? from hl.hr.block g hg1 hO1 (.inr fun e => hbg e.symm))).trans c1)
    clear hX1 hW2 hI hcc hO1 hbb hfree HX HV H1 HB1 HS1 HB HL HOK HZ hrS hfew hwS
    rw [hmm] at c1
    rw [hmm]
    clear hmm hnl hnl' hn
    go_wp2_with fail
    go_loopw [34] (fun i wr => ∃ k : Nat, i = .int .i64 k ∧ k ≤ n1 ∧ LoopI rd S O C 4 R one g b bo s1 xs w1 A k wr) (fun i _ => n1 - (intOf i).toNat)
    case atStart => exact ⟨0, rfl, by omega, HI.out⟩
    case round =>
      obtain ⟨k, rfl, hk, hI⟩ := hrel
      have cg := hcg.out _ _ _ _ hI
      by_cases hlt : k < n1
      · have hlt' : (k : Int) < (n1 : Int) := by omega
        rcases hI with ⟨hy, _⟩ | ⟨hpos, hbg, rfl, hl⟩
        · have := HLM.out
          rw [hy] at this
          simp at this
          omega
        have hkl : k < xs.length := by have := HLM.out; omega
        have HC := hide (hl.call hE hkl hw1 HN.out HOY.out).2
        have HPOS := hide hpos
        clear hkl hl hpos
        go_wp2_with (with_reducible refine stop_value rfl ?_)
        change wpList _ _ _ _ _ _
        refine wpList_fn hF rfl rfl rfl rfl (p := .pointer (some ⟨b, bo + k * 4, none⟩)) (by first | rfl | exact congrArg (fun z => Value.pointer (some (Addr.mk b z none))) (show k * 4 = bo + k * 4 by omega) | exact congrArg (fun z => Value.pointer (some (Addr.mk b z none))) (show k = bo + k * 4 by omega) | exact congrArg (fun z => Value.pointer (some (Addr.mk b z none))) (show bo + k = bo + k * 4 by omega)) HC.out ?_
        rintro e w3 ⟨rfl, hl'⟩
        refine ⟨_, rfl, ?_⟩
        have HL3 := hide hl'
        clear hl' HC
        go_wp2_with fail
        go_roundw
        case rel => exact ⟨k + 1, by go_num, by omega, .inr ⟨HPOS.out, hbg, rfl, HL3.out⟩⟩
        case measure => simp [intOf]; omega
      · obtain rfl : n1 = k := by omega
        have HI2 := hide (show LoopI rd S O C 4 R one g b bo s1 xs w1 A xs.length wr by rw [HLM.out]; exact hI)
        clear hI cg
        go_wp2_with fail
        go_end0
        rw [HY.out]
        exact HE.out _ HI2.out
  · have hnl' : ¬ (n1 : Int) = (xs.length : Int) := by omega
    have hno : ¬ rd := fun h => hnl (hrS.out h)
    have hn1 : n1 ≤ 1000 := by omega
    have hmk := fun w => make_R w n1 hn1
    have hneq : ((n1 : Int) != (xs.length : Int)) = true := by
      rw [bne_iff_ne]
      exact hnl'
    have HY : Hid (H.list zero one most s xs = many one s1 (List.replicate n1 zero)) := hide (by rw [HL.out]; unfold sized; rw [if_neg hnl])
    obtain ⟨t0, cs0, hb0, ho0⟩ := HB.out
    have hb1 : Bl w1 g t0 cs0 := HB1.out.trans hb0
    have f1 : w1.frozen? ⟨g, o, none⟩ = false := hb1.frozen o
    have hg1 : g < w1.heap.size := hb1.lt
    have hO1 := H1.out.own g hgl hO
    obtain ⟨v2, hv2⟩ : ∃ v2, v2 = Value.slice (some ⟨w1.heap.size, 0, none⟩) n1 n1 := ⟨_, rfl⟩
    have hbut := hH.but HS1.out hO1 ((But.refl w1 g).set o v2)
    have hset := Wr.set (O := O) (rd := rd) (v := v2) hb1 ho0 (fun h => absurd h hno) hbut.2
    obtain ⟨w2, hw2⟩ : ∃ w2, w2 = (w1.setCell ⟨g, o, none⟩ v2).alloc (.cells (madeCells #[.string ⟨#[]⟩, .int .i64 0, .string ⟨#[]⟩, .bool false] (n1 * 4)) 47) := ⟨_, rfl⟩
    have hga : Gr (w1.setCell ⟨g, o, none⟩ v2) w2 := by rw [hw2]; exact (Gr.refl _).alloc _
    obtain ⟨hS2, ho2⟩ := hH.gr hbut.1 hga
    have hsz : (w1.setCell ⟨g, o, none⟩ v2).heap.size = w1.heap.size := by simp [World.setCell]
    obtain ⟨b, hb⟩ : ∃ b, b = w1.heap.size := ⟨_, rfl⟩
    have hbl : Bl w2 b 47 (madeCells #[.string ⟨#[]⟩, .int .i64 0, .string ⟨#[]⟩, .bool false] (n1 * 4)) := by rw [hw2, hb, ← hsz]; exact Bl.new _ _ _
    have hOb : ¬ O w2 b := fun h => by
      have := hH.lt HS1.out ((hbut.2 b).1 ((ho2 b).1 h))
      omega
    have hgo : ¬ O (w1.setCell ⟨g, o, none⟩ v2) g := fun h => hO1 ((hbut.2 g).1 h)
    have hW2 : Wr O rd g o [v2] w w2 := (hset.of_hr (Hr.of_gr hga ho2) (by rw [hsz]; exact hg1) hgo).behind H1.out hgl hO
    have hg2 : g < w2.heap.size := by have := hga.size; omega
    have hO2 : ¬ O w2 g := fun h => hgo ((ho2 g).1 h)
    have hI := made_start (rd := rd) hE hS2 hbl HZ.out hOb (show b ≠ g by omega) hg2
    have hsize1 := H1.out.size
    have HE := hide (fun w3 (h : LoopI rd S O C 4 R one g b 0 s1 (List.replicate n1 zero) w2 (some ⟨b, 0, none⟩) (List.replicate n1 zero).length w3) => h.end_ (c := n1) (o := o) hE hS2 (by rw [List.length_replicate, hb, ← hv2]; exact hW2) (by simp) hg2 hO2 (.inr (by omega)))
    have HI := hide hI
    have hw1 : wt s1 ≤ 300000000 := by omega
    have HLM : Hid ((List.replicate n1 zero).length = n1) := hide (by simp)
    have HN : Hid ((List.replicate n1 zero).length ≤ 1000) := hide (by simpa using hn1)
    have HOY : Hid (∀ x ∈ List.replicate n1 zero, ok x) := hide (fun x hx => by obtain ⟨_, rfl⟩ := List.mem_replicate.1 hx; exact hE.zok)
    have c2 : w2.cell? ⟨g, o, none⟩ = some (.slice (some ⟨b, 0, none⟩) n1 n1) := by
      have := hW2.at_.head
      rw [hv2, ← hb] at this
      exact this
    have hcg : Hid (∀ bb oo kk wr, LoopI rd S O C 4 R one g bb oo s1 (List.replicate n1 zero) w2 (some ⟨b, 0, none⟩) kk wr → wr.cell? ⟨g, o, none⟩ = some (.slice (some ⟨b, 0, none⟩) n1 n1)) := hide (by
      intro bb oo kk wr h
      rcases h with ⟨_, rfl⟩ | ⟨_, hbg, _, hl⟩
      · exact c2
      · exact (World.cell?_of_block (show wr.heap[(⟨g, o, none⟩ : Addr).block]? = w2.heap[(⟨g, o, none⟩ : Addr).block]? from hl.hr.block g hg2 hO2 (.inr fun e => hbg e.symm))).trans c2)
    rw [hv2] at hw2
    have HW := hide hw2
    have HBB := hide hb
    clear hI hW2 hS2 ho2 hbl hOb hgo hO2 hg2 hset hbut hga hsz hO1 hb1 hb0 ho0 hfree HX HV H1 HB1 HS1 HB HL HOK HZ hrS hfew hwS c2 hsize1 hno hnl hw2 hb hv2 v2 cs0
    go_wp2_with fail
    rw [← HW.out, ← HBB.out]
    go_loopw [34] (fun i wr => ∃ k : Nat, i = .int .i64 k ∧ k ≤ n1 ∧ LoopI rd S O C 4 R one g b 0 s1 (List.replicate n1 zero) w2 (some ⟨b, 0, none⟩) k wr) (fun i _ => n1 - (intOf i).toNat)
    case atStart => exact ⟨0, rfl, by omega, HI.out⟩
    case round =>
      obtain ⟨k, rfl, hk, hI⟩ := hrel
      have cg := hcg.out _ _ _ _ hI
      by_cases hlt : k < n1
      · have hlt' : (k : Int) < (n1 : Int) := by omega
        rcases hI with ⟨hy, _⟩ | ⟨hpos, hbg, _, hl⟩
        · have := HLM.out
          rw [hy] at this
          simp at this
          omega
        have hkl : k < (List.replicate n1 zero).length := by have := HLM.out; omega
        have HC := hide (hl.call hE hkl hw1 HN.out HOY.out).2
        have HPOS := hide hpos
        clear hkl hl hpos
        go_wp2_with (with_reducible refine stop_value rfl ?_)
        change wpList _ _ _ _ _ _
        refine wpList_fn hF rfl rfl rfl rfl (p := .pointer (some ⟨b, 0 + k * 4, none⟩)) (by first | rfl | exact congrArg (fun z => Value.pointer (some (Addr.mk b z none))) (show k * 4 = 0 + k * 4 by omega) | exact congrArg (fun z => Value.pointer (some (Addr.mk b z none))) (show k = 0 + k * 4 by omega) | exact congrArg (fun z => Value.pointer (some (Addr.mk b z none))) (show 0 + k = 0 + k * 4 by omega)) HC.out ?_
        rintro e w3 ⟨rfl, hl'⟩
        refine ⟨_, rfl, ?_⟩
        have HL3 := hide hl'
        clear hl' HC
        go_wp2_with fail
        go_roundw
        case rel => exact ⟨k + 1, by go_num, by omega, .inr ⟨HPOS.out, hbg, rfl, HL3.out⟩⟩
        case measure => simp [intOf]; omega
      · obtain rfl : n1 = k := by omega
        have HI2 := hide (show LoopI rd S O C 4 R one g b 0 s1 (List.replicate n1 zero) w2 (some ⟨b, 0, none⟩) (List.replicate n1 zero).length wr by rw [HLM.out]; exact hI)
        clear hI cg
        go_wp2_with fail
        go_end0
        rw [HY.out]
        exact HE.out _ HI2.out
end

end Go.Proofs.YtpabppoohobjpaaGreat
