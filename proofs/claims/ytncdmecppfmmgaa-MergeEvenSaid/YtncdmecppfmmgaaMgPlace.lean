/-
  merge's place by its contract.
-/
import Derived.Test.YtncdmecppfmmgaaMgMem
import Derived.Test.YtncdmecppfmmgaaPlayTxn
import Derived.Test.YtncdmecppfmmgaaTxnRows
import Derived.Test.YtncdmecppfmmgaaMgMath
import Derived.Test.YtncdmecppfmmgaaRowCopy
import Derived.Deep.Cut
import Derived.Test.YtncdmecppfmmgaaMgHeap
import Derived.Test.YtncdmecppfmmgaaMgLit
import Derived.Test.YtncdmecppfmmgaaEpCut
namespace Go.Proofs.Ytncdmecppfmmgaa
open Go Go.RowKit TxnMath KeyMath MsgMath EpMath MgMath
set_option maxRecDepth 100000

set_option maxHeartbeats 2000000 in
theorem place_ok (v : Value) (ls : List (List EntT)) (p i : Nat) (w : World) (hv : LogsX w v ls) (hp : p < ls.length) (hi : i < (lg ls p).length) (hn : (lg ls p).length ≤ 100000) (x : EntT) (hx : (lg ls p)[i] = x) (hb : EntBnd x) :
    Calls Try.prog 26 #[v, .int .i64 p, .int .i64 ((i : Int) + 1)] w fun e w' => ∃ q : Value × Value, e = .returned (.agg #[.int .i64 p, .int .i64 ((i : Int) + 1), .int .i64 x.t.ses, .int .i64 x.t.seq, q.1, q.2]) ∧ OwnR 85 4 w' w.heap.size q.1 (x.t.reads.map rdC) ∧ OwnR 68 3 w' w.heap.size q.2 (x.t.writes.map wrC) ∧ Gr w w' := by
  obtain ⟨i0, gi0, hz0, hz1, hz2⟩ := info_parts info_rd
  obtain ⟨i1, gi, gz0, gz1, gz2⟩ := info_parts info_wr
  have e0 : lg ls p = ls[p] := by unfold lg; simp [hp]
  have HB := hide hb
  obtain ⟨A, c, rfl, _, hat⟩ := hv.is
  obtain ⟨ad, A', c', rfl, a0, he⟩ := hat p hp
  have hp' : (p : Int) < (ls.length : Int) := by omega
  have hx' : ls[p]? = some (lg ls p) := by rw [e0, List.getElem?_eq_getElem hp]
  rw [← e0] at a0 he
  generalize hL : lg ls p = L at hi hn hx a0 he
  have hi' : (i : Int) < (L.length : Int) := by omega
  obtain ⟨bd, d, q, e1, hrx, b0, b1, b2, b3, b4, b5⟩ := he.ent hi
  rw [hx] at hrx b0 b1 b2 b3
  have HP := hide hrx
  obtain ⟨A1, d1, e4⟩ := hrx.rd.sl
  obtain ⟨A2, d2, e5⟩ := hrx.wr.sl
  obtain ⟨q1, q2⟩ := q
  simp only at e4 e5 b4 b5
  simp only [Value.slice.injEq, true_and] at e1
  obtain ⟨rfl, rfl⟩ := e1
  rw [List.length_map] at e4 e5
  subst e4 e5
  have hi6 : (i : Int) + 1 - 1 = (i : Int) := by omega
  clear hv hat he hrx hx hx' hL e0 hb
  go_enter Try.func26, Try.ntmps26
  go_upto_region 1 with (fail)
  obtain ⟨W1, hW1⟩ : ∃ W1, w.alloc (.cells #[.int .i64 0, .int .i64 0, .int .i64 0, .int .i64 0, .slice none 0 0, .slice none 0 0] 41) = W1 := ⟨_, rfl⟩
  have hg1 : Gr w W1 := by rw [← hW1]; exact (Gr.refl _).alloc _
  have hbR : Bl W1 w.heap.size 41 #[.int .i64 0, .int .i64 0, .int .i64 0, .int .i64 0, .slice none 0 0, .slice none 0 0] := by rw [← hW1]; exact Bl.new _ _ _
  have hs1 : W1.heap.size = w.heap.size + 1 := by rw [← hW1]; simp
  rw [hW1]
  replace a0 := gr_cell hg1 _ _ a0
  replace b0 := gr_cell hg1 _ _ b0
  replace b1 := gr_cell hg1 _ _ b1
  replace b2 := gr_cell hg1 _ _ b2
  replace b3 := gr_cell hg1 _ _ b3
  replace b4 := gr_cell hg1 _ _ b4
  replace b5 := gr_cell hg1 _ _ b5
  clear hW1
  go_wp2_with (at_builtin; refine pause ?_)
  refine hide ?_
  obtain ⟨W2, hW2⟩ : ∃ W2, W1.alloc (.cells #[.int .i64 x.t.ses, .int .i64 x.t.seq, .slice A1 x.t.reads.length d1, .slice A2 x.t.writes.length d2] 39) = W2 := ⟨_, rfl⟩
  have hg2 : Gr w W2 := by rw [← hW2]; exact hg1.alloc _
  have hbT : Bl W2 W1.heap.size 39 #[.int .i64 x.t.ses, .int .i64 x.t.seq, .slice A1 x.t.reads.length d1, .slice A2 x.t.writes.length d2] := by rw [← hW2]; exact Bl.new _ _ _
  have hbR2 : Bl W2 w.heap.size 41 #[.int .i64 0, .int .i64 0, .int .i64 0, .int .i64 0, .slice none 0 0, .slice none 0 0] := by rw [← hW2]; exact hbR.gr ((Gr.refl _).alloc _)
  have HSZ := hide (show w.heap.size + 1 < W2.heap.size by rw [← hW2]; simp; omega)
  rw [hW2]
  rw [hs1] at hbT
  have HR := hide (HP.out.gr hg2).rd.1
  clear hW2 hs1 hbR a0 b0 b1 b2 b3 b4 b5
  refine wpList_appR rfl _ (.tmp 18) _ rfl 85 i0 _ 4 48 Try.underlying36 gi0 hz0 hz1 hz2 rfl (by decide) (B := w.heap.size) (qs := x.t.reads.map rdC) rfl (OwnR.none_ _ _) hg2.size rfl HR.out (rdC_four _) (rdC_one _) (by have := HB.out.1; rw [List.length_map]; simp only [List.length_nil]; unfold maxLen; omega) (by have := HB.out.1; rw [List.length_map]; simp only [List.length_nil]; omega) ?_
  intro v1 w3 ho1 hp1
  rw [List.nil_append] at ho1
  have hg3 : Gr W2 w3 := hp1.gr0
  obtain ⟨R1, c1, rfl, _⟩ := ho1.is
  generalize hm1 : List.length _ = m1 at ho1 hp1 ⊢
  replace hbT := hbT.gr hg3
  replace hbR2 := hbR2.gr hg3
  have hu1 : ∀ g, (Value.slice R1 m1 c1).ownBlock = some g → W2.heap.size ≤ g := fun g hg => by
    rcases hp1.2 with h | ⟨k, h, hk⟩
    · rw [h] at hg; cases hg
    · rw [h] at hg; injection hg with hg; omega
  have HM1 := hide hm1
  clear hm1 hp1
  obtain ⟨W4, hW4⟩ : ∃ W4, w3.setCell ⟨w.heap.size + 1, 2, none⟩ (.slice R1 m1 c1) = W4 := ⟨_, rfl⟩
  have f4 := hbT.frozen 2
  have k4 : w3.cell? ⟨w.heap.size + 1, 2, none⟩ = some (.slice A1 x.t.reads.length d1) := hbT.cell 2
  have hbT4 : Bl W4 (w.heap.size + 1) 39 #[.int .i64 x.t.ses, .int .i64 x.t.seq, .slice R1 m1 c1, .slice A2 x.t.writes.length d2] := by rw [← hW4]; exact hbT.put 2 _
  have hbu4 : But w3 W4 (w.heap.size + 1) := by rw [← hW4]; exact (But.refl _ _).set 2 _
  have hbR4 : Bl W4 w.heap.size 41 #[.int .i64 0, .int .i64 0, .int .i64 0, .int .i64 0, .slice none 0 0, .slice none 0 0] := hbR2.but_ hbu4 (by omega)
  have k5 : W4.cell? ⟨w.heap.size + 1, 3, none⟩ = some (.slice A2 x.t.writes.length d2) := hbT4.cell 3
  have hgw4 : Gr w W4 := (hg2.trans hg3).fresh hbu4 (by omega)
  have HW := hide (HP.out.gr hgw4).wr.1
  have HO1 := hide ho1
  clear ho1 hbT hbR2
  go_wp2_with (at_builtin; refine pause ?_)
  refine hide ?_
  refine wpList_appR rfl _ (.tmp 22) _ rfl 68 i1 _ 3 40 Try.underlying37 gi gz0 gz1 gz2 rfl (by decide) (B := w.heap.size) (qs := x.t.writes.map wrC) rfl (OwnR.none_ _ _) hgw4.size rfl HW.out (wrC_three _) (wrC_one _) (by have := HB.out.2; rw [List.length_map]; simp only [List.length_nil]; unfold maxLen; omega) (by have := HB.out.2; rw [List.length_map]; simp only [List.length_nil]; omega) ?_
  intro v2 w5 ho2 hp2
  rw [List.nil_append] at ho2
  have hg5 : Gr W4 w5 := hp2.gr0
  obtain ⟨R2, c2, rfl, _⟩ := ho2.is
  generalize hm2 : List.length _ = m2 at ho2 hp2 ⊢
  replace hbT4 := hbT4.gr hg5
  replace hbR4 := hbR4.gr hg5
  have hs2 : W2.heap.size ≤ W4.heap.size := Nat.le_trans hg3.size hbu4.size
  have hu2 : ∀ g, (Value.slice R2 m2 c2).ownBlock = some g → W2.heap.size ≤ g := fun g hg => by
    rcases hp2.2 with h | ⟨k, h, hk⟩
    · rw [h] at hg; cases hg
    · rw [h] at hg; injection hg with hg; omega
  have hW2s : w.heap.size + 1 < W2.heap.size := HSZ.out
  obtain ⟨W6, hW6⟩ : ∃ W6, w5.setCell ⟨w.heap.size + 1, 3, none⟩ (.slice R2 m2 c2) = W6 := ⟨_, rfl⟩
  have f5 := hbT4.frozen 3
  have k5' : w5.cell? ⟨w.heap.size + 1, 3, none⟩ = some (.slice A2 x.t.writes.length d2) := hbT4.cell 3
  have hbT6 : Bl W6 (w.heap.size + 1) 39 #[.int .i64 x.t.ses, .int .i64 x.t.seq, .slice R1 m1 c1, .slice R2 m2 c2] := by rw [← hW6]; exact hbT4.put 3 _
  have hbu6 : But w5 W6 (w.heap.size + 1) := by rw [← hW6]; exact (But.refl _ _).set 3 _
  have hbR6 : Bl W6 w.heap.size 41 #[.int .i64 0, .int .i64 0, .int .i64 0, .int .i64 0, .slice none 0 0, .slice none 0 0] := hbR4.but_ hbu6 (by omega)
  have z0 : W6.cell? ⟨w.heap.size + 1, 0, none⟩ = some (.int .i64 x.t.ses) := hbT6.cell 0
  have z1 : W6.cell? ⟨w.heap.size + 1, 1, none⟩ = some (.int .i64 x.t.seq) := hbT6.cell 1
  have z2 : W6.cell? ⟨w.heap.size + 1, 2, none⟩ = some (.slice R1 m1 c1) := hbT6.cell 2
  have z3 : W6.cell? ⟨w.heap.size + 1, 3, none⟩ = some (.slice R2 m2 c2) := hbT6.cell 3
  have y0 : W6.cell? ⟨w.heap.size, 0, none⟩ = some (.int .i64 0) := hbR6.cell 0
  have y1 : W6.cell? ⟨w.heap.size, 1, none⟩ = some (.int .i64 0) := hbR6.cell 1
  have y2 : W6.cell? ⟨w.heap.size, 2, none⟩ = some (.int .i64 0) := hbR6.cell 2
  have y3 : W6.cell? ⟨w.heap.size, 3, none⟩ = some (.int .i64 0) := hbR6.cell 3
  have y4 : W6.cell? ⟨w.heap.size, 4, none⟩ = some (.slice none 0 0) := hbR6.cell 4
  have y5 : W6.cell? ⟨w.heap.size, 5, none⟩ = some (.slice none 0 0) := hbR6.cell 5
  have g0 := hbR6.frozen 0
  have g1 := hbR6.frozen 1
  have g2 := hbR6.frozen 2
  have g3 := hbR6.frozen 3
  have g4 := hbR6.frozen 4
  have g5 := hbR6.frozen 5
  have HM2 := hide hm2
  have HO2 := hide ho2
  clear hm2 ho2 hp2 hbT4 hbR4 k4 k5 f4
  go_wp2_with fail
  obtain ⟨W7, hW7⟩ : ∃ W7, (((((W6.setCell ⟨w.heap.size, 0, none⟩ (.int .i64 p)).setCell ⟨w.heap.size, 1, none⟩ (.int .i64 ((i : Int) + 1))).setCell ⟨w.heap.size, 2, none⟩ (.int .i64 x.t.ses)).setCell ⟨w.heap.size, 3, none⟩ (.int .i64 x.t.seq)).setCell ⟨w.heap.size, 4, none⟩ (.slice R1 m1 c1)).setCell ⟨w.heap.size, 5, none⟩ (.slice R2 m2 c2) = W7 := ⟨_, rfl⟩
  have hbR7 : Bl W7 w.heap.size 41 #[.int .i64 p, .int .i64 ((i : Int) + 1), .int .i64 x.t.ses, .int .i64 x.t.seq, .slice R1 m1 c1, .slice R2 m2 c2] := by rw [← hW7]; exact (((((hbR6.put 0 _).put 1 _).put 2 _).put 3 _).put 4 _).put 5 _
  have hbu7 : But W6 W7 w.heap.size := by rw [← hW7]; exact ((((((But.refl _ _).set 0 _).set 1 _).set 2 _).set 3 _).set 4 _).set 5 _
  rw [hW7]
  clear hW7 z0 z1 z2 z3 y0 y1 y2 y3 y4 y5 g0 g1 g2 g3 g4 g5
  have n1 : ∀ g, g < W2.heap.size → some g ≠ (Value.slice R1 m1 c1).ownBlock := fun g hg e => by have := hu1 g e.symm; omega
  have n2 : ∀ g, g < W2.heap.size → some g ≠ (Value.slice R2 m2 c2).ownBlock := fun g hg e => by have := hu2 g e.symm; omega
  have q1 : OwnR 85 4 W7 w.heap.size (.slice R1 m1 c1) (x.t.reads.map rdC) := (((HO1.out.apart hbu4 (n1 _ hW2s)).gr hg5).apart hbu6 (n1 _ hW2s)).apart hbu7 (n1 _ (by omega))
  have q2 : OwnR 68 3 W7 w.heap.size (.slice R2 m2 c2) (x.t.writes.map wrC) := (HO2.out.apart hbu6 (n2 _ hW2s)).apart hbu7 (n2 _ (by omega))
  refine bodyPost_ret (results_cell_row rfl _ W7 w.heap.size 41 #[.int .i64 p, .int .i64 ((i : Int) + 1), .int .i64 x.t.ses, .int .i64 x.t.seq, .slice R1 m1 c1, .slice R2 m2 c2] (0, 0) _ rfl hbR7 Try.underlying41 rfl (by kernel_rfl)) rfl ?_
  exact ⟨(.slice R1 m1 c1, .slice R2 m2 c2), rfl, q1, q2, ((hgw4.trans hg5).fresh hbu6 (by omega)).fresh hbu7 (by omega)⟩

end Go.Proofs.Ytncdmecppfmmgaa

/-
  What stays while the heap of heads and the row of places grow: blocks of other types, and all below.
-/
namespace Go.Proofs.Ytncdmecppfmmgaa.HeadHeap
open Go Go.RowKit Go.Proofs.Ytncdmecppfmmgaa BalMath TxnMath KeyMath MsgMath EpMath MgMath
set_option maxRecDepth 100000

/-- blocks of such types alone are changed, none of them below g -/
structure Tw (T : TypeId → Prop) (g : Nat) (w w' : World) : Prop where
  os : w'.os = w.os
  tape : w'.tape = w.tape
  output : w'.output = w.output
  size : w.heap.size ≤ w'.heap.size
  low : ∀ k, k < g → k < w.heap.size → w'.heap[k]? = w.heap[k]?
  block : ∀ (k : Nat) (cs : Array Value) (t : TypeId), Bl w k t cs → ¬ T t → Bl w' k t cs
abbrev T1 : TypeId → Prop := fun t => t = 55 ∨ t = 59
abbrev T2 : TypeId → Prop := fun t => t = 41
section
variable {T : TypeId → Prop} {g : Nat} {w w' w'' : World}
theorem Tw.refl (T : TypeId → Prop) (g : Nat) (w : World) : Tw T g w w := ⟨rfl, rfl, rfl, Nat.le_refl _, fun _ _ _ => rfl, fun _ _ _ h _ => h⟩
theorem Tw.trans (h : Tw T g w w') (h' : Tw T g w' w'') : Tw T g w w'' :=
  ⟨h'.os.trans h.os, h'.tape.trans h.tape, h'.output.trans h.output, Nat.le_trans h.size h'.size, fun k hk hs => (h'.low k hk (Nat.lt_of_lt_of_le hs h.size)).trans (h.low k hk hs), fun k cs t hb ht => h'.block k cs t (h.block k cs t hb ht) ht⟩
theorem Tw.of_gr (hg : Gr w w') : Tw T g w w' :=
  ⟨hg.os, hg.tape, hg.output, hg.size, fun k _ hs => hg.block k hs, fun k _ _ hb _ => (hg.block k (Array.getElem?_eq_some_iff.1 hb).1).trans hb⟩
theorem gr_tw {w0 : World} (hg : Gr w0 w) (h : Tw T g w w') (hgs : w0.heap.size ≤ g) : Gr w0 w' :=
  ⟨h.os.trans hg.os, h.tape.trans hg.tape, h.output.trans hg.output, Nat.le_trans hg.size h.size, fun k hk => (h.low k (by omega) (Nat.lt_of_lt_of_le hk hg.size)).trans (hg.block k hk)⟩
theorem owns_tw {B : Nat} {e : TypeId} {size n : Nat} {v : Value} {xs : List Value} (h : w.ownsRow B e size v n xs) (ht : Tw T g w w') (he : ¬ T e) : w'.ownsRow B e size v n xs := by
  refine ⟨h.1, ?_⟩
  rcases h.2 with h2 | ⟨b, cap, cur, h1, h2, h3, h4⟩
  · exact .inl h2
  · exact .inr ⟨b, cap, cur, h1, h2, ht.block _ _ _ h3 he, h4⟩
theorem OwnR.tw {B : Nat} {e : TypeId} {k : Nat} {v : Value} {rs : List (List Value)} (h : OwnR e k w B v rs) (ht : Tw T g w w') (he : ¬ T e) : OwnR e k w' B v rs := ⟨h.1, owns_tw h.2 ht he⟩
theorem Bl.tw {k : Nat} {t : TypeId} {cs : Array Value} (h : Bl w k t cs) (ht : Tw T g w w') (he : ¬ T t) : Bl w' k t cs := ht.block _ _ _ h he
theorem RowsI.tw {B : Nat} {v : Value} {ls : List (List Int)} (h : RowsI w B v ls) (ht : Tw T g w w') (h1 : ¬ T 49) (h2 : ¬ T 3) : RowsI w' B v ls := by
  obtain ⟨xs, a, b, c, d⟩ := h
  exact ⟨xs, a, owns_tw b ht h1, fun j hj hj2 => owns_tw (c j hj hj2) ht h2, d⟩
end
theorem RowsI.base_ {w : World} {B B' : Nat} {v : Value} {ls : List (List Int)} (h : RowsI w B v ls) (hB : B' ≤ B) : RowsI w B' v ls := by
  obtain ⟨xs, a, b, c, d⟩ := h
  exact ⟨xs, a, OwnV.base_ b hB, fun j hj hj2 => OwnV.base_ (c j hj hj2) hB, d⟩

/-- heads behind a pointer -/
def HB (S : SlM) (w : World) (g : Nat) (l : List Int) : Prop := ∃ v, Bl w g 55 #[v] ∧ OwnH S w (g + 1) v l
theorem HB.gr {S : SlM} {w w' : World} {g : Nat} {l : List Int} (h : HB S w g l) (hg : Gr w w') : HB S w' g l := by
  obtain ⟨v, h1, h2⟩ := h
  exact ⟨v, h1.gr hg, OwnR.gr h2 hg⟩
theorem HB.tw {S : SlM} {w w' : World} {g q : Nat} {l : List Int} (h : HB S w g l) (hg : Tw T2 q w w') : HB S w' g l := by
  obtain ⟨v, h1, h2⟩ := h
  exact ⟨v, Bl.tw h1 hg (by decide), OwnR.tw h2 hg (by decide)⟩
theorem HB.alike {S S' : SlM} {w : World} {g : Nat} {l : List Int} (h : HB S w g l) (hs : ∀ x ∈ l, S x = S' x) : HB S' w g l := by
  obtain ⟨v, h1, h2⟩ := h
  have e : l.map (hdC S) = l.map (hdC S') := List.map_congr_left fun x hx => by unfold hdC; rw [hs x hx]
  exact ⟨v, h1, by unfold OwnH at *; rw [← e]; exact h2⟩
theorem HB.hh {S : SlM} {w : World} {g : Nat} {l : List Int} (h : HB S w g l) : ∃ o0, HH S w o0 w g l ∧ ∀ w' l', HH S w o0 w' g l' → HB S w' g l' ∧ Tw T1 g w w' := by
  obtain ⟨v, h1, h2⟩ := h
  refine ⟨v.ownBlock, HH.start h1 h2, fun w' l' hh => ⟨?_, hh.os, hh.tape, hh.output, hh.size, fun k hk hs => ?_, fun k cs t hb ht => ?_⟩⟩
  · obtain ⟨u, a, b, _⟩ := hh.own
    exact ⟨u, a, b⟩
  · exact hh.block k hs (by omega) fun e => by have := (OwnR.lt h2 k e.symm).1; omega
  · have hs := (Array.getElem?_eq_some_iff.1 hb).1
    unfold Bl at hb ⊢
    rw [hh.block k hs (fun e => ?_) (fun e => ?_), hb]
    · subst e
      rw [show w.heap[k]? = some (.cells #[v] 55 (0, 0)) from h1] at hb
      injection hb with hb
      injection hb with _ hb _
      exact ht (.inl hb.symm)
    · rcases h2.2.2 with ⟨rfl, _⟩ | ⟨b, cap, cur, rfl, _, h3, _⟩
      · cases e
      · simp only [Value.ownBlock, Option.some.injEq] at e
        subst e
        rw [h3] at hb
        injection hb with hb
        injection hb with _ hb _
        exact ht (.inr hb.symm)

theorem push_ok {S : SlM} {w : World} {g : Nat} {l : List Int} (x : Int) (h : HB S w g l) (hh : Heap l.length l) (hl : l.length ≤ 900000) :
    Calls Try.prog 23 #[hpV g, .iface 59 (.agg (hdC S x).toArray)] w fun e w' => e = .returned (.tuple #[]) ∧ ∃ l', HB S w' g l' ∧ Heap l'.length l' ∧ (∀ p, cnt p l' = cnt p l + one p x) ∧ Tw T1 g w w' := by
  obtain ⟨o0, h1, h2⟩ := h.hh
  refine (HeapPush_ok x h1 hh hl).mono fun e w' ⟨he, l', h3, h4, h5⟩ => ?_
  obtain ⟨h6, h7⟩ := h2 _ _ h3
  exact ⟨he, l', h6, h4, h5, h7⟩
theorem pop_ok {S : SlM} {w : World} {g : Nat} {l : List Int} (k : Nat) (h : HB S w g l) (hh : Heap l.length l) (hk : l.length = k + 1) (hl : l.length ≤ 900000) :
    Calls Try.prog 25 #[hpV g] w fun e w' => e = .returned (.iface 59 (.agg (hdC S (at_ l 0)).toArray)) ∧ ∃ l', HB S w' g l' ∧ Heap l'.length l' ∧ (∀ p, cnt p l = cnt p l' + one p (at_ l 0)) ∧ Tw T1 g w w' := by
  obtain ⟨o0, h1, h2⟩ := h.hh
  refine (HeapPop_ok k h1 hh hk hl).mono fun e w' ⟨he, l', h3, h4, h5⟩ => ?_
  obtain ⟨h6, h7⟩ := h2 _ _ h3
  exact ⟨he, l', h6, h4, h5, h7⟩

/-- a transaction's rows, of the call's own -/
def RwO (w : World) (t : TxT) (q : Value × Value) : Prop := OwnR 85 4 w 0 q.1 (t.reads.map rdC) ∧ OwnR 68 3 w 0 q.2 (t.writes.map wrC)
theorem RwO.gr {w w' : World} {t : TxT} {q : Value × Value} (h : RwO w t q) (hg : Gr w w') : RwO w' t q := ⟨h.1.gr hg, h.2.gr hg⟩
theorem RwO.tw {T : TypeId → Prop} {g : Nat} {w w' : World} {t : TxT} {q : Value × Value} (h : RwO w t q) (hg : Tw T g w w') (h1 : ¬ T 85) (h2 : ¬ T 68) : RwO w' t q := ⟨OwnR.tw h.1 hg h1, OwnR.tw h.2 hg h2⟩
theorem RwO.rowsX {w : World} {t : TxT} {q : Value × Value} (h : RwO w t q) : RowsX Any w t q := ⟨h.1.rowX.wide fun _ _ => trivial, h.2.rowX.wide fun _ _ => trivial⟩
/-- places that the call builds, each with rows of its own -/
def PlW (w : World) (B : Nat) (v : Value) (ps : List PlaceT) : Prop := ∃ f : Nat → Value × Value, OwnR 41 6 w B v (ps.mapIdx fun j p => plcC p (f j)) ∧ ∀ j p, ps[j]? = some p → RwO w p.t (f j)
theorem PlW.none_ (w : World) (B : Nat) : PlW w B (.slice none 0 0) [] := ⟨fun _ => (undef, undef), OwnR.none_ _ _, fun j e hj => by simp at hj⟩
theorem PlW.gr {w w' : World} {B : Nat} {v : Value} {ps : List PlaceT} (h : PlW w B v ps) (hg : Gr w w') : PlW w' B v ps := by
  obtain ⟨f, h1, h2⟩ := h
  exact ⟨f, h1.gr hg, fun j p hj => (h2 j p hj).gr hg⟩
theorem PlW.tw {w w' : World} {B g : Nat} {v : Value} {ps : List PlaceT} (h : PlW w B v ps) (hg : Tw T1 g w w') : PlW w' B v ps := by
  obtain ⟨f, h1, h2⟩ := h
  exact ⟨f, OwnR.tw h1 hg (by decide), fun j p hj => (h2 j p hj).tw hg (by decide) (by decide)⟩
theorem PlW.pl {w : World} {B : Nat} {v : Value} {ps : List PlaceT} (h : PlW w B v ps) : PlX w v ps := by
  obtain ⟨f, h1, h2⟩ := h
  exact ⟨f, h1.rowAt, fun j p hj => (h2 j p hj).rowsX⟩
theorem PlW.is {w : World} {B : Nat} {v : Value} {ps : List PlaceT} (h : PlW w B v ps) : ∃ A c, v = .slice A ps.length c := by
  obtain ⟨A, c, e, _⟩ := h.pl.is
  exact ⟨A, c, e⟩
theorem PlW.fresh {w : World} {B N : Nat} {v : Value} {ps : List PlaceT} (h : PlW w B v ps) (hB : N ≤ B) : Fresh N v := fun ad n c e _ => by
  obtain ⟨f, h1, _⟩ := h
  have := (h1.lt ad.block (by rw [e]; rfl)).1
  omega

/-- 'append(places, Place{..})' -/
theorem wpList_pushW {ops : Array Oper} {rest : List Oper} {o : Oper} {a : Act} {Q : Exit → Act → World → Prop} (hgd : o.guard = none) (s x : Operand)
    (ho : o.op = .call { callee := .builtin .append, args := #[s, x], argTypes := #[26, 26] }) {w : World} {v : Value} {g B : Nat} {ps : List PlaceT} (p : PlaceT) {q : Value × Value} (hq : RwO w p.t q) {part index ses seq : Int} {rv wv : Value}
    (e1 : part = (p.part : Int)) (e2 : index = p.index) (e3 : ses = p.t.ses) (e4 : seq = p.t.seq) (e5 : rv = q.1) (e6 : wv = q.2)
    (hs : a.eval s = v) (hown : PlW w B v ps) (hB : B ≤ w.heap.size) (hgB : g < B) (hx : a.eval x = .slice (some ⟨w.heap.size, 0, none⟩) 1 1) (hl : ps.length ≤ 1000000)
    (h : ∀ v' w', PlW w' B v' (ps ++ [p]) → Tw T2 g w w' → wpList Try.prog ops Q rest (a.put o.dst v') w') : wpList Try.prog ops Q (o :: rest) a (w.alloc (.cells #[.int .i64 part, .int .i64 index, .int .i64 ses, .int .i64 seq, rv, wv] 41)) := by
  subst e1 e2 e3 e4 e5 e6
  obtain ⟨i0, hi, hz0, hz1, hz2⟩ := info_plc
  obtain ⟨f, h1, h2⟩ := hown
  have o1 : q.1.oneCell' = true := by
    obtain ⟨A, c, e, _⟩ := hq.1.is
    rw [e]; rfl
  have o2 : q.2.oneCell' = true := by
    obtain ⟨A, c, e, _⟩ := hq.2.is
    rw [e]; rfl
  refine wpList_pushR hgd s x 26 ho 41 i0 _ 6 80 Try.underlying26 hi hz0 hz1 hz2 rfl (by decide) (cs := #[.int .i64 (p.part : Int), .int .i64 p.index, .int .i64 p.t.ses, .int .i64 p.t.seq, q.1, q.2]) rfl (fun u hu => ?_) hs h1 hB hx (by rw [List.length_mapIdx]; unfold maxLen; omega) (by rw [List.length_mapIdx]; omega) (fun v' w' g1 g2 => ?_)
  · simp at hu
    rcases hu with rfl | rfl | rfl | rfl | rfl | rfl <;> first | rfl | exact o1 | exact o2
  · have ht : Tw T2 g w w' := by
      refine ⟨g2.1.os, g2.1.tape, g2.1.output, g2.1.size, fun k hk hs2 => g2.1.block k hs2 fun e => by have := (h1.lt k e.symm).1; omega, fun k cs t hb ht => ?_⟩
      refine (g2.1.block k (Array.getElem?_eq_some_iff.1 hb).1 fun e => ?_).trans hb
      rcases h1.2.2 with ⟨rfl, _⟩ | ⟨b, cap, cur, rfl, _, h3, _⟩
      · cases e
      · simp only [Value.ownBlock, Option.some.injEq] at e
        subst e
        unfold Bl at hb
        rw [h3] at hb
        injection hb with hb
        injection hb with _ hb _
        exact ht hb.symm
    refine h v' w' ⟨fun j => if j < ps.length then f j else q, ?_, fun j y hj => ?_⟩ ht
    · have e : (ps.mapIdx fun j p => plcC p (f j)) ++ [plcC p q] = (ps ++ [p]).mapIdx fun j p => plcC p (if j < ps.length then f j else q) := by
        have := mapIdx_app ps [p] (fun j p => plcC p (f j)) (fun _ p => plcC p q)
        rw [show ([p].mapIdx fun _ p => plcC p q) = [plcC p q] from rfl] at this
        rw [this]
        congr 1
        funext j y
        split <;> rfl
      rw [← e]
      exact g1
    · rw [List.getElem?_append] at hj
      show RwO w' y.t (if j < ps.length then f j else q)
      by_cases hjl : j < ps.length
      · rw [if_pos hjl] at hj
        rw [if_pos hjl]
        exact (h2 j y hj).tw ht (by decide) (by decide)
      · rw [if_neg hjl] at hj
        rw [if_neg hjl]
        have : y = p := by
          rcases hz : j - ps.length with _ | z
          · rw [hz] at hj; simpa using hj.symm
          · rw [hz] at hj; simp at hj
        rw [this]
        exact hq.tw ht (by decide) (by decide)

end Go.Proofs.Ytncdmecppfmmgaa.HeadHeap

/-
  What the heap holds while merge's All goes on, and where it stands in the order.
-/
namespace Go.Proofs.Ytncdmecppfmmgaa.HeadHeap
open Go Go.RowKit Go.Proofs.Ytncdmecppfmmgaa BalMath TxnMath KeyMath MsgMath EpMath MgMath
set_option maxRecDepth 100000

/-- so many of each kind -/
def sumK (r : Int → Bool) (key : Nat → Int) : Nat → Nat
  | 0 => 0
  | n + 1 => sumK r key n + one r (key n)
theorem sumK_congr {r : Int → Bool} {key key' : Nat → Int} : ∀ n, (∀ q, q < n → key q = key' q) → sumK r key n = sumK r key' n
  | 0, _ => rfl
  | n + 1, h => by rw [sumK, sumK, sumK_congr n fun q hq => h q (by omega), h n (by omega)]
theorem sumK_mem {key : Nat → Int} {x : Int} : ∀ n, 0 < sumK (fun y => decide (y = x)) key n ↔ ∃ q, q < n ∧ key q = x
  | 0 => by simp [sumK]
  | n + 1 => by
    rw [sumK]
    have ih := sumK_mem (key := key) (x := x) n
    constructor
    · intro h
      by_cases h0 : 0 < sumK (fun y => decide (y = x)) key n
      · obtain ⟨q, hq, e⟩ := ih.1 h0
        exact ⟨q, by omega, e⟩
      · refine ⟨n, by omega, ?_⟩
        have h1 : 0 < one (fun y => decide (y = x)) (key n) := by omega
        unfold one at h1
        by_cases e : key n = x
        · exact e
        · simp [e] at h1
    · rintro ⟨q, hq, e⟩
      by_cases hqn : q = n
      · subst hqn
        have : one (fun y => decide (y = x)) (key q) = 1 := by unfold one; simp [e]
        omega
      · have := ih.2 ⟨q, by omega, e⟩
        omega
theorem sumK_len {key : Nat → Int} : ∀ n, sumK (fun _ => true) key n = n
  | 0 => rfl
  | n + 1 => by rw [sumK, sumK_len n]; simp [one]
/-- the heads of logs below p are one batch on -/
def keyE (e p q : Nat) : Int := ((if q < p then e + 1 else e : Nat) : Int) * 1000 + (q : Int)
theorem keyE_at (e p : Nat) : keyE e p p = (e : Int) * 1000 + (p : Int) := by unfold keyE; rw [if_neg (by omega)]
theorem sumK_step {r : Int → Bool} {e p : Nat} : ∀ n, p < n → sumK r (keyE e (p + 1)) n + one r ((e : Int) * 1000 + (p : Int)) = sumK r (keyE e p) n + one r (((e + 1 : Nat) : Int) * 1000 + (p : Int))
  | 0, h => by omega
  | n + 1, h => by
    rw [sumK, sumK]
    by_cases hp : p = n
    · subst hp
      have e1 : sumK r (keyE e (p + 1)) p = sumK r (keyE e p) p := sumK_congr p fun q hq => by unfold keyE; rw [if_pos (by omega), if_pos hq]
      have e2 : keyE e (p + 1) p = ((e + 1 : Nat) : Int) * 1000 + (p : Int) := by unfold keyE; rw [if_pos (by omega)]
      rw [e1, e2, keyE_at]
      omega
    · have ih := sumK_step (r := r) (e := e) (p := p) n (by omega)
      have e2 : keyE e (p + 1) n = keyE e p n := by unfold keyE; rw [if_neg (by omega), if_neg (by omega)]
      rw [e2]
      omega
def MemE (n e p : Nat) (l : List Int) : Prop := ∀ r, cnt r l = sumK r (keyE e p) n
theorem MemE.len {n e p : Nat} {l : List Int} (h : MemE n e p l) : l.length = n := by
  have h1 := h fun _ => true
  rw [sumK_len] at h1
  rw [← h1]
  simp [cnt]
theorem MemE.mem {n e p : Nat} {l : List Int} (h : MemE n e p l) (x : Int) : x ∈ l ↔ ∃ q, q < n ∧ keyE e p q = x := by
  rw [cnt_mem, h, sumK_mem]
theorem MemE.least {n e p : Nat} {l : List Int} (h : MemE n e p l) (hh : Heap l.length l) (hp : p < n) (hn : n ≤ 1000) : at_ l 0 = (e : Int) * 1000 + (p : Int) := by
  have hl := h.len
  have h0 : 0 < l.length := by omega
  obtain ⟨q, hq, eq⟩ := (h.mem _).1 (show at_ l 0 ∈ l by rw [at_of h0]; exact List.getElem_mem h0)
  obtain ⟨k, hk, ek⟩ : ∃ k, k < l.length ∧ at_ l k = (e : Int) * 1000 + (p : Int) := by
    have : (e : Int) * 1000 + (p : Int) ∈ l := (h.mem _).2 ⟨p, hp, keyE_at e p⟩
    obtain ⟨k, hk, e2⟩ := List.getElem_of_mem this
    exact ⟨k, hk, by rw [at_of hk, e2]⟩
  have hle := hh.least k hk
  rw [ek] at hle
  rw [← eq] at hle ⊢
  unfold keyE at hle ⊢
  split at hle <;> rename_i hqp
  · omega
  · rw [if_neg hqp]; omega
theorem MemE.step {n e p : Nat} {l l1 l2 : List Int} (h : MemE n e p l) (hp : p < n) (h1 : ∀ r, cnt r l = cnt r l1 + one r ((e : Int) * 1000 + (p : Int))) (h2 : ∀ r, cnt r l2 = cnt r l1 + one r (((e + 1 : Nat) : Int) * 1000 + (p : Int))) : MemE n e (p + 1) l2 := fun r => by
  have a := h r
  have b := h1 r
  have c := h2 r
  have d := sumK_step (r := r) (e := e) (p := p) n hp
  omega
theorem MemE.wrap {n e : Nat} {l : List Int} (h : MemE n e n l) : MemE n (e + 1) 0 l := fun r => by
  rw [h r]
  exact sumK_congr n fun q hq => by unfold keyE; rw [if_pos hq, if_neg (by omega)]
theorem MemE.push {k : Nat} {l l' : List Int} (h : MemE k 0 0 l) (h1 : ∀ r, cnt r l' = cnt r l + one r ((k : Nat) : Int)) : MemE (k + 1) 0 0 l' := fun r => by
  rw [h1 r, h r, sumK, show keyE 0 0 k = ((k : Nat) : Int) by unfold keyE; simp]

/-- where the batches of log p lie, and what room there is -/
def SF (ls : List (List EntT)) (F : Nat → Nat × Nat) : SlM := fun x => (some ⟨(F (x % 1000).toNat).1, (x / 1000).toNat, none⟩, nb ls (x % 1000).toNat - (x / 1000).toNat, (F (x % 1000).toNat).2 - (x / 1000).toNat)
theorem hd_sf (ls : List (List EntT)) (F : Nat → Nat × Nat) (e p : Nat) (hp : p < 1000) : (hdC (SF ls F) ((e : Int) * 1000 + (p : Int))).toArray = #[.int .i64 (p : Int), .int .i64 (e : Int), .slice (some ⟨(F p).1, e, none⟩) (nb ls p - e) ((F p).2 - e)] := by
  have e1 : ((e : Int) * 1000 + (p : Int)) % 1000 = p := by omega
  have e2 : ((e : Int) * 1000 + (p : Int)) / 1000 = e := by omega
  unfold hdC SF
  rw [e1, e2]
  simp
theorem RowsI.room {w : World} {B n c : Nat} {A : Option Addr} {ls : List (List Int)} (h : RowsI w B (.slice A n c) ls) : n ≤ c ∧ c ≤ maxLen := by
  obtain ⟨xs, h1, h2, _, _⟩ := h
  rcases h2.2 with ⟨e, _⟩ | ⟨g, cap, cur, e, _, _, hnc, hm, _, _⟩
  · injection e with _ e2 e3
    rw [e2, e3]
    unfold maxLen
    omega
  · injection e with _ e2 e3
    rw [e2, e3]
    exact ⟨hnc, hm⟩

/-- between two rounds: all batches ahead of batch e of log p are told -/
structure L2 (ls : List (List EntT)) (F : Nat → Nat × Nat) (w0 wr : World) (g : Nat) (l : List Int) (all : Value) (e p : Nat) : Prop where
  hb : HB (SF ls F) wr g l
  hp : Heap l.length l
  mem : MemE ls.length e p l
  lt : p < ls.length
  ex : ∀ q, q < ls.length → e + 1 ≤ nb ls q
  ah : ∀ q, q < p → e + 1 < nb ls q
  rows : ∀ q, q < ls.length → RowsI wr 0 (.slice (some ⟨(F q).1, 0, none⟩) (nb ls q) (F q).2) (ct ls q)
  pl : PlW wr (g + 1) all (uptoB ls e ++ rowB ls e p)
  gr : Gr w0 wr
theorem L2.stop {ls : List (List EntT)} {F : Nat → Nat × Nat} {w0 wr : World} {g : Nat} {l : List Int} {all : Value} {e p : Nat} (h : L2 ls F w0 wr g l all e p) (hs : nb ls p - e = 1) : Stop ls e p :=
  ⟨h.lt, by have := h.ex p h.lt; omega, h.ah, h.ex⟩
/-- the next round: what is told is one batch more, the heap has the next head of log p in the place of this one -/
theorem L2.next {ls : List (List EntT)} {F : Nat → Nat × Nat} {w0 wr w' : World} {g : Nat} {l l1 l2 : List Int} {all all' : Value} {e p : Nat} (h : L2 ls F w0 wr g l all e p) (hs : ¬ nb ls p - e = 1)
    (h1 : ∀ r, cnt r l = cnt r l1 + one r ((e : Int) * 1000 + (p : Int))) (h2 : ∀ r, cnt r l2 = cnt r l1 + one r (((e + 1 : Nat) : Int) * 1000 + (p : Int)))
    (hb : HB (SF ls F) w' g l2) (hp : Heap l2.length l2) (hrows : ∀ q, q < ls.length → RowsI w' 0 (.slice (some ⟨(F q).1, 0, none⟩) (nb ls q) (F q).2) (ct ls q))
    (hpl : PlW w' (g + 1) all' (uptoB ls e ++ rowB ls e p ++ bat ls p e)) (hgr : Gr w0 w') :
    ∃ e' p', L2 ls F w0 w' g l2 all' e' p' ∧ e' * ls.length + p' = e * ls.length + p + 1 := by
  have hm := h.mem.step h.lt h1 h2
  have hx := h.ex p h.lt
  have hlt := h.lt
  have hrow : uptoB ls e ++ rowB ls e p ++ bat ls p e = uptoB ls e ++ rowB ls e (p + 1) := by rw [rowB, List.append_assoc]
  rw [hrow] at hpl
  by_cases hpn : p + 1 = ls.length
  · refine ⟨e + 1, 0, ⟨hb, hp, ?_, by omega, fun q hq => ?_, fun q hq => by omega, hrows, ?_, hgr⟩, ?_⟩
    · rw [hpn] at hm
      exact hm.wrap
    · by_cases hqp : q = p
      · subst hqp; omega
      · have := h.ah q (by omega); omega
    · rw [hpn] at hpl
      rw [uptoB, rowB, List.append_nil]
      exact hpl
    · rw [Nat.succ_mul]; omega
  · exact ⟨e, p + 1, ⟨hb, hp, hm, by omega, h.ex, fun q hq => by
      by_cases hqp : q = p
      · subst hqp; omega
      · exact h.ah q (by omega), hrows, hpl, hgr⟩, by omega⟩

/-- while the heads are laid into the heap -/
structure L1 (ls : List (List EntT)) (F : Nat → Nat × Nat) (w0 wr : World) (g : Nat) (l : List Int) (k : Nat) : Prop where
  hb : HB (SF ls F) wr g l
  hp : Heap l.length l
  mem : MemE k 0 0 l
  rows : ∀ q, q < k → RowsI wr 0 (.slice (some ⟨(F q).1, 0, none⟩) (nb ls q) (F q).2) (ct ls q)
  gr : Gr w0 wr
theorem L1.two {ls : List (List EntT)} {F : Nat → Nat × Nat} {w0 wr : World} {g : Nat} {l : List Int} (h : L1 ls F w0 wr g l ls.length) (hn : 0 < ls.length) : L2 ls F w0 wr g l (.slice none 0 0) 0 0 :=
  ⟨h.hb, h.hp, h.mem, hn, fun q _ => by have := nb_pos ls q; omega, fun q hq => by omega, h.rows, PlW.none_ _ _, h.gr⟩
/-- log k's batches are known -/
def setF (F : Nat → Nat × Nat) (k : Nat) (x : Nat × Nat) : Nat → Nat × Nat := fun p => if p = k then x else F p
theorem L1.known {ls : List (List EntT)} {F : Nat → Nat × Nat} {w0 wr w' : World} {g : Nat} {l : List Int} {k b c : Nat} (h : L1 ls F w0 wr g l k) (hk : k ≤ 1000) (hg : Gr wr w') (hr : RowsI w' 0 (.slice (some ⟨b, 0, none⟩) (nb ls k) c) (ct ls k)) :
    HB (SF ls (setF F k (b, c))) w' g l ∧ ∀ q, q < k + 1 → RowsI w' 0 (.slice (some ⟨(setF F k (b, c) q).1, 0, none⟩) (nb ls q) (setF F k (b, c) q).2) (ct ls q) := by
  refine ⟨(h.hb.gr hg).alike fun x hx => ?_, fun q hq => ?_⟩
  · obtain ⟨q, hq, e⟩ := (h.mem.mem x).1 hx
    have e0 : x = (q : Int) := by rw [← e]; unfold keyE; simp
    have e1 : (x % 1000).toNat = q := by omega
    unfold SF setF
    rw [e1, if_neg (by omega)]
  · unfold setF
    by_cases hqk : q = k
    · subst hqk
      simp only [if_pos]
      exact hr
    · rw [if_neg hqk]
      exact (h.rows q (by omega)).gr hg

theorem bat_len (ls : List (List EntT)) (hn : ∀ p, (lg ls p).length ≤ 100) (p e : Nat) : ((ct ls p).getD e []).length ≤ 101 := by
  by_cases h : e < (ct ls p).length
  · rw [List.getD_eq_getElem?_getD, List.getElem?_eq_getElem h]
    have := cut_row ((lg ls p).map (·.shut)) _ (List.getElem_mem h)
    rw [List.length_map] at this
    have := hn p
    simp only [Option.getD_some]
    omega
  · rw [List.getD_eq_getElem?_getD, List.getElem?_eq_none (by omega)]
    simp
theorem row_len (ls : List (List EntT)) (hn : ∀ p, (lg ls p).length ≤ 100) (e : Nat) : ∀ p, (rowB ls e p).length ≤ 101 * p
  | 0 => by simp [rowB]
  | p + 1 => by
    have h1 := row_len ls hn e p
    have h2 := bat_len ls hn p e
    rw [rowB, List.length_append, bat, List.length_map]
    omega
theorem upto_len (ls : List (List EntT)) (hl : ls.length ≤ 10) (hn : ∀ p, (lg ls p).length ≤ 100) : ∀ e, (uptoB ls e).length ≤ 1010 * e
  | 0 => by simp [uptoB]
  | e + 1 => by
    have h1 := upto_len ls hl hn e
    have h2 := row_len ls hn e ls.length
    rw [uptoB, List.length_append]
    omega
theorem L2.few {ls : List (List EntT)} {F : Nat → Nat × Nat} {w0 wr : World} {g : Nat} {l : List Int} {all : Value} {e p : Nat} (h : L2 ls F w0 wr g l all e p) (hl : ls.length ≤ 10) (hn : ∀ p, (lg ls p).length ≤ 100) : e ≤ 100 ∧ (uptoB ls e ++ rowB ls e p).length ≤ 200000 ∧ e * ls.length + p < 101 * ls.length := by
  have h1 := h.ex p h.lt
  have h2 : nb ls p ≤ 101 := by
    have := cut_bnd ((lg ls p).map (·.shut))
    rw [List.length_map] at this
    have := hn p
    unfold nb ct
    omega
  have h3 := upto_len ls hl hn e
  have h4 := row_len ls hn e p
  have h5 := h.lt
  have h6 : e * ls.length ≤ 100 * ls.length := Nat.mul_le_mul_right _ (by omega)
  refine ⟨by omega, ?_, by omega⟩
  rw [List.length_append]
  omega
/-- a batch's number, as an entry of its log -/
theorem bat_at {ls : List (List EntT)} {p e k : Nat} {bt : List Int} (hbt : (ct ls p).getD e [] = bt) {i : Int} (hk : bt[k]? = some i) : ∃ (j : Nat) (x : EntT) (hj : j < (lg ls p).length), i = (j : Int) + 1 ∧ (lg ls p)[j] = x ∧ plc ls p i = ⟨p, i, x.t⟩ := by
  have hlt : e < (ct ls p).length := by
    rcases Nat.lt_or_ge e (ct ls p).length with h | h
    · exact h
    · rw [List.getD_eq_getElem?_getD, List.getElem?_eq_none h] at hbt
      simp only [Option.getD_none] at hbt
      subst hbt
      simp at hk
  subst hbt
  obtain ⟨hkl, rfl⟩ := List.getElem?_eq_some_iff.1 hk
  have hr : (ct ls p).getD e [] ∈ ct ls p := by
    rw [List.getD_eq_getElem?_getD, List.getElem?_eq_getElem hlt]
    exact List.getElem_mem hlt
  have h1 := cut_rng ((lg ls p).map (·.shut)) _ hr _ (List.getElem_mem hkl)
  rw [List.length_map] at h1
  generalize ((ct ls p).getD e [])[k] = i at h1 ⊢
  obtain ⟨j, rfl⟩ : ∃ j : Nat, i = (j : Int) + 1 := ⟨(i - 1).toNat, by omega⟩
  refine ⟨j, _, by omega, rfl, rfl, ?_⟩
  unfold plc
  rw [show ((j : Int) + 1).toNat - 1 = j by omega, List.getD_eq_getElem?_getD, List.getElem?_eq_getElem (by omega)]
  rfl

/-- one row of rows of numbers -/
theorem RowsI.get {w : World} {B : Nat} {v : Value} {ls : List (List Int)} (h : RowsI w B v ls) {e : Nat} (he : e < ls.length) : ∃ g c A c', v = .slice (some ⟨g, 0, none⟩) ls.length c ∧ w.cell? ⟨g, e, none⟩ = some (.slice A ls[e].length c') ∧ OwnI w B (.slice A ls[e].length c') ls[e] := by
  obtain ⟨xs, h1, h2, h3, _⟩ := h
  have h2' := h2
  rcases h2.2 with ⟨_, hn⟩ | ⟨g, c, cur, rfl, _⟩
  · omega
  have hx : e < xs.length := by omega
  have h4 := h3 e hx he
  obtain ⟨A, c', e4, _⟩ := h4.is
  refine ⟨g, c, A, c', by rw [h1], ?_, e4 ▸ h4⟩
  rw [World.ownsRow.cellAt h2' e (by omega), List.getElem?_eq_getElem hx, e4]
theorem OwnI.tw {T : TypeId → Prop} {g : Nat} {w w' : World} {B : Nat} {v : Value} {l : List Int} (h : OwnI w B v l) (ht : Tw T g w w') (he : ¬ T 3) : OwnI w' B v l := owns_tw h ht he

end Go.Proofs.Ytncdmecppfmmgaa.HeadHeap
