/-
  The document's bare by its contract: kinds 6, 7.
-/
import Derived.Test.YtpabppoohobjpaaGreatMgRefSame
namespace Go.Proofs.YtpabppoohobjpaaGreat
open Go Go.RowKit TxnMath KeyMath MsgMath
set_option maxRecDepth 100000

def bz6a (m : MsgT) : Array Value := #[.int .i64 6, .int .i64 m.frm, .int .i64 m.to, .int .i64 m.part, .int .i64 0, .int .i64 0, .int .i64 0, .int .i64 0, .bool false, .slice none 0 0, .int .i64 0, .int .i64 0, .slice none 0 0, .slice none 0 0, .int .i64 0, .int .i64 0, .int .i64 m.pos, .int .i64 m.shard, .bool false, .string ⟨#[]⟩, .string ⟨#[]⟩, .slice none 0 0, .slice none 0 0, .int .i64 0]
def bz6b (m : MsgT) : Array Value := #[.int .i64 6, .int .i64 m.frm, .int .i64 m.to, .int .i64 m.part, .int .i64 0, .int .i64 0, .int .i64 0, .int .i64 0, .bool false, .slice none 0 0, .int .i64 0, .int .i64 0, .slice none 0 0, .slice none 0 0, .int .i64 0, .int .i64 0, .int .i64 0, .int .i64 0, .bool false, .string ⟨#[]⟩, .string ⟨#[]⟩, .slice none 0 0, .slice none 0 0, .int .i64 0]
def bz7a (m : MsgT) : Array Value := #[.int .i64 7, .int .i64 m.frm, .int .i64 m.to, .int .i64 m.part, .int .i64 0, .int .i64 0, .int .i64 0, .int .i64 0, .bool m.ok, .slice none 0 0, .int .i64 0, .int .i64 0, .slice none 0 0, .slice none 0 0, .int .i64 0, .int .i64 0, .int .i64 m.pos, .int .i64 m.shard, .bool false, .string ⟨#[]⟩, .string ⟨#[]⟩, .slice none 0 0, .slice none 0 0, .int .i64 0]
def bz7b (m : MsgT) : Array Value := #[.int .i64 7, .int .i64 m.frm, .int .i64 m.to, .int .i64 m.part, .int .i64 0, .int .i64 0, .int .i64 0, .int .i64 0, .bool false, .slice none 0 0, .int .i64 0, .int .i64 0, .slice none 0 0, .slice none 0 0, .int .i64 0, .int .i64 0, .int .i64 0, .int .i64 0, .bool false, .string ⟨#[]⟩, .string ⟨#[]⟩, .slice none 0 0, .slice none 0 0, .int .i64 0]
def bz8a (m : MsgT) (kA : Option Addr) (kC : Nat) : Array Value := #[.int .i64 8, .int .i64 m.frm, .int .i64 m.to, .int .i64 m.part, .int .i64 0, .int .i64 0, .int .i64 0, .int .i64 0, .bool false, .slice none 0 0, .int .i64 0, .int .i64 0, .slice none 0 0, .slice none 0 0, .int .i64 m.ses, .int .i64 m.seq, .int .i64 m.pos, .int .i64 m.shard, .bool m.span, .string m.fromKey, .string m.toKey, .slice kA m.keys.length kC, .slice none 0 0, .int .i64 0]
def bz8b (m : MsgT) : Array Value := #[.int .i64 8, .int .i64 m.frm, .int .i64 m.to, .int .i64 m.part, .int .i64 0, .int .i64 0, .int .i64 0, .int .i64 0, .bool false, .slice none 0 0, .int .i64 0, .int .i64 0, .slice none 0 0, .slice none 0 0, .int .i64 0, .int .i64 0, .int .i64 0, .int .i64 0, .bool false, .string ⟨#[]⟩, .string ⟨#[]⟩, .slice none 0 0, .slice none 0 0, .int .i64 0]

set_option maxHeartbeats 4000000 in
theorem RefBare6_ok (v : Value) (m : MsgT) (w : World) (hv : MsgAt w v m) (hk : m.kind = 6) : Calls Tryz.prog 23 #[v] w fun e w' => ∃ u, e = .returned u ∧ MsgAt w' u (bareM m) ∧ Gr w w' := by
  obtain ⟨eA, eC, rA, rC, wA, wC, kA, kC, gA, gC, rfl, hE, hT, hK, hG⟩ := hv.open_
  have hbm : bareM m = { noMsg with kind := m.kind, frm := m.frm, to := m.to, part := m.part, pos := m.pos, shard := m.shard } := by simp [bareM, hk]
  have HM := hide (show ∀ w', Gr w w' → MsgAt w' (.agg (cellsM (bareM m) ⟨.slice none 0 0, (.slice none 0 0, .slice none 0 0), .slice none 0 0, .slice none 0 0⟩).toArray) (bareM m) from fun w' hg =>
    ⟨_, rfl, by
      rw [hbm]
      exact ⟨EntsX.nil _ _, RowsX.none_ _ _, RowX.nil _ _ _, RowX.nil _ _ _⟩⟩)
  have HL : (cellsM (bareM m) ⟨.slice none 0 0, (.slice none 0 0, .slice none 0 0), .slice none 0 0, .slice none 0 0⟩).toArray = (bz6a m) := by
    rw [hbm, hk]
    rfl
  rw [HL] at HM
  generalize bareM m = bm at HM ⊢
  obtain ⟨cs, hcs⟩ : ∃ cs, (cellsV m eA eC rA rC wA wC kA kC gA gC) = cs := ⟨_, rfl⟩
  rw [hcs]
  have HCS := hide (show cs = #[.int .i64 6, .int .i64 m.frm, .int .i64 m.to, .int .i64 m.part, .int .i64 m.term, .int .i64 m.index, .int .i64 m.logTerm, .int .i64 m.commit, .bool m.ok, .slice eA m.entries.length eC, .int .i64 m.t.ses, .int .i64 m.t.seq, .slice rA m.t.reads.length rC, .slice wA m.t.writes.length wC, .int .i64 m.ses, .int .i64 m.seq, .int .i64 m.pos, .int .i64 m.shard, .bool m.span, .string m.fromKey, .string m.toKey, .slice kA m.keys.length kC, .slice gA m.got.length gC, .int .i64 m.err] from by rw [← hcs]; unfold cellsV; rw [hk])
  clear hv hE hT hK hG HL hcs hk hbm
  go_enter Tryz.func23, Tryz.ntmps23
  go_upto_region 1 with (fail)
  obtain ⟨W, hW⟩ : ∃ W, (w.alloc (.cells cs 31)).alloc (.cells zeroCs 31) = W := ⟨_, rfl⟩
  have hgW : Gr w W := by rw [← hW]; exact ((Gr.refl _).alloc _).alloc _
  have hbW : Bl W w.heap.size 31 cs := by rw [← hW]; exact (Bl.new _ _ _).gr ((Gr.refl _).alloc _)
  have hrW : Bl W (w.heap.size + 1) 31 zeroCs := by
    rw [← hW]
    have := Bl.new (w.alloc (.cells cs 31)) 31 zeroCs
    simpa using this
  have d0 : W.cell? ⟨w.heap.size, 0, none⟩ = some (.int .i64 6) := (hbW.cell 0).trans (by rw [HCS.out]; rfl)
  have d1 : W.cell? ⟨w.heap.size, 1, none⟩ = some (.int .i64 m.frm) := (hbW.cell 1).trans (by rw [HCS.out]; rfl)
  have d2 : W.cell? ⟨w.heap.size, 2, none⟩ = some (.int .i64 m.to) := (hbW.cell 2).trans (by rw [HCS.out]; rfl)
  have d3 : W.cell? ⟨w.heap.size, 3, none⟩ = some (.int .i64 m.part) := (hbW.cell 3).trans (by rw [HCS.out]; rfl)
  have hne : w.heap.size ≠ W.heap.size := Nat.ne_of_lt hbW.lt
  have hnr : w.heap.size + 1 ≠ W.heap.size := Nat.ne_of_lt hrW.lt
  change (Code.region 1 _ false).wp _ _ _ ((w.alloc (.cells cs 31)).alloc (.cells zeroCs 31))
  rw [hW]
  clear hW
  have hbu : Tryz.prog.built 31 [(0, .int .i64 6), (1, .int .i64 m.frm), (2, .int .i64 m.to), (3, .int .i64 m.part)] = some (bz6b m) := by kernel_rfl
  have HBN := hide (Bl.new W 31 zeroCs)
  go_upto_region 2 with (first
    | refine wpList_build_to rfl 31 _ (by with_reducible rfl) (bz6b m) hbu ?_
    | refine wpList_store_row rfl 31 (.tmp 3) (.tmp 12) (by with_reducible rfl) W.heap.size (bz6b m) rfl rfl 31 zeroCs HBN.out (by kernel_rfl) rfl (by unfold bz6b; simp [Value.oneCell']) ?_)
  obtain ⟨V, hV⟩ : ∃ V, (W.alloc (.cells zeroCs 31)).setRow W.heap.size (bz6b m) = V := ⟨_, rfl⟩
  have hbut := But.row (W.alloc (.cells zeroCs 31)) W.heap.size (bz6b m)
  have hx0 := HBN.out.row (bz6b m)
  rw [hV] at hbut hx0
  have hle := hgW.size
  have hg0 : Gr w V := (hgW.alloc _).fresh hbut hle
  have hb0 : Bl V w.heap.size 31 cs := (hbut.block _ (hbW.gr ((Gr.refl _).alloc _)).lt (fun e => hne (by injection e))).trans (hbW.gr ((Gr.refl _).alloc _))
  have hr0 : Bl V (w.heap.size + 1) 31 zeroCs := (hbut.block _ (hrW.gr ((Gr.refl _).alloc _)).lt (fun e => hnr (by injection e))).trans (hrW.gr ((Gr.refl _).alloc _))
  have e0 : V.cell? ⟨w.heap.size, 0, none⟩ = some (.int .i64 6) := (hb0.cell 0).trans (by rw [HCS.out]; rfl)
  change (Code.region 2 _ false).wp _ _ _ ((W.alloc (.cells zeroCs 31)).setRow W.heap.size (bz6b m))
  rw [hV]
  clear hV hgW hbW hrW d0 d1 d2 d3 hbut HBN hbu
  go_upto_region 14 with (fail)
  clear e0
  refine Det.wp_region_det [5, 7] (BareC V.drew W.heap.size 31 (bz6b m) [(16, .int .i64 m.pos), (17, .int .i64 m.shard)]) (by kernel_rfl) (by kernel_rfl) (by kernel_rfl) ⟨But.refl _ _, hx0⟩ ?_
  refine Det.field_c (g := w.heap.size) (j := 16) rfl rfl rfl rfl (fun w => by kernel_rfl) ?_
  simp only [Act.put, List.setIfInBounds_toArray, List.set_cons_zero, List.set_cons_succ]
  refine Det.load_c (g := w.heap.size) (j := 16) (u := .int .i64 m.pos) rfl rfl rfl (fun w => by kernel_rfl) rfl (by kernel_rfl) hb0 hne (by rw [HCS.out]; rfl) ?_
  simp only [Act.put, List.setIfInBounds_toArray, List.set_cons_zero, List.set_cons_succ]
  refine Det.field_c (g := w.heap.size) (j := 17) rfl rfl rfl rfl (fun w => by kernel_rfl) ?_
  simp only [Act.put, List.setIfInBounds_toArray, List.set_cons_zero, List.set_cons_succ]
  refine Det.load_c (g := w.heap.size) (j := 17) (u := .int .i64 m.shard) rfl rfl rfl (fun w => by kernel_rfl) rfl (by kernel_rfl) hb0 hne (by rw [HCS.out]; rfl) ?_
  simp only [Act.put, List.setIfInBounds_toArray, List.set_cons_zero, List.set_cons_succ]
  refine Det.field_c (g := W.heap.size) (j := 16) rfl rfl rfl rfl (fun w => by kernel_rfl) ?_
  simp only [Act.put, List.setIfInBounds_toArray, List.set_cons_zero, List.set_cons_succ]
  refine Det.store_c (j := 16) (v := .int .i64 m.pos) rfl rfl rfl rfl rfl (fun w old c1 c2 => run_st_int w _ (fun w => by kernel_rfl) _ _ c1 c2) rfl (by unfold bz6b; simp) ?_
  simp only [Act.put]
  refine Det.field_c (g := W.heap.size) (j := 17) rfl rfl rfl rfl (fun w => by kernel_rfl) ?_
  simp only [Act.put, List.setIfInBounds_toArray, List.set_cons_zero, List.set_cons_succ]
  refine Det.store_c (j := 17) (v := .int .i64 m.shard) rfl rfl rfl rfl rfl (fun w old c1 c2 => run_st_int w _ (fun w => by kernel_rfl) _ _ c1 c2) rfl (by unfold bz6b; simp) ?_
  simp only [Act.put]
  refine Det.nil ?_
  intro w3 hC
  obtain ⟨hbut0, hbx0⟩ := hC
  change Bl w3 W.heap.size 31 (bz6a m) at hbx0
  have hb1 : Bl w3 w.heap.size 31 cs := (hbut0.block _ hb0.lt (fun e => hne (by injection e))).trans hb0
  have hr1 : Bl w3 (w.heap.size + 1) 31 zeroCs := (hbut0.block _ hr0.lt (fun e => hnr (by injection e))).trans hr0
  have hg1 : Gr w w3 := hg0.drew.fresh hbut0 (by omega)
  have hx1 := hbx0
  clear hbut0 hbx0 hb0 hr0 hg0 hx0
  have HF := hide (show MsgAt (w3.setRow (w.heap.size + 1) (bz6a m)) (.agg (bz6a m)) bm ∧ Gr w (w3.setRow (w.heap.size + 1) (bz6a m)) from by
    have hg := hg1.fresh (But.row w3 (w.heap.size + 1) (bz6a m)) (by omega)
    exact ⟨HM.out _ hg, hg⟩)
  have HB4 := hide (hr1.row (bz6a m))
  clear HM hg1 hb1
  go_wp2_with (first
    | refine wpList_load_row rfl 31 (.tmp 3) (by with_reducible rfl) W.heap.size rfl 31 _ (0, 0) _ hx1 Tryz.underlying31 rfl (by kernel_rfl) ?_
    | refine wpList_store_row rfl 31 (.tmp 2) (.tmp 144) (by with_reducible rfl) (w.heap.size + 1) (bz6a m) rfl rfl 31 _ hr1 (by kernel_rfl) rfl (by unfold bz6a; simp [Value.oneCell']) ?_)
  exact bodyPost_ret (results_cell_row rfl _ _ (w.heap.size + 1) 31 (bz6a m) (0, 0) _ rfl HB4.out Tryz.underlying31 rfl (by kernel_rfl)) rfl ⟨_, rfl, HF.out⟩

set_option maxHeartbeats 4000000 in
theorem RefBare7_ok (v : Value) (m : MsgT) (w : World) (hv : MsgAt w v m) (hk : m.kind = 7) : Calls Tryz.prog 23 #[v] w fun e w' => ∃ u, e = .returned u ∧ MsgAt w' u (bareM m) ∧ Gr w w' := by
  obtain ⟨eA, eC, rA, rC, wA, wC, kA, kC, gA, gC, rfl, hE, hT, hK, hG⟩ := hv.open_
  have hbm : bareM m = { noMsg with kind := m.kind, frm := m.frm, to := m.to, part := m.part, pos := m.pos, shard := m.shard, ok := m.ok } := by simp [bareM, hk]
  have HM := hide (show ∀ w', Gr w w' → MsgAt w' (.agg (cellsM (bareM m) ⟨.slice none 0 0, (.slice none 0 0, .slice none 0 0), .slice none 0 0, .slice none 0 0⟩).toArray) (bareM m) from fun w' hg =>
    ⟨_, rfl, by
      rw [hbm]
      exact ⟨EntsX.nil _ _, RowsX.none_ _ _, RowX.nil _ _ _, RowX.nil _ _ _⟩⟩)
  have HL : (cellsM (bareM m) ⟨.slice none 0 0, (.slice none 0 0, .slice none 0 0), .slice none 0 0, .slice none 0 0⟩).toArray = (bz7a m) := by
    rw [hbm, hk]
    rfl
  rw [HL] at HM
  generalize bareM m = bm at HM ⊢
  obtain ⟨cs, hcs⟩ : ∃ cs, (cellsV m eA eC rA rC wA wC kA kC gA gC) = cs := ⟨_, rfl⟩
  rw [hcs]
  have HCS := hide (show cs = #[.int .i64 7, .int .i64 m.frm, .int .i64 m.to, .int .i64 m.part, .int .i64 m.term, .int .i64 m.index, .int .i64 m.logTerm, .int .i64 m.commit, .bool m.ok, .slice eA m.entries.length eC, .int .i64 m.t.ses, .int .i64 m.t.seq, .slice rA m.t.reads.length rC, .slice wA m.t.writes.length wC, .int .i64 m.ses, .int .i64 m.seq, .int .i64 m.pos, .int .i64 m.shard, .bool m.span, .string m.fromKey, .string m.toKey, .slice kA m.keys.length kC, .slice gA m.got.length gC, .int .i64 m.err] from by rw [← hcs]; unfold cellsV; rw [hk])
  clear hv hE hT hK hG HL hcs hk hbm
  go_enter Tryz.func23, Tryz.ntmps23
  go_upto_region 1 with (fail)
  obtain ⟨W, hW⟩ : ∃ W, (w.alloc (.cells cs 31)).alloc (.cells zeroCs 31) = W := ⟨_, rfl⟩
  have hgW : Gr w W := by rw [← hW]; exact ((Gr.refl _).alloc _).alloc _
  have hbW : Bl W w.heap.size 31 cs := by rw [← hW]; exact (Bl.new _ _ _).gr ((Gr.refl _).alloc _)
  have hrW : Bl W (w.heap.size + 1) 31 zeroCs := by
    rw [← hW]
    have := Bl.new (w.alloc (.cells cs 31)) 31 zeroCs
    simpa using this
  have d0 : W.cell? ⟨w.heap.size, 0, none⟩ = some (.int .i64 7) := (hbW.cell 0).trans (by rw [HCS.out]; rfl)
  have d1 : W.cell? ⟨w.heap.size, 1, none⟩ = some (.int .i64 m.frm) := (hbW.cell 1).trans (by rw [HCS.out]; rfl)
  have d2 : W.cell? ⟨w.heap.size, 2, none⟩ = some (.int .i64 m.to) := (hbW.cell 2).trans (by rw [HCS.out]; rfl)
  have d3 : W.cell? ⟨w.heap.size, 3, none⟩ = some (.int .i64 m.part) := (hbW.cell 3).trans (by rw [HCS.out]; rfl)
  have hne : w.heap.size ≠ W.heap.size := Nat.ne_of_lt hbW.lt
  have hnr : w.heap.size + 1 ≠ W.heap.size := Nat.ne_of_lt hrW.lt
  change (Code.region 1 _ false).wp _ _ _ ((w.alloc (.cells cs 31)).alloc (.cells zeroCs 31))
  rw [hW]
  clear hW
  have hbu : Tryz.prog.built 31 [(0, .int .i64 7), (1, .int .i64 m.frm), (2, .int .i64 m.to), (3, .int .i64 m.part)] = some (bz7b m) := by kernel_rfl
  have HBN := hide (Bl.new W 31 zeroCs)
  go_upto_region 2 with (first
    | refine wpList_build_to rfl 31 _ (by with_reducible rfl) (bz7b m) hbu ?_
    | refine wpList_store_row rfl 31 (.tmp 3) (.tmp 12) (by with_reducible rfl) W.heap.size (bz7b m) rfl rfl 31 zeroCs HBN.out (by kernel_rfl) rfl (by unfold bz7b; simp [Value.oneCell']) ?_)
  obtain ⟨V, hV⟩ : ∃ V, (W.alloc (.cells zeroCs 31)).setRow W.heap.size (bz7b m) = V := ⟨_, rfl⟩
  have hbut := But.row (W.alloc (.cells zeroCs 31)) W.heap.size (bz7b m)
  have hx0 := HBN.out.row (bz7b m)
  rw [hV] at hbut hx0
  have hle := hgW.size
  have hg0 : Gr w V := (hgW.alloc _).fresh hbut hle
  have hb0 : Bl V w.heap.size 31 cs := (hbut.block _ (hbW.gr ((Gr.refl _).alloc _)).lt (fun e => hne (by injection e))).trans (hbW.gr ((Gr.refl _).alloc _))
  have hr0 : Bl V (w.heap.size + 1) 31 zeroCs := (hbut.block _ (hrW.gr ((Gr.refl _).alloc _)).lt (fun e => hnr (by injection e))).trans (hrW.gr ((Gr.refl _).alloc _))
  have e0 : V.cell? ⟨w.heap.size, 0, none⟩ = some (.int .i64 7) := (hb0.cell 0).trans (by rw [HCS.out]; rfl)
  change (Code.region 2 _ false).wp _ _ _ ((W.alloc (.cells zeroCs 31)).setRow W.heap.size (bz7b m))
  rw [hV]
  clear hV hgW hbW hrW d0 d1 d2 d3 hbut HBN hbu
  go_upto_region 16 with (fail)
  clear e0
  refine Det.wp_region_det [7, 9, 11] (BareC V.drew W.heap.size 31 (bz7b m) [(16, .int .i64 m.pos), (17, .int .i64 m.shard), (8, .bool m.ok)]) (by kernel_rfl) (by kernel_rfl) (by kernel_rfl) ⟨But.refl _ _, hx0⟩ ?_
  refine Det.field_c (g := w.heap.size) (j := 16) rfl rfl rfl rfl (fun w => by kernel_rfl) ?_
  simp only [Act.put, List.setIfInBounds_toArray, List.set_cons_zero, List.set_cons_succ]
  refine Det.load_c (g := w.heap.size) (j := 16) (u := .int .i64 m.pos) rfl rfl rfl (fun w => by kernel_rfl) rfl (by kernel_rfl) hb0 hne (by rw [HCS.out]; rfl) ?_
  simp only [Act.put, List.setIfInBounds_toArray, List.set_cons_zero, List.set_cons_succ]
  refine Det.field_c (g := w.heap.size) (j := 17) rfl rfl rfl rfl (fun w => by kernel_rfl) ?_
  simp only [Act.put, List.setIfInBounds_toArray, List.set_cons_zero, List.set_cons_succ]
  refine Det.load_c (g := w.heap.size) (j := 17) (u := .int .i64 m.shard) rfl rfl rfl (fun w => by kernel_rfl) rfl (by kernel_rfl) hb0 hne (by rw [HCS.out]; rfl) ?_
  simp only [Act.put, List.setIfInBounds_toArray, List.set_cons_zero, List.set_cons_succ]
  refine Det.field_c (g := w.heap.size) (j := 8) rfl rfl rfl rfl (fun w => by kernel_rfl) ?_
  simp only [Act.put, List.setIfInBounds_toArray, List.set_cons_zero, List.set_cons_succ]
  refine Det.load_c (g := w.heap.size) (j := 8) (u := .bool m.ok) rfl rfl rfl (fun w => by kernel_rfl) rfl (by kernel_rfl) hb0 hne (by rw [HCS.out]; rfl) ?_
  simp only [Act.put, List.setIfInBounds_toArray, List.set_cons_zero, List.set_cons_succ]
  refine Det.field_c (g := W.heap.size) (j := 16) rfl rfl rfl rfl (fun w => by kernel_rfl) ?_
  simp only [Act.put, List.setIfInBounds_toArray, List.set_cons_zero, List.set_cons_succ]
  refine Det.store_c (j := 16) (v := .int .i64 m.pos) rfl rfl rfl rfl rfl (fun w old c1 c2 => run_st_int w _ (fun w => by kernel_rfl) _ _ c1 c2) rfl (by unfold bz7b; simp) ?_
  simp only [Act.put]
  refine Det.field_c (g := W.heap.size) (j := 17) rfl rfl rfl rfl (fun w => by kernel_rfl) ?_
  simp only [Act.put, List.setIfInBounds_toArray, List.set_cons_zero, List.set_cons_succ]
  refine Det.store_c (j := 17) (v := .int .i64 m.shard) rfl rfl rfl rfl rfl (fun w old c1 c2 => run_st_int w _ (fun w => by kernel_rfl) _ _ c1 c2) rfl (by unfold bz7b; simp) ?_
  simp only [Act.put]
  refine Det.field_c (g := W.heap.size) (j := 8) rfl rfl rfl rfl (fun w => by kernel_rfl) ?_
  simp only [Act.put, List.setIfInBounds_toArray, List.set_cons_zero, List.set_cons_succ]
  refine Det.store_c (j := 8) (v := .bool m.ok) rfl rfl rfl rfl rfl (fun w old c1 c2 => run_st_bool w _ (fun w => by kernel_rfl) _ _ c1 c2) rfl (by unfold bz7b; simp) ?_
  simp only [Act.put]
  refine Det.nil ?_
  intro w3 hC
  obtain ⟨hbut0, hbx0⟩ := hC
  change Bl w3 W.heap.size 31 (bz7a m) at hbx0
  have hb1 : Bl w3 w.heap.size 31 cs := (hbut0.block _ hb0.lt (fun e => hne (by injection e))).trans hb0
  have hr1 : Bl w3 (w.heap.size + 1) 31 zeroCs := (hbut0.block _ hr0.lt (fun e => hnr (by injection e))).trans hr0
  have hg1 : Gr w w3 := hg0.drew.fresh hbut0 (by omega)
  have hx1 := hbx0
  clear hbut0 hbx0 hb0 hr0 hg0 hx0
  have HF := hide (show MsgAt (w3.setRow (w.heap.size + 1) (bz7a m)) (.agg (bz7a m)) bm ∧ Gr w (w3.setRow (w.heap.size + 1) (bz7a m)) from by
    have hg := hg1.fresh (But.row w3 (w.heap.size + 1) (bz7a m)) (by omega)
    exact ⟨HM.out _ hg, hg⟩)
  have HB4 := hide (hr1.row (bz7a m))
  clear HM hg1 hb1
  go_wp2_with (first
    | refine wpList_load_row rfl 31 (.tmp 3) (by with_reducible rfl) W.heap.size rfl 31 _ (0, 0) _ hx1 Tryz.underlying31 rfl (by kernel_rfl) ?_
    | refine wpList_store_row rfl 31 (.tmp 2) (.tmp 144) (by with_reducible rfl) (w.heap.size + 1) (bz7a m) rfl rfl 31 _ hr1 (by kernel_rfl) rfl (by unfold bz7a; simp [Value.oneCell']) ?_)
  exact bodyPost_ret (results_cell_row rfl _ _ (w.heap.size + 1) 31 (bz7a m) (0, 0) _ rfl HB4.out Tryz.underlying31 rfl (by kernel_rfl)) rfl ⟨_, rfl, HF.out⟩

end Go.Proofs.YtpabppoohobjpaaGreat

/-
  The document's bare by its contract: kinds 8.
-/
namespace Go.Proofs.YtpabppoohobjpaaGreat
open Go Go.RowKit TxnMath KeyMath MsgMath
set_option maxRecDepth 100000

set_option maxHeartbeats 20000000 in
theorem RefBare8_ok (v : Value) (m : MsgT) (w : World) (hv : MsgAt w v m) (hk : m.kind = 8) : Calls Tryz.prog 23 #[v] w fun e w' => ∃ u, e = .returned u ∧ MsgAt w' u (bareM m) ∧ Gr w w' := by
  obtain ⟨eA, eC, rA, rC, wA, wC, kA, kC, gA, gC, rfl, hE, hT, hK, hG⟩ := hv.open_
  have hbm : bareM m = { noMsg with kind := m.kind, frm := m.frm, to := m.to, part := m.part, ses := m.ses, seq := m.seq, pos := m.pos, shard := m.shard, span := m.span, fromKey := m.fromKey, toKey := m.toKey, keys := m.keys } := by simp [bareM, hk]
  have HM := hide (show ∀ w', Gr w w' → MsgAt w' (.agg (cellsM (bareM m) ⟨.slice none 0 0, (.slice none 0 0, .slice none 0 0), .slice kA m.keys.length kC, .slice none 0 0⟩).toArray) (bareM m) from fun w' hg =>
    ⟨_, rfl, by
      rw [hbm]
      exact ⟨EntsX.nil _ _, RowsX.none_ _ _, hK.move (Moves.of_gr hg) (strC_pos _), RowX.nil _ _ _⟩⟩)
  have HL : (cellsM (bareM m) ⟨.slice none 0 0, (.slice none 0 0, .slice none 0 0), .slice kA m.keys.length kC, .slice none 0 0⟩).toArray = (bz8a m kA kC) := by
    rw [hbm, hk]
    rfl
  rw [HL] at HM
  generalize bareM m = bm at HM ⊢
  obtain ⟨cs, hcs⟩ : ∃ cs, (cellsV m eA eC rA rC wA wC kA kC gA gC) = cs := ⟨_, rfl⟩
  rw [hcs]
  have HCS := hide (show cs = #[.int .i64 8, .int .i64 m.frm, .int .i64 m.to, .int .i64 m.part, .int .i64 m.term, .int .i64 m.index, .int .i64 m.logTerm, .int .i64 m.commit, .bool m.ok, .slice eA m.entries.length eC, .int .i64 m.t.ses, .int .i64 m.t.seq, .slice rA m.t.reads.length rC, .slice wA m.t.writes.length wC, .int .i64 m.ses, .int .i64 m.seq, .int .i64 m.pos, .int .i64 m.shard, .bool m.span, .string m.fromKey, .string m.toKey, .slice kA m.keys.length kC, .slice gA m.got.length gC, .int .i64 m.err] from by rw [← hcs]; unfold cellsV; rw [hk])
  clear hv hE hT hK hG HL hcs hk hbm
  go_enter Tryz.func23, Tryz.ntmps23
  go_upto_region 1 with (fail)
  obtain ⟨W, hW⟩ : ∃ W, (w.alloc (.cells cs 31)).alloc (.cells zeroCs 31) = W := ⟨_, rfl⟩
  have hgW : Gr w W := by rw [← hW]; exact ((Gr.refl _).alloc _).alloc _
  have hbW : Bl W w.heap.size 31 cs := by rw [← hW]; exact (Bl.new _ _ _).gr ((Gr.refl _).alloc _)
  have hrW : Bl W (w.heap.size + 1) 31 zeroCs := by
    rw [← hW]
    have := Bl.new (w.alloc (.cells cs 31)) 31 zeroCs
    simpa using this
  have d0 : W.cell? ⟨w.heap.size, 0, none⟩ = some (.int .i64 8) := (hbW.cell 0).trans (by rw [HCS.out]; rfl)
  have d1 : W.cell? ⟨w.heap.size, 1, none⟩ = some (.int .i64 m.frm) := (hbW.cell 1).trans (by rw [HCS.out]; rfl)
  have d2 : W.cell? ⟨w.heap.size, 2, none⟩ = some (.int .i64 m.to) := (hbW.cell 2).trans (by rw [HCS.out]; rfl)
  have d3 : W.cell? ⟨w.heap.size, 3, none⟩ = some (.int .i64 m.part) := (hbW.cell 3).trans (by rw [HCS.out]; rfl)
  have hne : w.heap.size ≠ W.heap.size := Nat.ne_of_lt hbW.lt
  have hnr : w.heap.size + 1 ≠ W.heap.size := Nat.ne_of_lt hrW.lt
  change (Code.region 1 _ false).wp _ _ _ ((w.alloc (.cells cs 31)).alloc (.cells zeroCs 31))
  rw [hW]
  clear hW
  have hbu : Tryz.prog.built 31 [(0, .int .i64 8), (1, .int .i64 m.frm), (2, .int .i64 m.to), (3, .int .i64 m.part)] = some (bz8b m) := by kernel_rfl
  have HBN := hide (Bl.new W 31 zeroCs)
  go_upto_region 2 with (first
    | refine wpList_build_to rfl 31 _ (by with_reducible rfl) (bz8b m) hbu ?_
    | refine wpList_store_row rfl 31 (.tmp 3) (.tmp 12) (by with_reducible rfl) W.heap.size (bz8b m) rfl rfl 31 zeroCs HBN.out (by kernel_rfl) rfl (by unfold bz8b; simp [Value.oneCell']) ?_)
  obtain ⟨V, hV⟩ : ∃ V, (W.alloc (.cells zeroCs 31)).setRow W.heap.size (bz8b m) = V := ⟨_, rfl⟩
  have hbut := But.row (W.alloc (.cells zeroCs 31)) W.heap.size (bz8b m)
  have hx0 := HBN.out.row (bz8b m)
  rw [hV] at hbut hx0
  have hle := hgW.size
  have hg0 : Gr w V := (hgW.alloc _).fresh hbut hle
  have hb0 : Bl V w.heap.size 31 cs := (hbut.block _ (hbW.gr ((Gr.refl _).alloc _)).lt (fun e => hne (by injection e))).trans (hbW.gr ((Gr.refl _).alloc _))
  have hr0 : Bl V (w.heap.size + 1) 31 zeroCs := (hbut.block _ (hrW.gr ((Gr.refl _).alloc _)).lt (fun e => hnr (by injection e))).trans (hrW.gr ((Gr.refl _).alloc _))
  have e0 : V.cell? ⟨w.heap.size, 0, none⟩ = some (.int .i64 8) := (hb0.cell 0).trans (by rw [HCS.out]; rfl)
  change (Code.region 2 _ false).wp _ _ _ ((W.alloc (.cells zeroCs 31)).setRow W.heap.size (bz8b m))
  rw [hV]
  clear hV hgW hbW hrW d0 d1 d2 d3 hbut HBN hbu
  go_upto_region 18 with (fail)
  clear e0
  refine Det.wp_region_det [17, 19, 21, 23, 25, 27, 29, 31] (BareC V.drew W.heap.size 31 (bz8b m) [(14, .int .i64 m.ses), (15, .int .i64 m.seq), (16, .int .i64 m.pos), (17, .int .i64 m.shard), (18, .bool m.span), (19, .string m.fromKey), (20, .string m.toKey), (21, .slice kA m.keys.length kC)]) (by kernel_rfl) (by kernel_rfl) (by kernel_rfl) ⟨But.refl _ _, hx0⟩ ?_
  refine Det.field_c (g := w.heap.size) (j := 14) rfl rfl rfl rfl (fun w => by kernel_rfl) ?_
  simp only [Act.put, List.setIfInBounds_toArray, List.set_cons_zero, List.set_cons_succ]
  refine Det.load_c (g := w.heap.size) (j := 14) (u := .int .i64 m.ses) rfl rfl rfl (fun w => by kernel_rfl) rfl (by kernel_rfl) hb0 hne (by rw [HCS.out]; rfl) ?_
  simp only [Act.put, List.setIfInBounds_toArray, List.set_cons_zero, List.set_cons_succ]
  refine Det.field_c (g := w.heap.size) (j := 15) rfl rfl rfl rfl (fun w => by kernel_rfl) ?_
  simp only [Act.put, List.setIfInBounds_toArray, List.set_cons_zero, List.set_cons_succ]
  refine Det.load_c (g := w.heap.size) (j := 15) (u := .int .i64 m.seq) rfl rfl rfl (fun w => by kernel_rfl) rfl (by kernel_rfl) hb0 hne (by rw [HCS.out]; rfl) ?_
  simp only [Act.put, List.setIfInBounds_toArray, List.set_cons_zero, List.set_cons_succ]
  refine Det.field_c (g := w.heap.size) (j := 16) rfl rfl rfl rfl (fun w => by kernel_rfl) ?_
  simp only [Act.put, List.setIfInBounds_toArray, List.set_cons_zero, List.set_cons_succ]
  refine Det.load_c (g := w.heap.size) (j := 16) (u := .int .i64 m.pos) rfl rfl rfl (fun w => by kernel_rfl) rfl (by kernel_rfl) hb0 hne (by rw [HCS.out]; rfl) ?_
  simp only [Act.put, List.setIfInBounds_toArray, List.set_cons_zero, List.set_cons_succ]
  refine Det.field_c (g := w.heap.size) (j := 17) rfl rfl rfl rfl (fun w => by kernel_rfl) ?_
  simp only [Act.put, List.setIfInBounds_toArray, List.set_cons_zero, List.set_cons_succ]
  refine Det.load_c (g := w.heap.size) (j := 17) (u := .int .i64 m.shard) rfl rfl rfl (fun w => by kernel_rfl) rfl (by kernel_rfl) hb0 hne (by rw [HCS.out]; rfl) ?_
  simp only [Act.put, List.setIfInBounds_toArray, List.set_cons_zero, List.set_cons_succ]
  refine Det.field_c (g := w.heap.size) (j := 18) rfl rfl rfl rfl (fun w => by kernel_rfl) ?_
  simp only [Act.put, List.setIfInBounds_toArray, List.set_cons_zero, List.set_cons_succ]
  refine Det.load_c (g := w.heap.size) (j := 18) (u := .bool m.span) rfl rfl rfl (fun w => by kernel_rfl) rfl (by kernel_rfl) hb0 hne (by rw [HCS.out]; rfl) ?_
  simp only [Act.put, List.setIfInBounds_toArray, List.set_cons_zero, List.set_cons_succ]
  refine Det.field_c (g := w.heap.size) (j := 19) rfl rfl rfl rfl (fun w => by kernel_rfl) ?_
  simp only [Act.put, List.setIfInBounds_toArray, List.set_cons_zero, List.set_cons_succ]
  refine Det.load_c (g := w.heap.size) (j := 19) (u := .string m.fromKey) rfl rfl rfl (fun w => by kernel_rfl) rfl (by kernel_rfl) hb0 hne (by rw [HCS.out]; rfl) ?_
  simp only [Act.put, List.setIfInBounds_toArray, List.set_cons_zero, List.set_cons_succ]
  refine Det.field_c (g := w.heap.size) (j := 20) rfl rfl rfl rfl (fun w => by kernel_rfl) ?_
  simp only [Act.put, List.setIfInBounds_toArray, List.set_cons_zero, List.set_cons_succ]
  refine Det.load_c (g := w.heap.size) (j := 20) (u := .string m.toKey) rfl rfl rfl (fun w => by kernel_rfl) rfl (by kernel_rfl) hb0 hne (by rw [HCS.out]; rfl) ?_
  simp only [Act.put, List.setIfInBounds_toArray, List.set_cons_zero, List.set_cons_succ]
  refine Det.field_c (g := w.heap.size) (j := 21) rfl rfl rfl rfl (fun w => by kernel_rfl) ?_
  simp only [Act.put, List.setIfInBounds_toArray, List.set_cons_zero, List.set_cons_succ]
  refine Det.load_c (g := w.heap.size) (j := 21) (u := .slice kA m.keys.length kC) rfl rfl rfl (fun w => by kernel_rfl) rfl (by kernel_rfl) hb0 hne (by rw [HCS.out]; rfl) ?_
  simp only [Act.put, List.setIfInBounds_toArray, List.set_cons_zero, List.set_cons_succ]
  refine Det.field_c (g := W.heap.size) (j := 14) rfl rfl rfl rfl (fun w => by kernel_rfl) ?_
  simp only [Act.put, List.setIfInBounds_toArray, List.set_cons_zero, List.set_cons_succ]
  refine Det.store_c (j := 14) (v := .int .i64 m.ses) rfl rfl rfl rfl rfl (fun w old c1 c2 => run_st_int w _ (fun w => by kernel_rfl) _ _ c1 c2) rfl (by unfold bz8b; simp) ?_
  simp only [Act.put]
  refine Det.field_c (g := W.heap.size) (j := 15) rfl rfl rfl rfl (fun w => by kernel_rfl) ?_
  simp only [Act.put, List.setIfInBounds_toArray, List.set_cons_zero, List.set_cons_succ]
  refine Det.store_c (j := 15) (v := .int .i64 m.seq) rfl rfl rfl rfl rfl (fun w old c1 c2 => run_st_int w _ (fun w => by kernel_rfl) _ _ c1 c2) rfl (by unfold bz8b; simp) ?_
  simp only [Act.put]
  refine Det.field_c (g := W.heap.size) (j := 16) rfl rfl rfl rfl (fun w => by kernel_rfl) ?_
  simp only [Act.put, List.setIfInBounds_toArray, List.set_cons_zero, List.set_cons_succ]
  refine Det.store_c (j := 16) (v := .int .i64 m.pos) rfl rfl rfl rfl rfl (fun w old c1 c2 => run_st_int w _ (fun w => by kernel_rfl) _ _ c1 c2) rfl (by unfold bz8b; simp) ?_
  simp only [Act.put]
  refine Det.field_c (g := W.heap.size) (j := 17) rfl rfl rfl rfl (fun w => by kernel_rfl) ?_
  simp only [Act.put, List.setIfInBounds_toArray, List.set_cons_zero, List.set_cons_succ]
  refine Det.store_c (j := 17) (v := .int .i64 m.shard) rfl rfl rfl rfl rfl (fun w old c1 c2 => run_st_int w _ (fun w => by kernel_rfl) _ _ c1 c2) rfl (by unfold bz8b; simp) ?_
  simp only [Act.put]
  refine Det.field_c (g := W.heap.size) (j := 18) rfl rfl rfl rfl (fun w => by kernel_rfl) ?_
  simp only [Act.put, List.setIfInBounds_toArray, List.set_cons_zero, List.set_cons_succ]
  refine Det.store_c (j := 18) (v := .bool m.span) rfl rfl rfl rfl rfl (fun w old c1 c2 => run_st_bool w _ (fun w => by kernel_rfl) _ _ c1 c2) rfl (by unfold bz8b; simp) ?_
  simp only [Act.put]
  refine Det.field_c (g := W.heap.size) (j := 19) rfl rfl rfl rfl (fun w => by kernel_rfl) ?_
  simp only [Act.put, List.setIfInBounds_toArray, List.set_cons_zero, List.set_cons_succ]
  refine Det.store_c (j := 19) (v := .string m.fromKey) rfl rfl rfl rfl rfl (fun w old c1 c2 => run_st_str w _ (fun w => by kernel_rfl) _ _ c1 c2) rfl (by unfold bz8b; simp) ?_
  simp only [Act.put]
  refine Det.field_c (g := W.heap.size) (j := 20) rfl rfl rfl rfl (fun w => by kernel_rfl) ?_
  simp only [Act.put, List.setIfInBounds_toArray, List.set_cons_zero, List.set_cons_succ]
  refine Det.store_c (j := 20) (v := .string m.toKey) rfl rfl rfl rfl rfl (fun w old c1 c2 => run_st_str w _ (fun w => by kernel_rfl) _ _ c1 c2) rfl (by unfold bz8b; simp) ?_
  simp only [Act.put]
  refine Det.field_c (g := W.heap.size) (j := 21) rfl rfl rfl rfl (fun w => by kernel_rfl) ?_
  simp only [Act.put, List.setIfInBounds_toArray, List.set_cons_zero, List.set_cons_succ]
  refine Det.store_c (j := 21) (v := .slice kA m.keys.length kC) rfl rfl rfl rfl rfl (fun w old c1 c2 => run_st_sl w _ (fun w => by kernel_rfl) _ _ c1 c2) rfl (by unfold bz8b; simp) ?_
  simp only [Act.put]
  refine Det.nil ?_
  intro w3 hC
  obtain ⟨hbut0, hbx0⟩ := hC
  change Bl w3 W.heap.size 31 (bz8a m kA kC) at hbx0
  have hb1 : Bl w3 w.heap.size 31 cs := (hbut0.block _ hb0.lt (fun e => hne (by injection e))).trans hb0
  have hr1 : Bl w3 (w.heap.size + 1) 31 zeroCs := (hbut0.block _ hr0.lt (fun e => hnr (by injection e))).trans hr0
  have hg1 : Gr w w3 := hg0.drew.fresh hbut0 (by omega)
  have hx1 := hbx0
  clear hbut0 hbx0 hb0 hr0 hg0 hx0
  have HF := hide (show MsgAt (w3.setRow (w.heap.size + 1) (bz8a m kA kC)) (.agg (bz8a m kA kC)) bm ∧ Gr w (w3.setRow (w.heap.size + 1) (bz8a m kA kC)) from by
    have hg := hg1.fresh (But.row w3 (w.heap.size + 1) (bz8a m kA kC)) (by omega)
    exact ⟨HM.out _ hg, hg⟩)
  have HB4 := hide (hr1.row (bz8a m kA kC))
  clear HM hg1 hb1
  go_wp2_with (first
    | refine wpList_load_row rfl 31 (.tmp 3) (by with_reducible rfl) W.heap.size rfl 31 _ (0, 0) _ hx1 Tryz.underlying31 rfl (by kernel_rfl) ?_
    | refine wpList_store_row rfl 31 (.tmp 2) (.tmp 144) (by with_reducible rfl) (w.heap.size + 1) (bz8a m kA kC) rfl rfl 31 _ hr1 (by kernel_rfl) rfl (by unfold bz8a; simp [Value.oneCell']) ?_)
  exact bodyPost_ret (results_cell_row rfl _ _ (w.heap.size + 1) 31 (bz8a m kA kC) (0, 0) _ rfl HB4.out Tryz.underlying31 rfl (by kernel_rfl)) rfl ⟨_, rfl, HF.out⟩

end Go.Proofs.YtpabppoohobjpaaGreat
