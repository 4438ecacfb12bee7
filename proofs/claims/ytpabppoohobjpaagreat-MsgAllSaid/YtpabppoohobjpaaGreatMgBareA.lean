/-
  The document's bare by its contract: kinds 1, 2.
-/
import Derived.Test.YtpabppoohobjpaaGreatMgRefSame
namespace Go.Proofs.YtpabppoohobjpaaGreat
open Go Go.RowKit TxnMath KeyMath MsgMath
set_option maxRecDepth 100000

def bz1a (m : MsgT) : Array Value := #[.int .i64 1, .int .i64 m.frm, .int .i64 m.to, .int .i64 m.part, .int .i64 m.term, .int .i64 m.index, .int .i64 m.logTerm, .int .i64 0, .bool false, .slice none 0 0, .int .i64 0, .int .i64 0, .slice none 0 0, .slice none 0 0, .int .i64 0, .int .i64 0, .int .i64 0, .int .i64 0, .bool false, .string ⟨#[]⟩, .string ⟨#[]⟩, .slice none 0 0, .slice none 0 0, .int .i64 0]
def bz1b (m : MsgT) : Array Value := #[.int .i64 1, .int .i64 m.frm, .int .i64 m.to, .int .i64 m.part, .int .i64 0, .int .i64 0, .int .i64 0, .int .i64 0, .bool false, .slice none 0 0, .int .i64 0, .int .i64 0, .slice none 0 0, .slice none 0 0, .int .i64 0, .int .i64 0, .int .i64 0, .int .i64 0, .bool false, .string ⟨#[]⟩, .string ⟨#[]⟩, .slice none 0 0, .slice none 0 0, .int .i64 0]
def bz2a (m : MsgT) : Array Value := #[.int .i64 2, .int .i64 m.frm, .int .i64 m.to, .int .i64 m.part, .int .i64 m.term, .int .i64 0, .int .i64 0, .int .i64 0, .bool m.ok, .slice none 0 0, .int .i64 0, .int .i64 0, .slice none 0 0, .slice none 0 0, .int .i64 0, .int .i64 0, .int .i64 0, .int .i64 0, .bool false, .string ⟨#[]⟩, .string ⟨#[]⟩, .slice none 0 0, .slice none 0 0, .int .i64 0]
def bz2b (m : MsgT) : Array Value := #[.int .i64 2, .int .i64 m.frm, .int .i64 m.to, .int .i64 m.part, .int .i64 0, .int .i64 0, .int .i64 0, .int .i64 0, .bool false, .slice none 0 0, .int .i64 0, .int .i64 0, .slice none 0 0, .slice none 0 0, .int .i64 0, .int .i64 0, .int .i64 0, .int .i64 0, .bool false, .string ⟨#[]⟩, .string ⟨#[]⟩, .slice none 0 0, .slice none 0 0, .int .i64 0]
def bz3a (m : MsgT) (eA : Option Addr) (eC : Nat) : Array Value := #[.int .i64 3, .int .i64 m.frm, .int .i64 m.to, .int .i64 m.part, .int .i64 m.term, .int .i64 m.index, .int .i64 m.logTerm, .int .i64 m.commit, .bool false, .slice eA m.entries.length eC, .int .i64 0, .int .i64 0, .slice none 0 0, .slice none 0 0, .int .i64 0, .int .i64 0, .int .i64 0, .int .i64 0, .bool false, .string ⟨#[]⟩, .string ⟨#[]⟩, .slice none 0 0, .slice none 0 0, .int .i64 0]
def bz3b (m : MsgT) : Array Value := #[.int .i64 3, .int .i64 m.frm, .int .i64 m.to, .int .i64 m.part, .int .i64 0, .int .i64 0, .int .i64 0, .int .i64 0, .bool false, .slice none 0 0, .int .i64 0, .int .i64 0, .slice none 0 0, .slice none 0 0, .int .i64 0, .int .i64 0, .int .i64 0, .int .i64 0, .bool false, .string ⟨#[]⟩, .string ⟨#[]⟩, .slice none 0 0, .slice none 0 0, .int .i64 0]
def bz4a (m : MsgT) : Array Value := #[.int .i64 4, .int .i64 m.frm, .int .i64 m.to, .int .i64 m.part, .int .i64 m.term, .int .i64 m.index, .int .i64 0, .int .i64 0, .bool m.ok, .slice none 0 0, .int .i64 0, .int .i64 0, .slice none 0 0, .slice none 0 0, .int .i64 0, .int .i64 0, .int .i64 0, .int .i64 0, .bool false, .string ⟨#[]⟩, .string ⟨#[]⟩, .slice none 0 0, .slice none 0 0, .int .i64 0]
def bz4b (m : MsgT) : Array Value := #[.int .i64 4, .int .i64 m.frm, .int .i64 m.to, .int .i64 m.part, .int .i64 0, .int .i64 0, .int .i64 0, .int .i64 0, .bool false, .slice none 0 0, .int .i64 0, .int .i64 0, .slice none 0 0, .slice none 0 0, .int .i64 0, .int .i64 0, .int .i64 0, .int .i64 0, .bool false, .string ⟨#[]⟩, .string ⟨#[]⟩, .slice none 0 0, .slice none 0 0, .int .i64 0]

set_option maxHeartbeats 4000000 in
theorem RefBare1_ok (v : Value) (m : MsgT) (w : World) (hv : MsgAt w v m) (hk : m.kind = 1) : Calls Tryz.prog 23 #[v] w fun e w' => ∃ u, e = .returned u ∧ MsgAt w' u (bareM m) ∧ Gr w w' := by
  obtain ⟨eA, eC, rA, rC, wA, wC, kA, kC, gA, gC, rfl, hE, hT, hK, hG⟩ := hv.open_
  have hbm : bareM m = { noMsg with kind := m.kind, frm := m.frm, to := m.to, part := m.part, term := m.term, index := m.index, logTerm := m.logTerm } := by simp [bareM, hk]
  have HM := hide (show ∀ w', Gr w w' → MsgAt w' (.agg (cellsM (bareM m) ⟨.slice none 0 0, (.slice none 0 0, .slice none 0 0), .slice none 0 0, .slice none 0 0⟩).toArray) (bareM m) from fun w' hg =>
    ⟨_, rfl, by
      rw [hbm]
      exact ⟨EntsX.nil _ _, RowsX.none_ _ _, RowX.nil _ _ _, RowX.nil _ _ _⟩⟩)
  have HL : (cellsM (bareM m) ⟨.slice none 0 0, (.slice none 0 0, .slice none 0 0), .slice none 0 0, .slice none 0 0⟩).toArray = (bz1a m) := by
    rw [hbm, hk]
    rfl
  rw [HL] at HM
  generalize bareM m = bm at HM ⊢
  obtain ⟨cs, hcs⟩ : ∃ cs, (cellsV m eA eC rA rC wA wC kA kC gA gC) = cs := ⟨_, rfl⟩
  rw [hcs]
  have HCS := hide (show cs = #[.int .i64 1, .int .i64 m.frm, .int .i64 m.to, .int .i64 m.part, .int .i64 m.term, .int .i64 m.index, .int .i64 m.logTerm, .int .i64 m.commit, .bool m.ok, .slice eA m.entries.length eC, .int .i64 m.t.ses, .int .i64 m.t.seq, .slice rA m.t.reads.length rC, .slice wA m.t.writes.length wC, .int .i64 m.ses, .int .i64 m.seq, .int .i64 m.pos, .int .i64 m.shard, .bool m.span, .string m.fromKey, .string m.toKey, .slice kA m.keys.length kC, .slice gA m.got.length gC, .int .i64 m.err] from by rw [← hcs]; unfold cellsV; rw [hk])
  clear hv hE hT hK hG HL hcs hk hbm
  go_enter Tryz.func23, Tryz.ntmps23
  go_upto_region 1 with (fail)
  obtain ⟨W, hW⟩ : ∃ W, (w.alloc (.cells cs 31)).alloc (.cells zeroCs 31) = W := ⟨_, rfl⟩
  have hgW : Gr w W := by rw [← hW]; exact ((Gr.refl _).alloc _).alloc _
  have hbW : Bl W w.heap.size 31 cs := by rw [← hW]; exact (Bl.new _ _ _).gr ((Gr.refl _).alloc _)
  have hrW : Bl W (w.heap.size + 1) 31 zeroCs := by
    rw [← hW]
    have := Bl.new (w.alloc (.cells cs 31)) 31 zeroCs
    simpa using this
  have d0 : W.cell? ⟨w.heap.size, 0, none⟩ = some (.int .i64 1) := (hbW.cell 0).trans (by rw [HCS.out]; rfl)
  have d1 : W.cell? ⟨w.heap.size, 1, none⟩ = some (.int .i64 m.frm) := (hbW.cell 1).trans (by rw [HCS.out]; rfl)
  have d2 : W.cell? ⟨w.heap.size, 2, none⟩ = some (.int .i64 m.to) := (hbW.cell 2).trans (by rw [HCS.out]; rfl)
  have d3 : W.cell? ⟨w.heap.size, 3, none⟩ = some (.int .i64 m.part) := (hbW.cell 3).trans (by rw [HCS.out]; rfl)
  have hne : w.heap.size ≠ W.heap.size := Nat.ne_of_lt hbW.lt
  have hnr : w.heap.size + 1 ≠ W.heap.size := Nat.ne_of_lt hrW.lt
  change (Code.region 1 _ false).wp _ _ _ ((w.alloc (.cells cs 31)).alloc (.cells zeroCs 31))
  rw [hW]
  clear hW
  have hbu : Tryz.prog.built 31 [(0, .int .i64 1), (1, .int .i64 m.frm), (2, .int .i64 m.to), (3, .int .i64 m.part)] = some (bz1b m) := by kernel_rfl
  have HBN := hide (Bl.new W 31 zeroCs)
  go_upto_region 2 with (first
    | refine wpList_build_to rfl 31 _ (by with_reducible rfl) (bz1b m) hbu ?_
    | refine wpList_store_row rfl 31 (.tmp 3) (.tmp 12) (by with_reducible rfl) W.heap.size (bz1b m) rfl rfl 31 zeroCs HBN.out (by kernel_rfl) rfl (by unfold bz1b; simp [Value.oneCell']) ?_)
  obtain ⟨V, hV⟩ : ∃ V, (W.alloc (.cells zeroCs 31)).setRow W.heap.size (bz1b m) = V := ⟨_, rfl⟩
  have hbut := But.row (W.alloc (.cells zeroCs 31)) W.heap.size (bz1b m)
  have hx0 := HBN.out.row (bz1b m)
  rw [hV] at hbut hx0
  have hle := hgW.size
  have hg0 : Gr w V := (hgW.alloc _).fresh hbut hle
  have hb0 : Bl V w.heap.size 31 cs := (hbut.block _ (hbW.gr ((Gr.refl _).alloc _)).lt (fun e => hne (by injection e))).trans (hbW.gr ((Gr.refl _).alloc _))
  have hr0 : Bl V (w.heap.size + 1) 31 zeroCs := (hbut.block _ (hrW.gr ((Gr.refl _).alloc _)).lt (fun e => hnr (by injection e))).trans (hrW.gr ((Gr.refl _).alloc _))
  have e0 : V.cell? ⟨w.heap.size, 0, none⟩ = some (.int .i64 1) := (hb0.cell 0).trans (by rw [HCS.out]; rfl)
  change (Code.region 2 _ false).wp _ _ _ ((W.alloc (.cells zeroCs 31)).setRow W.heap.size (bz1b m))
  rw [hV]
  clear hV hgW hbW hrW d0 d1 d2 d3 hbut HBN hbu
  go_upto_region 4 with (fail)
  clear e0
  refine Det.wp_region_det [7, 9, 11] (BareC V.drew W.heap.size 31 (bz1b m) [(4, .int .i64 m.term), (5, .int .i64 m.index), (6, .int .i64 m.logTerm)]) (by kernel_rfl) (by kernel_rfl) (by kernel_rfl) ⟨But.refl _ _, hx0⟩ ?_
  refine Det.field_c (g := w.heap.size) (j := 4) rfl rfl rfl rfl (fun w => by kernel_rfl) ?_
  simp only [Act.put, List.setIfInBounds_toArray, List.set_cons_zero, List.set_cons_succ]
  refine Det.load_c (g := w.heap.size) (j := 4) (u := .int .i64 m.term) rfl rfl rfl (fun w => by kernel_rfl) rfl (by kernel_rfl) hb0 hne (by rw [HCS.out]; rfl) ?_
  simp only [Act.put, List.setIfInBounds_toArray, List.set_cons_zero, List.set_cons_succ]
  refine Det.field_c (g := w.heap.size) (j := 5) rfl rfl rfl rfl (fun w => by kernel_rfl) ?_
  simp only [Act.put, List.setIfInBounds_toArray, List.set_cons_zero, List.set_cons_succ]
  refine Det.load_c (g := w.heap.size) (j := 5) (u := .int .i64 m.index) rfl rfl rfl (fun w => by kernel_rfl) rfl (by kernel_rfl) hb0 hne (by rw [HCS.out]; rfl) ?_
  simp only [Act.put, List.setIfInBounds_toArray, List.set_cons_zero, List.set_cons_succ]
  refine Det.field_c (g := w.heap.size) (j := 6) rfl rfl rfl rfl (fun w => by kernel_rfl) ?_
  simp only [Act.put, List.setIfInBounds_toArray, List.set_cons_zero, List.set_cons_succ]
  refine Det.load_c (g := w.heap.size) (j := 6) (u := .int .i64 m.logTerm) rfl rfl rfl (fun w => by kernel_rfl) rfl (by kernel_rfl) hb0 hne (by rw [HCS.out]; rfl) ?_
  simp only [Act.put, List.setIfInBounds_toArray, List.set_cons_zero, List.set_cons_succ]
  refine Det.field_c (g := W.heap.size) (j := 4) rfl rfl rfl rfl (fun w => by kernel_rfl) ?_
  simp only [Act.put, List.setIfInBounds_toArray, List.set_cons_zero, List.set_cons_succ]
  refine Det.store_c (j := 4) (v := .int .i64 m.term) rfl rfl rfl rfl rfl (fun w old c1 c2 => run_st_int w _ (fun w => by kernel_rfl) _ _ c1 c2) rfl (by unfold bz1b; simp) ?_
  simp only [Act.put]
  refine Det.field_c (g := W.heap.size) (j := 5) rfl rfl rfl rfl (fun w => by kernel_rfl) ?_
  simp only [Act.put, List.setIfInBounds_toArray, List.set_cons_zero, List.set_cons_succ]
  refine Det.store_c (j := 5) (v := .int .i64 m.index) rfl rfl rfl rfl rfl (fun w old c1 c2 => run_st_int w _ (fun w => by kernel_rfl) _ _ c1 c2) rfl (by unfold bz1b; simp) ?_
  simp only [Act.put]
  refine Det.field_c (g := W.heap.size) (j := 6) rfl rfl rfl rfl (fun w => by kernel_rfl) ?_
  simp only [Act.put, List.setIfInBounds_toArray, List.set_cons_zero, List.set_cons_succ]
  refine Det.store_c (j := 6) (v := .int .i64 m.logTerm) rfl rfl rfl rfl rfl (fun w old c1 c2 => run_st_int w _ (fun w => by kernel_rfl) _ _ c1 c2) rfl (by unfold bz1b; simp) ?_
  simp only [Act.put]
  refine Det.nil ?_
  intro w3 hC
  obtain ⟨hbut0, hbx0⟩ := hC
  change Bl w3 W.heap.size 31 (bz1a m) at hbx0
  have hb1 : Bl w3 w.heap.size 31 cs := (hbut0.block _ hb0.lt (fun e => hne (by injection e))).trans hb0
  have hr1 : Bl w3 (w.heap.size + 1) 31 zeroCs := (hbut0.block _ hr0.lt (fun e => hnr (by injection e))).trans hr0
  have hg1 : Gr w w3 := hg0.drew.fresh hbut0 (by omega)
  have hx1 := hbx0
  clear hbut0 hbx0 hb0 hr0 hg0 hx0
  have HF := hide (show MsgAt (w3.setRow (w.heap.size + 1) (bz1a m)) (.agg (bz1a m)) bm ∧ Gr w (w3.setRow (w.heap.size + 1) (bz1a m)) from by
    have hg := hg1.fresh (But.row w3 (w.heap.size + 1) (bz1a m)) (by omega)
    exact ⟨HM.out _ hg, hg⟩)
  have HB4 := hide (hr1.row (bz1a m))
  clear HM hg1 hb1
  go_wp2_with (first
    | refine wpList_load_row rfl 31 (.tmp 3) (by with_reducible rfl) W.heap.size rfl 31 _ (0, 0) _ hx1 Tryz.underlying31 rfl (by kernel_rfl) ?_
    | refine wpList_store_row rfl 31 (.tmp 2) (.tmp 144) (by with_reducible rfl) (w.heap.size + 1) (bz1a m) rfl rfl 31 _ hr1 (by kernel_rfl) rfl (by unfold bz1a; simp [Value.oneCell']) ?_)
  exact bodyPost_ret (results_cell_row rfl _ _ (w.heap.size + 1) 31 (bz1a m) (0, 0) _ rfl HB4.out Tryz.underlying31 rfl (by kernel_rfl)) rfl ⟨_, rfl, HF.out⟩

set_option maxHeartbeats 4000000 in
theorem RefBare2_ok (v : Value) (m : MsgT) (w : World) (hv : MsgAt w v m) (hk : m.kind = 2) : Calls Tryz.prog 23 #[v] w fun e w' => ∃ u, e = .returned u ∧ MsgAt w' u (bareM m) ∧ Gr w w' := by
  obtain ⟨eA, eC, rA, rC, wA, wC, kA, kC, gA, gC, rfl, hE, hT, hK, hG⟩ := hv.open_
  have hbm : bareM m = { noMsg with kind := m.kind, frm := m.frm, to := m.to, part := m.part, term := m.term, ok := m.ok } := by simp [bareM, hk]
  have HM := hide (show ∀ w', Gr w w' → MsgAt w' (.agg (cellsM (bareM m) ⟨.slice none 0 0, (.slice none 0 0, .slice none 0 0), .slice none 0 0, .slice none 0 0⟩).toArray) (bareM m) from fun w' hg =>
    ⟨_, rfl, by
      rw [hbm]
      exact ⟨EntsX.nil _ _, RowsX.none_ _ _, RowX.nil _ _ _, RowX.nil _ _ _⟩⟩)
  have HL : (cellsM (bareM m) ⟨.slice none 0 0, (.slice none 0 0, .slice none 0 0), .slice none 0 0, .slice none 0 0⟩).toArray = (bz2a m) := by
    rw [hbm, hk]
    rfl
  rw [HL] at HM
  generalize bareM m = bm at HM ⊢
  obtain ⟨cs, hcs⟩ : ∃ cs, (cellsV m eA eC rA rC wA wC kA kC gA gC) = cs := ⟨_, rfl⟩
  rw [hcs]
  have HCS := hide (show cs = #[.int .i64 2, .int .i64 m.frm, .int .i64 m.to, .int .i64 m.part, .int .i64 m.term, .int .i64 m.index, .int .i64 m.logTerm, .int .i64 m.commit, .bool m.ok, .slice eA m.entries.length eC, .int .i64 m.t.ses, .int .i64 m.t.seq, .slice rA m.t.reads.length rC, .slice wA m.t.writes.length wC, .int .i64 m.ses, .int .i64 m.seq, .int .i64 m.pos, .int .i64 m.shard, .bool m.span, .string m.fromKey, .string m.toKey, .slice kA m.keys.length kC, .slice gA m.got.length gC, .int .i64 m.err] from by rw [← hcs]; unfold cellsV; rw [hk])
  clear hv hE hT hK hG HL hcs hk hbm
  go_enter Tryz.func23, Tryz.ntmps23
  go_upto_region 1 with (fail)
  obtain ⟨W, hW⟩ : ∃ W, (w.alloc (.cells cs 31)).alloc (.cells zeroCs 31) = W := ⟨_, rfl⟩
  have hgW : Gr w W := by rw [← hW]; exact ((Gr.refl _).alloc _).alloc _
  have hbW : Bl W w.heap.size 31 cs := by rw [← hW]; exact (Bl.new _ _ _).gr ((Gr.refl _).alloc _)
  have hrW : Bl W (w.heap.size + 1) 31 zeroCs := by
    rw [← hW]
    have := Bl.new (w.alloc (.cells cs 31)) 31 zeroCs
    simpa using this
  have d0 : W.cell? ⟨w.heap.size, 0, none⟩ = some (.int .i64 2) := (hbW.cell 0).trans (by rw [HCS.out]; rfl)
  have d1 : W.cell? ⟨w.heap.size, 1, none⟩ = some (.int .i64 m.frm) := (hbW.cell 1).trans (by rw [HCS.out]; rfl)
  have d2 : W.cell? ⟨w.heap.size, 2, none⟩ = some (.int .i64 m.to) := (hbW.cell 2).trans (by rw [HCS.out]; rfl)
  have d3 : W.cell? ⟨w.heap.size, 3, none⟩ = some (.int .i64 m.part) := (hbW.cell 3).trans (by rw [HCS.out]; rfl)
  have hne : w.heap.size ≠ W.heap.size := Nat.ne_of_lt hbW.lt
  have hnr : w.heap.size + 1 ≠ W.heap.size := Nat.ne_of_lt hrW.lt
  change (Code.region 1 _ false).wp _ _ _ ((w.alloc (.cells cs 31)).alloc (.cells zeroCs 31))
  rw [hW]
  clear hW
  have hbu : Tryz.prog.built 31 [(0, .int .i64 2), (1, .int .i64 m.frm), (2, .int .i64 m.to), (3, .int .i64 m.part)] = some (bz2b m) := by kernel_rfl
  have HBN := hide (Bl.new W 31 zeroCs)
  go_upto_region 2 with (first
    | refine wpList_build_to rfl 31 _ (by with_reducible rfl) (bz2b m) hbu ?_
    | refine wpList_store_row rfl 31 (.tmp 3) (.tmp 12) (by with_reducible rfl) W.heap.size (bz2b m) rfl rfl 31 zeroCs HBN.out (by kernel_rfl) rfl (by unfold bz2b; simp [Value.oneCell']) ?_)
  obtain ⟨V, hV⟩ : ∃ V, (W.alloc (.cells zeroCs 31)).setRow W.heap.size (bz2b m) = V := ⟨_, rfl⟩
  have hbut := But.row (W.alloc (.cells zeroCs 31)) W.heap.size (bz2b m)
  have hx0 := HBN.out.row (bz2b m)
  rw [hV] at hbut hx0
  have hle := hgW.size
  have hg0 : Gr w V := (hgW.alloc _).fresh hbut hle
  have hb0 : Bl V w.heap.size 31 cs := (hbut.block _ (hbW.gr ((Gr.refl _).alloc _)).lt (fun e => hne (by injection e))).trans (hbW.gr ((Gr.refl _).alloc _))
  have hr0 : Bl V (w.heap.size + 1) 31 zeroCs := (hbut.block _ (hrW.gr ((Gr.refl _).alloc _)).lt (fun e => hnr (by injection e))).trans (hrW.gr ((Gr.refl _).alloc _))
  have e0 : V.cell? ⟨w.heap.size, 0, none⟩ = some (.int .i64 2) := (hb0.cell 0).trans (by rw [HCS.out]; rfl)
  change (Code.region 2 _ false).wp _ _ _ ((W.alloc (.cells zeroCs 31)).setRow W.heap.size (bz2b m))
  rw [hV]
  clear hV hgW hbW hrW d0 d1 d2 d3 hbut HBN hbu
  go_upto_region 6 with (fail)
  clear e0
  refine Det.wp_region_det [5, 7] (BareC V.drew W.heap.size 31 (bz2b m) [(4, .int .i64 m.term), (8, .bool m.ok)]) (by kernel_rfl) (by kernel_rfl) (by kernel_rfl) ⟨But.refl _ _, hx0⟩ ?_
  refine Det.field_c (g := w.heap.size) (j := 4) rfl rfl rfl rfl (fun w => by kernel_rfl) ?_
  simp only [Act.put, List.setIfInBounds_toArray, List.set_cons_zero, List.set_cons_succ]
  refine Det.load_c (g := w.heap.size) (j := 4) (u := .int .i64 m.term) rfl rfl rfl (fun w => by kernel_rfl) rfl (by kernel_rfl) hb0 hne (by rw [HCS.out]; rfl) ?_
  simp only [Act.put, List.setIfInBounds_toArray, List.set_cons_zero, List.set_cons_succ]
  refine Det.field_c (g := w.heap.size) (j := 8) rfl rfl rfl rfl (fun w => by kernel_rfl) ?_
  simp only [Act.put, List.setIfInBounds_toArray, List.set_cons_zero, List.set_cons_succ]
  refine Det.load_c (g := w.heap.size) (j := 8) (u := .bool m.ok) rfl rfl rfl (fun w => by kernel_rfl) rfl (by kernel_rfl) hb0 hne (by rw [HCS.out]; rfl) ?_
  simp only [Act.put, List.setIfInBounds_toArray, List.set_cons_zero, List.set_cons_succ]
  refine Det.field_c (g := W.heap.size) (j := 4) rfl rfl rfl rfl (fun w => by kernel_rfl) ?_
  simp only [Act.put, List.setIfInBounds_toArray, List.set_cons_zero, List.set_cons_succ]
  refine Det.store_c (j := 4) (v := .int .i64 m.term) rfl rfl rfl rfl rfl (fun w old c1 c2 => run_st_int w _ (fun w => by kernel_rfl) _ _ c1 c2) rfl (by unfold bz2b; simp) ?_
  simp only [Act.put]
  refine Det.field_c (g := W.heap.size) (j := 8) rfl rfl rfl rfl (fun w => by kernel_rfl) ?_
  simp only [Act.put, List.setIfInBounds_toArray, List.set_cons_zero, List.set_cons_succ]
  refine Det.store_c (j := 8) (v := .bool m.ok) rfl rfl rfl rfl rfl (fun w old c1 c2 => run_st_bool w _ (fun w => by kernel_rfl) _ _ c1 c2) rfl (by unfold bz2b; simp) ?_
  simp only [Act.put]
  refine Det.nil ?_
  intro w3 hC
  obtain ⟨hbut0, hbx0⟩ := hC
  change Bl w3 W.heap.size 31 (bz2a m) at hbx0
  have hb1 : Bl w3 w.heap.size 31 cs := (hbut0.block _ hb0.lt (fun e => hne (by injection e))).trans hb0
  have hr1 : Bl w3 (w.heap.size + 1) 31 zeroCs := (hbut0.block _ hr0.lt (fun e => hnr (by injection e))).trans hr0
  have hg1 : Gr w w3 := hg0.drew.fresh hbut0 (by omega)
  have hx1 := hbx0
  clear hbut0 hbx0 hb0 hr0 hg0 hx0
  have HF := hide (show MsgAt (w3.setRow (w.heap.size + 1) (bz2a m)) (.agg (bz2a m)) bm ∧ Gr w (w3.setRow (w.heap.size + 1) (bz2a m)) from by
    have hg := hg1.fresh (But.row w3 (w.heap.size + 1) (bz2a m)) (by omega)
    exact ⟨HM.out _ hg, hg⟩)
  have HB4 := hide (hr1.row (bz2a m))
  clear HM hg1 hb1
  go_wp2_with (first
    | refine wpList_load_row rfl 31 (.tmp 3) (by with_reducible rfl) W.heap.size rfl 31 _ (0, 0) _ hx1 Tryz.underlying31 rfl (by kernel_rfl) ?_
    | refine wpList_store_row rfl 31 (.tmp 2) (.tmp 144) (by with_reducible rfl) (w.heap.size + 1) (bz2a m) rfl rfl 31 _ hr1 (by kernel_rfl) rfl (by unfold bz2a; simp [Value.oneCell']) ?_)
  exact bodyPost_ret (results_cell_row rfl _ _ (w.heap.size + 1) 31 (bz2a m) (0, 0) _ rfl HB4.out Tryz.underlying31 rfl (by kernel_rfl)) rfl ⟨_, rfl, HF.out⟩

end Go.Proofs.YtpabppoohobjpaaGreat

/-
  The document's bare by its contract: kinds 3, 4.
-/
namespace Go.Proofs.YtpabppoohobjpaaGreat
open Go Go.RowKit TxnMath KeyMath MsgMath
set_option maxRecDepth 100000

set_option maxHeartbeats 4000000 in
theorem RefBare3_ok (v : Value) (m : MsgT) (w : World) (hv : MsgAt w v m) (hk : m.kind = 3) : Calls Tryz.prog 23 #[v] w fun e w' => ∃ u, e = .returned u ∧ MsgAt w' u (bareM m) ∧ Gr w w' := by
  obtain ⟨eA, eC, rA, rC, wA, wC, kA, kC, gA, gC, rfl, hE, hT, hK, hG⟩ := hv.open_
  have hbm : bareM m = { noMsg with kind := m.kind, frm := m.frm, to := m.to, part := m.part, term := m.term, index := m.index, logTerm := m.logTerm, commit := m.commit, entries := m.entries } := by simp [bareM, hk]
  have HM := hide (show ∀ w', Gr w w' → MsgAt w' (.agg (cellsM (bareM m) ⟨.slice eA m.entries.length eC, (.slice none 0 0, .slice none 0 0), .slice none 0 0, .slice none 0 0⟩).toArray) (bareM m) from fun w' hg =>
    ⟨_, rfl, by
      rw [hbm]
      exact ⟨hE.gr hg, RowsX.none_ _ _, RowX.nil _ _ _, RowX.nil _ _ _⟩⟩)
  have HL : (cellsM (bareM m) ⟨.slice eA m.entries.length eC, (.slice none 0 0, .slice none 0 0), .slice none 0 0, .slice none 0 0⟩).toArray = (bz3a m eA eC) := by
    rw [hbm, hk]
    rfl
  rw [HL] at HM
  generalize bareM m = bm at HM ⊢
  obtain ⟨cs, hcs⟩ : ∃ cs, (cellsV m eA eC rA rC wA wC kA kC gA gC) = cs := ⟨_, rfl⟩
  rw [hcs]
  have HCS := hide (show cs = #[.int .i64 3, .int .i64 m.frm, .int .i64 m.to, .int .i64 m.part, .int .i64 m.term, .int .i64 m.index, .int .i64 m.logTerm, .int .i64 m.commit, .bool m.ok, .slice eA m.entries.length eC, .int .i64 m.t.ses, .int .i64 m.t.seq, .slice rA m.t.reads.length rC, .slice wA m.t.writes.length wC, .int .i64 m.ses, .int .i64 m.seq, .int .i64 m.pos, .int .i64 m.shard, .bool m.span, .string m.fromKey, .string m.toKey, .slice kA m.keys.length kC, .slice gA m.got.length gC, .int .i64 m.err] from by rw [← hcs]; unfold cellsV; rw [hk])
  clear hv hE hT hK hG HL hcs hk hbm
  go_enter Tryz.func23, Tryz.ntmps23
  go_upto_region 1 with (fail)
  obtain ⟨W, hW⟩ : ∃ W, (w.alloc (.cells cs 31)).alloc (.cells zeroCs 31) = W := ⟨_, rfl⟩
  have hgW : Gr w W := by rw [← hW]; exact ((Gr.refl _).alloc _).alloc _
  have hbW : Bl W w.heap.size 31 cs := by rw [← hW]; exact (Bl.new _ _ _).gr ((Gr.refl _).alloc _)
  have hrW : Bl W (w.heap.size + 1) 31 zeroCs := by
    rw [← hW]
    have := Bl.new (w.alloc (.cells cs 31)) 31 zeroCs
    simpa using this
  have d0 : W.cell? ⟨w.heap.size, 0, none⟩ = some (.int .i64 3) := (hbW.cell 0).trans (by rw [HCS.out]; rfl)
  have d1 : W.cell? ⟨w.heap.size, 1, none⟩ = some (.int .i64 m.frm) := (hbW.cell 1).trans (by rw [HCS.out]; rfl)
  have d2 : W.cell? ⟨w.heap.size, 2, none⟩ = some (.int .i64 m.to) := (hbW.cell 2).trans (by rw [HCS.out]; rfl)
  have d3 : W.cell? ⟨w.heap.size, 3, none⟩ = some (.int .i64 m.part) := (hbW.cell 3).trans (by rw [HCS.out]; rfl)
  have hne : w.heap.size ≠ W.heap.size := Nat.ne_of_lt hbW.lt
  have hnr : w.heap.size + 1 ≠ W.heap.size := Nat.ne_of_lt hrW.lt
  change (Code.region 1 _ false).wp _ _ _ ((w.alloc (.cells cs 31)).alloc (.cells zeroCs 31))
  rw [hW]
  clear hW
  have hbu : Tryz.prog.built 31 [(0, .int .i64 3), (1, .int .i64 m.frm), (2, .int .i64 m.to), (3, .int .i64 m.part)] = some (bz3b m) := by kernel_rfl
  have HBN := hide (Bl.new W 31 zeroCs)
  go_upto_region 2 with (first
    | refine wpList_build_to rfl 31 _ (by with_reducible rfl) (bz3b m) hbu ?_
    | refine wpList_store_row rfl 31 (.tmp 3) (.tmp 12) (by with_reducible rfl) W.heap.size (bz3b m) rfl rfl 31 zeroCs HBN.out (by kernel_rfl) rfl (by unfold bz3b; simp [Value.oneCell']) ?_)
  obtain ⟨V, hV⟩ : ∃ V, (W.alloc (.cells zeroCs 31)).setRow W.heap.size (bz3b m) = V := ⟨_, rfl⟩
  have hbut := But.row (W.alloc (.cells zeroCs 31)) W.heap.size (bz3b m)
  have hx0 := HBN.out.row (bz3b m)
  rw [hV] at hbut hx0
  have hle := hgW.size
  have hg0 : Gr w V := (hgW.alloc _).fresh hbut hle
  have hb0 : Bl V w.heap.size 31 cs := (hbut.block _ (hbW.gr ((Gr.refl _).alloc _)).lt (fun e => hne (by injection e))).trans (hbW.gr ((Gr.refl _).alloc _))
  have hr0 : Bl V (w.heap.size + 1) 31 zeroCs := (hbut.block _ (hrW.gr ((Gr.refl _).alloc _)).lt (fun e => hnr (by injection e))).trans (hrW.gr ((Gr.refl _).alloc _))
  have e0 : V.cell? ⟨w.heap.size, 0, none⟩ = some (.int .i64 3) := (hb0.cell 0).trans (by rw [HCS.out]; rfl)
  change (Code.region 2 _ false).wp _ _ _ ((W.alloc (.cells zeroCs 31)).setRow W.heap.size (bz3b m))
  rw [hV]
  clear hV hgW hbW hrW d0 d1 d2 d3 hbut HBN hbu
  go_upto_region 8 with (fail)
  clear e0
  refine Det.wp_region_det [11, 13, 15, 17, 19] (BareC V.drew W.heap.size 31 (bz3b m) [(4, .int .i64 m.term), (5, .int .i64 m.index), (6, .int .i64 m.logTerm), (7, .int .i64 m.commit), (9, .slice eA m.entries.length eC)]) (by kernel_rfl) (by kernel_rfl) (by kernel_rfl) ⟨But.refl _ _, hx0⟩ ?_
  refine Det.field_c (g := w.heap.size) (j := 4) rfl rfl rfl rfl (fun w => by kernel_rfl) ?_
  simp only [Act.put, List.setIfInBounds_toArray, List.set_cons_zero, List.set_cons_succ]
  refine Det.load_c (g := w.heap.size) (j := 4) (u := .int .i64 m.term) rfl rfl rfl (fun w => by kernel_rfl) rfl (by kernel_rfl) hb0 hne (by rw [HCS.out]; rfl) ?_
  simp only [Act.put, List.setIfInBounds_toArray, List.set_cons_zero, List.set_cons_succ]
  refine Det.field_c (g := w.heap.size) (j := 5) rfl rfl rfl rfl (fun w => by kernel_rfl) ?_
  simp only [Act.put, List.setIfInBounds_toArray, List.set_cons_zero, List.set_cons_succ]
  refine Det.load_c (g := w.heap.size) (j := 5) (u := .int .i64 m.index) rfl rfl rfl (fun w => by kernel_rfl) rfl (by kernel_rfl) hb0 hne (by rw [HCS.out]; rfl) ?_
  simp only [Act.put, List.setIfInBounds_toArray, List.set_cons_zero, List.set_cons_succ]
  refine Det.field_c (g := w.heap.size) (j := 6) rfl rfl rfl rfl (fun w => by kernel_rfl) ?_
  simp only [Act.put, List.setIfInBounds_toArray, List.set_cons_zero, List.set_cons_succ]
  refine Det.load_c (g := w.heap.size) (j := 6) (u := .int .i64 m.logTerm) rfl rfl rfl (fun w => by kernel_rfl) rfl (by kernel_rfl) hb0 hne (by rw [HCS.out]; rfl) ?_
  simp only [Act.put, List.setIfInBounds_toArray, List.set_cons_zero, List.set_cons_succ]
  refine Det.field_c (g := w.heap.size) (j := 7) rfl rfl rfl rfl (fun w => by kernel_rfl) ?_
  simp only [Act.put, List.setIfInBounds_toArray, List.set_cons_zero, List.set_cons_succ]
  refine Det.load_c (g := w.heap.size) (j := 7) (u := .int .i64 m.commit) rfl rfl rfl (fun w => by kernel_rfl) rfl (by kernel_rfl) hb0 hne (by rw [HCS.out]; rfl) ?_
  simp only [Act.put, List.setIfInBounds_toArray, List.set_cons_zero, List.set_cons_succ]
  refine Det.field_c (g := w.heap.size) (j := 9) rfl rfl rfl rfl (fun w => by kernel_rfl) ?_
  simp only [Act.put, List.setIfInBounds_toArray, List.set_cons_zero, List.set_cons_succ]
  refine Det.load_c (g := w.heap.size) (j := 9) (u := .slice eA m.entries.length eC) rfl rfl rfl (fun w => by kernel_rfl) rfl (by kernel_rfl) hb0 hne (by rw [HCS.out]; rfl) ?_
  simp only [Act.put, List.setIfInBounds_toArray, List.set_cons_zero, List.set_cons_succ]
  refine Det.field_c (g := W.heap.size) (j := 4) rfl rfl rfl rfl (fun w => by kernel_rfl) ?_
  simp only [Act.put, List.setIfInBounds_toArray, List.set_cons_zero, List.set_cons_succ]
  refine Det.store_c (j := 4) (v := .int .i64 m.term) rfl rfl rfl rfl rfl (fun w old c1 c2 => run_st_int w _ (fun w => by kernel_rfl) _ _ c1 c2) rfl (by unfold bz3b; simp) ?_
  simp only [Act.put]
  refine Det.field_c (g := W.heap.size) (j := 5) rfl rfl rfl rfl (fun w => by kernel_rfl) ?_
  simp only [Act.put, List.setIfInBounds_toArray, List.set_cons_zero, List.set_cons_succ]
  refine Det.store_c (j := 5) (v := .int .i64 m.index) rfl rfl rfl rfl rfl (fun w old c1 c2 => run_st_int w _ (fun w => by kernel_rfl) _ _ c1 c2) rfl (by unfold bz3b; simp) ?_
  simp only [Act.put]
  refine Det.field_c (g := W.heap.size) (j := 6) rfl rfl rfl rfl (fun w => by kernel_rfl) ?_
  simp only [Act.put, List.setIfInBounds_toArray, List.set_cons_zero, List.set_cons_succ]
  refine Det.store_c (j := 6) (v := .int .i64 m.logTerm) rfl rfl rfl rfl rfl (fun w old c1 c2 => run_st_int w _ (fun w => by kernel_rfl) _ _ c1 c2) rfl (by unfold bz3b; simp) ?_
  simp only [Act.put]
  refine Det.field_c (g := W.heap.size) (j := 7) rfl rfl rfl rfl (fun w => by kernel_rfl) ?_
  simp only [Act.put, List.setIfInBounds_toArray, List.set_cons_zero, List.set_cons_succ]
  refine Det.store_c (j := 7) (v := .int .i64 m.commit) rfl rfl rfl rfl rfl (fun w old c1 c2 => run_st_int w _ (fun w => by kernel_rfl) _ _ c1 c2) rfl (by unfold bz3b; simp) ?_
  simp only [Act.put]
  refine Det.field_c (g := W.heap.size) (j := 9) rfl rfl rfl rfl (fun w => by kernel_rfl) ?_
  simp only [Act.put, List.setIfInBounds_toArray, List.set_cons_zero, List.set_cons_succ]
  refine Det.store_c (j := 9) (v := .slice eA m.entries.length eC) rfl rfl rfl rfl rfl (fun w old c1 c2 => run_st_sl w _ (fun w => by kernel_rfl) _ _ c1 c2) rfl (by unfold bz3b; simp) ?_
  simp only [Act.put]
  refine Det.nil ?_
  intro w3 hC
  obtain ⟨hbut0, hbx0⟩ := hC
  change Bl w3 W.heap.size 31 (bz3a m eA eC) at hbx0
  have hb1 : Bl w3 w.heap.size 31 cs := (hbut0.block _ hb0.lt (fun e => hne (by injection e))).trans hb0
  have hr1 : Bl w3 (w.heap.size + 1) 31 zeroCs := (hbut0.block _ hr0.lt (fun e => hnr (by injection e))).trans hr0
  have hg1 : Gr w w3 := hg0.drew.fresh hbut0 (by omega)
  have hx1 := hbx0
  clear hbut0 hbx0 hb0 hr0 hg0 hx0
  have HF := hide (show MsgAt (w3.setRow (w.heap.size + 1) (bz3a m eA eC)) (.agg (bz3a m eA eC)) bm ∧ Gr w (w3.setRow (w.heap.size + 1) (bz3a m eA eC)) from by
    have hg := hg1.fresh (But.row w3 (w.heap.size + 1) (bz3a m eA eC)) (by omega)
    exact ⟨HM.out _ hg, hg⟩)
  have HB4 := hide (hr1.row (bz3a m eA eC))
  clear HM hg1 hb1
  go_wp2_with (first
    | refine wpList_load_row rfl 31 (.tmp 3) (by with_reducible rfl) W.heap.size rfl 31 _ (0, 0) _ hx1 Tryz.underlying31 rfl (by kernel_rfl) ?_
    | refine wpList_store_row rfl 31 (.tmp 2) (.tmp 144) (by with_reducible rfl) (w.heap.size + 1) (bz3a m eA eC) rfl rfl 31 _ hr1 (by kernel_rfl) rfl (by unfold bz3a; simp [Value.oneCell']) ?_)
  exact bodyPost_ret (results_cell_row rfl _ _ (w.heap.size + 1) 31 (bz3a m eA eC) (0, 0) _ rfl HB4.out Tryz.underlying31 rfl (by kernel_rfl)) rfl ⟨_, rfl, HF.out⟩

set_option maxHeartbeats 4000000 in
theorem RefBare4_ok (v : Value) (m : MsgT) (w : World) (hv : MsgAt w v m) (hk : m.kind = 4) : Calls Tryz.prog 23 #[v] w fun e w' => ∃ u, e = .returned u ∧ MsgAt w' u (bareM m) ∧ Gr w w' := by
  obtain ⟨eA, eC, rA, rC, wA, wC, kA, kC, gA, gC, rfl, hE, hT, hK, hG⟩ := hv.open_
  have hbm : bareM m = { noMsg with kind := m.kind, frm := m.frm, to := m.to, part := m.part, term := m.term, ok := m.ok, index := m.index } := by simp [bareM, hk]
  have HM := hide (show ∀ w', Gr w w' → MsgAt w' (.agg (cellsM (bareM m) ⟨.slice none 0 0, (.slice none 0 0, .slice none 0 0), .slice none 0 0, .slice none 0 0⟩).toArray) (bareM m) from fun w' hg =>
    ⟨_, rfl, by
      rw [hbm]
      exact ⟨EntsX.nil _ _, RowsX.none_ _ _, RowX.nil _ _ _, RowX.nil _ _ _⟩⟩)
  have HL : (cellsM (bareM m) ⟨.slice none 0 0, (.slice none 0 0, .slice none 0 0), .slice none 0 0, .slice none 0 0⟩).toArray = (bz4a m) := by
    rw [hbm, hk]
    rfl
  rw [HL] at HM
  generalize bareM m = bm at HM ⊢
  obtain ⟨cs, hcs⟩ : ∃ cs, (cellsV m eA eC rA rC wA wC kA kC gA gC) = cs := ⟨_, rfl⟩
  rw [hcs]
  have HCS := hide (show cs = #[.int .i64 4, .int .i64 m.frm, .int .i64 m.to, .int .i64 m.part, .int .i64 m.term, .int .i64 m.index, .int .i64 m.logTerm, .int .i64 m.commit, .bool m.ok, .slice eA m.entries.length eC, .int .i64 m.t.ses, .int .i64 m.t.seq, .slice rA m.t.reads.length rC, .slice wA m.t.writes.length wC, .int .i64 m.ses, .int .i64 m.seq, .int .i64 m.pos, .int .i64 m.shard, .bool m.span, .string m.fromKey, .string m.toKey, .slice kA m.keys.length kC, .slice gA m.got.length gC, .int .i64 m.err] from by rw [← hcs]; unfold cellsV; rw [hk])
  clear hv hE hT hK hG HL hcs hk hbm
  go_enter Tryz.func23, Tryz.ntmps23
  go_upto_region 1 with (fail)
  obtain ⟨W, hW⟩ : ∃ W, (w.alloc (.cells cs 31)).alloc (.cells zeroCs 31) = W := ⟨_, rfl⟩
  have hgW : Gr w W := by rw [← hW]; exact ((Gr.refl _).alloc _).alloc _
  have hbW : Bl W w.heap.size 31 cs := by rw [← hW]; exact (Bl.new _ _ _).gr ((Gr.refl _).alloc _)
  have hrW : Bl W (w.heap.size + 1) 31 zeroCs := by
    rw [← hW]
    have := Bl.new (w.alloc (.cells cs 31)) 31 zeroCs
    simpa using this
  have d0 : W.cell? ⟨w.heap.size, 0, none⟩ = some (.int .i64 4) := (hbW.cell 0).trans (by rw [HCS.out]; rfl)
  have d1 : W.cell? ⟨w.heap.size, 1, none⟩ = some (.int .i64 m.frm) := (hbW.cell 1).trans (by rw [HCS.out]; rfl)
  have d2 : W.cell? ⟨w.heap.size, 2, none⟩ = some (.int .i64 m.to) := (hbW.cell 2).trans (by rw [HCS.out]; rfl)
  have d3 : W.cell? ⟨w.heap.size, 3, none⟩ = some (.int .i64 m.part) := (hbW.cell 3).trans (by rw [HCS.out]; rfl)
  have hne : w.heap.size ≠ W.heap.size := Nat.ne_of_lt hbW.lt
  have hnr : w.heap.size + 1 ≠ W.heap.size := Nat.ne_of_lt hrW.lt
  change (Code.region 1 _ false).wp _ _ _ ((w.alloc (.cells cs 31)).alloc (.cells zeroCs 31))
  rw [hW]
  clear hW
  have hbu : Tryz.prog.built 31 [(0, .int .i64 4), (1, .int .i64 m.frm), (2, .int .i64 m.to), (3, .int .i64 m.part)] = some (bz4b m) := by kernel_rfl
  have HBN := hide (Bl.new W 31 zeroCs)
  go_upto_region 2 with (first
    | refine wpList_build_to rfl 31 _ (by with_reducible rfl) (bz4b m) hbu ?_
    | refine wpList_store_row rfl 31 (.tmp 3) (.tmp 12) (by with_reducible rfl) W.heap.size (bz4b m) rfl rfl 31 zeroCs HBN.out (by kernel_rfl) rfl (by unfold bz4b; simp [Value.oneCell']) ?_)
  obtain ⟨V, hV⟩ : ∃ V, (W.alloc (.cells zeroCs 31)).setRow W.heap.size (bz4b m) = V := ⟨_, rfl⟩
  have hbut := But.row (W.alloc (.cells zeroCs 31)) W.heap.size (bz4b m)
  have hx0 := HBN.out.row (bz4b m)
  rw [hV] at hbut hx0
  have hle := hgW.size
  have hg0 : Gr w V := (hgW.alloc _).fresh hbut hle
  have hb0 : Bl V w.heap.size 31 cs := (hbut.block _ (hbW.gr ((Gr.refl _).alloc _)).lt (fun e => hne (by injection e))).trans (hbW.gr ((Gr.refl _).alloc _))
  have hr0 : Bl V (w.heap.size + 1) 31 zeroCs := (hbut.block _ (hrW.gr ((Gr.refl _).alloc _)).lt (fun e => hnr (by injection e))).trans (hrW.gr ((Gr.refl _).alloc _))
  have e0 : V.cell? ⟨w.heap.size, 0, none⟩ = some (.int .i64 4) := (hb0.cell 0).trans (by rw [HCS.out]; rfl)
  change (Code.region 2 _ false).wp _ _ _ ((W.alloc (.cells zeroCs 31)).setRow W.heap.size (bz4b m))
  rw [hV]
  clear hV hgW hbW hrW d0 d1 d2 d3 hbut HBN hbu
  go_upto_region 10 with (fail)
  clear e0
  refine Det.wp_region_det [7, 9, 11] (BareC V.drew W.heap.size 31 (bz4b m) [(4, .int .i64 m.term), (8, .bool m.ok), (5, .int .i64 m.index)]) (by kernel_rfl) (by kernel_rfl) (by kernel_rfl) ⟨But.refl _ _, hx0⟩ ?_
  refine Det.field_c (g := w.heap.size) (j := 4) rfl rfl rfl rfl (fun w => by kernel_rfl) ?_
  simp only [Act.put, List.setIfInBounds_toArray, List.set_cons_zero, List.set_cons_succ]
  refine Det.load_c (g := w.heap.size) (j := 4) (u := .int .i64 m.term) rfl rfl rfl (fun w => by kernel_rfl) rfl (by kernel_rfl) hb0 hne (by rw [HCS.out]; rfl) ?_
  simp only [Act.put, List.setIfInBounds_toArray, List.set_cons_zero, List.set_cons_succ]
  refine Det.field_c (g := w.heap.size) (j := 8) rfl rfl rfl rfl (fun w => by kernel_rfl) ?_
  simp only [Act.put, List.setIfInBounds_toArray, List.set_cons_zero, List.set_cons_succ]
  refine Det.load_c (g := w.heap.size) (j := 8) (u := .bool m.ok) rfl rfl rfl (fun w => by kernel_rfl) rfl (by kernel_rfl) hb0 hne (by rw [HCS.out]; rfl) ?_
  simp only [Act.put, List.setIfInBounds_toArray, List.set_cons_zero, List.set_cons_succ]
  refine Det.field_c (g := w.heap.size) (j := 5) rfl rfl rfl rfl (fun w => by kernel_rfl) ?_
  simp only [Act.put, List.setIfInBounds_toArray, List.set_cons_zero, List.set_cons_succ]
  refine Det.load_c (g := w.heap.size) (j := 5) (u := .int .i64 m.index) rfl rfl rfl (fun w => by kernel_rfl) rfl (by kernel_rfl) hb0 hne (by rw [HCS.out]; rfl) ?_
  simp only [Act.put, List.setIfInBounds_toArray, List.set_cons_zero, List.set_cons_succ]
  refine Det.field_c (g := W.heap.size) (j := 4) rfl rfl rfl rfl (fun w => by kernel_rfl) ?_
  simp only [Act.put, List.setIfInBounds_toArray, List.set_cons_zero, List.set_cons_succ]
  refine Det.store_c (j := 4) (v := .int .i64 m.term) rfl rfl rfl rfl rfl (fun w old c1 c2 => run_st_int w _ (fun w => by kernel_rfl) _ _ c1 c2) rfl (by unfold bz4b; simp) ?_
  simp only [Act.put]
  refine Det.field_c (g := W.heap.size) (j := 8) rfl rfl rfl rfl (fun w => by kernel_rfl) ?_
  simp only [Act.put, List.setIfInBounds_toArray, List.set_cons_zero, List.set_cons_succ]
  refine Det.store_c (j := 8) (v := .bool m.ok) rfl rfl rfl rfl rfl (fun w old c1 c2 => run_st_bool w _ (fun w => by kernel_rfl) _ _ c1 c2) rfl (by unfold bz4b; simp) ?_
  simp only [Act.put]
  refine Det.field_c (g := W.heap.size) (j := 5) rfl rfl rfl rfl (fun w => by kernel_rfl) ?_
  simp only [Act.put, List.setIfInBounds_toArray, List.set_cons_zero, List.set_cons_succ]
  refine Det.store_c (j := 5) (v := .int .i64 m.index) rfl rfl rfl rfl rfl (fun w old c1 c2 => run_st_int w _ (fun w => by kernel_rfl) _ _ c1 c2) rfl (by unfold bz4b; simp) ?_
  simp only [Act.put]
  refine Det.nil ?_
  intro w3 hC
  obtain ⟨hbut0, hbx0⟩ := hC
  change Bl w3 W.heap.size 31 (bz4a m) at hbx0
  have hb1 : Bl w3 w.heap.size 31 cs := (hbut0.block _ hb0.lt (fun e => hne (by injection e))).trans hb0
  have hr1 : Bl w3 (w.heap.size + 1) 31 zeroCs := (hbut0.block _ hr0.lt (fun e => hnr (by injection e))).trans hr0
  have hg1 : Gr w w3 := hg0.drew.fresh hbut0 (by omega)
  have hx1 := hbx0
  clear hbut0 hbx0 hb0 hr0 hg0 hx0
  have HF := hide (show MsgAt (w3.setRow (w.heap.size + 1) (bz4a m)) (.agg (bz4a m)) bm ∧ Gr w (w3.setRow (w.heap.size + 1) (bz4a m)) from by
    have hg := hg1.fresh (But.row w3 (w.heap.size + 1) (bz4a m)) (by omega)
    exact ⟨HM.out _ hg, hg⟩)
  have HB4 := hide (hr1.row (bz4a m))
  clear HM hg1 hb1
  go_wp2_with (first
    | refine wpList_load_row rfl 31 (.tmp 3) (by with_reducible rfl) W.heap.size rfl 31 _ (0, 0) _ hx1 Tryz.underlying31 rfl (by kernel_rfl) ?_
    | refine wpList_store_row rfl 31 (.tmp 2) (.tmp 144) (by with_reducible rfl) (w.heap.size + 1) (bz4a m) rfl rfl 31 _ hr1 (by kernel_rfl) rfl (by unfold bz4a; simp [Value.oneCell']) ?_)
  exact bodyPost_ret (results_cell_row rfl _ _ (w.heap.size + 1) 31 (bz4a m) (0, 0) _ rfl HB4.out Tryz.underlying31 rfl (by kernel_rfl)) rfl ⟨_, rfl, HF.out⟩

end Go.Proofs.YtpabppoohobjpaaGreat
