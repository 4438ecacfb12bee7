/-
  The document's bare by its contract: kinds 9.
-/
import Derived.Test.YtpabppoohobjpaaGreatMgRefSame
namespace Go.Proofs.YtpabppoohobjpaaGreat
open Go Go.RowKit TxnMath KeyMath MsgMath
set_option maxRecDepth 100000

def bz9a (m : MsgT) (kA : Option Addr) (kC : Nat) (gA : Option Addr) (gC : Nat) : Array Value := #[.int .i64 9, .int .i64 m.frm, .int .i64 m.to, .int .i64 m.part, .int .i64 0, .int .i64 0, .int .i64 0, .int .i64 0, .bool false, .slice none 0 0, .int .i64 0, .int .i64 0, .slice none 0 0, .slice none 0 0, .int .i64 m.ses, .int .i64 m.seq, .int .i64 m.pos, .int .i64 m.shard, .bool m.span, .string m.fromKey, .string m.toKey, .slice kA m.keys.length kC, .slice gA m.got.length gC, .int .i64 m.err]
def bz9b (m : MsgT) : Array Value := #[.int .i64 9, .int .i64 m.frm, .int .i64 m.to, .int .i64 m.part, .int .i64 0, .int .i64 0, .int .i64 0, .int .i64 0, .bool false, .slice none 0 0, .int .i64 0, .int .i64 0, .slice none 0 0, .slice none 0 0, .int .i64 0, .int .i64 0, .int .i64 0, .int .i64 0, .bool false, .string ⟨#[]⟩, .string ⟨#[]⟩, .slice none 0 0, .slice none 0 0, .int .i64 0]
def bz9c (m : MsgT) (kA : Option Addr) (kC : Nat) : Array Value := #[.int .i64 9, .int .i64 m.frm, .int .i64 m.to, .int .i64 m.part, .int .i64 0, .int .i64 0, .int .i64 0, .int .i64 0, .bool false, .slice none 0 0, .int .i64 0, .int .i64 0, .slice none 0 0, .slice none 0 0, .int .i64 m.ses, .int .i64 m.seq, .int .i64 m.pos, .int .i64 m.shard, .bool m.span, .string m.fromKey, .string m.toKey, .slice kA m.keys.length kC, .slice none 0 0, .int .i64 0]
def bz5a (m : MsgT) (rA : Option Addr) (rC : Nat) (wA : Option Addr) (wC : Nat) : Array Value := #[.int .i64 5, .int .i64 m.frm, .int .i64 m.to, .int .i64 m.part, .int .i64 0, .int .i64 0, .int .i64 0, .int .i64 0, .bool false, .slice none 0 0, .int .i64 m.t.ses, .int .i64 m.t.seq, .slice rA m.t.reads.length rC, .slice wA m.t.writes.length wC, .int .i64 0, .int .i64 0, .int .i64 0, .int .i64 0, .bool false, .string ⟨#[]⟩, .string ⟨#[]⟩, .slice none 0 0, .slice none 0 0, .int .i64 0]
def bz5b (m : MsgT) : Array Value := #[.int .i64 5, .int .i64 m.frm, .int .i64 m.to, .int .i64 m.part, .int .i64 0, .int .i64 0, .int .i64 0, .int .i64 0, .bool false, .slice none 0 0, .int .i64 0, .int .i64 0, .slice none 0 0, .slice none 0 0, .int .i64 0, .int .i64 0, .int .i64 0, .int .i64 0, .bool false, .string ⟨#[]⟩, .string ⟨#[]⟩, .slice none 0 0, .slice none 0 0, .int .i64 0]

set_option maxHeartbeats 20000000 in
theorem RefBare9_ok (v : Value) (m : MsgT) (w : World) (hv : MsgAt w v m) (hk : m.kind = 9) : Calls Tryz.prog 23 #[v] w fun e w' => ∃ u, e = .returned u ∧ MsgAt w' u (bareM m) ∧ Gr w w' := by
  obtain ⟨eA, eC, rA, rC, wA, wC, kA, kC, gA, gC, rfl, hE, hT, hK, hG⟩ := hv.open_
  have hbm : bareM m = { noMsg with kind := m.kind, frm := m.frm, to := m.to, part := m.part, ses := m.ses, seq := m.seq, pos := m.pos, shard := m.shard, span := m.span, fromKey := m.fromKey, toKey := m.toKey, keys := m.keys, err := m.err, got := m.got } := by simp [bareM, hk]
  have HM := hide (show ∀ w', Gr w w' → MsgAt w' (.agg (cellsM (bareM m) ⟨.slice none 0 0, (.slice none 0 0, .slice none 0 0), .slice kA m.keys.length kC, .slice gA m.got.length gC⟩).toArray) (bareM m) from fun w' hg =>
    ⟨_, rfl, by
      rw [hbm]
      exact ⟨EntsX.nil _ _, RowsX.none_ _ _, hK.move (Moves.of_gr hg) (strC_pos _), hG.move (Moves.of_gr hg) (rdC_pos _)⟩⟩)
  have HL : (cellsM (bareM m) ⟨.slice none 0 0, (.slice none 0 0, .slice none 0 0), .slice kA m.keys.length kC, .slice gA m.got.length gC⟩).toArray = (bz9a m kA kC gA gC) := by
    rw [hbm, hk]
    rfl
  rw [HL] at HM
  generalize bareM m = bm at HM ⊢
  obtain ⟨cs, hcs⟩ : ∃ cs, (cellsV m eA eC rA rC wA wC kA kC gA gC) = cs := ⟨_, rfl⟩
  rw [hcs]
  have HCS := hide (show cs = #[.int .i64 9, .int .i64 m.frm, .int .i64 m.to, .int .i64 m.part, .int .i64 m.term, .int .i64 m.index, .int .i64 m.logTerm, .int .i64 m.commit, .bool m.ok, .slice eA m.entries.length eC, .int .i64 m.t.ses, .int .i64 m.t.seq, .slice rA m.t.reads.length rC, .slice wA m.t.writes.length wC, .int .i64 m.ses, .int .i64 m.seq, .int .i64 m.pos, .int .i64 m.shard, .bool m.span, .string m.fromKey, .string m.toKey, .slice kA m.keys.length kC, .slice gA m.got.length gC, .int .i64 m.err] from by rw [← hcs]; unfold cellsV; rw [hk])
  clear hv hE hT hK hG HL hcs hk hbm
  go_enter Tryz.func23, Tryz.ntmps23
  go_upto_region 1 with (fail)
  obtain ⟨W, hW⟩ : ∃ W, (w.alloc (.cells cs 31)).alloc (.cells zeroCs 31) = W := ⟨_, rfl⟩
  have hgW : Gr w W := by rw [← hW]; exact ((Gr.refl _).alloc _).alloc _
  have hbW : Bl W w.heap.size 31 cs := by rw [← hW]; exact (Bl.new _ _ _).gr ((Gr.refl _).alloc _)
  have hrW : Bl W (w.heap.size + 1) 31 zeroCs := by
    rw [← hW]
    have := Bl.new (w.alloc (.cells cs 31)) 31 zeroCs
    simpa using this
  have d0 : W.cell? ⟨w.heap.size, 0, none⟩ = some (.int .i64 9) := (hbW.cell 0).trans (by rw [HCS.out]; rfl)
  have d1 : W.cell? ⟨w.heap.size, 1, none⟩ = some (.int .i64 m.frm) := (hbW.cell 1).trans (by rw [HCS.out]; rfl)
  have d2 : W.cell? ⟨w.heap.size, 2, none⟩ = some (.int .i64 m.to) := (hbW.cell 2).trans (by rw [HCS.out]; rfl)
  have d3 : W.cell? ⟨w.heap.size, 3, none⟩ = some (.int .i64 m.part) := (hbW.cell 3).trans (by rw [HCS.out]; rfl)
  have hne : w.heap.size ≠ W.heap.size := Nat.ne_of_lt hbW.lt
  have hnr : w.heap.size + 1 ≠ W.heap.size := Nat.ne_of_lt hrW.lt
  change (Code.region 1 _ false).wp _ _ _ ((w.alloc (.cells cs 31)).alloc (.cells zeroCs 31))
  rw [hW]
  clear hW
  have hbu : Tryz.prog.built 31 [(0, .int .i64 9), (1, .int .i64 m.frm), (2, .int .i64 m.to), (3, .int .i64 m.part)] = some (bz9b m) := by kernel_rfl
  have HBN := hide (Bl.new W 31 zeroCs)
  go_upto_region 2 with (first
    | refine wpList_build_to rfl 31 _ (by with_reducible rfl) (bz9b m) hbu ?_
    | refine wpList_store_row rfl 31 (.tmp 3) (.tmp 12) (by with_reducible rfl) W.heap.size (bz9b m) rfl rfl 31 zeroCs HBN.out (by kernel_rfl) rfl (by unfold bz9b; simp [Value.oneCell']) ?_)
  obtain ⟨V, hV⟩ : ∃ V, (W.alloc (.cells zeroCs 31)).setRow W.heap.size (bz9b m) = V := ⟨_, rfl⟩
  have hbut := But.row (W.alloc (.cells zeroCs 31)) W.heap.size (bz9b m)
  have hx0 := HBN.out.row (bz9b m)
  rw [hV] at hbut hx0
  have hle := hgW.size
  have hg0 : Gr w V := (hgW.alloc _).fresh hbut hle
  have hb0 : Bl V w.heap.size 31 cs := (hbut.block _ (hbW.gr ((Gr.refl _).alloc _)).lt (fun e => hne (by injection e))).trans (hbW.gr ((Gr.refl _).alloc _))
  have hr0 : Bl V (w.heap.size + 1) 31 zeroCs := (hbut.block _ (hrW.gr ((Gr.refl _).alloc _)).lt (fun e => hnr (by injection e))).trans (hrW.gr ((Gr.refl _).alloc _))
  have e0 : V.cell? ⟨w.heap.size, 0, none⟩ = some (.int .i64 9) := (hb0.cell 0).trans (by rw [HCS.out]; rfl)
  change (Code.region 2 _ false).wp _ _ _ ((W.alloc (.cells zeroCs 31)).setRow W.heap.size (bz9b m))
  rw [hV]
  clear hV hgW hbW hrW d0 d1 d2 d3 hbut HBN hbu
  go_upto_region 20 with (fail)
  clear e0
  refine Det.wp_region_det [17, 19, 21, 23, 25, 27, 29, 31] (BareC V.drew W.heap.size 31 (bz9b m) [(14, .int .i64 m.ses), (15, .int .i64 m.seq), (16, .int .i64 m.pos), (17, .int .i64 m.shard), (18, .bool m.span), (19, .string m.fromKey), (20, .string m.toKey), (21, .slice kA m.keys.length kC)]) (by kernel_rfl) (by kernel_rfl) (by kernel_rfl) ⟨But.refl _ _, hx0⟩ ?_
  refine Det.field_c (g := w.heap.size) (j := 14) rfl rfl rfl rfl (fun w => by kernel_rfl) ?_
  simp only [Act.put, List.setIfInBounds_toArray, List.set_cons_zero, List.set_cons_succ]
  refine Det.load_c (g := w.heap.size) (j := 14) (u := .int .i64 m.ses) rfl rfl rfl (fun w => by kernel_rfl) rfl (by kernel_rfl) hb0 hne (by rw [HCS.out]; rfl) ?_
  simp only [Act.put, List.setIfInBounds_toArray, List.set_cons_zero, List.set_cons_succ]
  refine Det.field_c (g := w.heap.size) (j := 15) rfl rfl rfl rfl (fun w => by kernel_rfl) ?_
  simp only [Act.put, List.setIfInBounds_toArray, List.set_cons_zero, List.set_cons_succ]
  refine Det.load_c (g := w.heap.size) (j := 15) (u := .int .i64 m.seq) rfl rfl rfl (fun w => by kernel_rfl) rfl (by kernel_rfl) hb0 hne (by rw [HCS.out]; rfl) ?_
  simp only [Act.put, List.setIfInBounds_toArray, List.set_cons_zero, List.set_cons_succ]
  refine Det.field_c (g := w.heap.size) (j := 16) rfl rfl rfl rfl (fun w => by kernel_rfl) ?_
  simp only [Act.put, List.setIfInBounds_toArray, List.set_cons_zero, List.set_cons_succ]
  refine Det.load_c (g := w.heap.size) (j := 16) (u := .int .i64 m.pos) rfl rfl rfl (fun w => by kernel_rfl) rfl (by kernel_rfl) hb0 hne (by rw [HCS.out]; rfl) ?_
  simp only [Act.put, List.setIfInBounds_toArray, List.set_cons_zero, List.set_cons_succ]
  refine Det.field_c (g := w.heap.size) (j := 17) rfl rfl rfl rfl (fun w => by kernel_rfl) ?_
  simp only [Act.put, List.setIfInBounds_toArray, List.set_cons_zero, List.set_cons_succ]
  refine Det.load_c (g := w.heap.size) (j := 17) (u := .int .i64 m.shard) rfl rfl rfl (fun w => by kernel_rfl) rfl (by kernel_rfl) hb0 hne (by rw [HCS.out]; rfl) ?_
  simp only [Act.put, List.setIfInBounds_toArray, List.set_cons_zero, List.set_cons_succ]
  refine Det.field_c (g := w.heap.size) (j := 18) rfl rfl rfl rfl (fun w => by kernel_rfl) ?_
  simp only [Act.put, List.setIfInBounds_toArray, List.set_cons_zero, List.set_cons_succ]
  refine Det.load_c (g := w.heap.size) (j := 18) (u := .bool m.span) rfl rfl rfl (fun w => by kernel_rfl) rfl (by kernel_rfl) hb0 hne (by rw [HCS.out]; rfl) ?_
  simp only [Act.put, List.setIfInBounds_toArray, List.set_cons_zero, List.set_cons_succ]
  refine Det.field_c (g := w.heap.size) (j := 19) rfl rfl rfl rfl (fun w => by kernel_rfl) ?_
  simp only [Act.put, List.setIfInBounds_toArray, List.set_cons_zero, List.set_cons_succ]
  refine Det.load_c (g := w.heap.size) (j := 19) (u := .string m.fromKey) rfl rfl rfl (fun w => by kernel_rfl) rfl (by kernel_rfl) hb0 hne (by rw [HCS.out]; rfl) ?_
  simp only [Act.put, List.setIfInBounds_toArray, List.set_cons_zero, List.set_cons_succ]
  refine Det.field_c (g := w.heap.size) (j := 20) rfl rfl rfl rfl (fun w => by kernel_rfl) ?_
  simp only [Act.put, List.setIfInBounds_toArray, List.set_cons_zero, List.set_cons_succ]
  refine Det.load_c (g := w.heap.size) (j := 20) (u := .string m.toKey) rfl rfl rfl (fun w => by kernel_rfl) rfl (by kernel_rfl) hb0 hne (by rw [HCS.out]; rfl) ?_
  simp only [Act.put, List.setIfInBounds_toArray, List.set_cons_zero, List.set_cons_succ]
  refine Det.field_c (g := w.heap.size) (j := 21) rfl rfl rfl rfl (fun w => by kernel_rfl) ?_
  simp only [Act.put, List.setIfInBounds_toArray, List.set_cons_zero, List.set_cons_succ]
  refine Det.load_c (g := w.heap.size) (j := 21) (u := .slice kA m.keys.length kC) rfl rfl rfl (fun w => by kernel_rfl) rfl (by kernel_rfl) hb0 hne (by rw [HCS.out]; rfl) ?_
  simp only [Act.put, List.setIfInBounds_toArray, List.set_cons_zero, List.set_cons_succ]
  refine Det.field_c (g := W.heap.size) (j := 14) rfl rfl rfl rfl (fun w => by kernel_rfl) ?_
  simp only [Act.put, List.setIfInBounds_toArray, List.set_cons_zero, List.set_cons_succ]
  refine Det.store_c (j := 14) (v := .int .i64 m.ses) rfl rfl rfl rfl rfl (fun w old c1 c2 => run_st_int w _ (fun w => by kernel_rfl) _ _ c1 c2) rfl (by unfold bz9b; simp) ?_
  simp only [Act.put]
  refine Det.field_c (g := W.heap.size) (j := 15) rfl rfl rfl rfl (fun w => by kernel_rfl) ?_
  simp only [Act.put, List.setIfInBounds_toArray, List.set_cons_zero, List.set_cons_succ]
  refine Det.store_c (j := 15) (v := .int .i64 m.seq) rfl rfl rfl rfl rfl (fun w old c1 c2 => run_st_int w _ (fun w => by kernel_rfl) _ _ c1 c2) rfl (by unfold bz9b; simp) ?_
  simp only [Act.put]
  refine Det.field_c (g := W.heap.size) (j := 16) rfl rfl rfl rfl (fun w => by kernel_rfl) ?_
  simp only [Act.put, List.setIfInBounds_toArray, List.set_cons_zero, List.set_cons_succ]
  refine Det.store_c (j := 16) (v := .int .i64 m.pos) rfl rfl rfl rfl rfl (fun w old c1 c2 => run_st_int w _ (fun w => by kernel_rfl) _ _ c1 c2) rfl (by unfold bz9b; simp) ?_
  simp only [Act.put]
  refine Det.field_c (g := W.heap.size) (j := 17) rfl rfl rfl rfl (fun w => by kernel_rfl) ?_
  simp only [Act.put, List.setIfInBounds_toArray, List.set_cons_zero, List.set_cons_succ]
  refine Det.store_c (j := 17) (v := .int .i64 m.shard) rfl rfl rfl rfl rfl (fun w old c1 c2 => run_st_int w _ (fun w => by kernel_rfl) _ _ c1 c2) rfl (by unfold bz9b; simp) ?_
  simp only [Act.put]
  refine Det.field_c (g := W.heap.size) (j := 18) rfl rfl rfl rfl (fun w => by kernel_rfl) ?_
  simp only [Act.put, List.setIfInBounds_toArray, List.set_cons_zero, List.set_cons_succ]
  refine Det.store_c (j := 18) (v := .bool m.span) rfl rfl rfl rfl rfl (fun w old c1 c2 => run_st_bool w _ (fun w => by kernel_rfl) _ _ c1 c2) rfl (by unfold bz9b; simp) ?_
  simp only [Act.put]
  refine Det.field_c (g := W.heap.size) (j := 19) rfl rfl rfl rfl (fun w => by kernel_rfl) ?_
  simp only [Act.put, List.setIfInBounds_toArray, List.set_cons_zero, List.set_cons_succ]
  refine Det.store_c (j := 19) (v := .string m.fromKey) rfl rfl rfl rfl rfl (fun w old c1 c2 => run_st_str w _ (fun w => by kernel_rfl) _ _ c1 c2) rfl (by unfold bz9b; simp) ?_
  simp only [Act.put]
  refine Det.field_c (g := W.heap.size) (j := 20) rfl rfl rfl rfl (fun w => by kernel_rfl) ?_
  simp only [Act.put, List.setIfInBounds_toArray, List.set_cons_zero, List.set_cons_succ]
  refine Det.store_c (j := 20) (v := .string m.toKey) rfl rfl rfl rfl rfl (fun w old c1 c2 => run_st_str w _ (fun w => by kernel_rfl) _ _ c1 c2) rfl (by unfold bz9b; simp) ?_
  simp only [Act.put]
  refine Det.field_c (g := W.heap.size) (j := 21) rfl rfl rfl rfl (fun w => by kernel_rfl) ?_
  simp only [Act.put, List.setIfInBounds_toArray, List.set_cons_zero, List.set_cons_succ]
  refine Det.store_c (j := 21) (v := .slice kA m.keys.length kC) rfl rfl rfl rfl rfl (fun w old c1 c2 => run_st_sl w _ (fun w => by kernel_rfl) _ _ c1 c2) rfl (by unfold bz9b; simp) ?_
  simp only [Act.put]
  refine Det.nil ?_
  intro w3 hC
  obtain ⟨hbut0, hbx0⟩ := hC
  change Bl w3 W.heap.size 31 (bz9c m kA kC) at hbx0
  have hb1 : Bl w3 w.heap.size 31 cs := (hbut0.block _ hb0.lt (fun e => hne (by injection e))).trans hb0
  have hr1 : Bl w3 (w.heap.size + 1) 31 zeroCs := (hbut0.block _ hr0.lt (fun e => hnr (by injection e))).trans hr0
  have hg1 : Gr w w3 := hg0.drew.fresh hbut0 (by omega)
  have hx1 := hbx0
  clear hbut0 hbx0 hb0 hr0 hg0 hx0
  go_upto_region 21 with (fail)
  refine Det.wp_region_det [5, 7] (BareC w3.drew W.heap.size 31 (bz9c m kA kC) [(23, .int .i64 m.err), (22, .slice gA m.got.length gC)]) (by kernel_rfl) (by kernel_rfl) (by kernel_rfl) ⟨But.refl _ _, hx1⟩ ?_
  refine Det.field_c (g := w.heap.size) (j := 23) rfl rfl rfl rfl (fun w => by kernel_rfl) ?_
  simp only [Act.put, List.setIfInBounds_toArray, List.set_cons_zero, List.set_cons_succ]
  refine Det.load_c (g := w.heap.size) (j := 23) (u := .int .i64 m.err) rfl rfl rfl (fun w => by kernel_rfl) rfl (by kernel_rfl) hb1 hne (by rw [HCS.out]; rfl) ?_
  simp only [Act.put, List.setIfInBounds_toArray, List.set_cons_zero, List.set_cons_succ]
  refine Det.field_c (g := w.heap.size) (j := 22) rfl rfl rfl rfl (fun w => by kernel_rfl) ?_
  simp only [Act.put, List.setIfInBounds_toArray, List.set_cons_zero, List.set_cons_succ]
  refine Det.load_c (g := w.heap.size) (j := 22) (u := .slice gA m.got.length gC) rfl rfl rfl (fun w => by kernel_rfl) rfl (by kernel_rfl) hb1 hne (by rw [HCS.out]; rfl) ?_
  simp only [Act.put, List.setIfInBounds_toArray, List.set_cons_zero, List.set_cons_succ]
  refine Det.field_c (g := W.heap.size) (j := 23) rfl rfl rfl rfl (fun w => by kernel_rfl) ?_
  simp only [Act.put, List.setIfInBounds_toArray, List.set_cons_zero, List.set_cons_succ]
  refine Det.store_c (j := 23) (v := .int .i64 m.err) rfl rfl rfl rfl rfl (fun w old c1 c2 => run_st_int w _ (fun w => by kernel_rfl) _ _ c1 c2) rfl (by unfold bz9c; simp) ?_
  simp only [Act.put]
  refine Det.field_c (g := W.heap.size) (j := 22) rfl rfl rfl rfl (fun w => by kernel_rfl) ?_
  simp only [Act.put, List.setIfInBounds_toArray, List.set_cons_zero, List.set_cons_succ]
  refine Det.store_c (j := 22) (v := .slice gA m.got.length gC) rfl rfl rfl rfl rfl (fun w old c1 c2 => run_st_sl w _ (fun w => by kernel_rfl) _ _ c1 c2) rfl (by unfold bz9c; simp) ?_
  simp only [Act.put]
  refine Det.nil ?_
  intro w4 hC
  obtain ⟨hbut1, hbx1⟩ := hC
  change Bl w4 W.heap.size 31 (bz9a m kA kC gA gC) at hbx1
  have hb2 : Bl w4 w.heap.size 31 cs := (hbut1.block _ hb1.lt (fun e => hne (by injection e))).trans hb1
  have hr2 : Bl w4 (w.heap.size + 1) 31 zeroCs := (hbut1.block _ hr1.lt (fun e => hnr (by injection e))).trans hr1
  have hg2 : Gr w w4 := hg1.drew.fresh hbut1 (by omega)
  have hx2 := hbx1
  clear hbut1 hbx1 hb1 hr1 hg1 hx1
  have HF := hide (show MsgAt (w4.setRow (w.heap.size + 1) (bz9a m kA kC gA gC)) (.agg (bz9a m kA kC gA gC)) bm ∧ Gr w (w4.setRow (w.heap.size + 1) (bz9a m kA kC gA gC)) from by
    have hg := hg2.fresh (But.row w4 (w.heap.size + 1) (bz9a m kA kC gA gC)) (by omega)
    exact ⟨HM.out _ hg, hg⟩)
  have HB4 := hide (hr2.row (bz9a m kA kC gA gC))
  clear HM hg2 hb2
  go_wp2_with (first
    | refine wpList_load_row rfl 31 (.tmp 3) (by with_reducible rfl) W.heap.size rfl 31 _ (0, 0) _ hx2 Tryz.underlying31 rfl (by kernel_rfl) ?_
    | refine wpList_store_row rfl 31 (.tmp 2) (.tmp 144) (by with_reducible rfl) (w.heap.size + 1) (bz9a m kA kC gA gC) rfl rfl 31 _ hr2 (by kernel_rfl) rfl (by unfold bz9a; simp [Value.oneCell']) ?_)
  exact bodyPost_ret (results_cell_row rfl _ _ (w.heap.size + 1) 31 (bz9a m kA kC gA gC) (0, 0) _ rfl HB4.out Tryz.underlying31 rfl (by kernel_rfl)) rfl ⟨_, rfl, HF.out⟩

end Go.Proofs.YtpabppoohobjpaaGreat

/-
  The document's bare by its contract: kinds 5.
-/
namespace Go.Proofs.YtpabppoohobjpaaGreat
open Go Go.RowKit TxnMath KeyMath MsgMath
set_option maxRecDepth 100000

set_option maxHeartbeats 20000000 in
theorem RefBare5_ok (v : Value) (m : MsgT) (w : World) (hv : MsgAt w v m) (hk : m.kind = 5) : Calls Tryz.prog 23 #[v] w fun e w' => ∃ u, e = .returned u ∧ MsgAt w' u (bareM m) ∧ Gr w w' := by
  obtain ⟨eA, eC, rA, rC, wA, wC, kA, kC, gA, gC, rfl, hE, hT, hK, hG⟩ := hv.open_
  have hbm : bareM m = { noMsg with kind := m.kind, frm := m.frm, to := m.to, part := m.part, t := m.t } := by simp [bareM, hk]
  have HM := hide (show ∀ w', Gr w w' → MsgAt w' (.agg (cellsM (bareM m) ⟨.slice none 0 0, (.slice rA m.t.reads.length rC, .slice wA m.t.writes.length wC), .slice none 0 0, .slice none 0 0⟩).toArray) (bareM m) from fun w' hg =>
    ⟨_, rfl, by
      rw [hbm]
      exact ⟨EntsX.nil _ _, hT.gr hg, RowX.nil _ _ _, RowX.nil _ _ _⟩⟩)
  have HL : (cellsM (bareM m) ⟨.slice none 0 0, (.slice rA m.t.reads.length rC, .slice wA m.t.writes.length wC), .slice none 0 0, .slice none 0 0⟩).toArray = (bz5a m rA rC wA wC) := by
    rw [hbm, hk]
    rfl
  rw [HL] at HM
  generalize bareM m = bm at HM ⊢
  obtain ⟨cs, hcs⟩ : ∃ cs, (cellsV m eA eC rA rC wA wC kA kC gA gC) = cs := ⟨_, rfl⟩
  rw [hcs]
  have HCS := hide (show cs = #[.int .i64 5, .int .i64 m.frm, .int .i64 m.to, .int .i64 m.part, .int .i64 m.term, .int .i64 m.index, .int .i64 m.logTerm, .int .i64 m.commit, .bool m.ok, .slice eA m.entries.length eC, .int .i64 m.t.ses, .int .i64 m.t.seq, .slice rA m.t.reads.length rC, .slice wA m.t.writes.length wC, .int .i64 m.ses, .int .i64 m.seq, .int .i64 m.pos, .int .i64 m.shard, .bool m.span, .string m.fromKey, .string m.toKey, .slice kA m.keys.length kC, .slice gA m.got.length gC, .int .i64 m.err] from by rw [← hcs]; unfold cellsV; rw [hk])
  clear hv hE hT hK hG HL hcs hk hbm
  go_enter Tryz.func23, Tryz.ntmps23
  go_upto_region 1 with (fail)
  obtain ⟨W, hW⟩ : ∃ W, (w.alloc (.cells cs 31)).alloc (.cells zeroCs 31) = W := ⟨_, rfl⟩
  have hgW : Gr w W := by rw [← hW]; exact ((Gr.refl _).alloc _).alloc _
  have hbW : Bl W w.heap.size 31 cs := by rw [← hW]; exact (Bl.new _ _ _).gr ((Gr.refl _).alloc _)
  have hrW : Bl W (w.heap.size + 1) 31 zeroCs := by
    rw [← hW]
    have := Bl.new (w.alloc (.cells cs 31)) 31 zeroCs
    simpa using this
  have d0 : W.cell? ⟨w.heap.size, 0, none⟩ = some (.int .i64 5) := (hbW.cell 0).trans (by rw [HCS.out]; rfl)
  have d1 : W.cell? ⟨w.heap.size, 1, none⟩ = some (.int .i64 m.frm) := (hbW.cell 1).trans (by rw [HCS.out]; rfl)
  have d2 : W.cell? ⟨w.heap.size, 2, none⟩ = some (.int .i64 m.to) := (hbW.cell 2).trans (by rw [HCS.out]; rfl)
  have d3 : W.cell? ⟨w.heap.size, 3, none⟩ = some (.int .i64 m.part) := (hbW.cell 3).trans (by rw [HCS.out]; rfl)
  have hne : w.heap.size ≠ W.heap.size := Nat.ne_of_lt hbW.lt
  have hnr : w.heap.size + 1 ≠ W.heap.size := Nat.ne_of_lt hrW.lt
  change (Code.region 1 _ false).wp _ _ _ ((w.alloc (.cells cs 31)).alloc (.cells zeroCs 31))
  rw [hW]
  clear hW
  have hbu : Tryz.prog.built 31 [(0, .int .i64 5), (1, .int .i64 m.frm), (2, .int .i64 m.to), (3, .int .i64 m.part)] = some (bz5b m) := by kernel_rfl
  have HBN := hide (Bl.new W 31 zeroCs)
  go_upto_region 2 with (first
    | refine wpList_build_to rfl 31 _ (by with_reducible rfl) (bz5b m) hbu ?_
    | refine wpList_store_row rfl 31 (.tmp 3) (.tmp 12) (by with_reducible rfl) W.heap.size (bz5b m) rfl rfl 31 zeroCs HBN.out (by kernel_rfl) rfl (by unfold bz5b; simp [Value.oneCell']) ?_)
  obtain ⟨V, hV⟩ : ∃ V, (W.alloc (.cells zeroCs 31)).setRow W.heap.size (bz5b m) = V := ⟨_, rfl⟩
  have hbut := But.row (W.alloc (.cells zeroCs 31)) W.heap.size (bz5b m)
  have hx0 := HBN.out.row (bz5b m)
  rw [hV] at hbut hx0
  have hle := hgW.size
  have hg0 : Gr w V := (hgW.alloc _).fresh hbut hle
  have hb0 : Bl V w.heap.size 31 cs := (hbut.block _ (hbW.gr ((Gr.refl _).alloc _)).lt (fun e => hne (by injection e))).trans (hbW.gr ((Gr.refl _).alloc _))
  have hr0 : Bl V (w.heap.size + 1) 31 zeroCs := (hbut.block _ (hrW.gr ((Gr.refl _).alloc _)).lt (fun e => hnr (by injection e))).trans (hrW.gr ((Gr.refl _).alloc _))
  have e0 : V.cell? ⟨w.heap.size, 0, none⟩ = some (.int .i64 5) := (hb0.cell 0).trans (by rw [HCS.out]; rfl)
  change (Code.region 2 _ false).wp _ _ _ ((W.alloc (.cells zeroCs 31)).setRow W.heap.size (bz5b m))
  rw [hV]
  clear hV hgW hbW hrW d0 d1 d2 d3 hbut HBN hbu
  go_upto_region 12 with (fail)
  clear e0
  have e10 : V.cell? ⟨w.heap.size, 10, none⟩ = some (.int .i64 m.t.ses) := (hb0.cell 10).trans (by rw [HCS.out]; rfl)
  have e11 : V.cell? ⟨w.heap.size, 11, none⟩ = some (.int .i64 m.t.seq) := (hb0.cell 11).trans (by rw [HCS.out]; rfl)
  have e12 : V.cell? ⟨w.heap.size, 12, none⟩ = some (.slice rA m.t.reads.length rC) := (hb0.cell 12).trans (by rw [HCS.out]; rfl)
  have e13 : V.cell? ⟨w.heap.size, 13, none⟩ = some (.slice wA m.t.writes.length wC) := (hb0.cell 13).trans (by rw [HCS.out]; rfl)
  have x10 : V.cell? ⟨W.heap.size, 10, none⟩ = some (.int .i64 0) := hx0.cell 10
  have f10 : V.frozen? ⟨W.heap.size, 10, none⟩ = false := hx0.frozen 10
  have x11 : V.cell? ⟨W.heap.size, 11, none⟩ = some (.int .i64 0) := hx0.cell 11
  have f11 : V.frozen? ⟨W.heap.size, 11, none⟩ = false := hx0.frozen 11
  have x12 : V.cell? ⟨W.heap.size, 12, none⟩ = some (.slice none 0 0) := hx0.cell 12
  have f12 : V.frozen? ⟨W.heap.size, 12, none⟩ = false := hx0.frozen 12
  have x13 : V.cell? ⟨W.heap.size, 13, none⟩ = some (.slice none 0 0) := hx0.cell 13
  have f13 : V.frozen? ⟨W.heap.size, 13, none⟩ = false := hx0.frozen 13
  have hkl := hx0.lt
  go_upto_region 22 with (fail)
  obtain ⟨w3, hw3⟩ : ∃ w3, ((((V.setCell ⟨W.heap.size, 10, none⟩ (.int .i64 m.t.ses)).setCell ⟨W.heap.size, 11, none⟩ (.int .i64 m.t.seq)).setCell ⟨W.heap.size, 12, none⟩ (.slice rA m.t.reads.length rC)).setCell ⟨W.heap.size, 13, none⟩ (.slice wA m.t.writes.length wC)) = w3 := ⟨_, rfl⟩
  have hbut0 : But V w3 W.heap.size := by rw [← hw3]; exact (((((But.refl V W.heap.size).set 10 (.int .i64 m.t.ses)).set 11 (.int .i64 m.t.seq)).set 12 (.slice rA m.t.reads.length rC)).set 13 (.slice wA m.t.writes.length wC))
  have hx1 : Bl w3 W.heap.size 31 (bz5a m rA rC wA wC) := by rw [← hw3]; exact ((((hx0.put 10 (.int .i64 m.t.ses)).put 11 (.int .i64 m.t.seq)).put 12 (.slice rA m.t.reads.length rC)).put 13 (.slice wA m.t.writes.length wC))
  have hb1 : Bl w3 w.heap.size 31 cs := (hbut0.block _ hb0.lt (fun e => hne (by injection e))).trans hb0
  have hr1 : Bl w3 (w.heap.size + 1) 31 zeroCs := (hbut0.block _ hr0.lt (fun e => hnr (by injection e))).trans hr0
  have hg1 : Gr w w3 := hg0.fresh hbut0 (by omega)
  change (Code.region 22 _ false).wp _ _ _ ((((V.setCell ⟨W.heap.size, 10, none⟩ (.int .i64 m.t.ses)).setCell ⟨W.heap.size, 11, none⟩ (.int .i64 m.t.seq)).setCell ⟨W.heap.size, 12, none⟩ (.slice rA m.t.reads.length rC)).setCell ⟨W.heap.size, 13, none⟩ (.slice wA m.t.writes.length wC))
  rw [hw3]
  clear hbut0 hb0 hr0 hg0 hx0 hw3 hkl e10 e11 e12 e13 x10 x11 x12 x13 f10 f11 f12 f13
  have HF := hide (show MsgAt (w3.setRow (w.heap.size + 1) (bz5a m rA rC wA wC)) (.agg (bz5a m rA rC wA wC)) bm ∧ Gr w (w3.setRow (w.heap.size + 1) (bz5a m rA rC wA wC)) from by
    have hg := hg1.fresh (But.row w3 (w.heap.size + 1) (bz5a m rA rC wA wC)) (by omega)
    exact ⟨HM.out _ hg, hg⟩)
  have HB4 := hide (hr1.row (bz5a m rA rC wA wC))
  clear HM hg1 hb1
  go_wp2_with (first
    | refine wpList_load_row rfl 31 (.tmp 3) (by with_reducible rfl) W.heap.size rfl 31 _ (0, 0) _ hx1 Tryz.underlying31 rfl (by kernel_rfl) ?_
    | refine wpList_store_row rfl 31 (.tmp 2) (.tmp 144) (by with_reducible rfl) (w.heap.size + 1) (bz5a m rA rC wA wC) rfl rfl 31 _ hr1 (by kernel_rfl) rfl (by unfold bz5a; simp [Value.oneCell']) ?_)
  exact bodyPost_ret (results_cell_row rfl _ _ (w.heap.size + 1) 31 (bz5a m rA rC wA wC) (0, 0) _ rfl HB4.out Tryz.underlying31 rfl (by kernel_rfl)) rfl ⟨_, rfl, HF.out⟩

end Go.Proofs.YtpabppoohobjpaaGreat
