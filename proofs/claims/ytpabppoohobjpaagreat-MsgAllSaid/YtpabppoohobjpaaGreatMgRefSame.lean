/-
  The document's SameMsg by its contract: two chains of '||', each walked once.
-/
import Derived.Test.YtpabppoohobjpaaGreatMgUnnamed
import Derived.Test.YtpabppoohobjpaaGreatEntSame
import Derived.Test.YtpabppoohobjpaaGreatTxnSame
import Derived.Test.YtpabppoohobjpaaGreatTxnMay
import Derived.Test.YtpabppoohobjpaaGreatRegDet
namespace Go.Proofs.YtpabppoohobjpaaGreat
open Go Go.RowKit TxnMath KeyMath MsgMath
set_option maxRecDepth 100000

def diff1 (a m : MsgT) : Bool := ((((((((((((((((!(a.kind == m.kind) || !(a.frm == m.frm)) || !(a.to == m.to)) || !(a.part == m.part)) || !(a.term == m.term)) || !(a.index == m.index)) || !(a.logTerm == m.logTerm)) || !(a.commit == m.commit)) || !(a.ok == m.ok)) || !(a.ses == m.ses)) || !(a.seq == m.seq)) || !(a.pos == m.pos)) || !(a.shard == m.shard)) || !(a.span == m.span)) || !(decide (a.fromKey = m.fromKey))) || !(decide (a.toKey = m.toKey))) || !(a.err == m.err))
def diff2 (a m : MsgT) : Bool := (((!(decide (a.entries = m.entries)) || !(decide (a.t = m.t))) || !(decide (a.got = m.got))) || !((a.keys.length : Int) == (m.keys.length : Int)))
theorem entBnd_of {e : EntT} (h : TxBnd e.t) : EntBnd e := ⟨by have := h.rn; omega, by have := h.wn; omega⟩
theorem diff1_ne {a m : MsgT} (h : diff1 a m = true) : a ≠ m := by
  rintro rfl
  simp [diff1] at h
theorem diff2_ne {a m : MsgT} (h : diff2 a m = true) : a ≠ m := by
  rintro rfl
  simp [diff2] at h
theorem diff_same {a m : MsgT} (h1 : diff1 a m = false) (h2 : diff2 a m = false) : (a.keys = m.keys → a = m) ∧ a.keys.length = m.keys.length := by
  simp only [diff1, Bool.or_eq_false_iff, Bool.not_eq_false', beq_iff_eq, decide_eq_true_eq] at h1
  simp only [diff2, Bool.or_eq_false_iff, Bool.not_eq_false', beq_iff_eq, decide_eq_true_eq] at h2
  refine ⟨fun hk => ?_, by omega⟩
  cases a
  cases m
  simp_all

set_option maxHeartbeats 8000000 in
theorem RefSameMsg_ok (v u : Value) (a m : MsgT) (w : World) (hv : MsgAt w v a) (hu : MsgAt w u m) (hb : MsgBnd a) (hc : MsgBnd m) : Calls Tryz.prog 14 #[v, u] w fun e w' => e = .returned (.bool (decide (a = m))) ∧ Gr w w' := by
  obtain ⟨eA, eC, rA, rC, wA, wC, kA, kC, gA, gC, rfl, hE, hT, hK, hG⟩ := hv.open_
  obtain ⟨fA, fC, sA, sC, xA, xC, lA, lC, hA, hC, rfl, iE, iT, iK, iG⟩ := hu.open_
  clear hv hu
  have C1 := hide (fun v u w' (h : EntsX Any w' v a.entries) (k : EntsX Any w' u m.entries) => RefSameEntries_ok v u a.entries m.entries w' h k (by have := hb.en; omega) (fun e he => entBnd_of (hb.ent e he)) (fun e he => entBnd_of (hc.ent e he)))
  have C2 := hide (fun v u w' (h : TxAt w' v a.t) (k : TxAt w' u m.t) => SameTxn_ok v u a.t m.t w' h k (by have := hb.t.rn; omega) (by have := hc.t.rn; omega) (by have := hc.t.wn; omega))
  have C4 := hide (fun v u w' (h : RowAt 4 w' v (a.got.map rdC)) (k : RowAt 4 w' u (m.got.map rdC)) => SameReads_ok v u a.got m.got w' h k (by have := hb.gn; omega) (by have := hc.gn; omega))
  have HD1 := hide (show diff1 a m = ((((((((((((((((!(a.kind == m.kind) || !(a.frm == m.frm)) || !(a.to == m.to)) || !(a.part == m.part)) || !(a.term == m.term)) || !(a.index == m.index)) || !(a.logTerm == m.logTerm)) || !(a.commit == m.commit)) || !(a.ok == m.ok)) || !(a.ses == m.ses)) || !(a.seq == m.seq)) || !(a.pos == m.pos)) || !(a.shard == m.shard)) || !(a.span == m.span)) || !(decide (a.fromKey = m.fromKey))) || !(decide (a.toKey = m.toKey))) || !(a.err == m.err)) from rfl)
  have HD2 := hide (show diff2 a m = (((!(decide (a.entries = m.entries)) || !(decide (a.t = m.t))) || !(decide (a.got = m.got))) || !((a.keys.length : Int) == (m.keys.length : Int))) from rfl)
  have HN1 := hide (fun h => decide_eq_false (diff1_ne (a := a) (m := m) h))
  have HN2 := hide (fun h => decide_eq_false (diff2_ne (a := a) (m := m) h))
  have HSM := hide (fun h1 h2 => diff_same (a := a) (m := m) h1 h2)
  have hkn := hb.kn
  obtain ⟨res, hres⟩ : ∃ res, decide (a = m) = res := ⟨_, rfl⟩
  have HRES := hide hres
  rw [hres] at HN1 HN2 ⊢
  generalize diff1 a m = d1 at HD1 HN1 HSM
  generalize diff2 a m = d2 at HD2 HN2 HSM
  clear hb hc hres
  go_enter Tryz.func14, Tryz.ntmps14
  go_upto_region 1 with (fail)
  obtain ⟨W, hW⟩ : ∃ W, (w.alloc (.cells (cellsV a eA eC rA rC wA wC kA kC gA gC) 31)).alloc (.cells (cellsV m fA fC sA sC xA xC lA lC hA hC) 31) = W := ⟨_, rfl⟩
  have hgW : Gr w W := by rw [← hW]; exact ((Gr.refl _).alloc _).alloc _
  have hbW : Bl W w.heap.size 31 (cellsV a eA eC rA rC wA wC kA kC gA gC) := by rw [← hW]; exact (Bl.new _ _ _).gr ((Gr.refl _).alloc _)
  have hbV : Bl W (w.heap.size + 1) 31 (cellsV m fA fC sA sC xA xC lA lC hA hC) := by
    rw [← hW]
    have := Bl.new (w.alloc (.cells (cellsV a eA eC rA rC wA wC kA kC gA gC) 31)) 31 (cellsV m fA fC sA sC xA xC lA lC hA hC)
    simpa using this
  change (Code.region 1 _ false).wp _ _ _ ((w.alloc (.cells (cellsV a eA eC rA rC wA wC kA kC gA gC) 31)).alloc (.cells (cellsV m fA fC sA sC xA xC lA lC hA hC) 31))
  rw [hW]
  clear hW
  refine Grow.wp_region_text 172 [6, 7, 8, 9, 10, 11, 12, 13, 14, 15, 16, 17, 18, 19, 20, 21, 22, 23, 24, 25, 26, 27, 28, 29, 30, 31, 32, 33, 34, 35, 36, 37, 38, 39, 40, 41, 42, 43, 44, 45, 46, 47, 48, 49, 50, 51, 52, 53, 54, 55, 56, 57, 58, 59, 60, 61, 62, 63, 64, 65, 66, 67, 68, 69, 70, 71, 72, 73, 74, 75, 76, 77, 78, 79, 80, 81, 82, 83, 84, 85, 86, 87, 88, 89, 90, 91, 92, 93, 94, 95, 96, 97, 98, 99, 100, 101, 102, 103, 104, 105, 106, 107, 108, 109, 110, 111, 112, 113, 114, 115, 116, 117, 118, 119, 120, 121, 122] rfl (by kernel_rfl) (by kernel_rfl) (Grow.Ahead.more (Grow.Ahead.more (Grow.Ahead.none_ _ _) 2 (Grow.Bx.stays w.heap.size 31 (cellsV a eA eC rA rC wA wC kA kC gA gC)) ⟨rfl, hbW⟩) 3 (Grow.Bx.stays (w.heap.size + 1) 31 (cellsV m fA fC sA sC xA xC lA lC hA hC)) ⟨rfl, hbV⟩) ?_
  refine Grow.grow_field (j := 0) (u := .int .i64 a.kind) (Ψ := Grow.Is (.int .i64 a.kind)) rfl (.inl ⟨rfl, rfl⟩) rfl (fun w => by kernel_rfl) rfl (Grow.Is.stays _) (fun _ _ => rfl) ?_
  refine Grow.grow_load_k rfl (fun w => by kernel_rfl) (.inl ⟨rfl, rfl⟩) rfl (Grow.Is.stays _) ?_
  refine Grow.grow_field (j := 0) (u := .int .i64 m.kind) (Ψ := Grow.Is (.int .i64 m.kind)) rfl (.inl ⟨rfl, rfl⟩) rfl (fun w => by kernel_rfl) rfl (Grow.Is.stays _) (fun _ _ => rfl) ?_
  refine Grow.grow_load_k rfl (fun w => by kernel_rfl) (.inl ⟨rfl, rfl⟩) rfl (Grow.Is.stays _) ?_
  refine Grow.grow_int (c := .bool (!(a.kind == m.kind))) rfl (.inl ⟨rfl, rfl⟩) rfl rfl rfl ?_
  refine Grow.grow_mv (.inl rfl) (.inl ⟨rfl, rfl⟩) rfl ?_
  refine Grow.cd_field (j := 1) (u := .int .i64 a.frm) (Ψ := Grow.Is (.int .i64 a.frm)) (b := !(!(a.kind == m.kind))) rfl (.inr ⟨5, 11, true, (!(a.kind == m.kind)), rfl, rfl, rfl, by decide, rfl⟩) (.inl rfl) (fun w => by kernel_rfl) rfl (Grow.Is.stays _) (fun _ _ => rfl) ?_
  refine Grow.cd_load (b := !(!(a.kind == m.kind))) rfl (fun w => by kernel_rfl) (.inr ⟨5, 11, true, (!(a.kind == m.kind)), rfl, rfl, rfl, by decide, rfl⟩) (.inr rfl) (Grow.Is.stays _) ?_
  refine Grow.cd_field (j := 1) (u := .int .i64 m.frm) (Ψ := Grow.Is (.int .i64 m.frm)) (b := !(!(a.kind == m.kind))) rfl (.inr ⟨5, 11, true, (!(a.kind == m.kind)), rfl, rfl, rfl, by decide, rfl⟩) (.inl rfl) (fun w => by kernel_rfl) rfl (Grow.Is.stays _) (fun _ _ => rfl) ?_
  refine Grow.cd_load (b := !(!(a.kind == m.kind))) rfl (fun w => by kernel_rfl) (.inr ⟨5, 11, true, (!(a.kind == m.kind)), rfl, rfl, rfl, by decide, rfl⟩) (.inr rfl) (Grow.Is.stays _) ?_
  refine Grow.cd_int (c := .bool (!(a.frm == m.frm))) (b := !(!(a.kind == m.kind))) rfl (.inr ⟨5, 11, true, (!(a.kind == m.kind)), rfl, rfl, rfl, by decide, rfl⟩) (.inr rfl) (.inr rfl) (by rw [show binOp .neq _ _ _ = pure (.bool (!(a.frm == m.frm))) from rfl]) ?_
  refine Grow.pick_or (x := !(a.kind == m.kind)) rfl rfl rfl (.inr rfl) ?_
  refine Grow.grow_mv (.inl rfl) (.inl ⟨rfl, rfl⟩) rfl ?_
  refine Grow.cd_field (j := 2) (u := .int .i64 a.to) (Ψ := Grow.Is (.int .i64 a.to)) (b := !((!(a.kind == m.kind) || !(a.frm == m.frm)))) rfl (.inr ⟨12, 18, true, ((!(a.kind == m.kind) || !(a.frm == m.frm))), rfl, rfl, rfl, by decide, rfl⟩) (.inl rfl) (fun w => by kernel_rfl) rfl (Grow.Is.stays _) (fun _ _ => rfl) ?_
  refine Grow.cd_load (b := !((!(a.kind == m.kind) || !(a.frm == m.frm)))) rfl (fun w => by kernel_rfl) (.inr ⟨12, 18, true, ((!(a.kind == m.kind) || !(a.frm == m.frm))), rfl, rfl, rfl, by decide, rfl⟩) (.inr rfl) (Grow.Is.stays _) ?_
  refine Grow.cd_field (j := 2) (u := .int .i64 m.to) (Ψ := Grow.Is (.int .i64 m.to)) (b := !((!(a.kind == m.kind) || !(a.frm == m.frm)))) rfl (.inr ⟨12, 18, true, ((!(a.kind == m.kind) || !(a.frm == m.frm))), rfl, rfl, rfl, by decide, rfl⟩) (.inl rfl) (fun w => by kernel_rfl) rfl (Grow.Is.stays _) (fun _ _ => rfl) ?_
  refine Grow.cd_load (b := !((!(a.kind == m.kind) || !(a.frm == m.frm)))) rfl (fun w => by kernel_rfl) (.inr ⟨12, 18, true, ((!(a.kind == m.kind) || !(a.frm == m.frm))), rfl, rfl, rfl, by decide, rfl⟩) (.inr rfl) (Grow.Is.stays _) ?_
  refine Grow.cd_int (c := .bool (!(a.to == m.to))) (b := !((!(a.kind == m.kind) || !(a.frm == m.frm)))) rfl (.inr ⟨12, 18, true, ((!(a.kind == m.kind) || !(a.frm == m.frm))), rfl, rfl, rfl, by decide, rfl⟩) (.inr rfl) (.inr rfl) (by rw [show binOp .neq _ _ _ = pure (.bool (!(a.to == m.to))) from rfl]) ?_
  refine Grow.pick_or (x := (!(a.kind == m.kind) || !(a.frm == m.frm))) rfl rfl rfl (.inr rfl) ?_
  refine Grow.grow_mv (.inl rfl) (.inl ⟨rfl, rfl⟩) rfl ?_
  refine Grow.cd_field (j := 3) (u := .int .i64 a.part) (Ψ := Grow.Is (.int .i64 a.part)) (b := !(((!(a.kind == m.kind) || !(a.frm == m.frm)) || !(a.to == m.to)))) rfl (.inr ⟨19, 25, true, (((!(a.kind == m.kind) || !(a.frm == m.frm)) || !(a.to == m.to))), rfl, rfl, rfl, by decide, rfl⟩) (.inl rfl) (fun w => by kernel_rfl) rfl (Grow.Is.stays _) (fun _ _ => rfl) ?_
  refine Grow.cd_load (b := !(((!(a.kind == m.kind) || !(a.frm == m.frm)) || !(a.to == m.to)))) rfl (fun w => by kernel_rfl) (.inr ⟨19, 25, true, (((!(a.kind == m.kind) || !(a.frm == m.frm)) || !(a.to == m.to))), rfl, rfl, rfl, by decide, rfl⟩) (.inr rfl) (Grow.Is.stays _) ?_
  refine Grow.cd_field (j := 3) (u := .int .i64 m.part) (Ψ := Grow.Is (.int .i64 m.part)) (b := !(((!(a.kind == m.kind) || !(a.frm == m.frm)) || !(a.to == m.to)))) rfl (.inr ⟨19, 25, true, (((!(a.kind == m.kind) || !(a.frm == m.frm)) || !(a.to == m.to))), rfl, rfl, rfl, by decide, rfl⟩) (.inl rfl) (fun w => by kernel_rfl) rfl (Grow.Is.stays _) (fun _ _ => rfl) ?_
  refine Grow.cd_load (b := !(((!(a.kind == m.kind) || !(a.frm == m.frm)) || !(a.to == m.to)))) rfl (fun w => by kernel_rfl) (.inr ⟨19, 25, true, (((!(a.kind == m.kind) || !(a.frm == m.frm)) || !(a.to == m.to))), rfl, rfl, rfl, by decide, rfl⟩) (.inr rfl) (Grow.Is.stays _) ?_
  refine Grow.cd_int (c := .bool (!(a.part == m.part))) (b := !(((!(a.kind == m.kind) || !(a.frm == m.frm)) || !(a.to == m.to)))) rfl (.inr ⟨19, 25, true, (((!(a.kind == m.kind) || !(a.frm == m.frm)) || !(a.to == m.to))), rfl, rfl, rfl, by decide, rfl⟩) (.inr rfl) (.inr rfl) (by rw [show binOp .neq _ _ _ = pure (.bool (!(a.part == m.part))) from rfl]) ?_
  refine Grow.pick_or (x := ((!(a.kind == m.kind) || !(a.frm == m.frm)) || !(a.to == m.to))) rfl rfl rfl (.inr rfl) ?_
  refine Grow.grow_mv (.inl rfl) (.inl ⟨rfl, rfl⟩) rfl ?_
  refine Grow.cd_field (j := 4) (u := .int .i64 a.term) (Ψ := Grow.Is (.int .i64 a.term)) (b := !((((!(a.kind == m.kind) || !(a.frm == m.frm)) || !(a.to == m.to)) || !(a.part == m.part)))) rfl (.inr ⟨26, 32, true, ((((!(a.kind == m.kind) || !(a.frm == m.frm)) || !(a.to == m.to)) || !(a.part == m.part))), rfl, rfl, rfl, by decide, rfl⟩) (.inl rfl) (fun w => by kernel_rfl) rfl (Grow.Is.stays _) (fun _ _ => rfl) ?_
  refine Grow.cd_load (b := !((((!(a.kind == m.kind) || !(a.frm == m.frm)) || !(a.to == m.to)) || !(a.part == m.part)))) rfl (fun w => by kernel_rfl) (.inr ⟨26, 32, true, ((((!(a.kind == m.kind) || !(a.frm == m.frm)) || !(a.to == m.to)) || !(a.part == m.part))), rfl, rfl, rfl, by decide, rfl⟩) (.inr rfl) (Grow.Is.stays _) ?_
  refine Grow.cd_field (j := 4) (u := .int .i64 m.term) (Ψ := Grow.Is (.int .i64 m.term)) (b := !((((!(a.kind == m.kind) || !(a.frm == m.frm)) || !(a.to == m.to)) || !(a.part == m.part)))) rfl (.inr ⟨26, 32, true, ((((!(a.kind == m.kind) || !(a.frm == m.frm)) || !(a.to == m.to)) || !(a.part == m.part))), rfl, rfl, rfl, by decide, rfl⟩) (.inl rfl) (fun w => by kernel_rfl) rfl (Grow.Is.stays _) (fun _ _ => rfl) ?_
  refine Grow.cd_load (b := !((((!(a.kind == m.kind) || !(a.frm == m.frm)) || !(a.to == m.to)) || !(a.part == m.part)))) rfl (fun w => by kernel_rfl) (.inr ⟨26, 32, true, ((((!(a.kind == m.kind) || !(a.frm == m.frm)) || !(a.to == m.to)) || !(a.part == m.part))), rfl, rfl, rfl, by decide, rfl⟩) (.inr rfl) (Grow.Is.stays _) ?_
  refine Grow.cd_int (c := .bool (!(a.term == m.term))) (b := !((((!(a.kind == m.kind) || !(a.frm == m.frm)) || !(a.to == m.to)) || !(a.part == m.part)))) rfl (.inr ⟨26, 32, true, ((((!(a.kind == m.kind) || !(a.frm == m.frm)) || !(a.to == m.to)) || !(a.part == m.part))), rfl, rfl, rfl, by decide, rfl⟩) (.inr rfl) (.inr rfl) (by rw [show binOp .neq _ _ _ = pure (.bool (!(a.term == m.term))) from rfl]) ?_
  refine Grow.pick_or (x := (((!(a.kind == m.kind) || !(a.frm == m.frm)) || !(a.to == m.to)) || !(a.part == m.part))) rfl rfl rfl (.inr rfl) ?_
  refine Grow.grow_mv (.inl rfl) (.inl ⟨rfl, rfl⟩) rfl ?_
  refine Grow.cd_field (j := 5) (u := .int .i64 a.index) (Ψ := Grow.Is (.int .i64 a.index)) (b := !(((((!(a.kind == m.kind) || !(a.frm == m.frm)) || !(a.to == m.to)) || !(a.part == m.part)) || !(a.term == m.term)))) rfl (.inr ⟨33, 39, true, (((((!(a.kind == m.kind) || !(a.frm == m.frm)) || !(a.to == m.to)) || !(a.part == m.part)) || !(a.term == m.term))), rfl, rfl, rfl, by decide, rfl⟩) (.inl rfl) (fun w => by kernel_rfl) rfl (Grow.Is.stays _) (fun _ _ => rfl) ?_
  refine Grow.cd_load (b := !(((((!(a.kind == m.kind) || !(a.frm == m.frm)) || !(a.to == m.to)) || !(a.part == m.part)) || !(a.term == m.term)))) rfl (fun w => by kernel_rfl) (.inr ⟨33, 39, true, (((((!(a.kind == m.kind) || !(a.frm == m.frm)) || !(a.to == m.to)) || !(a.part == m.part)) || !(a.term == m.term))), rfl, rfl, rfl, by decide, rfl⟩) (.inr rfl) (Grow.Is.stays _) ?_
  refine Grow.cd_field (j := 5) (u := .int .i64 m.index) (Ψ := Grow.Is (.int .i64 m.index)) (b := !(((((!(a.kind == m.kind) || !(a.frm == m.frm)) || !(a.to == m.to)) || !(a.part == m.part)) || !(a.term == m.term)))) rfl (.inr ⟨33, 39, true, (((((!(a.kind == m.kind) || !(a.frm == m.frm)) || !(a.to == m.to)) || !(a.part == m.part)) || !(a.term == m.term))), rfl, rfl, rfl, by decide, rfl⟩) (.inl rfl) (fun w => by kernel_rfl) rfl (Grow.Is.stays _) (fun _ _ => rfl) ?_
  refine Grow.cd_load (b := !(((((!(a.kind == m.kind) || !(a.frm == m.frm)) || !(a.to == m.to)) || !(a.part == m.part)) || !(a.term == m.term)))) rfl (fun w => by kernel_rfl) (.inr ⟨33, 39, true, (((((!(a.kind == m.kind) || !(a.frm == m.frm)) || !(a.to == m.to)) || !(a.part == m.part)) || !(a.term == m.term))), rfl, rfl, rfl, by decide, rfl⟩) (.inr rfl) (Grow.Is.stays _) ?_
  refine Grow.cd_int (c := .bool (!(a.index == m.index))) (b := !(((((!(a.kind == m.kind) || !(a.frm == m.frm)) || !(a.to == m.to)) || !(a.part == m.part)) || !(a.term == m.term)))) rfl (.inr ⟨33, 39, true, (((((!(a.kind == m.kind) || !(a.frm == m.frm)) || !(a.to == m.to)) || !(a.part == m.part)) || !(a.term == m.term))), rfl, rfl, rfl, by decide, rfl⟩) (.inr rfl) (.inr rfl) (by rw [show binOp .neq _ _ _ = pure (.bool (!(a.index == m.index))) from rfl]) ?_
  refine Grow.pick_or (x := ((((!(a.kind == m.kind) || !(a.frm == m.frm)) || !(a.to == m.to)) || !(a.part == m.part)) || !(a.term == m.term))) rfl rfl rfl (.inr rfl) ?_
  refine Grow.grow_mv (.inl rfl) (.inl ⟨rfl, rfl⟩) rfl ?_
  refine Grow.cd_field (j := 6) (u := .int .i64 a.logTerm) (Ψ := Grow.Is (.int .i64 a.logTerm)) (b := !((((((!(a.kind == m.kind) || !(a.frm == m.frm)) || !(a.to == m.to)) || !(a.part == m.part)) || !(a.term == m.term)) || !(a.index == m.index)))) rfl (.inr ⟨40, 46, true, ((((((!(a.kind == m.kind) || !(a.frm == m.frm)) || !(a.to == m.to)) || !(a.part == m.part)) || !(a.term == m.term)) || !(a.index == m.index))), rfl, rfl, rfl, by decide, rfl⟩) (.inl rfl) (fun w => by kernel_rfl) rfl (Grow.Is.stays _) (fun _ _ => rfl) ?_
  refine Grow.cd_load (b := !((((((!(a.kind == m.kind) || !(a.frm == m.frm)) || !(a.to == m.to)) || !(a.part == m.part)) || !(a.term == m.term)) || !(a.index == m.index)))) rfl (fun w => by kernel_rfl) (.inr ⟨40, 46, true, ((((((!(a.kind == m.kind) || !(a.frm == m.frm)) || !(a.to == m.to)) || !(a.part == m.part)) || !(a.term == m.term)) || !(a.index == m.index))), rfl, rfl, rfl, by decide, rfl⟩) (.inr rfl) (Grow.Is.stays _) ?_
  refine Grow.cd_field (j := 6) (u := .int .i64 m.logTerm) (Ψ := Grow.Is (.int .i64 m.logTerm)) (b := !((((((!(a.kind == m.kind) || !(a.frm == m.frm)) || !(a.to == m.to)) || !(a.part == m.part)) || !(a.term == m.term)) || !(a.index == m.index)))) rfl (.inr ⟨40, 46, true, ((((((!(a.kind == m.kind) || !(a.frm == m.frm)) || !(a.to == m.to)) || !(a.part == m.part)) || !(a.term == m.term)) || !(a.index == m.index))), rfl, rfl, rfl, by decide, rfl⟩) (.inl rfl) (fun w => by kernel_rfl) rfl (Grow.Is.stays _) (fun _ _ => rfl) ?_
  refine Grow.cd_load (b := !((((((!(a.kind == m.kind) || !(a.frm == m.frm)) || !(a.to == m.to)) || !(a.part == m.part)) || !(a.term == m.term)) || !(a.index == m.index)))) rfl (fun w => by kernel_rfl) (.inr ⟨40, 46, true, ((((((!(a.kind == m.kind) || !(a.frm == m.frm)) || !(a.to == m.to)) || !(a.part == m.part)) || !(a.term == m.term)) || !(a.index == m.index))), rfl, rfl, rfl, by decide, rfl⟩) (.inr rfl) (Grow.Is.stays _) ?_
  refine Grow.cd_int (c := .bool (!(a.logTerm == m.logTerm))) (b := !((((((!(a.kind == m.kind) || !(a.frm == m.frm)) || !(a.to == m.to)) || !(a.part == m.part)) || !(a.term == m.term)) || !(a.index == m.index)))) rfl (.inr ⟨40, 46, true, ((((((!(a.kind == m.kind) || !(a.frm == m.frm)) || !(a.to == m.to)) || !(a.part == m.part)) || !(a.term == m.term)) || !(a.index == m.index))), rfl, rfl, rfl, by decide, rfl⟩) (.inr rfl) (.inr rfl) (by rw [show binOp .neq _ _ _ = pure (.bool (!(a.logTerm == m.logTerm))) from rfl]) ?_
  refine Grow.pick_or (x := (((((!(a.kind == m.kind) || !(a.frm == m.frm)) || !(a.to == m.to)) || !(a.part == m.part)) || !(a.term == m.term)) || !(a.index == m.index))) rfl rfl rfl (.inr rfl) ?_
  refine Grow.grow_mv (.inl rfl) (.inl ⟨rfl, rfl⟩) rfl ?_
  refine Grow.cd_field (j := 7) (u := .int .i64 a.commit) (Ψ := Grow.Is (.int .i64 a.commit)) (b := !(((((((!(a.kind == m.kind) || !(a.frm == m.frm)) || !(a.to == m.to)) || !(a.part == m.part)) || !(a.term == m.term)) || !(a.index == m.index)) || !(a.logTerm == m.logTerm)))) rfl (.inr ⟨47, 53, true, (((((((!(a.kind == m.kind) || !(a.frm == m.frm)) || !(a.to == m.to)) || !(a.part == m.part)) || !(a.term == m.term)) || !(a.index == m.index)) || !(a.logTerm == m.logTerm))), rfl, rfl, rfl, by decide, rfl⟩) (.inl rfl) (fun w => by kernel_rfl) rfl (Grow.Is.stays _) (fun _ _ => rfl) ?_
  refine Grow.cd_load (b := !(((((((!(a.kind == m.kind) || !(a.frm == m.frm)) || !(a.to == m.to)) || !(a.part == m.part)) || !(a.term == m.term)) || !(a.index == m.index)) || !(a.logTerm == m.logTerm)))) rfl (fun w => by kernel_rfl) (.inr ⟨47, 53, true, (((((((!(a.kind == m.kind) || !(a.frm == m.frm)) || !(a.to == m.to)) || !(a.part == m.part)) || !(a.term == m.term)) || !(a.index == m.index)) || !(a.logTerm == m.logTerm))), rfl, rfl, rfl, by decide, rfl⟩) (.inr rfl) (Grow.Is.stays _) ?_
  refine Grow.cd_field (j := 7) (u := .int .i64 m.commit) (Ψ := Grow.Is (.int .i64 m.commit)) (b := !(((((((!(a.kind == m.kind) || !(a.frm == m.frm)) || !(a.to == m.to)) || !(a.part == m.part)) || !(a.term == m.term)) || !(a.index == m.index)) || !(a.logTerm == m.logTerm)))) rfl (.inr ⟨47, 53, true, (((((((!(a.kind == m.kind) || !(a.frm == m.frm)) || !(a.to == m.to)) || !(a.part == m.part)) || !(a.term == m.term)) || !(a.index == m.index)) || !(a.logTerm == m.logTerm))), rfl, rfl, rfl, by decide, rfl⟩) (.inl rfl) (fun w => by kernel_rfl) rfl (Grow.Is.stays _) (fun _ _ => rfl) ?_
  refine Grow.cd_load (b := !(((((((!(a.kind == m.kind) || !(a.frm == m.frm)) || !(a.to == m.to)) || !(a.part == m.part)) || !(a.term == m.term)) || !(a.index == m.index)) || !(a.logTerm == m.logTerm)))) rfl (fun w => by kernel_rfl) (.inr ⟨47, 53, true, (((((((!(a.kind == m.kind) || !(a.frm == m.frm)) || !(a.to == m.to)) || !(a.part == m.part)) || !(a.term == m.term)) || !(a.index == m.index)) || !(a.logTerm == m.logTerm))), rfl, rfl, rfl, by decide, rfl⟩) (.inr rfl) (Grow.Is.stays _) ?_
  refine Grow.cd_int (c := .bool (!(a.commit == m.commit))) (b := !(((((((!(a.kind == m.kind) || !(a.frm == m.frm)) || !(a.to == m.to)) || !(a.part == m.part)) || !(a.term == m.term)) || !(a.index == m.index)) || !(a.logTerm == m.logTerm)))) rfl (.inr ⟨47, 53, true, (((((((!(a.kind == m.kind) || !(a.frm == m.frm)) || !(a.to == m.to)) || !(a.part == m.part)) || !(a.term == m.term)) || !(a.index == m.index)) || !(a.logTerm == m.logTerm))), rfl, rfl, rfl, by decide, rfl⟩) (.inr rfl) (.inr rfl) (by rw [show binOp .neq _ _ _ = pure (.bool (!(a.commit == m.commit))) from rfl]) ?_
  refine Grow.pick_or (x := ((((((!(a.kind == m.kind) || !(a.frm == m.frm)) || !(a.to == m.to)) || !(a.part == m.part)) || !(a.term == m.term)) || !(a.index == m.index)) || !(a.logTerm == m.logTerm))) rfl rfl rfl (.inr rfl) ?_
  refine Grow.grow_mv (.inl rfl) (.inl ⟨rfl, rfl⟩) rfl ?_
  refine Grow.cd_field (j := 8) (u := .bool a.ok) (Ψ := Grow.Is (.bool a.ok)) (b := !((((((((!(a.kind == m.kind) || !(a.frm == m.frm)) || !(a.to == m.to)) || !(a.part == m.part)) || !(a.term == m.term)) || !(a.index == m.index)) || !(a.logTerm == m.logTerm)) || !(a.commit == m.commit)))) rfl (.inr ⟨54, 60, true, ((((((((!(a.kind == m.kind) || !(a.frm == m.frm)) || !(a.to == m.to)) || !(a.part == m.part)) || !(a.term == m.term)) || !(a.index == m.index)) || !(a.logTerm == m.logTerm)) || !(a.commit == m.commit))), rfl, rfl, rfl, by decide, rfl⟩) (.inl rfl) (fun w => by kernel_rfl) rfl (Grow.Is.stays _) (fun _ _ => rfl) ?_
  refine Grow.cd_load (b := !((((((((!(a.kind == m.kind) || !(a.frm == m.frm)) || !(a.to == m.to)) || !(a.part == m.part)) || !(a.term == m.term)) || !(a.index == m.index)) || !(a.logTerm == m.logTerm)) || !(a.commit == m.commit)))) rfl (fun w => by kernel_rfl) (.inr ⟨54, 60, true, ((((((((!(a.kind == m.kind) || !(a.frm == m.frm)) || !(a.to == m.to)) || !(a.part == m.part)) || !(a.term == m.term)) || !(a.index == m.index)) || !(a.logTerm == m.logTerm)) || !(a.commit == m.commit))), rfl, rfl, rfl, by decide, rfl⟩) (.inr rfl) (Grow.Is.stays _) ?_
  refine Grow.cd_field (j := 8) (u := .bool m.ok) (Ψ := Grow.Is (.bool m.ok)) (b := !((((((((!(a.kind == m.kind) || !(a.frm == m.frm)) || !(a.to == m.to)) || !(a.part == m.part)) || !(a.term == m.term)) || !(a.index == m.index)) || !(a.logTerm == m.logTerm)) || !(a.commit == m.commit)))) rfl (.inr ⟨54, 60, true, ((((((((!(a.kind == m.kind) || !(a.frm == m.frm)) || !(a.to == m.to)) || !(a.part == m.part)) || !(a.term == m.term)) || !(a.index == m.index)) || !(a.logTerm == m.logTerm)) || !(a.commit == m.commit))), rfl, rfl, rfl, by decide, rfl⟩) (.inl rfl) (fun w => by kernel_rfl) rfl (Grow.Is.stays _) (fun _ _ => rfl) ?_
  refine Grow.cd_load (b := !((((((((!(a.kind == m.kind) || !(a.frm == m.frm)) || !(a.to == m.to)) || !(a.part == m.part)) || !(a.term == m.term)) || !(a.index == m.index)) || !(a.logTerm == m.logTerm)) || !(a.commit == m.commit)))) rfl (fun w => by kernel_rfl) (.inr ⟨54, 60, true, ((((((((!(a.kind == m.kind) || !(a.frm == m.frm)) || !(a.to == m.to)) || !(a.part == m.part)) || !(a.term == m.term)) || !(a.index == m.index)) || !(a.logTerm == m.logTerm)) || !(a.commit == m.commit))), rfl, rfl, rfl, by decide, rfl⟩) (.inr rfl) (Grow.Is.stays _) ?_
  refine Grow.cd_bin (c := .bool (!(a.ok == m.ok))) (b := !((((((((!(a.kind == m.kind) || !(a.frm == m.frm)) || !(a.to == m.to)) || !(a.part == m.part)) || !(a.term == m.term)) || !(a.index == m.index)) || !(a.logTerm == m.logTerm)) || !(a.commit == m.commit)))) rfl (.inr ⟨54, 60, true, ((((((((!(a.kind == m.kind) || !(a.frm == m.frm)) || !(a.to == m.to)) || !(a.part == m.part)) || !(a.term == m.term)) || !(a.index == m.index)) || !(a.logTerm == m.logTerm)) || !(a.commit == m.commit))), rfl, rfl, rfl, by decide, rfl⟩) (.inr rfl) (.inr rfl) (fun w => Grow.run_with_guard (by simp) (by simp) (run_neq_bool w _ _ _ Tryz.underlying4)) ?_
  refine Grow.pick_or (x := (((((((!(a.kind == m.kind) || !(a.frm == m.frm)) || !(a.to == m.to)) || !(a.part == m.part)) || !(a.term == m.term)) || !(a.index == m.index)) || !(a.logTerm == m.logTerm)) || !(a.commit == m.commit))) rfl rfl rfl (.inr rfl) ?_
  refine Grow.grow_mv (.inl rfl) (.inl ⟨rfl, rfl⟩) rfl ?_
  refine Grow.cd_field (j := 14) (u := .int .i64 a.ses) (Ψ := Grow.Is (.int .i64 a.ses)) (b := !(((((((((!(a.kind == m.kind) || !(a.frm == m.frm)) || !(a.to == m.to)) || !(a.part == m.part)) || !(a.term == m.term)) || !(a.index == m.index)) || !(a.logTerm == m.logTerm)) || !(a.commit == m.commit)) || !(a.ok == m.ok)))) rfl (.inr ⟨61, 67, true, (((((((((!(a.kind == m.kind) || !(a.frm == m.frm)) || !(a.to == m.to)) || !(a.part == m.part)) || !(a.term == m.term)) || !(a.index == m.index)) || !(a.logTerm == m.logTerm)) || !(a.commit == m.commit)) || !(a.ok == m.ok))), rfl, rfl, rfl, by decide, rfl⟩) (.inl rfl) (fun w => by kernel_rfl) rfl (Grow.Is.stays _) (fun _ _ => rfl) ?_
  refine Grow.cd_load (b := !(((((((((!(a.kind == m.kind) || !(a.frm == m.frm)) || !(a.to == m.to)) || !(a.part == m.part)) || !(a.term == m.term)) || !(a.index == m.index)) || !(a.logTerm == m.logTerm)) || !(a.commit == m.commit)) || !(a.ok == m.ok)))) rfl (fun w => by kernel_rfl) (.inr ⟨61, 67, true, (((((((((!(a.kind == m.kind) || !(a.frm == m.frm)) || !(a.to == m.to)) || !(a.part == m.part)) || !(a.term == m.term)) || !(a.index == m.index)) || !(a.logTerm == m.logTerm)) || !(a.commit == m.commit)) || !(a.ok == m.ok))), rfl, rfl, rfl, by decide, rfl⟩) (.inr rfl) (Grow.Is.stays _) ?_
  refine Grow.cd_field (j := 14) (u := .int .i64 m.ses) (Ψ := Grow.Is (.int .i64 m.ses)) (b := !(((((((((!(a.kind == m.kind) || !(a.frm == m.frm)) || !(a.to == m.to)) || !(a.part == m.part)) || !(a.term == m.term)) || !(a.index == m.index)) || !(a.logTerm == m.logTerm)) || !(a.commit == m.commit)) || !(a.ok == m.ok)))) rfl (.inr ⟨61, 67, true, (((((((((!(a.kind == m.kind) || !(a.frm == m.frm)) || !(a.to == m.to)) || !(a.part == m.part)) || !(a.term == m.term)) || !(a.index == m.index)) || !(a.logTerm == m.logTerm)) || !(a.commit == m.commit)) || !(a.ok == m.ok))), rfl, rfl, rfl, by decide, rfl⟩) (.inl rfl) (fun w => by kernel_rfl) rfl (Grow.Is.stays _) (fun _ _ => rfl) ?_
  refine Grow.cd_load (b := !(((((((((!(a.kind == m.kind) || !(a.frm == m.frm)) || !(a.to == m.to)) || !(a.part == m.part)) || !(a.term == m.term)) || !(a.index == m.index)) || !(a.logTerm == m.logTerm)) || !(a.commit == m.commit)) || !(a.ok == m.ok)))) rfl (fun w => by kernel_rfl) (.inr ⟨61, 67, true, (((((((((!(a.kind == m.kind) || !(a.frm == m.frm)) || !(a.to == m.to)) || !(a.part == m.part)) || !(a.term == m.term)) || !(a.index == m.index)) || !(a.logTerm == m.logTerm)) || !(a.commit == m.commit)) || !(a.ok == m.ok))), rfl, rfl, rfl, by decide, rfl⟩) (.inr rfl) (Grow.Is.stays _) ?_
  refine Grow.cd_int (c := .bool (!(a.ses == m.ses))) (b := !(((((((((!(a.kind == m.kind) || !(a.frm == m.frm)) || !(a.to == m.to)) || !(a.part == m.part)) || !(a.term == m.term)) || !(a.index == m.index)) || !(a.logTerm == m.logTerm)) || !(a.commit == m.commit)) || !(a.ok == m.ok)))) rfl (.inr ⟨61, 67, true, (((((((((!(a.kind == m.kind) || !(a.frm == m.frm)) || !(a.to == m.to)) || !(a.part == m.part)) || !(a.term == m.term)) || !(a.index == m.index)) || !(a.logTerm == m.logTerm)) || !(a.commit == m.commit)) || !(a.ok == m.ok))), rfl, rfl, rfl, by decide, rfl⟩) (.inr rfl) (.inr rfl) (by rw [show binOp .neq _ _ _ = pure (.bool (!(a.ses == m.ses))) from rfl]) ?_
  refine Grow.pick_or (x := ((((((((!(a.kind == m.kind) || !(a.frm == m.frm)) || !(a.to == m.to)) || !(a.part == m.part)) || !(a.term == m.term)) || !(a.index == m.index)) || !(a.logTerm == m.logTerm)) || !(a.commit == m.commit)) || !(a.ok == m.ok))) rfl rfl rfl (.inr rfl) ?_
  refine Grow.grow_mv (.inl rfl) (.inl ⟨rfl, rfl⟩) rfl ?_
  refine Grow.cd_field (j := 15) (u := .int .i64 a.seq) (Ψ := Grow.Is (.int .i64 a.seq)) (b := !((((((((((!(a.kind == m.kind) || !(a.frm == m.frm)) || !(a.to == m.to)) || !(a.part == m.part)) || !(a.term == m.term)) || !(a.index == m.index)) || !(a.logTerm == m.logTerm)) || !(a.commit == m.commit)) || !(a.ok == m.ok)) || !(a.ses == m.ses)))) rfl (.inr ⟨68, 74, true, ((((((((((!(a.kind == m.kind) || !(a.frm == m.frm)) || !(a.to == m.to)) || !(a.part == m.part)) || !(a.term == m.term)) || !(a.index == m.index)) || !(a.logTerm == m.logTerm)) || !(a.commit == m.commit)) || !(a.ok == m.ok)) || !(a.ses == m.ses))), rfl, rfl, rfl, by decide, rfl⟩) (.inl rfl) (fun w => by kernel_rfl) rfl (Grow.Is.stays _) (fun _ _ => rfl) ?_
  refine Grow.cd_load (b := !((((((((((!(a.kind == m.kind) || !(a.frm == m.frm)) || !(a.to == m.to)) || !(a.part == m.part)) || !(a.term == m.term)) || !(a.index == m.index)) || !(a.logTerm == m.logTerm)) || !(a.commit == m.commit)) || !(a.ok == m.ok)) || !(a.ses == m.ses)))) rfl (fun w => by kernel_rfl) (.inr ⟨68, 74, true, ((((((((((!(a.kind == m.kind) || !(a.frm == m.frm)) || !(a.to == m.to)) || !(a.part == m.part)) || !(a.term == m.term)) || !(a.index == m.index)) || !(a.logTerm == m.logTerm)) || !(a.commit == m.commit)) || !(a.ok == m.ok)) || !(a.ses == m.ses))), rfl, rfl, rfl, by decide, rfl⟩) (.inr rfl) (Grow.Is.stays _) ?_
  refine Grow.cd_field (j := 15) (u := .int .i64 m.seq) (Ψ := Grow.Is (.int .i64 m.seq)) (b := !((((((((((!(a.kind == m.kind) || !(a.frm == m.frm)) || !(a.to == m.to)) || !(a.part == m.part)) || !(a.term == m.term)) || !(a.index == m.index)) || !(a.logTerm == m.logTerm)) || !(a.commit == m.commit)) || !(a.ok == m.ok)) || !(a.ses == m.ses)))) rfl (.inr ⟨68, 74, true, ((((((((((!(a.kind == m.kind) || !(a.frm == m.frm)) || !(a.to == m.to)) || !(a.part == m.part)) || !(a.term == m.term)) || !(a.index == m.index)) || !(a.logTerm == m.logTerm)) || !(a.commit == m.commit)) || !(a.ok == m.ok)) || !(a.ses == m.ses))), rfl, rfl, rfl, by decide, rfl⟩) (.inl rfl) (fun w => by kernel_rfl) rfl (Grow.Is.stays _) (fun _ _ => rfl) ?_
  refine Grow.cd_load (b := !((((((((((!(a.kind == m.kind) || !(a.frm == m.frm)) || !(a.to == m.to)) || !(a.part == m.part)) || !(a.term == m.term)) || !(a.index == m.index)) || !(a.logTerm == m.logTerm)) || !(a.commit == m.commit)) || !(a.ok == m.ok)) || !(a.ses == m.ses)))) rfl (fun w => by kernel_rfl) (.inr ⟨68, 74, true, ((((((((((!(a.kind == m.kind) || !(a.frm == m.frm)) || !(a.to == m.to)) || !(a.part == m.part)) || !(a.term == m.term)) || !(a.index == m.index)) || !(a.logTerm == m.logTerm)) || !(a.commit == m.commit)) || !(a.ok == m.ok)) || !(a.ses == m.ses))), rfl, rfl, rfl, by decide, rfl⟩) (.inr rfl) (Grow.Is.stays _) ?_
  refine Grow.cd_int (c := .bool (!(a.seq == m.seq))) (b := !((((((((((!(a.kind == m.kind) || !(a.frm == m.frm)) || !(a.to == m.to)) || !(a.part == m.part)) || !(a.term == m.term)) || !(a.index == m.index)) || !(a.logTerm == m.logTerm)) || !(a.commit == m.commit)) || !(a.ok == m.ok)) || !(a.ses == m.ses)))) rfl (.inr ⟨68, 74, true, ((((((((((!(a.kind == m.kind) || !(a.frm == m.frm)) || !(a.to == m.to)) || !(a.part == m.part)) || !(a.term == m.term)) || !(a.index == m.index)) || !(a.logTerm == m.logTerm)) || !(a.commit == m.commit)) || !(a.ok == m.ok)) || !(a.ses == m.ses))), rfl, rfl, rfl, by decide, rfl⟩) (.inr rfl) (.inr rfl) (by rw [show binOp .neq _ _ _ = pure (.bool (!(a.seq == m.seq))) from rfl]) ?_
  refine Grow.pick_or (x := (((((((((!(a.kind == m.kind) || !(a.frm == m.frm)) || !(a.to == m.to)) || !(a.part == m.part)) || !(a.term == m.term)) || !(a.index == m.index)) || !(a.logTerm == m.logTerm)) || !(a.commit == m.commit)) || !(a.ok == m.ok)) || !(a.ses == m.ses))) rfl rfl rfl (.inr rfl) ?_
  refine Grow.grow_mv (.inl rfl) (.inl ⟨rfl, rfl⟩) rfl ?_
  refine Grow.cd_field (j := 16) (u := .int .i64 a.pos) (Ψ := Grow.Is (.int .i64 a.pos)) (b := !(((((((((((!(a.kind == m.kind) || !(a.frm == m.frm)) || !(a.to == m.to)) || !(a.part == m.part)) || !(a.term == m.term)) || !(a.index == m.index)) || !(a.logTerm == m.logTerm)) || !(a.commit == m.commit)) || !(a.ok == m.ok)) || !(a.ses == m.ses)) || !(a.seq == m.seq)))) rfl (.inr ⟨75, 81, true, (((((((((((!(a.kind == m.kind) || !(a.frm == m.frm)) || !(a.to == m.to)) || !(a.part == m.part)) || !(a.term == m.term)) || !(a.index == m.index)) || !(a.logTerm == m.logTerm)) || !(a.commit == m.commit)) || !(a.ok == m.ok)) || !(a.ses == m.ses)) || !(a.seq == m.seq))), rfl, rfl, rfl, by decide, rfl⟩) (.inl rfl) (fun w => by kernel_rfl) rfl (Grow.Is.stays _) (fun _ _ => rfl) ?_
  refine Grow.cd_load (b := !(((((((((((!(a.kind == m.kind) || !(a.frm == m.frm)) || !(a.to == m.to)) || !(a.part == m.part)) || !(a.term == m.term)) || !(a.index == m.index)) || !(a.logTerm == m.logTerm)) || !(a.commit == m.commit)) || !(a.ok == m.ok)) || !(a.ses == m.ses)) || !(a.seq == m.seq)))) rfl (fun w => by kernel_rfl) (.inr ⟨75, 81, true, (((((((((((!(a.kind == m.kind) || !(a.frm == m.frm)) || !(a.to == m.to)) || !(a.part == m.part)) || !(a.term == m.term)) || !(a.index == m.index)) || !(a.logTerm == m.logTerm)) || !(a.commit == m.commit)) || !(a.ok == m.ok)) || !(a.ses == m.ses)) || !(a.seq == m.seq))), rfl, rfl, rfl, by decide, rfl⟩) (.inr rfl) (Grow.Is.stays _) ?_
  refine Grow.cd_field (j := 16) (u := .int .i64 m.pos) (Ψ := Grow.Is (.int .i64 m.pos)) (b := !(((((((((((!(a.kind == m.kind) || !(a.frm == m.frm)) || !(a.to == m.to)) || !(a.part == m.part)) || !(a.term == m.term)) || !(a.index == m.index)) || !(a.logTerm == m.logTerm)) || !(a.commit == m.commit)) || !(a.ok == m.ok)) || !(a.ses == m.ses)) || !(a.seq == m.seq)))) rfl (.inr ⟨75, 81, true, (((((((((((!(a.kind == m.kind) || !(a.frm == m.frm)) || !(a.to == m.to)) || !(a.part == m.part)) || !(a.term == m.term)) || !(a.index == m.index)) || !(a.logTerm == m.logTerm)) || !(a.commit == m.commit)) || !(a.ok == m.ok)) || !(a.ses == m.ses)) || !(a.seq == m.seq))), rfl, rfl, rfl, by decide, rfl⟩) (.inl rfl) (fun w => by kernel_rfl) rfl (Grow.Is.stays _) (fun _ _ => rfl) ?_
  refine Grow.cd_load (b := !(((((((((((!(a.kind == m.kind) || !(a.frm == m.frm)) || !(a.to == m.to)) || !(a.part == m.part)) || !(a.term == m.term)) || !(a.index == m.index)) || !(a.logTerm == m.logTerm)) || !(a.commit == m.commit)) || !(a.ok == m.ok)) || !(a.ses == m.ses)) || !(a.seq == m.seq)))) rfl (fun w => by kernel_rfl) (.inr ⟨75, 81, true, (((((((((((!(a.kind == m.kind) || !(a.frm == m.frm)) || !(a.to == m.to)) || !(a.part == m.part)) || !(a.term == m.term)) || !(a.index == m.index)) || !(a.logTerm == m.logTerm)) || !(a.commit == m.commit)) || !(a.ok == m.ok)) || !(a.ses == m.ses)) || !(a.seq == m.seq))), rfl, rfl, rfl, by decide, rfl⟩) (.inr rfl) (Grow.Is.stays _) ?_
  refine Grow.cd_int (c := .bool (!(a.pos == m.pos))) (b := !(((((((((((!(a.kind == m.kind) || !(a.frm == m.frm)) || !(a.to == m.to)) || !(a.part == m.part)) || !(a.term == m.term)) || !(a.index == m.index)) || !(a.logTerm == m.logTerm)) || !(a.commit == m.commit)) || !(a.ok == m.ok)) || !(a.ses == m.ses)) || !(a.seq == m.seq)))) rfl (.inr ⟨75, 81, true, (((((((((((!(a.kind == m.kind) || !(a.frm == m.frm)) || !(a.to == m.to)) || !(a.part == m.part)) || !(a.term == m.term)) || !(a.index == m.index)) || !(a.logTerm == m.logTerm)) || !(a.commit == m.commit)) || !(a.ok == m.ok)) || !(a.ses == m.ses)) || !(a.seq == m.seq))), rfl, rfl, rfl, by decide, rfl⟩) (.inr rfl) (.inr rfl) (by rw [show binOp .neq _ _ _ = pure (.bool (!(a.pos == m.pos))) from rfl]) ?_
  refine Grow.pick_or (x := ((((((((((!(a.kind == m.kind) || !(a.frm == m.frm)) || !(a.to == m.to)) || !(a.part == m.part)) || !(a.term == m.term)) || !(a.index == m.index)) || !(a.logTerm == m.logTerm)) || !(a.commit == m.commit)) || !(a.ok == m.ok)) || !(a.ses == m.ses)) || !(a.seq == m.seq))) rfl rfl rfl (.inr rfl) ?_
  refine Grow.grow_mv (.inl rfl) (.inl ⟨rfl, rfl⟩) rfl ?_
  refine Grow.cd_field (j := 17) (u := .int .i64 a.shard) (Ψ := Grow.Is (.int .i64 a.shard)) (b := !((((((((((((!(a.kind == m.kind) || !(a.frm == m.frm)) || !(a.to == m.to)) || !(a.part == m.part)) || !(a.term == m.term)) || !(a.index == m.index)) || !(a.logTerm == m.logTerm)) || !(a.commit == m.commit)) || !(a.ok == m.ok)) || !(a.ses == m.ses)) || !(a.seq == m.seq)) || !(a.pos == m.pos)))) rfl (.inr ⟨82, 88, true, ((((((((((((!(a.kind == m.kind) || !(a.frm == m.frm)) || !(a.to == m.to)) || !(a.part == m.part)) || !(a.term == m.term)) || !(a.index == m.index)) || !(a.logTerm == m.logTerm)) || !(a.commit == m.commit)) || !(a.ok == m.ok)) || !(a.ses == m.ses)) || !(a.seq == m.seq)) || !(a.pos == m.pos))), rfl, rfl, rfl, by decide, rfl⟩) (.inl rfl) (fun w => by kernel_rfl) rfl (Grow.Is.stays _) (fun _ _ => rfl) ?_
  refine Grow.cd_load (b := !((((((((((((!(a.kind == m.kind) || !(a.frm == m.frm)) || !(a.to == m.to)) || !(a.part == m.part)) || !(a.term == m.term)) || !(a.index == m.index)) || !(a.logTerm == m.logTerm)) || !(a.commit == m.commit)) || !(a.ok == m.ok)) || !(a.ses == m.ses)) || !(a.seq == m.seq)) || !(a.pos == m.pos)))) rfl (fun w => by kernel_rfl) (.inr ⟨82, 88, true, ((((((((((((!(a.kind == m.kind) || !(a.frm == m.frm)) || !(a.to == m.to)) || !(a.part == m.part)) || !(a.term == m.term)) || !(a.index == m.index)) || !(a.logTerm == m.logTerm)) || !(a.commit == m.commit)) || !(a.ok == m.ok)) || !(a.ses == m.ses)) || !(a.seq == m.seq)) || !(a.pos == m.pos))), rfl, rfl, rfl, by decide, rfl⟩) (.inr rfl) (Grow.Is.stays _) ?_
  refine Grow.cd_field (j := 17) (u := .int .i64 m.shard) (Ψ := Grow.Is (.int .i64 m.shard)) (b := !((((((((((((!(a.kind == m.kind) || !(a.frm == m.frm)) || !(a.to == m.to)) || !(a.part == m.part)) || !(a.term == m.term)) || !(a.index == m.index)) || !(a.logTerm == m.logTerm)) || !(a.commit == m.commit)) || !(a.ok == m.ok)) || !(a.ses == m.ses)) || !(a.seq == m.seq)) || !(a.pos == m.pos)))) rfl (.inr ⟨82, 88, true, ((((((((((((!(a.kind == m.kind) || !(a.frm == m.frm)) || !(a.to == m.to)) || !(a.part == m.part)) || !(a.term == m.term)) || !(a.index == m.index)) || !(a.logTerm == m.logTerm)) || !(a.commit == m.commit)) || !(a.ok == m.ok)) || !(a.ses == m.ses)) || !(a.seq == m.seq)) || !(a.pos == m.pos))), rfl, rfl, rfl, by decide, rfl⟩) (.inl rfl) (fun w => by kernel_rfl) rfl (Grow.Is.stays _) (fun _ _ => rfl) ?_
  refine Grow.cd_load (b := !((((((((((((!(a.kind == m.kind) || !(a.frm == m.frm)) || !(a.to == m.to)) || !(a.part == m.part)) || !(a.term == m.term)) || !(a.index == m.index)) || !(a.logTerm == m.logTerm)) || !(a.commit == m.commit)) || !(a.ok == m.ok)) || !(a.ses == m.ses)) || !(a.seq == m.seq)) || !(a.pos == m.pos)))) rfl (fun w => by kernel_rfl) (.inr ⟨82, 88, true, ((((((((((((!(a.kind == m.kind) || !(a.frm == m.frm)) || !(a.to == m.to)) || !(a.part == m.part)) || !(a.term == m.term)) || !(a.index == m.index)) || !(a.logTerm == m.logTerm)) || !(a.commit == m.commit)) || !(a.ok == m.ok)) || !(a.ses == m.ses)) || !(a.seq == m.seq)) || !(a.pos == m.pos))), rfl, rfl, rfl, by decide, rfl⟩) (.inr rfl) (Grow.Is.stays _) ?_
  refine Grow.cd_int (c := .bool (!(a.shard == m.shard))) (b := !((((((((((((!(a.kind == m.kind) || !(a.frm == m.frm)) || !(a.to == m.to)) || !(a.part == m.part)) || !(a.term == m.term)) || !(a.index == m.index)) || !(a.logTerm == m.logTerm)) || !(a.commit == m.commit)) || !(a.ok == m.ok)) || !(a.ses == m.ses)) || !(a.seq == m.seq)) || !(a.pos == m.pos)))) rfl (.inr ⟨82, 88, true, ((((((((((((!(a.kind == m.kind) || !(a.frm == m.frm)) || !(a.to == m.to)) || !(a.part == m.part)) || !(a.term == m.term)) || !(a.index == m.index)) || !(a.logTerm == m.logTerm)) || !(a.commit == m.commit)) || !(a.ok == m.ok)) || !(a.ses == m.ses)) || !(a.seq == m.seq)) || !(a.pos == m.pos))), rfl, rfl, rfl, by decide, rfl⟩) (.inr rfl) (.inr rfl) (by rw [show binOp .neq _ _ _ = pure (.bool (!(a.shard == m.shard))) from rfl]) ?_
  refine Grow.pick_or (x := (((((((((((!(a.kind == m.kind) || !(a.frm == m.frm)) || !(a.to == m.to)) || !(a.part == m.part)) || !(a.term == m.term)) || !(a.index == m.index)) || !(a.logTerm == m.logTerm)) || !(a.commit == m.commit)) || !(a.ok == m.ok)) || !(a.ses == m.ses)) || !(a.seq == m.seq)) || !(a.pos == m.pos))) rfl rfl rfl (.inr rfl) ?_
  refine Grow.grow_mv (.inl rfl) (.inl ⟨rfl, rfl⟩) rfl ?_
  refine Grow.cd_field (j := 18) (u := .bool a.span) (Ψ := Grow.Is (.bool a.span)) (b := !(((((((((((((!(a.kind == m.kind) || !(a.frm == m.frm)) || !(a.to == m.to)) || !(a.part == m.part)) || !(a.term == m.term)) || !(a.index == m.index)) || !(a.logTerm == m.logTerm)) || !(a.commit == m.commit)) || !(a.ok == m.ok)) || !(a.ses == m.ses)) || !(a.seq == m.seq)) || !(a.pos == m.pos)) || !(a.shard == m.shard)))) rfl (.inr ⟨89, 95, true, (((((((((((((!(a.kind == m.kind) || !(a.frm == m.frm)) || !(a.to == m.to)) || !(a.part == m.part)) || !(a.term == m.term)) || !(a.index == m.index)) || !(a.logTerm == m.logTerm)) || !(a.commit == m.commit)) || !(a.ok == m.ok)) || !(a.ses == m.ses)) || !(a.seq == m.seq)) || !(a.pos == m.pos)) || !(a.shard == m.shard))), rfl, rfl, rfl, by decide, rfl⟩) (.inl rfl) (fun w => by kernel_rfl) rfl (Grow.Is.stays _) (fun _ _ => rfl) ?_
  refine Grow.cd_load (b := !(((((((((((((!(a.kind == m.kind) || !(a.frm == m.frm)) || !(a.to == m.to)) || !(a.part == m.part)) || !(a.term == m.term)) || !(a.index == m.index)) || !(a.logTerm == m.logTerm)) || !(a.commit == m.commit)) || !(a.ok == m.ok)) || !(a.ses == m.ses)) || !(a.seq == m.seq)) || !(a.pos == m.pos)) || !(a.shard == m.shard)))) rfl (fun w => by kernel_rfl) (.inr ⟨89, 95, true, (((((((((((((!(a.kind == m.kind) || !(a.frm == m.frm)) || !(a.to == m.to)) || !(a.part == m.part)) || !(a.term == m.term)) || !(a.index == m.index)) || !(a.logTerm == m.logTerm)) || !(a.commit == m.commit)) || !(a.ok == m.ok)) || !(a.ses == m.ses)) || !(a.seq == m.seq)) || !(a.pos == m.pos)) || !(a.shard == m.shard))), rfl, rfl, rfl, by decide, rfl⟩) (.inr rfl) (Grow.Is.stays _) ?_
  refine Grow.cd_field (j := 18) (u := .bool m.span) (Ψ := Grow.Is (.bool m.span)) (b := !(((((((((((((!(a.kind == m.kind) || !(a.frm == m.frm)) || !(a.to == m.to)) || !(a.part == m.part)) || !(a.term == m.term)) || !(a.index == m.index)) || !(a.logTerm == m.logTerm)) || !(a.commit == m.commit)) || !(a.ok == m.ok)) || !(a.ses == m.ses)) || !(a.seq == m.seq)) || !(a.pos == m.pos)) || !(a.shard == m.shard)))) rfl (.inr ⟨89, 95, true, (((((((((((((!(a.kind == m.kind) || !(a.frm == m.frm)) || !(a.to == m.to)) || !(a.part == m.part)) || !(a.term == m.term)) || !(a.index == m.index)) || !(a.logTerm == m.logTerm)) || !(a.commit == m.commit)) || !(a.ok == m.ok)) || !(a.ses == m.ses)) || !(a.seq == m.seq)) || !(a.pos == m.pos)) || !(a.shard == m.shard))), rfl, rfl, rfl, by decide, rfl⟩) (.inl rfl) (fun w => by kernel_rfl) rfl (Grow.Is.stays _) (fun _ _ => rfl) ?_
  refine Grow.cd_load (b := !(((((((((((((!(a.kind == m.kind) || !(a.frm == m.frm)) || !(a.to == m.to)) || !(a.part == m.part)) || !(a.term == m.term)) || !(a.index == m.index)) || !(a.logTerm == m.logTerm)) || !(a.commit == m.commit)) || !(a.ok == m.ok)) || !(a.ses == m.ses)) || !(a.seq == m.seq)) || !(a.pos == m.pos)) || !(a.shard == m.shard)))) rfl (fun w => by kernel_rfl) (.inr ⟨89, 95, true, (((((((((((((!(a.kind == m.kind) || !(a.frm == m.frm)) || !(a.to == m.to)) || !(a.part == m.part)) || !(a.term == m.term)) || !(a.index == m.index)) || !(a.logTerm == m.logTerm)) || !(a.commit == m.commit)) || !(a.ok == m.ok)) || !(a.ses == m.ses)) || !(a.seq == m.seq)) || !(a.pos == m.pos)) || !(a.shard == m.shard))), rfl, rfl, rfl, by decide, rfl⟩) (.inr rfl) (Grow.Is.stays _) ?_
  refine Grow.cd_bin (c := .bool (!(a.span == m.span))) (b := !(((((((((((((!(a.kind == m.kind) || !(a.frm == m.frm)) || !(a.to == m.to)) || !(a.part == m.part)) || !(a.term == m.term)) || !(a.index == m.index)) || !(a.logTerm == m.logTerm)) || !(a.commit == m.commit)) || !(a.ok == m.ok)) || !(a.ses == m.ses)) || !(a.seq == m.seq)) || !(a.pos == m.pos)) || !(a.shard == m.shard)))) rfl (.inr ⟨89, 95, true, (((((((((((((!(a.kind == m.kind) || !(a.frm == m.frm)) || !(a.to == m.to)) || !(a.part == m.part)) || !(a.term == m.term)) || !(a.index == m.index)) || !(a.logTerm == m.logTerm)) || !(a.commit == m.commit)) || !(a.ok == m.ok)) || !(a.ses == m.ses)) || !(a.seq == m.seq)) || !(a.pos == m.pos)) || !(a.shard == m.shard))), rfl, rfl, rfl, by decide, rfl⟩) (.inr rfl) (.inr rfl) (fun w => Grow.run_with_guard (by simp) (by simp) (run_neq_bool w _ _ _ Tryz.underlying4)) ?_
  refine Grow.pick_or (x := ((((((((((((!(a.kind == m.kind) || !(a.frm == m.frm)) || !(a.to == m.to)) || !(a.part == m.part)) || !(a.term == m.term)) || !(a.index == m.index)) || !(a.logTerm == m.logTerm)) || !(a.commit == m.commit)) || !(a.ok == m.ok)) || !(a.ses == m.ses)) || !(a.seq == m.seq)) || !(a.pos == m.pos)) || !(a.shard == m.shard))) rfl rfl rfl (.inr rfl) ?_
  refine Grow.grow_mv (.inl rfl) (.inl ⟨rfl, rfl⟩) rfl ?_
  refine Grow.cd_field (j := 19) (u := .string a.fromKey) (Ψ := Grow.Is (.string a.fromKey)) (b := !((((((((((((((!(a.kind == m.kind) || !(a.frm == m.frm)) || !(a.to == m.to)) || !(a.part == m.part)) || !(a.term == m.term)) || !(a.index == m.index)) || !(a.logTerm == m.logTerm)) || !(a.commit == m.commit)) || !(a.ok == m.ok)) || !(a.ses == m.ses)) || !(a.seq == m.seq)) || !(a.pos == m.pos)) || !(a.shard == m.shard)) || !(a.span == m.span)))) rfl (.inr ⟨96, 102, true, ((((((((((((((!(a.kind == m.kind) || !(a.frm == m.frm)) || !(a.to == m.to)) || !(a.part == m.part)) || !(a.term == m.term)) || !(a.index == m.index)) || !(a.logTerm == m.logTerm)) || !(a.commit == m.commit)) || !(a.ok == m.ok)) || !(a.ses == m.ses)) || !(a.seq == m.seq)) || !(a.pos == m.pos)) || !(a.shard == m.shard)) || !(a.span == m.span))), rfl, rfl, rfl, by decide, rfl⟩) (.inl rfl) (fun w => by kernel_rfl) rfl (Grow.Is.stays _) (fun _ _ => rfl) ?_
  refine Grow.cd_load (b := !((((((((((((((!(a.kind == m.kind) || !(a.frm == m.frm)) || !(a.to == m.to)) || !(a.part == m.part)) || !(a.term == m.term)) || !(a.index == m.index)) || !(a.logTerm == m.logTerm)) || !(a.commit == m.commit)) || !(a.ok == m.ok)) || !(a.ses == m.ses)) || !(a.seq == m.seq)) || !(a.pos == m.pos)) || !(a.shard == m.shard)) || !(a.span == m.span)))) rfl (fun w => by kernel_rfl) (.inr ⟨96, 102, true, ((((((((((((((!(a.kind == m.kind) || !(a.frm == m.frm)) || !(a.to == m.to)) || !(a.part == m.part)) || !(a.term == m.term)) || !(a.index == m.index)) || !(a.logTerm == m.logTerm)) || !(a.commit == m.commit)) || !(a.ok == m.ok)) || !(a.ses == m.ses)) || !(a.seq == m.seq)) || !(a.pos == m.pos)) || !(a.shard == m.shard)) || !(a.span == m.span))), rfl, rfl, rfl, by decide, rfl⟩) (.inr rfl) (Grow.Is.stays _) ?_
  refine Grow.cd_field (j := 19) (u := .string m.fromKey) (Ψ := Grow.Is (.string m.fromKey)) (b := !((((((((((((((!(a.kind == m.kind) || !(a.frm == m.frm)) || !(a.to == m.to)) || !(a.part == m.part)) || !(a.term == m.term)) || !(a.index == m.index)) || !(a.logTerm == m.logTerm)) || !(a.commit == m.commit)) || !(a.ok == m.ok)) || !(a.ses == m.ses)) || !(a.seq == m.seq)) || !(a.pos == m.pos)) || !(a.shard == m.shard)) || !(a.span == m.span)))) rfl (.inr ⟨96, 102, true, ((((((((((((((!(a.kind == m.kind) || !(a.frm == m.frm)) || !(a.to == m.to)) || !(a.part == m.part)) || !(a.term == m.term)) || !(a.index == m.index)) || !(a.logTerm == m.logTerm)) || !(a.commit == m.commit)) || !(a.ok == m.ok)) || !(a.ses == m.ses)) || !(a.seq == m.seq)) || !(a.pos == m.pos)) || !(a.shard == m.shard)) || !(a.span == m.span))), rfl, rfl, rfl, by decide, rfl⟩) (.inl rfl) (fun w => by kernel_rfl) rfl (Grow.Is.stays _) (fun _ _ => rfl) ?_
  refine Grow.cd_load (b := !((((((((((((((!(a.kind == m.kind) || !(a.frm == m.frm)) || !(a.to == m.to)) || !(a.part == m.part)) || !(a.term == m.term)) || !(a.index == m.index)) || !(a.logTerm == m.logTerm)) || !(a.commit == m.commit)) || !(a.ok == m.ok)) || !(a.ses == m.ses)) || !(a.seq == m.seq)) || !(a.pos == m.pos)) || !(a.shard == m.shard)) || !(a.span == m.span)))) rfl (fun w => by kernel_rfl) (.inr ⟨96, 102, true, ((((((((((((((!(a.kind == m.kind) || !(a.frm == m.frm)) || !(a.to == m.to)) || !(a.part == m.part)) || !(a.term == m.term)) || !(a.index == m.index)) || !(a.logTerm == m.logTerm)) || !(a.commit == m.commit)) || !(a.ok == m.ok)) || !(a.ses == m.ses)) || !(a.seq == m.seq)) || !(a.pos == m.pos)) || !(a.shard == m.shard)) || !(a.span == m.span))), rfl, rfl, rfl, by decide, rfl⟩) (.inr rfl) (Grow.Is.stays _) ?_
  refine Grow.cd_bin (c := .bool (!(decide (a.fromKey = m.fromKey)))) (b := !((((((((((((((!(a.kind == m.kind) || !(a.frm == m.frm)) || !(a.to == m.to)) || !(a.part == m.part)) || !(a.term == m.term)) || !(a.index == m.index)) || !(a.logTerm == m.logTerm)) || !(a.commit == m.commit)) || !(a.ok == m.ok)) || !(a.ses == m.ses)) || !(a.seq == m.seq)) || !(a.pos == m.pos)) || !(a.shard == m.shard)) || !(a.span == m.span)))) rfl (.inr ⟨96, 102, true, ((((((((((((((!(a.kind == m.kind) || !(a.frm == m.frm)) || !(a.to == m.to)) || !(a.part == m.part)) || !(a.term == m.term)) || !(a.index == m.index)) || !(a.logTerm == m.logTerm)) || !(a.commit == m.commit)) || !(a.ok == m.ok)) || !(a.ses == m.ses)) || !(a.seq == m.seq)) || !(a.pos == m.pos)) || !(a.shard == m.shard)) || !(a.span == m.span))), rfl, rfl, rfl, by decide, rfl⟩) (.inr rfl) (.inr rfl) (fun w => Grow.run_with_guard (by simp) (by simp) (by rw [binOp_string_neq, Grow.str_eq]; rfl)) ?_
  refine Grow.pick_or (x := (((((((((((((!(a.kind == m.kind) || !(a.frm == m.frm)) || !(a.to == m.to)) || !(a.part == m.part)) || !(a.term == m.term)) || !(a.index == m.index)) || !(a.logTerm == m.logTerm)) || !(a.commit == m.commit)) || !(a.ok == m.ok)) || !(a.ses == m.ses)) || !(a.seq == m.seq)) || !(a.pos == m.pos)) || !(a.shard == m.shard)) || !(a.span == m.span))) rfl rfl rfl (.inr rfl) ?_
  refine Grow.grow_mv (.inl rfl) (.inl ⟨rfl, rfl⟩) rfl ?_
  refine Grow.cd_field (j := 20) (u := .string a.toKey) (Ψ := Grow.Is (.string a.toKey)) (b := !(((((((((((((((!(a.kind == m.kind) || !(a.frm == m.frm)) || !(a.to == m.to)) || !(a.part == m.part)) || !(a.term == m.term)) || !(a.index == m.index)) || !(a.logTerm == m.logTerm)) || !(a.commit == m.commit)) || !(a.ok == m.ok)) || !(a.ses == m.ses)) || !(a.seq == m.seq)) || !(a.pos == m.pos)) || !(a.shard == m.shard)) || !(a.span == m.span)) || !(decide (a.fromKey = m.fromKey))))) rfl (.inr ⟨103, 109, true, (((((((((((((((!(a.kind == m.kind) || !(a.frm == m.frm)) || !(a.to == m.to)) || !(a.part == m.part)) || !(a.term == m.term)) || !(a.index == m.index)) || !(a.logTerm == m.logTerm)) || !(a.commit == m.commit)) || !(a.ok == m.ok)) || !(a.ses == m.ses)) || !(a.seq == m.seq)) || !(a.pos == m.pos)) || !(a.shard == m.shard)) || !(a.span == m.span)) || !(decide (a.fromKey = m.fromKey)))), rfl, rfl, rfl, by decide, rfl⟩) (.inl rfl) (fun w => by kernel_rfl) rfl (Grow.Is.stays _) (fun _ _ => rfl) ?_
  refine Grow.cd_load (b := !(((((((((((((((!(a.kind == m.kind) || !(a.frm == m.frm)) || !(a.to == m.to)) || !(a.part == m.part)) || !(a.term == m.term)) || !(a.index == m.index)) || !(a.logTerm == m.logTerm)) || !(a.commit == m.commit)) || !(a.ok == m.ok)) || !(a.ses == m.ses)) || !(a.seq == m.seq)) || !(a.pos == m.pos)) || !(a.shard == m.shard)) || !(a.span == m.span)) || !(decide (a.fromKey = m.fromKey))))) rfl (fun w => by kernel_rfl) (.inr ⟨103, 109, true, (((((((((((((((!(a.kind == m.kind) || !(a.frm == m.frm)) || !(a.to == m.to)) || !(a.part == m.part)) || !(a.term == m.term)) || !(a.index == m.index)) || !(a.logTerm == m.logTerm)) || !(a.commit == m.commit)) || !(a.ok == m.ok)) || !(a.ses == m.ses)) || !(a.seq == m.seq)) || !(a.pos == m.pos)) || !(a.shard == m.shard)) || !(a.span == m.span)) || !(decide (a.fromKey = m.fromKey)))), rfl, rfl, rfl, by decide, rfl⟩) (.inr rfl) (Grow.Is.stays _) ?_
  refine Grow.cd_field (j := 20) (u := .string m.toKey) (Ψ := Grow.Is (.string m.toKey)) (b := !(((((((((((((((!(a.kind == m.kind) || !(a.frm == m.frm)) || !(a.to == m.to)) || !(a.part == m.part)) || !(a.term == m.term)) || !(a.index == m.index)) || !(a.logTerm == m.logTerm)) || !(a.commit == m.commit)) || !(a.ok == m.ok)) || !(a.ses == m.ses)) || !(a.seq == m.seq)) || !(a.pos == m.pos)) || !(a.shard == m.shard)) || !(a.span == m.span)) || !(decide (a.fromKey = m.fromKey))))) rfl (.inr ⟨103, 109, true, (((((((((((((((!(a.kind == m.kind) || !(a.frm == m.frm)) || !(a.to == m.to)) || !(a.part == m.part)) || !(a.term == m.term)) || !(a.index == m.index)) || !(a.logTerm == m.logTerm)) || !(a.commit == m.commit)) || !(a.ok == m.ok)) || !(a.ses == m.ses)) || !(a.seq == m.seq)) || !(a.pos == m.pos)) || !(a.shard == m.shard)) || !(a.span == m.span)) || !(decide (a.fromKey = m.fromKey)))), rfl, rfl, rfl, by decide, rfl⟩) (.inl rfl) (fun w => by kernel_rfl) rfl (Grow.Is.stays _) (fun _ _ => rfl) ?_
  refine Grow.cd_load (b := !(((((((((((((((!(a.kind == m.kind) || !(a.frm == m.frm)) || !(a.to == m.to)) || !(a.part == m.part)) || !(a.term == m.term)) || !(a.index == m.index)) || !(a.logTerm == m.logTerm)) || !(a.commit == m.commit)) || !(a.ok == m.ok)) || !(a.ses == m.ses)) || !(a.seq == m.seq)) || !(a.pos == m.pos)) || !(a.shard == m.shard)) || !(a.span == m.span)) || !(decide (a.fromKey = m.fromKey))))) rfl (fun w => by kernel_rfl) (.inr ⟨103, 109, true, (((((((((((((((!(a.kind == m.kind) || !(a.frm == m.frm)) || !(a.to == m.to)) || !(a.part == m.part)) || !(a.term == m.term)) || !(a.index == m.index)) || !(a.logTerm == m.logTerm)) || !(a.commit == m.commit)) || !(a.ok == m.ok)) || !(a.ses == m.ses)) || !(a.seq == m.seq)) || !(a.pos == m.pos)) || !(a.shard == m.shard)) || !(a.span == m.span)) || !(decide (a.fromKey = m.fromKey)))), rfl, rfl, rfl, by decide, rfl⟩) (.inr rfl) (Grow.Is.stays _) ?_
  refine Grow.cd_bin (c := .bool (!(decide (a.toKey = m.toKey)))) (b := !(((((((((((((((!(a.kind == m.kind) || !(a.frm == m.frm)) || !(a.to == m.to)) || !(a.part == m.part)) || !(a.term == m.term)) || !(a.index == m.index)) || !(a.logTerm == m.logTerm)) || !(a.commit == m.commit)) || !(a.ok == m.ok)) || !(a.ses == m.ses)) || !(a.seq == m.seq)) || !(a.pos == m.pos)) || !(a.shard == m.shard)) || !(a.span == m.span)) || !(decide (a.fromKey = m.fromKey))))) rfl (.inr ⟨103, 109, true, (((((((((((((((!(a.kind == m.kind) || !(a.frm == m.frm)) || !(a.to == m.to)) || !(a.part == m.part)) || !(a.term == m.term)) || !(a.index == m.index)) || !(a.logTerm == m.logTerm)) || !(a.commit == m.commit)) || !(a.ok == m.ok)) || !(a.ses == m.ses)) || !(a.seq == m.seq)) || !(a.pos == m.pos)) || !(a.shard == m.shard)) || !(a.span == m.span)) || !(decide (a.fromKey = m.fromKey)))), rfl, rfl, rfl, by decide, rfl⟩) (.inr rfl) (.inr rfl) (fun w => Grow.run_with_guard (by simp) (by simp) (by rw [binOp_string_neq, Grow.str_eq]; rfl)) ?_
  refine Grow.pick_or (x := ((((((((((((((!(a.kind == m.kind) || !(a.frm == m.frm)) || !(a.to == m.to)) || !(a.part == m.part)) || !(a.term == m.term)) || !(a.index == m.index)) || !(a.logTerm == m.logTerm)) || !(a.commit == m.commit)) || !(a.ok == m.ok)) || !(a.ses == m.ses)) || !(a.seq == m.seq)) || !(a.pos == m.pos)) || !(a.shard == m.shard)) || !(a.span == m.span)) || !(decide (a.fromKey = m.fromKey)))) rfl rfl rfl (.inr rfl) ?_
  refine Grow.grow_mv (.inl rfl) (.inl ⟨rfl, rfl⟩) rfl ?_
  refine Grow.cd_field (j := 23) (u := .int .i64 a.err) (Ψ := Grow.Is (.int .i64 a.err)) (b := !((((((((((((((((!(a.kind == m.kind) || !(a.frm == m.frm)) || !(a.to == m.to)) || !(a.part == m.part)) || !(a.term == m.term)) || !(a.index == m.index)) || !(a.logTerm == m.logTerm)) || !(a.commit == m.commit)) || !(a.ok == m.ok)) || !(a.ses == m.ses)) || !(a.seq == m.seq)) || !(a.pos == m.pos)) || !(a.shard == m.shard)) || !(a.span == m.span)) || !(decide (a.fromKey = m.fromKey))) || !(decide (a.toKey = m.toKey))))) rfl (.inr ⟨110, 116, true, ((((((((((((((((!(a.kind == m.kind) || !(a.frm == m.frm)) || !(a.to == m.to)) || !(a.part == m.part)) || !(a.term == m.term)) || !(a.index == m.index)) || !(a.logTerm == m.logTerm)) || !(a.commit == m.commit)) || !(a.ok == m.ok)) || !(a.ses == m.ses)) || !(a.seq == m.seq)) || !(a.pos == m.pos)) || !(a.shard == m.shard)) || !(a.span == m.span)) || !(decide (a.fromKey = m.fromKey))) || !(decide (a.toKey = m.toKey)))), rfl, rfl, rfl, by decide, rfl⟩) (.inl rfl) (fun w => by kernel_rfl) rfl (Grow.Is.stays _) (fun _ _ => rfl) ?_
  refine Grow.cd_load (b := !((((((((((((((((!(a.kind == m.kind) || !(a.frm == m.frm)) || !(a.to == m.to)) || !(a.part == m.part)) || !(a.term == m.term)) || !(a.index == m.index)) || !(a.logTerm == m.logTerm)) || !(a.commit == m.commit)) || !(a.ok == m.ok)) || !(a.ses == m.ses)) || !(a.seq == m.seq)) || !(a.pos == m.pos)) || !(a.shard == m.shard)) || !(a.span == m.span)) || !(decide (a.fromKey = m.fromKey))) || !(decide (a.toKey = m.toKey))))) rfl (fun w => by kernel_rfl) (.inr ⟨110, 116, true, ((((((((((((((((!(a.kind == m.kind) || !(a.frm == m.frm)) || !(a.to == m.to)) || !(a.part == m.part)) || !(a.term == m.term)) || !(a.index == m.index)) || !(a.logTerm == m.logTerm)) || !(a.commit == m.commit)) || !(a.ok == m.ok)) || !(a.ses == m.ses)) || !(a.seq == m.seq)) || !(a.pos == m.pos)) || !(a.shard == m.shard)) || !(a.span == m.span)) || !(decide (a.fromKey = m.fromKey))) || !(decide (a.toKey = m.toKey)))), rfl, rfl, rfl, by decide, rfl⟩) (.inr rfl) (Grow.Is.stays _) ?_
  refine Grow.cd_field (j := 23) (u := .int .i64 m.err) (Ψ := Grow.Is (.int .i64 m.err)) (b := !((((((((((((((((!(a.kind == m.kind) || !(a.frm == m.frm)) || !(a.to == m.to)) || !(a.part == m.part)) || !(a.term == m.term)) || !(a.index == m.index)) || !(a.logTerm == m.logTerm)) || !(a.commit == m.commit)) || !(a.ok == m.ok)) || !(a.ses == m.ses)) || !(a.seq == m.seq)) || !(a.pos == m.pos)) || !(a.shard == m.shard)) || !(a.span == m.span)) || !(decide (a.fromKey = m.fromKey))) || !(decide (a.toKey = m.toKey))))) rfl (.inr ⟨110, 116, true, ((((((((((((((((!(a.kind == m.kind) || !(a.frm == m.frm)) || !(a.to == m.to)) || !(a.part == m.part)) || !(a.term == m.term)) || !(a.index == m.index)) || !(a.logTerm == m.logTerm)) || !(a.commit == m.commit)) || !(a.ok == m.ok)) || !(a.ses == m.ses)) || !(a.seq == m.seq)) || !(a.pos == m.pos)) || !(a.shard == m.shard)) || !(a.span == m.span)) || !(decide (a.fromKey = m.fromKey))) || !(decide (a.toKey = m.toKey)))), rfl, rfl, rfl, by decide, rfl⟩) (.inl rfl) (fun w => by kernel_rfl) rfl (Grow.Is.stays _) (fun _ _ => rfl) ?_
  refine Grow.cd_load (b := !((((((((((((((((!(a.kind == m.kind) || !(a.frm == m.frm)) || !(a.to == m.to)) || !(a.part == m.part)) || !(a.term == m.term)) || !(a.index == m.index)) || !(a.logTerm == m.logTerm)) || !(a.commit == m.commit)) || !(a.ok == m.ok)) || !(a.ses == m.ses)) || !(a.seq == m.seq)) || !(a.pos == m.pos)) || !(a.shard == m.shard)) || !(a.span == m.span)) || !(decide (a.fromKey = m.fromKey))) || !(decide (a.toKey = m.toKey))))) rfl (fun w => by kernel_rfl) (.inr ⟨110, 116, true, ((((((((((((((((!(a.kind == m.kind) || !(a.frm == m.frm)) || !(a.to == m.to)) || !(a.part == m.part)) || !(a.term == m.term)) || !(a.index == m.index)) || !(a.logTerm == m.logTerm)) || !(a.commit == m.commit)) || !(a.ok == m.ok)) || !(a.ses == m.ses)) || !(a.seq == m.seq)) || !(a.pos == m.pos)) || !(a.shard == m.shard)) || !(a.span == m.span)) || !(decide (a.fromKey = m.fromKey))) || !(decide (a.toKey = m.toKey)))), rfl, rfl, rfl, by decide, rfl⟩) (.inr rfl) (Grow.Is.stays _) ?_
  refine Grow.cd_int (c := .bool (!(a.err == m.err))) (b := !((((((((((((((((!(a.kind == m.kind) || !(a.frm == m.frm)) || !(a.to == m.to)) || !(a.part == m.part)) || !(a.term == m.term)) || !(a.index == m.index)) || !(a.logTerm == m.logTerm)) || !(a.commit == m.commit)) || !(a.ok == m.ok)) || !(a.ses == m.ses)) || !(a.seq == m.seq)) || !(a.pos == m.pos)) || !(a.shard == m.shard)) || !(a.span == m.span)) || !(decide (a.fromKey = m.fromKey))) || !(decide (a.toKey = m.toKey))))) rfl (.inr ⟨110, 116, true, ((((((((((((((((!(a.kind == m.kind) || !(a.frm == m.frm)) || !(a.to == m.to)) || !(a.part == m.part)) || !(a.term == m.term)) || !(a.index == m.index)) || !(a.logTerm == m.logTerm)) || !(a.commit == m.commit)) || !(a.ok == m.ok)) || !(a.ses == m.ses)) || !(a.seq == m.seq)) || !(a.pos == m.pos)) || !(a.shard == m.shard)) || !(a.span == m.span)) || !(decide (a.fromKey = m.fromKey))) || !(decide (a.toKey = m.toKey)))), rfl, rfl, rfl, by decide, rfl⟩) (.inr rfl) (.inr rfl) (by rw [show binOp .neq _ _ _ = pure (.bool (!(a.err == m.err))) from rfl]) ?_
  refine Grow.pick_or (x := (((((((((((((((!(a.kind == m.kind) || !(a.frm == m.frm)) || !(a.to == m.to)) || !(a.part == m.part)) || !(a.term == m.term)) || !(a.index == m.index)) || !(a.logTerm == m.logTerm)) || !(a.commit == m.commit)) || !(a.ok == m.ok)) || !(a.ses == m.ses)) || !(a.seq == m.seq)) || !(a.pos == m.pos)) || !(a.shard == m.shard)) || !(a.span == m.span)) || !(decide (a.fromKey = m.fromKey))) || !(decide (a.toKey = m.toKey)))) rfl rfl rfl (.inr rfl) ?_
  intro a1 V hgV0 hsz hdf hun hk
  have k2 := hk 2
  have k3 := hk 3
  have k122 := hk 122
  clear hk hun
  change a1.tmps.getD 2 undef = _ ∧ Bl V w.heap.size 31 (cellsV a eA eC rA rC wA wC kA kC gA gC) at k2
  change a1.tmps.getD 3 undef = _ ∧ Bl V (w.heap.size + 1) 31 (cellsV m fA fC sA sC xA xC lA lC hA hC) at k3
  change a1.tmps.getD 122 undef = _ at k122
  rw [← HD1.out] at k122
  obtain ⟨k2, hb2⟩ := k2
  obtain ⟨k3, hb3⟩ := k3
  have hgV := hgW.trans hgV0
  rw [Grow.lay_frame a1 172 hsz, hdf]
  simp only [List.range, List.range.loop, List.map_cons, List.map_nil, k2, k3, k122]
  clear hsz hdf k2 k3 k122 hbW hbV hgW hgV0 HD1
  change Exit.then _ _ _ { tmps := _, defers := [] } V
  have hgk2 : ∀ w', Gr V w' → w'.cell? ⟨w.heap.size, 21, none⟩ = some (.slice kA a.keys.length kC) := fun w' h => (hb2.gr h).cell 21
  have hgk3 : ∀ w', Gr V w' → w'.cell? ⟨w.heap.size + 1, 21, none⟩ = some (.slice lA m.keys.length lC) := fun w' h => (hb3.gr h).cell 21
  cases d1
  rotate_left
  · have E := hide (HN1.out rfl)
    clear HN1 HN2 HSM HD2 C1 C2 C4 hgk2 hgk3
    go_wp2_with fail
    go_ret
    exact ⟨by rw [E.out]; rfl, hgV⟩
  go_upto_region 3 with (fail)
  refine Grow.wp_region_text 172 [123, 124, 125, 126, 127, 128, 129, 130, 131, 132, 133, 134, 135, 136, 137, 138, 139, 140, 141, 142, 143, 144, 145, 146, 147, 148, 149, 150, 151, 152, 153] rfl (by kernel_rfl) (by kernel_rfl) (Grow.Ahead.more (Grow.Ahead.more (Grow.Ahead.none_ _ _) 2 (Grow.Bx.stays w.heap.size 31 (cellsV a eA eC rA rC wA wC kA kC gA gC)) ⟨rfl, hb2⟩) 3 (Grow.Bx.stays (w.heap.size + 1) 31 (cellsV m fA fC sA sC xA xC lA lC hA hC)) ⟨rfl, hb3⟩) ?_
  refine Grow.grow_field (j := 9) (u := .slice eA a.entries.length eC) (Ψ := EnK a.entries) rfl (.inl ⟨rfl, rfl⟩) rfl (fun w => by kernel_rfl) rfl (EnK.stays _) (fun w' hg => ⟨⟨_, _, rfl⟩, hE.gr (hgV.trans hg)⟩) ?_
  refine Grow.grow_load_k rfl (fun w => by kernel_rfl) (.inl ⟨rfl, rfl⟩) rfl (EnK.stays _) ?_
  refine Grow.grow_field (j := 9) (u := .slice fA m.entries.length fC) (Ψ := EnK m.entries) rfl (.inl ⟨rfl, rfl⟩) rfl (fun w => by kernel_rfl) rfl (EnK.stays _) (fun w' hg => ⟨⟨_, _, rfl⟩, iE.gr (hgV.trans hg)⟩) ?_
  refine Grow.grow_load_k rfl (fun w => by kernel_rfl) (.inl ⟨rfl, rfl⟩) rfl (EnK.stays _) ?_
  refine Grow.grow_call2 (Φ := Grow.Is (.bool (decide (a.entries = m.entries)))) rfl (.inl ⟨rfl, rfl⟩) Tryz.func38 (by kernel_rfl) (by kernel_rfl) (Ψ := EnK a.entries) (Ψ' := EnK m.entries) rfl rfl (Grow.Is.stays _) (fun v u w' hg hv hu => (C1.out v u w' hv.2 hu.2).mono fun e w1 ⟨h1, h2⟩ => ⟨_, h1, h2, rfl⟩) ?_
  refine Grow.grow_not rfl (.inl ⟨rfl, rfl⟩) rfl ?_
  refine Grow.grow_mv (.inl rfl) (.inl ⟨rfl, rfl⟩) rfl ?_
  refine Grow.cd_field_s (j := 10) (b := !(!(decide (a.entries = m.entries)))) rfl (.inr ⟨6, 129, true, (!(decide (a.entries = m.entries))), rfl, rfl, rfl, by decide, rfl⟩) (.inl rfl) (fun w => by kernel_rfl) ?_
  refine Grow.cd_load_s (Ψ := TxK a.t) [.int .i64 a.t.ses, .int .i64 a.t.seq, .slice rA a.t.reads.length rC, .slice wA a.t.writes.length wC] (b := !(!(decide (a.entries = m.entries)))) rfl (fun w => by kernel_rfl) (fun w => by kernel_rfl) (.inr ⟨6, 129, true, (!(decide (a.entries = m.entries))), rfl, rfl, rfl, by decide, rfl⟩) (.inr rfl) rfl (fun k u hk => by
    rcases k with _ | _ | _ | _ | k <;> simp at hk <;> subst hk <;> rfl) (TxK.stays _) (fun w' hg => (hT.gr (hgV.trans hg)).txAt) ?_
  refine Grow.cd_field_s (j := 10) (b := !(!(decide (a.entries = m.entries)))) rfl (.inr ⟨6, 129, true, (!(decide (a.entries = m.entries))), rfl, rfl, rfl, by decide, rfl⟩) (.inl rfl) (fun w => by kernel_rfl) ?_
  refine Grow.cd_load_s (Ψ := TxK m.t) [.int .i64 m.t.ses, .int .i64 m.t.seq, .slice sA m.t.reads.length sC, .slice xA m.t.writes.length xC] (b := !(!(decide (a.entries = m.entries)))) rfl (fun w => by kernel_rfl) (fun w => by kernel_rfl) (.inr ⟨6, 129, true, (!(decide (a.entries = m.entries))), rfl, rfl, rfl, by decide, rfl⟩) (.inr rfl) rfl (fun k u hk => by
    rcases k with _ | _ | _ | _ | k <;> simp at hk <;> subst hk <;> rfl) (TxK.stays _) (fun w' hg => (iT.gr (hgV.trans hg)).txAt) ?_
  refine Grow.cd_call2 (Φ := Grow.Is (.bool (decide (a.t = m.t)))) (b := !(!(decide (a.entries = m.entries)))) rfl (.inr ⟨6, 129, true, (!(decide (a.entries = m.entries))), rfl, rfl, rfl, by decide, rfl⟩) Tryz.func39 (by kernel_rfl) (by kernel_rfl) (.inr rfl) (.inr rfl) (Grow.Is.stays _) (fun v u w' hg hv hu => (C2.out v u w' hv hu).mono fun e w1 ⟨h1, h2⟩ => ⟨_, h1, h2, rfl⟩) ?_
  refine Grow.cd_not (b := !(!(decide (a.entries = m.entries)))) rfl (.inr ⟨6, 129, true, (!(decide (a.entries = m.entries))), rfl, rfl, rfl, by decide, rfl⟩) (.inr rfl) ?_
  refine Grow.pick_or (x := !(decide (a.entries = m.entries))) rfl rfl rfl (.inr rfl) ?_
  refine Grow.grow_mv (.inl rfl) (.inl ⟨rfl, rfl⟩) rfl ?_
  refine Grow.cd_field (j := 22) (u := .slice gA a.got.length gC) (Ψ := GsK a.got) (b := !((!(decide (a.entries = m.entries)) || !(decide (a.t = m.t))))) rfl (.inr ⟨14, 137, true, ((!(decide (a.entries = m.entries)) || !(decide (a.t = m.t)))), rfl, rfl, rfl, by decide, rfl⟩) (.inl rfl) (fun w => by kernel_rfl) rfl (GsK.stays _) (fun w' hg => ⟨⟨_, _, rfl⟩, hG.1.gr (hgV.trans hg)⟩) ?_
  refine Grow.cd_load (b := !((!(decide (a.entries = m.entries)) || !(decide (a.t = m.t))))) rfl (fun w => by kernel_rfl) (.inr ⟨14, 137, true, ((!(decide (a.entries = m.entries)) || !(decide (a.t = m.t)))), rfl, rfl, rfl, by decide, rfl⟩) (.inr rfl) (GsK.stays _) ?_
  refine Grow.cd_field (j := 22) (u := .slice hA m.got.length hC) (Ψ := GsK m.got) (b := !((!(decide (a.entries = m.entries)) || !(decide (a.t = m.t))))) rfl (.inr ⟨14, 137, true, ((!(decide (a.entries = m.entries)) || !(decide (a.t = m.t)))), rfl, rfl, rfl, by decide, rfl⟩) (.inl rfl) (fun w => by kernel_rfl) rfl (GsK.stays _) (fun w' hg => ⟨⟨_, _, rfl⟩, iG.1.gr (hgV.trans hg)⟩) ?_
  refine Grow.cd_load (b := !((!(decide (a.entries = m.entries)) || !(decide (a.t = m.t))))) rfl (fun w => by kernel_rfl) (.inr ⟨14, 137, true, ((!(decide (a.entries = m.entries)) || !(decide (a.t = m.t)))), rfl, rfl, rfl, by decide, rfl⟩) (.inr rfl) (GsK.stays _) ?_
  refine Grow.cd_call2 (Φ := Grow.Is (.bool (decide (a.got = m.got)))) (b := !((!(decide (a.entries = m.entries)) || !(decide (a.t = m.t))))) rfl (.inr ⟨14, 137, true, ((!(decide (a.entries = m.entries)) || !(decide (a.t = m.t)))), rfl, rfl, rfl, by decide, rfl⟩) Tryz.func40 (by kernel_rfl) (by kernel_rfl) (.inr rfl) (.inr rfl) (Grow.Is.stays _) (fun v u w' hg hv hu => (C4.out v u w' hv.2 hu.2).mono fun e w1 ⟨h1, h2⟩ => ⟨_, h1, h2, rfl⟩) ?_
  refine Grow.cd_not (b := !((!(decide (a.entries = m.entries)) || !(decide (a.t = m.t))))) rfl (.inr ⟨14, 137, true, ((!(decide (a.entries = m.entries)) || !(decide (a.t = m.t)))), rfl, rfl, rfl, by decide, rfl⟩) (.inr rfl) ?_
  refine Grow.pick_or (x := (!(decide (a.entries = m.entries)) || !(decide (a.t = m.t)))) rfl rfl rfl (.inr rfl) ?_
  refine Grow.grow_mv (.inl rfl) (.inl ⟨rfl, rfl⟩) rfl ?_
  refine Grow.cd_field (j := 21) (u := .slice kA a.keys.length kC) (Ψ := KsK a.keys) (b := !(((!(decide (a.entries = m.entries)) || !(decide (a.t = m.t))) || !(decide (a.got = m.got))))) rfl (.inr ⟨22, 145, true, (((!(decide (a.entries = m.entries)) || !(decide (a.t = m.t))) || !(decide (a.got = m.got)))), rfl, rfl, rfl, by decide, rfl⟩) (.inl rfl) (fun w => by kernel_rfl) rfl (KsK.stays _) (fun w' hg => ⟨⟨_, _, rfl⟩, hK.1.gr (hgV.trans hg)⟩) ?_
  refine Grow.cd_load (b := !(((!(decide (a.entries = m.entries)) || !(decide (a.t = m.t))) || !(decide (a.got = m.got))))) rfl (fun w => by kernel_rfl) (.inr ⟨22, 145, true, (((!(decide (a.entries = m.entries)) || !(decide (a.t = m.t))) || !(decide (a.got = m.got)))), rfl, rfl, rfl, by decide, rfl⟩) (.inr rfl) (KsK.stays _) ?_
  refine Grow.cd_len_k (n := a.keys.length) (b := !(((!(decide (a.entries = m.entries)) || !(decide (a.t = m.t))) || !(decide (a.got = m.got))))) rfl Tryz.underlying28 (.inr ⟨22, 145, true, (((!(decide (a.entries = m.entries)) || !(decide (a.t = m.t))) || !(decide (a.got = m.got)))), rfl, rfl, rfl, by decide, rfl⟩) (.inr rfl) (fun v w h => h.1) ?_
  refine Grow.cd_field (j := 21) (u := .slice lA m.keys.length lC) (Ψ := KsK m.keys) (b := !(((!(decide (a.entries = m.entries)) || !(decide (a.t = m.t))) || !(decide (a.got = m.got))))) rfl (.inr ⟨22, 145, true, (((!(decide (a.entries = m.entries)) || !(decide (a.t = m.t))) || !(decide (a.got = m.got)))), rfl, rfl, rfl, by decide, rfl⟩) (.inl rfl) (fun w => by kernel_rfl) rfl (KsK.stays _) (fun w' hg => ⟨⟨_, _, rfl⟩, iK.1.gr (hgV.trans hg)⟩) ?_
  refine Grow.cd_load (b := !(((!(decide (a.entries = m.entries)) || !(decide (a.t = m.t))) || !(decide (a.got = m.got))))) rfl (fun w => by kernel_rfl) (.inr ⟨22, 145, true, (((!(decide (a.entries = m.entries)) || !(decide (a.t = m.t))) || !(decide (a.got = m.got)))), rfl, rfl, rfl, by decide, rfl⟩) (.inr rfl) (KsK.stays _) ?_
  refine Grow.cd_len_k (n := m.keys.length) (b := !(((!(decide (a.entries = m.entries)) || !(decide (a.t = m.t))) || !(decide (a.got = m.got))))) rfl Tryz.underlying28 (.inr ⟨22, 145, true, (((!(decide (a.entries = m.entries)) || !(decide (a.t = m.t))) || !(decide (a.got = m.got)))), rfl, rfl, rfl, by decide, rfl⟩) (.inr rfl) (fun v w h => h.1) ?_
  refine Grow.cd_int (c := .bool (!((a.keys.length : Int) == (m.keys.length : Int)))) (b := !(((!(decide (a.entries = m.entries)) || !(decide (a.t = m.t))) || !(decide (a.got = m.got))))) rfl (.inr ⟨22, 145, true, (((!(decide (a.entries = m.entries)) || !(decide (a.t = m.t))) || !(decide (a.got = m.got)))), rfl, rfl, rfl, by decide, rfl⟩) (.inr rfl) (.inr rfl) (by rw [show binOp .neq _ _ _ = pure (.bool (!((a.keys.length : Int) == (m.keys.length : Int)))) from rfl]) ?_
  refine Grow.pick_or (x := ((!(decide (a.entries = m.entries)) || !(decide (a.t = m.t))) || !(decide (a.got = m.got)))) rfl rfl rfl (.inr rfl) ?_
  intro a2 U hg hsz hdf hun hk
  have k2 := hk 2
  have k3 := hk 3
  have k153 := hk 153
  clear hk hun
  change a2.tmps.getD 2 undef = _ ∧ _ at k2
  change a2.tmps.getD 3 undef = _ ∧ _ at k3
  change a2.tmps.getD 153 undef = _ at k153
  rw [← HD2.out] at k153
  replace k2 := k2.1
  replace k3 := k3.1
  have hgU := hgV.trans hg
  rw [Grow.lay_frame a2 172 hsz, hdf]
  simp only [List.range, List.range.loop, List.map_cons, List.map_nil, k2, k3, k153]
  change Exit.then _ _ _ { tmps := _, defers := [] } U
  clear hsz hdf k2 k3 k153 HD2 hb2 hb3 C1 C2 C4 hE hT hG iE iT iG
  cases d2
  rotate_left
  · have E := hide (HN2.out rfl)
    clear HN1 HN2 HSM hgk2 hgk3
    go_wp2_with fail
    go_ret
    exact ⟨by rw [E.out]; rfl, hgU⟩
  obtain ⟨hsame, hlen⟩ := HSM.out rfl rfl
  have HS := hide hsame
  have HS2 := hide (show a = m → a.keys = m.keys from fun h => by rw [h])
  have HA := hide (hK.1.gr hgU)
  have HB := hide (iK.1.gr hgU)
  have hgk2' : ∀ w', Gr U w' → w'.cell? ⟨w.heap.size, 21, none⟩ = some (.slice kA a.keys.length kC) := fun w' h => hgk2 w' (hg.trans h)
  have hgk3' : ∀ w', Gr U w' → w'.cell? ⟨w.heap.size + 1, 21, none⟩ = some (.slice lA m.keys.length lC) := fun w' h => hgk3 w' (hg.trans h)
  clear hgk2 hgk3 HSM HN1 HN2 hsame hK iK hg hgV
  have HGU := hide hgU
  clear hgU
  rw [← hlen] at hgk3'
  have HC2 := hide hgk2'
  have HC3 := hide hgk3'
  clear hgk2' hgk3'
  generalize a.keys = xs at *
  generalize m.keys = ys at *
  have h := hlen
  go_wp2_with fail
  go_loopw [5] (fun i wr => ∃ k : Nat, i = .int .i64 k ∧ k ≤ xs.length ∧ Hid (∀ j, j < k → xs[j]? = ys[j]?) ∧ Gr U wr) (fun i _ => xs.length - (intOf i).toNat)
  case atStart => exact ⟨0, rfl, by omega, fun j hj => absurd hj (by omega), Gr.refl _⟩
  case round =>
    obtain ⟨k, rfl, hk, hso, hgr⟩ := hrel
    have c2 := HC2.out wr hgr
    have c3 := HC3.out wr hgr
    have hfin := HGU.out.trans hgr
    by_cases hlt : k < xs.length
    · have hlt' : (k : Int) < (xs.length : Int) := by omega
      have hno := hide (list_ne hlt (by omega : k < ys.length))
      have hyes := hide (same_more hso.out hlt (by omega : k < ys.length))
      obtain ⟨x, hxk⟩ : ∃ x, xs[k]'hlt = x := ⟨_, rfl⟩
      obtain ⟨y, hyk⟩ : ∃ y, ys[k]'(by omega) = y := ⟨_, rfl⟩
      obtain ⟨ad, c', e1, _, a0, z1⟩ := (HA.out.gr hgr).cell (j := k) (r := strC x) (by rw [List.getElem?_map, List.getElem?_eq_getElem hlt, hxk]; rfl) (by simp [strC])
      obtain ⟨bd, d', e2, _, b0, z2⟩ := (HB.out.gr hgr).cell (j := k) (r := strC y) (by rw [List.getElem?_map, List.getElem?_eq_getElem (by omega), hyk]; rfl) (by simp [strC])
      rw [hxk, hyk] at hno hyes
      simp only [Value.slice.injEq, List.length_map] at e1 e2
      obtain ⟨rfl, _, rfl⟩ := e1
      obtain ⟨rfl, _, rfl⟩ := e2
      replace a0 := a0 _ rfl
      replace b0 := b0 _ rfl
      rw [Nat.mul_one] at a0 b0
      clear hxk hyk hso z1 z2
      by_cases hxy : x.toList = y.toList
      · have hee := bytes_eq hxy
        clear hxy
        subst hee
        have hbb : (x.toList != x.toList) = false := by simp
        replace hyes := hide (hyes.out rfl)
        clear hno
        go_wp2_with fail
        go_region
        go_wp2_with fail
        go_roundw
        case rel => exact ⟨k + 1, by go_num, by omega, hyes, hgr.drew⟩
        case measure => simp [intOf]; omega
      · replace hno := hide (hno.out (fun e => hxy (by rw [e])))
        have hbc : (x.toList == y.toList) = false := by rw [beq_eq_false_iff_ne]; exact hxy
        have E := hide (show res = false from HRES.out ▸ decide_eq_false fun e => hno.out (HS2.out e))
        clear hyes hno
        go_wp2_with fail
        go_region
        go_wp2_with fail
        go_ret
        exact ⟨by rw [E.out]; rfl, hfin.drew⟩
    · obtain rfl : k = xs.length := by omega
      have E := hide (show res = true from HRES.out ▸ decide_eq_true (HS.out (list_same hlen hso.out)))
      clear hso
      go_wp2_with fail
      go_ret
      exact ⟨by rw [E.out]; rfl, hfin⟩

end Go.Proofs.YtpabppoohobjpaaGreat

/-
  The document's none and MayEntry by their contracts.
-/
namespace Go.Proofs.YtpabppoohobjpaaGreat
open Go Go.RowKit TxnMath KeyMath MsgMath
set_option maxRecDepth 100000

set_option maxHeartbeats 1000000 in
theorem RefNone_ok (v : Value) (t : TxT) (w : World) (hv : TxAt w v t) (ht : TxBnd t) : Calls Tryz.prog 44 #[v] w fun e w' => e = .returned (.bool (decide (t = noTxn))) ∧ Gr w w' := by
  have CS := hide (fun w' (h : Gr w w') => SameTxn_ok v (.agg #[.int .i64 0, .int .i64 0, .slice none 0 0, .slice none 0 0]) t noTxn w' (TxAt.gr_ hv h) (TxAt.none_ w') (by have := ht.rn; omega) (Nat.zero_le _) (Nat.zero_le _))
  have hg : ∀ o, Gr w (w.alloc o) := fun o => (Gr.refl _).alloc o
  have HG := hide hg
  obtain ⟨rv, wv, rfl, hr, hw⟩ := hv
  obtain ⟨A, c, rfl, _⟩ := hr.is
  obtain ⟨B, d, rfl, _⟩ := hw.is
  generalize decide (t = noTxn) = b at CS ⊢
  clear hr hw ht hg
  go_enter Tryz.func44, Tryz.ntmps44
  go_wp2_with fail
  refine (CS.out _ (HG.out _)).mono ?_
  rintro en w1 ⟨rfl, hg1⟩
  go_wp2_with fail
  go_ret
  exact ⟨rfl, (HG.out _).trans hg1⟩

/-- may the entry be, but for its term? -/
def mayEntR (e : EntT) : Bool := if e.shut = true then decide (e.t = noTxn) else mayT e.t

set_option maxHeartbeats 1000000 in
theorem RefMayEntry_ok (e : EntT) (p : Value × Value) (w : World) (hp : RowsX Any w e.t p) (hb : TxBnd e.t) : Calls Tryz.prog 24 #[.agg (entC e p).toArray] w fun en w' => en = .returned (.bool (mayEntR e)) ∧ Gr w w' := by
  have hg : ∀ o, Gr w (w.alloc o) := fun o => (Gr.refl _).alloc o
  have CS := hide (fun w' (h : Gr w w') => RefNone_ok (.agg (txC e.t p).toArray) e.t w' (hp.gr h).txAt hb)
  have CM := hide (fun w' (h : Gr w w') => RefMayTxnB_ok (.agg (txC e.t p).toArray) e.t w' (hp.gr h).txAt hb)
  obtain ⟨⟨pr, pw⟩, ep⟩ : ∃ q : Value × Value, q = p := ⟨_, rfl⟩
  subst ep
  have HG := hide hg
  have HE := hide (show mayEntR e = (if e.shut = true then decide (e.t = noTxn) else mayT e.t) from rfl)
  obtain ⟨A, c, rfl, _⟩ := hp.rd.1.is
  obtain ⟨B, d, rfl, _⟩ := hp.wr.1.is
  show Calls _ _ #[.agg #[.int .i64 e.term, .bool e.shut, .int .i64 e.t.ses, .int .i64 e.t.seq, .slice A e.t.reads.length c, .slice B e.t.writes.length d]] _ _
  change Hid (∀ w', Gr w w' → Calls _ _ #[.agg #[.int .i64 e.t.ses, .int .i64 e.t.seq, .slice A e.t.reads.length c, .slice B e.t.writes.length d]] _ _) at CS
  change Hid (∀ w', Gr w w' → Calls _ _ #[.agg #[.int .i64 e.t.ses, .int .i64 e.t.seq, .slice A e.t.reads.length c, .slice B e.t.writes.length d]] _ _) at CM
  rw [HE.out]
  clear HE hp hb hg
  generalize decide (e.t = noTxn) = b2 at CS ⊢
  generalize mayT e.t = b3 at CM ⊢
  generalize e.shut = sh
  cases sh
  · go_enter Tryz.func24, Tryz.ntmps24
    go_wp2_with fail
    refine (CM.out _ (HG.out _)).mono ?_
    rintro en w1 ⟨rfl, hg1⟩
    go_wp2_with fail
    go_ret
    exact ⟨rfl, (HG.out _).trans hg1⟩
  · have hU : undef = Value.tuple #[] := rfl
    cases b2
    all_goals
      go_enter Tryz.func24, Tryz.ntmps24
      go_wp2_with fail
      refine (CS.out _ (HG.out _)).mono ?_
      rintro en w1 ⟨rfl, hg1⟩
    · have c1 : w1.cell? ⟨w.heap.size, 1, none⟩ = some (.bool true) := ((Bl.new w 45 #[.int .i64 e.term, .bool true, .int .i64 e.t.ses, .int .i64 e.t.seq, .slice A e.t.reads.length c, .slice B e.t.writes.length d]).gr hg1).cell 1
      go_wp2_with fail
      go_ret
      exact ⟨rfl, (HG.out _).trans hg1⟩
    · go_wp2_with fail
      go_ret
      exact ⟨rfl, (HG.out _).trans hg1⟩

end Go.Proofs.YtpabppoohobjpaaGreat

/-
  The document's bare by its contract (kinds 1 to 9).
-/
namespace Go.Proofs.YtpabppoohobjpaaGreat
open Go Go.RowKit TxnMath KeyMath MsgMath
set_option maxRecDepth 100000

section
variable {P : Program} (w : World) (ty : TypeId) (hsz : ∀ w, (sizeOf ty).run P w = .ok 1 w) (ad : Addr) (old : Value) (c1 : w.cell? ad = some old) (c2 : w.frozen? ad = false)
include hsz c1 c2
theorem run_st_int {z : Int} : (Instr.storeAt ty (.pointer (some ad)) (.int .i64 z)).run P w = .ok () (w.setCell ad (.int .i64 z)) := by simp [Instr.storeAt, Instr.sureAddr, storeVar, hsz, c1, c2, go_sem]
theorem run_st_bool {z : Bool} : (Instr.storeAt ty (.pointer (some ad)) (.bool z)).run P w = .ok () (w.setCell ad (.bool z)) := by simp [Instr.storeAt, Instr.sureAddr, storeVar, hsz, c1, c2, go_sem]
theorem run_st_str {z : ByteArray} : (Instr.storeAt ty (.pointer (some ad)) (.string z)).run P w = .ok () (w.setCell ad (.string z)) := by simp [Instr.storeAt, Instr.sureAddr, storeVar, hsz, c1, c2, go_sem]
theorem run_st_sl {A : Option Addr} {n c : Nat} : (Instr.storeAt ty (.pointer (some ad)) (.slice A n c)).run P w = .ok () (w.setCell ad (.slice A n c)) := by simp [Instr.storeAt, Instr.sureAddr, storeVar, hsz, c1, c2, go_sem]
end
theorem wpList_build_to {P : Program} {ops : Array Oper} {rest : List Oper} {o : Oper} {a : Act} {w : World} {Q : Exit → Act → World → Prop} (hg : o.guard = none) (t : TypeId) (parts : Array (Nat × Operand)) (ho : o.op = .build t parts) (cells : Array Value)
    (hf : P.built t (parts.map fun (i, x) => (i, a.eval x)).toList = some cells) (h : wpList P ops Q rest (a.put o.dst (.agg cells)) w) : wpList P ops Q (o :: rest) a w :=
  wpList_build hg t parts ho (by rw [hf]; rfl) (by rw [hf]; exact h)
/-- cells behind so many stores -/
def afterS (c0 : Array Value) (stp : List (Nat × Value)) (m : Nat) : Array Value := (stp.take m).foldl (fun cs p => cs.setIfInBounds p.1 p.2) c0
theorem foldS_size : ∀ (l : List (Nat × Value)) (c0 : Array Value), (l.foldl (fun cs p => cs.setIfInBounds p.1 p.2) c0).size = c0.size
  | [], _ => rfl
  | p :: l, c0 => by rw [List.foldl_cons, foldS_size l]; simp
theorem afterS_size (c0 : Array Value) (stp : List (Nat × Value)) (m : Nat) : (afterS c0 stp m).size = c0.size := foldS_size _ _
theorem afterS_next {c0 : Array Value} {stp : List (Nat × Value)} {m j : Nat} {v : Value} (h : stp[m]? = some (j, v)) : afterS c0 stp (m + 1) = (afterS c0 stp m).setIfInBounds j v := by
  unfold afterS
  rw [List.take_add_one, h, List.foldl_append]
  rfl
/-- one block is written to, store by store -/
def BareC (W0 : World) (gx : Nat) (T : TypeId) (c0 : Array Value) (stp : List (Nat × Value)) (m : Nat) (w : World) : Prop := But W0 w gx ∧ Bl w gx T (afterS c0 stp m)
namespace Det
variable {P : Program} {ops : Array Oper} {ws : List Nat} {W0 : World} {gx : Nat} {T : TypeId} {c0 : Array Value} {stp : List (Nat × Value)} {Q : Act → Nat → Prop} {o : Oper} {rest : List Oper} {i m : Nat} {a : Act}
theorem field_c {C : Nat → World → Prop} {t : TypeId} {x : Operand} {n g j : Nat} (hi : ws.contains i = false) (hg : o.guard = none) (ho : o.op = .fieldAddr t x n) (hx : a.eval x = .pointer (some ⟨g, 0, none⟩)) (hr : ∀ w, (Instr.fieldAt t (.pointer (some ⟨g, 0, none⟩)) n).run P w = .ok (.pointer (some ⟨g, j, none⟩)) w)
    (hK : wpDet P ops C ws Q rest (i + 1) (a.put o.dst (.pointer (some ⟨g, j, none⟩))) m) : wpDet P ops C ws Q (o :: rest) i a m :=
  Det.pure hi (by simp [Region.wanted, hg]) _ (fun w => by unfold execOp; simp only [ho, hx]; rw [Sem.run_bind, hr w]; rfl) hK
theorem load_c {t e : TypeId} {x : Operand} {g j : Nat} {cs : Array Value} {u : Value} (hi : ws.contains i = false) (hg : o.guard = none) (ho : o.op = .load t x) (ha : ∀ w, (isAgg t).run P w = .ok false w) (hx : a.eval x = .pointer (some ⟨g, j, none⟩)) (hB : phB ops ws i 0 ws.length = true)
    (hb : Bl W0 g e cs) (hne : g ≠ gx) (hu : cs[j]? = some u) (hK : wpDet P ops (BareC W0 gx T c0 stp) ws Q rest (i + 1) (a.put o.dst u) m) : wpDet P ops (BareC W0 gx T c0 stp) ws Q (o :: rest) i a m :=
  Det.load (u := u) hi hg ho 0 ws.length hB ha hx (fun _ _ _ w hw => by
    have : Bl w g e cs := (hw.1.block g hb.lt (fun e => hne (by injection e))).trans hb
    rw [this.cell]
    exact hu) hK
theorem store_c {t : TypeId} {x y : Operand} {j : Nat} {v : Value} (hi : ws.contains i = true) (hg : o.guard = none) (ho : o.op = .store t x y) (hx : a.eval x = .pointer (some ⟨gx, j, none⟩)) (hy : a.eval y = v)
    (hr : ∀ w old, w.cell? ⟨gx, j, none⟩ = some old → w.frozen? ⟨gx, j, none⟩ = false → (Instr.storeAt t (.pointer (some ⟨gx, j, none⟩)) v).run P w = .ok () (w.setCell ⟨gx, j, none⟩ v)) (hs : stp[m]? = some (j, v)) (hj : j < c0.size)
    (hK : wpDet P ops (BareC W0 gx T c0 stp) ws Q rest (i + 1) (a.put o.dst undef) (m + 1)) : wpDet P ops (BareC W0 gx T c0 stp) ws Q (o :: rest) i a m := by
  refine Det.write_ hi hg (fun w hw => ?_) hK
  obtain ⟨h1, h2⟩ := hw
  have hjs : j < (afterS c0 stp m).size := by rw [afterS_size]; exact hj
  have c1 : w.cell? ⟨gx, j, none⟩ = some (afterS c0 stp m)[j] := (h2.cell j).trans (Array.getElem?_eq_getElem hjs)
  refine ⟨w.setCell ⟨gx, j, none⟩ v, ?_, h1.set j v, ?_⟩
  · unfold execOp
    simp only [ho, hx, hy, Sem.run_bind, hr w _ c1 (h2.frozen j), Result.andThen_ok]
    rfl
  · rw [afterS_next hs]
    exact h2.put j v
end Det

/-- what a letter's kind names alone -/
def bareM (m : MsgT) : MsgT :=
  if m.kind = 1 then { noMsg with kind := m.kind, frm := m.frm, to := m.to, part := m.part, term := m.term, index := m.index, logTerm := m.logTerm } else
  if m.kind = 2 then { noMsg with kind := m.kind, frm := m.frm, to := m.to, part := m.part, term := m.term, ok := m.ok } else
  if m.kind = 3 then { noMsg with kind := m.kind, frm := m.frm, to := m.to, part := m.part, term := m.term, index := m.index, logTerm := m.logTerm, commit := m.commit, entries := m.entries } else
  if m.kind = 4 then { noMsg with kind := m.kind, frm := m.frm, to := m.to, part := m.part, term := m.term, ok := m.ok, index := m.index } else
  if m.kind = 5 then { noMsg with kind := m.kind, frm := m.frm, to := m.to, part := m.part, t := m.t } else
  if m.kind = 6 then { noMsg with kind := m.kind, frm := m.frm, to := m.to, part := m.part, pos := m.pos, shard := m.shard } else
  if m.kind = 7 then { noMsg with kind := m.kind, frm := m.frm, to := m.to, part := m.part, pos := m.pos, shard := m.shard, ok := m.ok } else
  if m.kind = 8 then { noMsg with kind := m.kind, frm := m.frm, to := m.to, part := m.part, ses := m.ses, seq := m.seq, pos := m.pos, shard := m.shard, span := m.span, fromKey := m.fromKey, toKey := m.toKey, keys := m.keys } else
  if m.kind = 9 then { noMsg with kind := m.kind, frm := m.frm, to := m.to, part := m.part, ses := m.ses, seq := m.seq, pos := m.pos, shard := m.shard, span := m.span, fromKey := m.fromKey, toKey := m.toKey, keys := m.keys, err := m.err, got := m.got } else
  { noMsg with kind := m.kind, frm := m.frm, to := m.to, part := m.part }
end Go.Proofs.YtpabppoohobjpaaGreat
