/-
  txn's writer by its contracts: number, text, flag.
-/
import Derived.Test.YtpabppoohobjpaaGreatTxnWords
import Derived.Test.YtpabppoohobjpaaGreatBaseM
import Derived.Test.YtpabppoohobjpaaGreatNumPutOwn
import Derived.Test.YtpabppoohobjpaaGreatTxMay
namespace Go.Proofs.YtpabppoohobjpaaGreat
open Go Go.RowKit TxnMath KeyMath NumPlain
set_option maxRecDepth 100000

/-- the writer in block g: it holds these bytes, in a row of its own -/
def WrAt (w : World) (g : Nat) (v : Value) (l : List UInt8) : Prop := Bl w g 149 #[v] ∧ Own w (g + 1) v l
/-- the writer has gone on: nothing but it and its row has changed -/
structure WrTo (g : Nat) (w : World) (v : Value) (w' : World) (v' : Value) : Prop where
  os : w'.os = w.os
  tape : w'.tape = w.tape
  output : w'.output = w.output
  size : w.heap.size ≤ w'.heap.size
  block : ∀ k, k < w.heap.size → k ≠ g → some k ≠ v.ownBlock → w'.heap[k]? = w.heap[k]?
  at_ : v'.ownBlock = v.ownBlock ∨ ∃ k, v'.ownBlock = some k ∧ w.heap.size ≤ k
theorem WrTo.refl (g : Nat) (w : World) (v : Value) : WrTo g w v w v := ⟨rfl, rfl, rfl, Nat.le_refl _, fun _ _ _ _ => rfl, .inl rfl⟩
theorem WrTo.trans {g : Nat} {a b c : World} {x y z : Value} (h : WrTo g a x b y) (k : WrTo g b y c z) : WrTo g a x c z := by
  refine ⟨k.os.trans h.os, k.tape.trans h.tape, k.output.trans h.output, Nat.le_trans h.size k.size, fun j hj hjg hjx => ?_, ?_⟩
  · rw [k.block j (Nat.lt_of_lt_of_le hj h.size) hjg ?_, h.block j hj hjg hjx]
    rcases h.at_ with e | ⟨m, e, hm⟩
    · rw [e]; exact hjx
    · rw [e]; intro e2; injection e2 with e2; omega
  · rcases k.at_ with e | ⟨m, e, hm⟩
    · rcases h.at_ with e2 | ⟨m, e2, hm⟩
      · exact .inl (e.trans e2)
      · exact .inr ⟨m, e.trans e2, hm⟩
    · exact .inr ⟨m, e, Nat.le_trans h.size hm⟩
theorem WrTo.of_gr {g : Nat} {w w' : World} {v : Value} (h : Gr w w') : WrTo g w v w' v := ⟨h.os, h.tape, h.output, h.size, fun k hk _ _ => h.block k hk, .inl rfl⟩
theorem WrTo.bl {g b : Nat} {w w' : World} {v v' : Value} {t : TypeId} {cs : Array Value} (h : WrTo g w v w' v') (hb : Bl w b t cs) (hg : b ≠ g) (hv : some b ≠ v.ownBlock) : Bl w' b t cs := (h.block b hb.lt hg hv).trans hb
theorem WrTo.apart {g b : Nat} {w w' : World} {v v' : Value} (h : WrTo g w v w' v') (hv : some b ≠ v.ownBlock) (hb : b < w.heap.size) : some b ≠ v'.ownBlock := by
  rcases h.at_ with e | ⟨k, e, hk⟩
  · rw [e]; exact hv
  · rw [e]; intro e2; injection e2 with e2; omega
theorem WrAt.gr {w w' : World} {g : Nat} {v : Value} {l : List UInt8} (h : WrAt w g v l) (hg : Gr w w') : WrAt w' g v l := ⟨h.1.gr hg, h.2.gr hg⟩
/-- what stood below the writer stands as it did -/
theorem WrTo.low {g : Nat} {w0 w w' : World} {v v' : Value} {l : List UInt8} (h : WrTo g w v w' v') (ha : WrAt w g v l) (hg : Gr w0 w) (h0 : w0.heap.size ≤ g) : Gr w0 w' :=
  ⟨h.os.trans hg.os, h.tape.trans hg.tape, h.output.trans hg.output, Nat.le_trans hg.size h.size, fun k hk => by
    have hgl := ha.1.lt
    rw [h.block k (by omega) (by omega) (fun e => by have := (World.ownsRow.lt ha.2 k e.symm).1; omega)]
    exact hg.block k hk⟩

/-- what the writer's calls come to -/
def WrPost (g : Nat) (w : World) (v : Value) (l : List UInt8) (e : Ending) (w' : World) : Prop := e = .returned (.tuple #[]) ∧ ∃ v', WrAt w' g v' l ∧ WrTo g w v w' v'

/-- behind the append: the new row is stored -/
theorem wr_store {g : Nat} {w w1 : World} {v v' : Value} {l : List UInt8} (h : WrAt w g v l) (hrs : Mine.RS w v.ownBlock w1 v'.ownBlock) {l' : List UInt8} (hown : Own w1 (g + 1) v' l') : WrAt (w1.setCell ⟨g, 0, none⟩ v') g v' l' ∧ WrTo g w v (w1.setCell ⟨g, 0, none⟩ v') v' := by
  have hb1 : Bl w1 g 149 #[v] := (hrs.gb.block g h.1.lt (fun e => by have := (World.ownsRow.lt h.2 g e.symm).1; omega)).trans h.1
  have hbut : But w1 (w1.setCell ⟨g, 0, none⟩ v') g := (But.refl w1 g).set 0 v'
  refine ⟨⟨hb1.put 0 v', ?_⟩, hrs.gb.os, hrs.gb.tape, hrs.gb.output, by simpa using hrs.gb.size, fun k hk hkg hkv => ?_, hrs.at_⟩
  · exact World.ownsRow.kept hown hbut (by
      cases hv : v'.ownBlock with
      | none => exact .inl rfl
      | some j => exact .inr fun e2 => by injection e2 with e2; have := (World.ownsRow.lt hown j hv).1; omega)
  · rw [hbut.block k (Nat.lt_of_lt_of_le hk hrs.gb.size) (by simpa using hkg)]
    exact hrs.gb.block k hk hkv

set_option maxHeartbeats 1000000 in
theorem wrNumber_ok (g : Nat) (v : Value) (l : List UInt8) (n : Int) (hn : n ≤ 9223372036854775807) (w : World) (h : WrAt w g v l) (hl : l.length ≤ 1000000) :
    Calls Tryz.prog 121 #[.pointer (some ⟨g, 0, none⟩), .int .i64 n] w (WrPost g w v (l ++ putZ n)) := by
  obtain ⟨i0, hi, hz0, hz1, hz2⟩ := info_parts info_u8
  have HP := hide (Put_ok n hn)
  have HA := hide h
  have hlen := putZ_len n
  generalize putZ n = z at HP hlen ⊢
  have hne : some g ≠ v.ownBlock := fun e => by have := (World.ownsRow.lt h.2 g e.symm).1; omega
  have hgl := h.1.lt
  clear h
  go_enter Tryz.func121, Tryz.ntmps121
  go_wp2_with fail
  refine Mine.wp_region_mine_tail 10 14 [4, 5, 6, 7, 8, 9, 10, 11, 12, 13] rfl (by kernel_rfl) (by kernel_rfl) (by kernel_rfl) (by kernel_rfl) (ob0 := v.ownBlock) (Mine.Ahead.more (Mine.Ahead.more (Mine.Ahead.none_ _ _ _) 0 (Mine.Bx.stays g 149 #[v]) ⟨rfl, HA.out.1.drewN 1, hne⟩) 1 (Mine.Is.stays (.int .i64 n)) rfl) 14 (C0 := Mine.RowOf 5 (g + 1) v l) (Mine.RowOf.keeps _ _ _ _) (fun k hk => (World.ownsRow.lt HA.out.2 k hk).2) ⟨HA.out.2.gr ((Gr.refl _).drewN 1), rfl⟩ ?_
  refine Mine.move _ (.inl rfl) rfl (by decide) rfl (Mine.Bx.stays _ _ _) ?_
  refine Mine.move _ (.inl rfl) rfl (by decide) rfl (Mine.Bx.stays _ _ _) ?_
  refine Mine.nil rfl rfl (by decide) rfl ?_
  refine Mine.field (j := 0) rfl rfl (by decide) rfl (fun _ => rfl) rfl ?_
  refine Mine.chain_load rfl rfl rfl (by decide) agg_bytes rfl ?_
  refine Mine.move _ (.inl rfl) rfl (by decide) rfl (Mine.Is.stays _) ?_
  refine Mine.call_own rfl rfl (by decide) Tryz.func117 (by kernel_rfl) (by kernel_rfl) rfl HP.out ?_
  refine Mine.chain_app (l := l) (r := z) rfl rfl rfl Tryz.underlying22 hi hz0 hz1 hz2 rfl (by omega) (by have : (w.drew).heap.size = w.heap.size := rfl; omega) ?_
  refine Mine.nil rfl rfl (by decide) rfl ?_
  refine Mine.field_is (j := 0) rfl rfl (by decide) rfl (fun _ => rfl) ?_
  intro a1 w1 ob hr hwf hsz hdf hun hk hat
  have h13 : a1.tmps.getD 13 undef = .pointer (some ⟨g, 0, none⟩) := hk 13
  obtain ⟨hown, hob⟩ := hat
  change Own w1 (g + 1) (a1.tmps.getD 11 undef) (l ++ z) at hown
  obtain ⟨X, hX, hlay⟩ := Grow.lay_kept_by _ a1 14 _ hsz hdf hun
  rw [hX] at h13 hown hob
  clear hX hun hdf hsz hk hwf
  subst hlay
  simp only [List.range, List.range.loop, List.map_cons, List.map_nil, List.contains_cons, List.contains_nil, Nat.reduceBEq, Bool.or_false, Bool.or_true, cond_false, cond_true, Array.getD_eq_getD_getElem?, List.getElem?_toArray, List.getElem?_cons_zero, List.getElem?_cons_succ, Option.getD_some, h13, List.drop_succ_cons, List.drop_zero]
  generalize X 11 = row at hown hob ⊢
  subst hob
  replace hr := (Mine.RS.of_gr (o := v.ownBlock) (Gr.drew (Gr.refl w))).trans hr
  have hst := wr_store (v' := row) HA.out hr hown
  obtain ⟨A, c, rfl, _⟩ := hown.rd
  refine wpList_store_slice rfl 22 (.tmp 13) (.tmp 11) rfl rfl (fun w => by kernel_rfl) (g := g) (i := 0) rfl rfl (hr.gb.block g hgl hne |>.trans HA.out.1) (by simp) ?_
  have HST := hide hst
  clear hst hr hown hne hgl
  generalize w1.setCell ⟨g, 0, none⟩ (.slice A (l ++ z).length c) = w2 at HST ⊢
  go_wp2_with fail
  go_end0
  exact ⟨rfl, _, HST.out.1, HST.out.2⟩

set_option maxHeartbeats 1000000 in
theorem wrText_ok (g : Nat) (v : Value) (l : List UInt8) (n : ByteArray) (hn : (n.size : Int) ≤ 9223372036854775807) (w : World) (h : WrAt w g v l) (hl : l.length ≤ 1000000) :
    Calls Tryz.prog 126 #[.pointer (some ⟨g, 0, none⟩), .string n] w (WrPost g w v (l ++ txtOf n)) := by
  obtain ⟨i0, hi, hz0, hz1, hz2⟩ := info_parts info_u8
  have HP : Hid (∀ w : World, Calls Tryz.prog 118 #[.string n] w fun e w' => ∃ v, e = .returned v ∧ Own w' w.heap.size v (txtOf n) ∧ Gr w w') := hide (PutText_ok n hn)
  have HA := hide h
  have hlen := txtOf_len n
  generalize txtOf n = z at HP hlen ⊢
  have hne : some g ≠ v.ownBlock := fun e => by have := (World.ownsRow.lt h.2 g e.symm).1; omega
  have hgl := h.1.lt
  clear h
  go_enter Tryz.func126, Tryz.ntmps126
  go_wp2_with fail
  refine Mine.wp_region_mine_tail 10 14 [4, 5, 6, 7, 8, 9, 10, 11, 12, 13] rfl (by kernel_rfl) (by kernel_rfl) (by kernel_rfl) (by kernel_rfl) (ob0 := v.ownBlock) (Mine.Ahead.more (Mine.Ahead.more (Mine.Ahead.none_ _ _ _) 0 (Mine.Bx.stays g 149 #[v]) ⟨rfl, HA.out.1.drewN 1, hne⟩) 1 (Mine.Is.stays (.string n)) rfl) 14 (C0 := Mine.RowOf 5 (g + 1) v l) (Mine.RowOf.keeps _ _ _ _) (fun k hk => (World.ownsRow.lt HA.out.2 k hk).2) ⟨HA.out.2.gr ((Gr.refl _).drewN 1), rfl⟩ ?_
  refine Mine.move _ (.inl rfl) rfl (by decide) rfl (Mine.Bx.stays _ _ _) ?_
  refine Mine.move _ (.inl rfl) rfl (by decide) rfl (Mine.Bx.stays _ _ _) ?_
  refine Mine.nil rfl rfl (by decide) rfl ?_
  refine Mine.field (j := 0) rfl rfl (by decide) rfl (fun _ => rfl) rfl ?_
  refine Mine.chain_load rfl rfl rfl (by decide) agg_bytes rfl ?_
  refine Mine.move _ (.inl rfl) rfl (by decide) rfl (Mine.Is.stays _) ?_
  refine Mine.call_own rfl rfl (by decide) Tryz.func118 (by kernel_rfl) (by kernel_rfl) rfl HP.out ?_
  refine Mine.chain_app (l := l) (r := z) rfl rfl rfl Tryz.underlying22 hi hz0 hz1 hz2 rfl (by omega) (by have : (w.drew).heap.size = w.heap.size := rfl; omega) ?_
  refine Mine.nil rfl rfl (by decide) rfl ?_
  refine Mine.field_is (j := 0) rfl rfl (by decide) rfl (fun _ => rfl) ?_
  intro a1 w1 ob hr hwf hsz hdf hun hk hat
  have h13 : a1.tmps.getD 13 undef = .pointer (some ⟨g, 0, none⟩) := hk 13
  obtain ⟨hown, hob⟩ := hat
  change Own w1 (g + 1) (a1.tmps.getD 11 undef) (l ++ z) at hown
  obtain ⟨X, hX, hlay⟩ := Grow.lay_kept_by _ a1 14 _ hsz hdf hun
  rw [hX] at h13 hown hob
  clear hX hun hdf hsz hk hwf
  subst hlay
  simp only [List.range, List.range.loop, List.map_cons, List.map_nil, List.contains_cons, List.contains_nil, Nat.reduceBEq, Bool.or_false, Bool.or_true, cond_false, cond_true, Array.getD_eq_getD_getElem?, List.getElem?_toArray, List.getElem?_cons_zero, List.getElem?_cons_succ, Option.getD_some, h13, List.drop_succ_cons, List.drop_zero]
  generalize X 11 = row at hown hob ⊢
  subst hob
  replace hr := (Mine.RS.of_gr (o := v.ownBlock) (Gr.drew (Gr.refl w))).trans hr
  have hst := wr_store (v' := row) HA.out hr hown
  obtain ⟨A, c, rfl, _⟩ := hown.rd
  refine wpList_store_slice rfl 22 (.tmp 13) (.tmp 11) rfl rfl (fun w => by kernel_rfl) (g := g) (i := 0) rfl rfl (hr.gb.block g hgl hne |>.trans HA.out.1) (by simp) ?_
  have HST := hide hst
  clear hst hr hown hne hgl
  generalize w1.setCell ⟨g, 0, none⟩ (.slice A (l ++ z).length c) = w2 at HST ⊢
  go_wp2_with fail
  go_end0
  exact ⟨rfl, _, HST.out.1, HST.out.2⟩

set_option maxHeartbeats 1000000 in
theorem wrFlag_ok (g : Nat) (v : Value) (l : List UInt8) (b : Bool) (w : World) (h : WrAt w g v l) (hl : l.length ≤ 1000000) :
    Calls Tryz.prog 127 #[.pointer (some ⟨g, 0, none⟩), .bool b] w (WrPost g w v (l ++ [flagB b])) := by
  obtain ⟨i0, hi, hz0, hz1, hz2⟩ := info_parts info_u8
  have HA := hide h
  have c0 : w.cell? ⟨g, 0, none⟩ = some v := h.1.cell 0
  have HX : ∀ b, Hid ((if b = true then (1 : Int) else 0) = ((flagB b).toNat : Int)) := fun b => by cases b <;> exact hide rfl
  have HXX := hide HX
  have HGL := hide h.1.lt
  clear h HX
  cases b
  · go_enter Tryz.func127, Tryz.ntmps127
    go_wp2_with (at_builtin; refine wpList_pushB rfl (.tmp 10) (.tmp 12) _ rfl 5 i0 Tryz.underlying22 hi hz0 hz1 hz2 (HXX.out false) rfl HA.out.2 (by have := HGL.out; omega) rfl (by omega) ?_; intro v1 w1 hown hr; have hst := hide (wr_store (v' := v1) HA.out hr hown); obtain ⟨A, c, rfl, _⟩ := hown.rd; have hb1 := hide (hr.gb.block g HGL.out (fun e => by have := (World.ownsRow.lt HA.out.2 g e.symm).1; omega) |>.trans HA.out.1); have f0 : w1.frozen? ⟨g, 0, none⟩ = false := Bl.frozen hb1.out 0; have c1 : w1.cell? ⟨g, 0, none⟩ = some v := Bl.cell hb1.out 0; clear hown hr c0)
    go_end0
    have HS := hst.out
    rw [List.length_append] at HS
    exact ⟨rfl, _, HS.1, HS.2⟩
  · go_enter Tryz.func127, Tryz.ntmps127
    go_wp2_with (at_builtin; refine wpList_pushB rfl (.tmp 10) (.tmp 12) _ rfl 5 i0 Tryz.underlying22 hi hz0 hz1 hz2 (HXX.out true) rfl HA.out.2 (by have := HGL.out; omega) rfl (by omega) ?_; intro v1 w1 hown hr; have hst := hide (wr_store (v' := v1) HA.out hr hown); obtain ⟨A, c, rfl, _⟩ := hown.rd; have hb1 := hide (hr.gb.block g HGL.out (fun e => by have := (World.ownsRow.lt HA.out.2 g e.symm).1; omega) |>.trans HA.out.1); have f0 : w1.frozen? ⟨g, 0, none⟩ = false := Bl.frozen hb1.out 0; have c1 : w1.cell? ⟨g, 0, none⟩ = some v := Bl.cell hb1.out 0; clear hown hr c0)
    go_end0
    have HS := hst.out
    rw [List.length_append] at HS
    exact ⟨rfl, _, HS.1, HS.2⟩

/-- one step behind another -/
theorem WrPost.after {g : Nat} {w w1 : World} {v v1 : Value} {l : List UInt8} {e : Ending} {w2 : World} (hto : WrTo g w v w1 v1) (h : WrPost g w1 v1 l e w2) : WrPost g w v l e w2 := by
  obtain ⟨h1, v', h2, h3⟩ := h
  exact ⟨h1, v', h2, hto.trans h3⟩

set_option maxHeartbeats 1000000 in
theorem wrRead_ok (g : Nat) (v : Value) (l : List UInt8) (x : RdT) (w : World) (h : WrAt w g v l) (hl : l.length ≤ 900000) (h0 : 0 ≤ x.ver) (h1 : x.ver ≤ 9223372036854775807) (hk : x.key.size ≤ 1000000) (hv : x.val.size ≤ 1000000) :
    Calls Tryz.prog 123 #[.pointer (some ⟨g, 0, none⟩), .agg #[.string x.key, .int .i64 x.ver, .string x.val, .bool x.there]] w (WrPost g w v (l ++ encR x)) := by
  have g1 := txtOf_len x.key
  have g2 := natOf_len x.ver
  have g3 := txtOf_len x.val
  have E : Hid (l ++ encR x = l ++ txtOf x.key ++ natOf x.ver ++ txtOf x.val ++ [flagB x.there]) := hide (by unfold encR; simp)
  have hz := putZ_of h0
  have C1 := hide (fun v w h => wrText_ok g v l x.key (by omega) w h (by omega))
  have C2 := hide (fun v w h => wrNumber_ok g v (l ++ txtOf x.key) x.ver h1 w h (by rw [List.length_append]; omega))
  rw [hz] at C2
  have C3 := hide (fun v w h => wrText_ok g v (l ++ txtOf x.key ++ natOf x.ver) x.val (by omega) w h (by simp only [List.length_append]; omega))
  have C4 := hide (fun v w h => wrFlag_ok g v (l ++ txtOf x.key ++ natOf x.ver ++ txtOf x.val) x.there w h (by simp only [List.length_append]; omega))
  rw [E.out]
  have HA := hide h
  have hgl := h.1.lt
  have hvl : ∀ k, v.ownBlock = some k → k < w.heap.size := fun k hk => (World.ownsRow.lt h.2 k hk).2
  clear h hz E h0 h1 hk hv g1 g2 g3 hl
  go_enter Tryz.func123, Tryz.ntmps123
  go_wp2_with fail
  obtain ⟨W, hW⟩ : ∃ W, w.alloc (.cells #[.string x.key, .int .i64 x.ver, .string x.val, .bool x.there] 47) = W := ⟨_, rfl⟩
  have hg : Gr w W := by rw [← hW]; exact (Gr.refl _).alloc _
  have hbx : Bl W w.heap.size 47 #[.string x.key, .int .i64 x.ver, .string x.val, .bool x.there] := by rw [← hW]; exact Bl.new _ _ _
  rw [hW]
  clear hW
  obtain ⟨b, hb⟩ : ∃ b, w.heap.size = b := ⟨_, rfl⟩
  rw [hb] at hbx hgl hvl ⊢
  have hbg : b ≠ g := by omega
  have hbv : some b ≠ v.ownBlock := fun e => by have := hvl b e.symm; omega
  clear hb
  have T0 := hide (WrTo.of_gr (g := g) (v := v) hg)
  have B0 := hide hbx
  clear hbx hgl hvl
  refine (C1.out v W (HA.out.gr hg)).mono ?_
  rintro e w1 ⟨rfl, v1, a1, t1⟩
  have hx1 : Bl w1 b 47 #[.string x.key, .int .i64 x.ver, .string x.val, .bool x.there] := t1.bl B0.out hbg hbv
  have n1 : some b ≠ v1.ownBlock := t1.apart hbv B0.out.lt
  have c1 : w1.cell? ⟨b, 1, none⟩ = some (.int .i64 x.ver) := hx1.cell 1
  have T1 := hide (T0.out.trans t1)
  have B1 := hide hx1
  have A1 := hide a1
  clear hx1 t1 a1 C1
  go_wp2_with fail
  refine (C2.out v1 w1 A1.out).mono ?_
  rintro e w2 ⟨rfl, v2, a2, t2⟩
  have hx2 : Bl w2 b 47 #[.string x.key, .int .i64 x.ver, .string x.val, .bool x.there] := t2.bl B1.out hbg n1
  have n2 : some b ≠ v2.ownBlock := t2.apart n1 B1.out.lt
  have c2 : w2.cell? ⟨b, 2, none⟩ = some (.string x.val) := hx2.cell 2
  have T2 := hide (T1.out.trans t2)
  have B2 := hide hx2
  have A2 := hide a2
  clear hx2 t2 a2 C2 c1
  go_wp2_with fail
  refine (C3.out v2 w2 A2.out).mono ?_
  rintro e w3 ⟨rfl, v3, a3, t3⟩
  have hx3 : Bl w3 b 47 #[.string x.key, .int .i64 x.ver, .string x.val, .bool x.there] := t3.bl B2.out hbg n2
  have c3 : w3.cell? ⟨b, 3, none⟩ = some (.bool x.there) := hx3.cell 3
  have T3 := hide (T2.out.trans t3)
  have A3 := hide a3
  clear hx3 t3 a3 C3 c2
  go_wp2_with fail
  refine (C4.out v3 w3 A3.out).mono ?_
  rintro e w4 ⟨rfl, v4, a4, t4⟩
  go_wp2_with fail
  go_end0
  exact ⟨rfl, v4, a4, T3.out.trans t4⟩

set_option maxHeartbeats 1000000 in
theorem wrWrite_ok (g : Nat) (v : Value) (l : List UInt8) (x : WrT) (w : World) (h : WrAt w g v l) (hl : l.length ≤ 900000) (hk : x.key.size ≤ 1000000) (hv : x.val.size ≤ 1000000) :
    Calls Tryz.prog 125 #[.pointer (some ⟨g, 0, none⟩), .agg #[.string x.key, .string x.val, .bool x.gone]] w (WrPost g w v (l ++ encW x)) := by
  have g1 := txtOf_len x.key
  have g3 := txtOf_len x.val
  have E : Hid (l ++ encW x = l ++ txtOf x.key ++ txtOf x.val ++ [flagB x.gone]) := hide (by unfold encW; simp)
  have C1 := hide (fun v w h => wrText_ok g v l x.key (by omega) w h (by omega))
  have C3 := hide (fun v w h => wrText_ok g v (l ++ txtOf x.key) x.val (by omega) w h (by simp only [List.length_append]; omega))
  have C4 := hide (fun v w h => wrFlag_ok g v (l ++ txtOf x.key ++ txtOf x.val) x.gone w h (by simp only [List.length_append]; omega))
  rw [E.out]
  have HA := hide h
  have hgl := h.1.lt
  have hvl : ∀ k, v.ownBlock = some k → k < w.heap.size := fun k hk => (World.ownsRow.lt h.2 k hk).2
  clear h E hk hv g1 g3 hl
  go_enter Tryz.func125, Tryz.ntmps125
  go_wp2_with fail
  obtain ⟨W, hW⟩ : ∃ W, w.alloc (.cells #[.string x.key, .string x.val, .bool x.gone] 78) = W := ⟨_, rfl⟩
  have hg : Gr w W := by rw [← hW]; exact (Gr.refl _).alloc _
  have hbx : Bl W w.heap.size 78 #[.string x.key, .string x.val, .bool x.gone] := by rw [← hW]; exact Bl.new _ _ _
  rw [hW]
  clear hW
  obtain ⟨b, hb⟩ : ∃ b, w.heap.size = b := ⟨_, rfl⟩
  rw [hb] at hbx hgl hvl ⊢
  have hbg : b ≠ g := by omega
  have hbv : some b ≠ v.ownBlock := fun e => by have := hvl b e.symm; omega
  clear hb
  have T0 := hide (WrTo.of_gr (g := g) (v := v) hg)
  have B0 := hide hbx
  clear hbx hgl hvl
  refine (C1.out v W (HA.out.gr hg)).mono ?_
  rintro e w1 ⟨rfl, v1, a1, t1⟩
  have hx1 : Bl w1 b 78 #[.string x.key, .string x.val, .bool x.gone] := t1.bl B0.out hbg hbv
  have n1 : some b ≠ v1.ownBlock := t1.apart hbv B0.out.lt
  have c1 : w1.cell? ⟨b, 1, none⟩ = some (.string x.val) := hx1.cell 1
  have T1 := hide (T0.out.trans t1)
  have B1 := hide hx1
  have A1 := hide a1
  clear hx1 t1 a1 C1
  go_wp2_with fail
  refine (C3.out v1 w1 A1.out).mono ?_
  rintro e w2 ⟨rfl, v2, a2, t2⟩
  have hx2 : Bl w2 b 78 #[.string x.key, .string x.val, .bool x.gone] := t2.bl B1.out hbg n1
  have c2 : w2.cell? ⟨b, 2, none⟩ = some (.bool x.gone) := hx2.cell 2
  have T2 := hide (T1.out.trans t2)
  have A2 := hide a2
  clear hx2 t2 a2 C3 c1
  go_wp2_with fail
  refine (C4.out v2 w2 A2.out).mono ?_
  rintro e w4 ⟨rfl, v4, a4, t4⟩
  go_wp2_with fail
  go_end0
  exact ⟨rfl, v4, a4, T2.out.trans t4⟩

end Go.Proofs.YtpabppoohobjpaaGreat

/-
  txn.Put by its contract.
-/
namespace Go.Proofs.YtpabppoohobjpaaGreat
open Go Go.RowKit TxnMath KeyMath NumPlain
set_option maxRecDepth 100000

theorem WrTo.gr_back {g : Nat} {w0 w w' : World} {v v' : Value} {l : List UInt8} (h : WrTo g w v w' v') (ha : WrAt w g v l) (hg : Gr w0 w) (h0 : w0.heap.size ≤ g) : Gr w0 w' := h.low ha hg h0

set_option maxHeartbeats 1000000 in
theorem putListR_ok (g : Nat) (v rv : Value) (l : List UInt8) (xs : List RdT) (w0 w : World) (h0 : w0.heap.size ≤ g) (hg0 : Gr w0 w) (h : WrAt w g v l) (hr : RowAt 4 w0 rv (xs.map rdC)) (hl : l.length ≤ 10000) (hn : xs.length ≤ 6) (hx : ∀ x ∈ xs, 0 ≤ x.ver ∧ x.ver ≤ 9223372036854775807 ∧ x.key.size ≤ 1000000 ∧ x.val.size ≤ 1000000) :
    Calls Tryz.prog 122 #[.pointer (some ⟨g, 0, none⟩), rv, .func (.func 123) #[.pointer (some ⟨g, 0, none⟩)] #[]] w (WrPost g w v (l ++ putN xs.length ++ xs.flatMap encR)) := by
  obtain ⟨A, c, rfl, hr⟩ := hr.is
  have HR := hide hr
  have HA := hide h
  have HX := hide hx
  have C0 := hide (wrNumber_ok g v l (xs.length : Int) (by omega) w h (by omega))
  rw [putZ_nat] at C0
  have hb3 := (putN_len xs.length).2
  obtain ⟨m, hm⟩ : ∃ m, l ++ putN xs.length = m := ⟨_, rfl⟩
  have hml : m.length ≤ 10010 := by rw [← hm, List.length_append]; omega
  rw [hm] at C0 ⊢
  clear h hr hx hm hb3
  go_enter Tryz.func122, Tryz.ntmps122
  go_wp2_with fail
  refine C0.out.mono ?_
  rintro e w1 ⟨rfl, v1, a1, t1⟩
  have hg1 := t1.low HA.out hg0 h0
  have A1 := hide a1
  have T1 := hide t1
  clear a1 t1 C0 hg0
  go_wp2_with fail
  go_loopw [14] (fun i wr => ∃ (k : Nat) (vr : Value), i = .int .i64 k ∧ k ≤ xs.length ∧ Hid (WrAt wr g vr (m ++ (xs.take k).flatMap encR)) ∧ Hid (WrTo g w v wr vr) ∧ Gr w0 wr) (fun i _ => xs.length - (intOf i).toNat)
  case atStart => exact ⟨0, v1, rfl, by omega, by simpa using A1, T1, hg1⟩
  case round =>
    obtain ⟨k, vr, rfl, hk, ha, ht, hgr⟩ := hrel
    by_cases hlt : k < xs.length
    · have hlt' : (k : Int) < (xs.length : Int) := by omega
      obtain ⟨ad, c', e1, a0, a1, b2, a3⟩ := (HR.out.gr hgr).rd hlt
      simp only [Value.slice.injEq, true_and] at e1
      obtain ⟨rfl, rfl⟩ := e1
      have hfl := hide (flat_more encR hlt)
      have hll : ((xs.take k).flatMap encR).length ≤ 541 * 6 := by
        have := flat_len encR 541 encR_len (xs.take k)
        rw [List.length_take] at this
        omega
      have hlx := HX.out _ (List.getElem_mem hlt)
      obtain ⟨x, hx⟩ : ∃ x, xs[k]'hlt = x := ⟨_, rfl⟩
      rw [hx] at a0 a1 b2 a3 hfl hlx
      have hg2 : ∀ o, Gr wr (wr.alloc o) := fun o => (Gr.refl _).alloc o
      have HG2 := hide hg2
      have CR := hide (fun o => wrRead_ok g vr _ x (wr.alloc o) (ha.out.gr (hg2 o)) (by rw [List.length_append]; omega) hlx.1 hlx.2.1 hlx.2.2.1 hlx.2.2.2)
      clear hx hlx hll hg2
      go_wp2_with fail
      refine (CR.out _).mono ?_
      rintro e w3 ⟨rfl, v3, h3, t3⟩
      have T3 := hide ((WrTo.of_gr (g := g) (v := vr) (HG2.out _)).trans t3)
      have hg3 := T3.out.low ha.out hgr h0
      have A3 : Hid (WrAt w3 g v3 (m ++ (xs.take (k + 1)).flatMap encR)) := by
        show WrAt _ _ _ _
        rw [hfl.out, ← List.append_assoc]
        exact h3
      have TT := hide (ht.out.trans T3.out)
      clear t3 h3 T3 CR hfl ha ht hgr a0 a1 b2 a3
      go_wp2_with fail
      go_roundw
      case rel => exact ⟨k + 1, v3, by go_num, by omega, A3, TT, hg3⟩
      case measure => simp [intOf]; omega
    · obtain rfl : k = xs.length := by omega
      have ha2 := ha.out
      rw [List.take_length] at ha2
      have H2 := hide ha2
      clear ha ha2
      go_wp2_with fail
      go_end0
      exact ⟨rfl, vr, H2.out, ht.out⟩

set_option maxHeartbeats 1000000 in
theorem putListW_ok (g : Nat) (v rv : Value) (l : List UInt8) (xs : List WrT) (w0 w : World) (h0 : w0.heap.size ≤ g) (hg0 : Gr w0 w) (h : WrAt w g v l) (hr : RowAt 3 w0 rv (xs.map wrC)) (hl : l.length ≤ 10000) (hn : xs.length ≤ 4) (hx : ∀ x ∈ xs, x.key.size ≤ 1000000 ∧ x.val.size ≤ 1000000) :
    Calls Tryz.prog 124 #[.pointer (some ⟨g, 0, none⟩), rv, .func (.func 125) #[.pointer (some ⟨g, 0, none⟩)] #[]] w (WrPost g w v (l ++ putN xs.length ++ xs.flatMap encW)) := by
  obtain ⟨A, c, rfl, hr⟩ := hr.is
  have HR := hide hr
  have HA := hide h
  have HX := hide hx
  have C0 := hide (wrNumber_ok g v l (xs.length : Int) (by omega) w h (by omega))
  rw [putZ_nat] at C0
  have hb3 := (putN_len xs.length).2
  obtain ⟨m, hm⟩ : ∃ m, l ++ putN xs.length = m := ⟨_, rfl⟩
  have hml : m.length ≤ 10010 := by rw [← hm, List.length_append]; omega
  rw [hm] at C0 ⊢
  clear h hr hx hm hb3
  go_enter Tryz.func124, Tryz.ntmps124
  go_wp2_with fail
  refine C0.out.mono ?_
  rintro e w1 ⟨rfl, v1, a1, t1⟩
  have hg1 := t1.low HA.out hg0 h0
  have A1 := hide a1
  have T1 := hide t1
  clear a1 t1 C0 hg0
  go_wp2_with fail
  go_loopw [14] (fun i wr => ∃ (k : Nat) (vr : Value), i = .int .i64 k ∧ k ≤ xs.length ∧ Hid (WrAt wr g vr (m ++ (xs.take k).flatMap encW)) ∧ Hid (WrTo g w v wr vr) ∧ Gr w0 wr) (fun i _ => xs.length - (intOf i).toNat)
  case atStart => exact ⟨0, v1, rfl, by omega, by simpa using A1, T1, hg1⟩
  case round =>
    obtain ⟨k, vr, rfl, hk, ha, ht, hgr⟩ := hrel
    by_cases hlt : k < xs.length
    · have hlt' : (k : Int) < (xs.length : Int) := by omega
      obtain ⟨ad, c', e1, a0, a1, b2⟩ := (HR.out.gr hgr).wr hlt
      simp only [Value.slice.injEq, true_and] at e1
      obtain ⟨rfl, rfl⟩ := e1
      have hfl := hide (flat_more encW hlt)
      have hll : ((xs.take k).flatMap encW).length ≤ 531 * 6 := by
        have := flat_len encW 531 encW_len (xs.take k)
        rw [List.length_take] at this
        omega
      have hlx := HX.out _ (List.getElem_mem hlt)
      obtain ⟨x, hx⟩ : ∃ x, xs[k]'hlt = x := ⟨_, rfl⟩
      rw [hx] at a0 a1 b2 hfl hlx
      have hg2 : ∀ o, Gr wr (wr.alloc o) := fun o => (Gr.refl _).alloc o
      have HG2 := hide hg2
      have CR := hide (fun o => wrWrite_ok g vr _ x (wr.alloc o) (ha.out.gr (hg2 o)) (by rw [List.length_append]; omega) hlx.1 hlx.2)
      clear hx hlx hll hg2
      go_wp2_with fail
      refine (CR.out _).mono ?_
      rintro e w3 ⟨rfl, v3, h3, t3⟩
      have T3 := hide ((WrTo.of_gr (g := g) (v := vr) (HG2.out _)).trans t3)
      have hg3 := T3.out.low ha.out hgr h0
      have A3 : Hid (WrAt w3 g v3 (m ++ (xs.take (k + 1)).flatMap encW)) := by
        show WrAt _ _ _ _
        rw [hfl.out, ← List.append_assoc]
        exact h3
      have TT := hide (ht.out.trans T3.out)
      clear t3 h3 T3 CR hfl ha ht hgr a0 a1 b2
      go_wp2_with fail
      go_roundw
      case rel => exact ⟨k + 1, v3, by go_num, by omega, A3, TT, hg3⟩
      case measure => simp [intOf]; omega
    · obtain rfl : k = xs.length := by omega
      have ha2 := ha.out
      rw [List.take_length] at ha2
      have H2 := hide ha2
      clear ha ha2
      go_wp2_with fail
      go_end0
      exact ⟨rfl, vr, H2.out, ht.out⟩

set_option maxHeartbeats 1000000 in
theorem wrTxn_ok (g : Nat) (v tv : Value) (t : TxT) (w0 w : World) (h0 : w0.heap.size ≤ g) (hg0 : Gr w0 w) (h : WrAt w g v []) (ht : TxAt w0 tv t) (hlim : TxLim 1000000 t) (hm : mayT t = true) :
    Calls Tryz.prog 120 #[.pointer (some ⟨g, 0, none⟩), tv] w (WrPost g w v (encT t)) := by
  have hmf : ∀ (fn : Fn) (first cap : Array Value) (w : World), (Instr.makeFunc fn first cap).run Tryz.prog w = .ok (.func fn first cap) w := fun _ _ _ _ => rfl
  obtain ⟨p1, p2, p3, p4, p5, p6, p7, p8, p9, p10⟩ := mayT_parts hm
  obtain ⟨rv, wv, rfl, hr, hw⟩ := ht
  obtain ⟨A, c, rfl, hr⟩ := hr.is
  obtain ⟨B, d, rfl, hw⟩ := hw.is
  have q1 := natOf_len t.ses
  have q2 := natOf_len t.seq
  have q3 := (putN_len t.reads.length).2
  have q4 : (t.reads.flatMap encR).length ≤ 541 * 6 := by
    have := flat_len encR 541 encR_len t.reads
    omega
  have C1 := hide (fun v w h => wrNumber_ok g v [] t.ses (by omega) w h (by simp))
  rw [putZ_of (by omega), List.nil_append] at C1
  have C2 := hide (fun v w h => wrNumber_ok g v (natOf t.ses) t.seq (by omega) w h (by omega))
  rw [putZ_of (by omega)] at C2
  have C3 := hide (fun v w hg h => putListR_ok g v _ (natOf t.ses ++ natOf t.seq) t.reads w0 w h0 hg h hr (by rw [List.length_append]; omega) p7 (fun x hx => ⟨(rdOk_parts (p1 x hx)).1, (hlim.rd x hx).ver.2, (hlim.rd x hx).key, (hlim.rd x hx).val⟩))
  have C4 := hide (fun v w hg h => putListW_ok g v _ (natOf t.ses ++ natOf t.seq ++ putN t.reads.length ++ t.reads.flatMap encR) t.writes w0 w h0 hg h hw (by simp only [List.length_append]; omega) p8 (fun x hx => ⟨(hlim.wr x hx).key, (hlim.wr x hx).val⟩))
  have E : Hid (natOf t.ses ++ natOf t.seq ++ putN t.reads.length ++ t.reads.flatMap encR ++ putN t.writes.length ++ t.writes.flatMap encW = encT t) := hide rfl
  rw [E.out] at C4
  generalize encT t = R at C4 ⊢
  have HA := hide h
  have hgl := h.1.lt
  have hvl : ∀ k, v.ownBlock = some k → k < w.heap.size := fun k hk => (World.ownsRow.lt h.2 k hk).2
  clear h E p1 p2 p3 p4 p5 p6 p7 p8 p9 p10 q1 q2 q3 q4 hlim hm hr hw
  go_enter Tryz.func120, Tryz.ntmps120
  go_wp2_with fail
  obtain ⟨W, hW⟩ : ∃ W, w.alloc (.cells #[.int .i64 t.ses, .int .i64 t.seq, .slice A t.reads.length c, .slice B t.writes.length d] 27) = W := ⟨_, rfl⟩
  have hg : Gr w W := by rw [← hW]; exact (Gr.refl _).alloc _
  have hbx : Bl W w.heap.size 27 #[.int .i64 t.ses, .int .i64 t.seq, .slice A t.reads.length c, .slice B t.writes.length d] := by rw [← hW]; exact Bl.new _ _ _
  rw [hW]
  clear hW
  obtain ⟨b, hb⟩ : ∃ b, w.heap.size = b := ⟨_, rfl⟩
  rw [hb] at hbx hgl hvl ⊢
  have hbg : b ≠ g := by omega
  have hbv : some b ≠ v.ownBlock := fun e => by have := hvl b e.symm; omega
  clear hb
  have T0 := hide (WrTo.of_gr (g := g) (v := v) hg)
  have B0 := hide hbx
  clear hbx hgl hvl
  refine (C1.out v W (HA.out.gr hg)).mono ?_
  rintro e w1 ⟨rfl, v1, a1, t1⟩
  have hx1 : Bl w1 b 27 #[.int .i64 t.ses, .int .i64 t.seq, .slice A t.reads.length c, .slice B t.writes.length d] := t1.bl B0.out hbg hbv
  have n1 : some b ≠ v1.ownBlock := t1.apart hbv B0.out.lt
  have c1 : w1.cell? ⟨b, 1, none⟩ = some (.int .i64 t.seq) := hx1.cell 1
  have T1 := hide (T0.out.trans t1)
  have B1 := hide hx1
  have A1 := hide a1
  clear hx1 t1 a1 C1
  go_wp2_with fail
  refine (C2.out v1 w1 A1.out).mono ?_
  rintro e w2 ⟨rfl, v2, a2, t2⟩
  have hx2 : Bl w2 b 27 #[.int .i64 t.ses, .int .i64 t.seq, .slice A t.reads.length c, .slice B t.writes.length d] := t2.bl B1.out hbg n1
  have n2 : some b ≠ v2.ownBlock := t2.apart n1 B1.out.lt
  have c2 : w2.cell? ⟨b, 2, none⟩ = some (.slice A t.reads.length c) := hx2.cell 2
  have T2 := hide (T1.out.trans t2)
  have B2 := hide hx2
  have A2 := hide a2
  have hg2 := T2.out.low HA.out hg0 h0
  clear hx2 t2 a2 C2 c1
  go_wp2_with fail
  refine (C3.out v2 w2 hg2 A2.out).mono ?_
  rintro e w3 ⟨rfl, v3, a3, t3⟩
  have hx3 : Bl w3 b 27 #[.int .i64 t.ses, .int .i64 t.seq, .slice A t.reads.length c, .slice B t.writes.length d] := t3.bl B2.out hbg n2
  have c3 : w3.cell? ⟨b, 3, none⟩ = some (.slice B t.writes.length d) := hx3.cell 3
  have T3 := hide (T2.out.trans t3)
  have A3 := hide a3
  have hg3 := T3.out.low HA.out hg0 h0
  clear hx3 t3 a3 C3 c2 hg2
  go_wp2_with fail
  refine (C4.out v3 w3 hg3 A3.out).mono ?_
  rintro e w4 ⟨rfl, v4, a4, t4⟩
  go_wp2_with fail
  go_end0
  exact ⟨rfl, v4, a4, T3.out.trans t4⟩

/-- what Put comes to -/
def PutPost (w : World) (l : List UInt8) (e : Ending) (w' : World) : Prop := ∃ A c, e = .returned (.slice A l.length c) ∧ By w' A c l ∧ Gr w w'
/-- .. and that it is the call's own -/
def PutOwn (w : World) (l : List UInt8) (e : Ending) (w' : World) : Prop := ∃ v, e = .returned v ∧ Own w' w.heap.size v l ∧ Gr w w'

set_option maxHeartbeats 1000000 in
theorem TxPutOwn_ok (v : Value) (t : TxT) (w : World) (hv : TxAt w v t) (ht : TxLim 1000000 t) :
    Calls Tryz.prog 119 #[v] w (PutOwn w (putTx t)) := by
  have HV := hide hv
  obtain ⟨rv, wv, rfl, hr, hw⟩ := hv
  obtain ⟨A, c, rfl, hr⟩ := hr.is
  obtain ⟨B, d, rfl, hw⟩ := hw.is
  have HT := hide ht
  have hg0 : ∀ o, Gr w (w.alloc o) := fun o => (Gr.refl _).alloc o
  have HG := hide hg0
  have CM := hide (fun w' hg => TxMay_ok _ t w' (HV.out.gr hg) ht)
  obtain ⟨R, hR⟩ : ∃ R, putTx t = R := ⟨_, rfl⟩
  rw [hR]
  clear hr hw ht hg0
  cases hmay : mayT t
  · have E : Hid (R = []) := by rw [← hR]; unfold putTx; rw [hmay]; exact hide rfl
    rw [hmay] at CM
    clear hR hmay
    go_enter Tryz.func119, Tryz.ntmps119
    go_wp2_with fail
    refine (CM.out _ (HG.out _)).mono ?_
    rintro e w1 ⟨rfl, hg1⟩
    have hg := (HG.out _).trans hg1
    clear hg1
    go_wp2_with fail
    go_ret
    exact ⟨_, rfl, by rw [E.out]; exact OwnE.none_ _ _, hg⟩
  · have E : Hid (encT t = R) := by rw [← hR]; unfold putTx; rw [hmay]; exact hide rfl
    have HM := hide hmay
    rw [hmay] at CM
    clear hR hmay
    go_enter Tryz.func119, Tryz.ntmps119
    go_wp2_with fail
    refine (CM.out _ (HG.out _)).mono ?_
    rintro e w1 ⟨rfl, hg1⟩
    have hb1 := box1 hg1
    have hg := (HG.out _).trans hg1
    have hgl : w.heap.size < w1.heap.size := hb1.lt
    have c0 : ∀ o, (w1.alloc o).cell? ⟨w.heap.size, 0, none⟩ = some (.int .i64 t.ses) := fun o => (hb1.gr ((Gr.refl _).alloc o)).cell 0
    have c1 : ∀ o, (w1.alloc o).cell? ⟨w.heap.size, 1, none⟩ = some (.int .i64 t.seq) := fun o => (hb1.gr ((Gr.refl _).alloc o)).cell 1
    have c2 : ∀ o, (w1.alloc o).cell? ⟨w.heap.size, 2, none⟩ = some (.slice A t.reads.length c) := fun o => (hb1.gr ((Gr.refl _).alloc o)).cell 2
    have c3 : ∀ o, (w1.alloc o).cell? ⟨w.heap.size, 3, none⟩ = some (.slice B t.writes.length d) := fun o => (hb1.gr ((Gr.refl _).alloc o)).cell 3
    have W0 := hide (show WrAt (w1.alloc (.cells #[.slice none 0 0] 149)) w1.heap.size (.slice none 0 0) [] from ⟨Bl.new _ _ _, OwnE.none_ _ _⟩)
    have C := hide (wrTxn_ok w1.heap.size (.slice none 0 0) _ t w1 _ (Nat.le_refl _) ((Gr.refl w1).alloc _) W0.out (HV.out.gr hg) HT.out HM.out)
    rw [E.out] at C
    clear hb1 hg1 CM hgl
    go_wp2_with fail
    refine C.out.mono ?_
    rintro e w2 ⟨rfl, v2, a2, t2⟩
    have hg2 := t2.low W0.out ((Gr.refl w1).alloc _) (Nat.le_refl _)
    have d0 : w2.cell? ⟨w1.heap.size, 0, none⟩ = some v2 := a2.1.cell 0
    obtain ⟨A2, c4, rfl, hby⟩ := a2.2.by_
    have HBY := hide (show Own w2 w.heap.size (.slice A2 R.length c4) R from a2.2.base (by have := hg.size; omega))
    clear a2 t2 W0 C c0 c1 c2 c3 hby
    go_wp2_with fail
    go_ret
    exact ⟨_, rfl, HBY.out, hg.trans hg2⟩

theorem TxPut_ok (v : Value) (t : TxT) (w : World) (hv : TxAt w v t) (ht : TxLim 1000000 t) :
    Calls Tryz.prog 119 #[v] w (PutPost w (putTx t)) :=
  (TxPutOwn_ok v t w hv ht).mono fun e w' ⟨u, h1, h2, h3⟩ => by
    obtain ⟨A, c, rfl, hby⟩ := h2.by_
    exact ⟨A, c, h1, hby, h3⟩

end Go.Proofs.YtpabppoohobjpaaGreat
