/-
  A letter that came in.
-/
import Derived.Test.YtpabppoohobjpaaGreatMgUnnamed
import Derived.Test.YtpabppoohobjpaaGreatTxnArgs
import Derived.Test.YtpabppoohobjpaaGreatMgRefSame
namespace Go.Proofs.YtpabppoohobjpaaGreat
open Go.ChangeShapes Go.WideShapes Go.ChangeAt Go.RowKit Go.Deep TxnMath KeyMath MsgMath
set_option maxRecDepth 100000

section
variable {H : Type} {enc : TypeId × Value → H} {P : Program} {W : World} {base M : Nat} {spare : Nat → Bool} {held : Bool}
/-- a struct whose fields are of any size -/
theorem part_of {t : TypeId} {fs : Array Field} {fuel : Nat} {cs : List Value} {x : DataW H × List MemPlace} (ht : P.underlying t = some (.struct fs)) (h : DataW.trod enc P W base spare held fuel t cs = some x) (hw : Weighs P M t x.1) :
    cs.length = P.cellsOf t ∧ ∃ n, ∀ (i : Nat) (f : Field), fs[i]? = some f → ∃ y : DataW H × List MemPlace, DataW.trod enc P W base spare held n f.type ((cs.drop f.offset).take (P.cellsOf f.type)) = some y ∧ Weighs P M f.type y.1 := by
  obtain ⟨xs, n, _, rfl, hl, hxl, hf⟩ := DataW.trod_struct ht h
  refine ⟨hl, n, fun i f hi => ?_⟩
  have hlt : i < fs.size := (Array.getElem?_eq_some_iff.1 hi).1
  have g := hf i f hi
  rw [List.getElem?_eq_getElem (show i < xs.length by omega)] at g
  refine ⟨xs[i]'(by omega), g, fun m hm => hw m ?_⟩
  simp only [DataW.weights, ht]
  refine DataW.weights_mem_each (j := i) (t := f.type) (d := (xs[i]'(by omega)).1) ?_ ?_ m hm
  · rw [List.getElem?_map, ← Array.getElem?_toList] at *
    rw [hi]
    rfl
  · rw [List.getElem?_map, List.getElem?_eq_getElem (show i < xs.length by omega)]
    rfl
end
section
variable {H : Type} {enc : TypeId × Value → H} {W : World} {base M : Nat} {held : Bool}
theorem RowAt.any {k : Nat} {w : World} {v : Value} {rs : List (List Value)} (h : RowAt k w v rs) : RowX Any k w v rs := ⟨h, fun _ _ _ _ _ => trivial⟩
theorem st_of (fuel : Nat) (cs : List Value) (x : DataW H × List MemPlace) (h : DataW.trod enc Tryz.prog W base (fun _ => true) held fuel 9 cs = some x) (hw : Weighs Tryz.prog M 9 x.1) : ∃ s : ByteArray, cs = strC s ∧ s.size ≤ M := by
  obtain ⟨s, h1, rfl, _⟩ := DataW.trod_string Tryz.underlying9 h
  refine ⟨s, by simpa [strC] using h1, ?_⟩
  have := hw s.data.toList.length (by simp [DataW.weights])
  rwa [Array.length_toList] at this
/-- an entry's cells -/
theorem en_of (fuel : Nat) (cs : List Value) (x : DataW H × List MemPlace) (h : DataW.trod enc Tryz.prog W base (fun _ => true) held fuel 45 cs = some x) (hw : Weighs Tryz.prog M 45 x.1) :
    ∃ a : EntT × (Value × Value), cs = entC a.1 a.2 ∧ RowsX Any W a.1.t a.2 ∧ TxLim M a.1.t := by
  obtain ⟨hl, n, hf⟩ := part_of Tryz.underlying45 h hw
  obtain ⟨y0, t0, _⟩ := hf 0 _ rfl
  obtain ⟨y1, t1, _⟩ := hf 1 _ rfl
  obtain ⟨y2, t2, w2⟩ := hf 2 _ rfl
  have hl' : cs.length = 6 := hl
  match cs, hl' with
  | [a0, a1, a2, a3, a4, a5], _ =>
    obtain ⟨z, rfl, _⟩ := int_of Tryz.underlying3 (v := a0) t0
    obtain ⟨b, rfl⟩ := bool_of Tryz.underlying4 (v := a1) t1
    obtain ⟨t, ⟨rv, wv, e, h1, h2⟩, ht⟩ := tx_of n [a2, a3, a4, a5] y2 t2 w2
    have e2 : [a2, a3, a4, a5] = [.int .i64 t.ses, .int .i64 t.seq, rv, wv] := congrArg Array.toList (Value.agg.inj e)
    simp only [List.cons.injEq, and_true] at e2
    obtain ⟨rfl, rfl, rfl, rfl⟩ := e2
    exact ⟨(⟨z, b, t⟩, (a4, a5)), rfl, ⟨h1.any, h2.any⟩, ht⟩
/-- a letter's limits as it came in -/
structure MsgIn (M : Nat) (m : MsgT) : Prop where
  en : m.entries.length ≤ M
  ent : ∀ e ∈ m.entries, TxLim M e.t
  t : TxLim M m.t
  fk : m.fromKey.size ≤ M
  tk : m.toKey.size ≤ M
  kn : m.keys.length ≤ M
  ks : ∀ s ∈ m.keys, s.size ≤ M
  gn : m.got.length ≤ M
  gk : ∀ x ∈ m.got, RdLim M x
theorem ents_of {v : Value} {xs : List (EntT × (Value × Value))} (h : RowAt 6 W v (xs.map fun a => entC a.1 a.2)) (hx : ∀ a ∈ xs, RowsX Any W a.1.t a.2 ∧ TxLim M a.1.t) : EntsX Any W v (xs.map (·.1)) := by
  refine ⟨fun j => ((xs[j]?).map (·.2)).getD (undef, undef), ?_, fun j e hj => ?_⟩
  · have e : ((xs.map (·.1)).mapIdx fun j e => entC e (((xs[j]?).map (·.2)).getD (undef, undef))) = xs.map fun a => entC a.1 a.2 := by
      refine List.ext_getElem? fun j => ?_
      rw [List.getElem?_mapIdx, List.getElem?_map, List.getElem?_map]
      cases xs[j]? <;> rfl
    rw [e]
    exact h.any
  · rw [List.getElem?_map] at hj
    cases hq : xs[j]? with
    | none => rw [hq] at hj; cases hj
    | some a =>
      rw [hq] at hj
      cases hj
      simp only [hq, Option.map_some, Option.getD_some]
      exact (hx a (List.mem_of_getElem? hq)).1
set_option maxHeartbeats 2000000 in
theorem msg_of (fuel : Nat) (cs : List Value) (x : DataW H × List MemPlace) (h : DataW.trod enc Tryz.prog W base (fun _ => true) held fuel 31 cs = some x) (hw : Weighs Tryz.prog M 31 x.1) : ∃ m : MsgT, MsgAt W (.agg cs.toArray) m ∧ MsgIn M m := by
  obtain ⟨hl, n, hf⟩ := part_of Tryz.underlying31 h hw
  obtain ⟨y0, t0, _⟩ := hf 0 _ rfl
  obtain ⟨y1, t1, _⟩ := hf 1 _ rfl
  obtain ⟨y2, t2, _⟩ := hf 2 _ rfl
  obtain ⟨y3, t3, _⟩ := hf 3 _ rfl
  obtain ⟨y4, t4, _⟩ := hf 4 _ rfl
  obtain ⟨y5, t5, _⟩ := hf 5 _ rfl
  obtain ⟨y6, t6, _⟩ := hf 6 _ rfl
  obtain ⟨y7, t7, _⟩ := hf 7 _ rfl
  obtain ⟨y8, t8, _⟩ := hf 8 _ rfl
  obtain ⟨y9, t9, w9⟩ := hf 9 _ rfl
  obtain ⟨y10, t10, w10⟩ := hf 10 _ rfl
  obtain ⟨y11, t11, _⟩ := hf 11 _ rfl
  obtain ⟨y12, t12, _⟩ := hf 12 _ rfl
  obtain ⟨y13, t13, _⟩ := hf 13 _ rfl
  obtain ⟨y14, t14, _⟩ := hf 14 _ rfl
  obtain ⟨y15, t15, _⟩ := hf 15 _ rfl
  obtain ⟨y16, t16, w16⟩ := hf 16 _ rfl
  obtain ⟨y17, t17, w17⟩ := hf 17 _ rfl
  obtain ⟨y18, t18, w18⟩ := hf 18 _ rfl
  obtain ⟨y19, t19, w19⟩ := hf 19 _ rfl
  obtain ⟨y20, t20, _⟩ := hf 20 _ rfl
  clear hf hw h
  have hl' : cs.length = 24 := hl
  clear hl
  match cs, hl' with
  | [a0, a1, a2, a3, a4, a5, a6, a7, a8, a9, a10, a11, a12, a13, a14, a15, a16, a17, a18, a19, a20, a21, a22, a23], _ =>
    obtain ⟨z0, rfl, _⟩ := int_of Tryz.underlying3 (v := a0) t0
    obtain ⟨z1, rfl, _⟩ := int_of Tryz.underlying3 (v := a1) t1
    obtain ⟨z2, rfl, _⟩ := int_of Tryz.underlying3 (v := a2) t2
    obtain ⟨z3, rfl, _⟩ := int_of Tryz.underlying3 (v := a3) t3
    obtain ⟨z4, rfl, _⟩ := int_of Tryz.underlying3 (v := a4) t4
    obtain ⟨z5, rfl, _⟩ := int_of Tryz.underlying3 (v := a5) t5
    obtain ⟨z6, rfl, _⟩ := int_of Tryz.underlying3 (v := a6) t6
    obtain ⟨z7, rfl, _⟩ := int_of Tryz.underlying3 (v := a7) t7
    obtain ⟨b8, rfl⟩ := bool_of Tryz.underlying4 (v := a8) t8
    obtain ⟨xs, hxr, hxo, hxn⟩ := rows_of (fun a : EntT × (Value × Value) => entC a.1 a.2) (fun a => RowsX Any W a.1.t a.2 ∧ TxLim M a.1.t) Tryz.underlying23 (k := 6) (by kernel_rfl) (by decide +kernel) en_of (v := a9) t9 w9
    obtain ⟨t, ⟨rv, wv, e, ht1, ht2⟩, ht⟩ := tx_of n [a10, a11, a12, a13] y10 t10 w10
    have e2 : [a10, a11, a12, a13] = [.int .i64 t.ses, .int .i64 t.seq, rv, wv] := congrArg Array.toList (Value.agg.inj e)
    simp only [List.cons.injEq, and_true] at e2
    obtain ⟨rfl, rfl, rfl, rfl⟩ := e2
    obtain ⟨z11, rfl, _⟩ := int_of Tryz.underlying3 (v := a14) t11
    obtain ⟨z12, rfl, _⟩ := int_of Tryz.underlying3 (v := a15) t12
    obtain ⟨z13, rfl, _⟩ := int_of Tryz.underlying3 (v := a16) t13
    obtain ⟨z14, rfl, _⟩ := int_of Tryz.underlying3 (v := a17) t14
    obtain ⟨b15, rfl⟩ := bool_of Tryz.underlying4 (v := a18) t15
    obtain ⟨s16, rfl, hs16⟩ := str_of Tryz.underlying9 (v := a19) t16 w16
    obtain ⟨s17, rfl, hs17⟩ := str_of Tryz.underlying9 (v := a20) t17 w17
    obtain ⟨ks, hkr, hko, hkn⟩ := rows_of strC (fun s => s.size ≤ M) Tryz.underlying28 (k := 1) (by kernel_rfl) (by decide +kernel) st_of (v := a21) t18 w18
    obtain ⟨gs, hgr, hgo, hgn⟩ := rows_of rdC (RdLim M) Tryz.underlying24 (k := 4) (by kernel_rfl) (by decide +kernel) rd_of (v := a22) t19 w19
    obtain ⟨z20, rfl, _⟩ := int_of Tryz.underlying29 (v := a23) t20
    refine ⟨⟨z0, z1, z2, z3, z4, z5, z6, z7, b8, xs.map (·.1), t, z11, z12, z13, z14, b15, s16, s17, ks, gs, z20⟩, ⟨⟨a9, (a12, a13), a21, a22⟩, rfl, ents_of hxr hxo, ⟨ht1.any, ht2.any⟩, hkr.any, hgr.any⟩, by simpa using hxn, fun e he => ?_, ht, hs16, hs17, hkn, hko, hgn, hgo⟩
    obtain ⟨a, ha, rfl⟩ := List.mem_map.1 he
    exact (hxo a ha).2
theorem arg_msg {r : Reach} {b0 : Nat} {v : Value} {d : DataW H} {p : List MemPlace} (hv : Value.okWide Tryz.prog W r b0 31 v) (h : DataW.Trod enc Tryz.prog W base (fun _ => true) held 31 v d p) (hw : Weighs Tryz.prog M 31 d) :
    ∃ m : MsgT, MsgAt W v m ∧ MsgIn M m := by
  simp only [Value.okWide, Tryz.underlying31] at hv
  obtain ⟨cs, rfl, hcs, _⟩ := hv
  obtain ⟨fuel, hf⟩ := h
  have := msg_of fuel _ _ hf hw
  simpa [Value.cells] using this
end
end Go.Proofs.YtpabppoohobjpaaGreat

/-
  The statement's Light: what it says of a letter that came in.
-/
namespace Go.Proofs.YtpabppoohobjpaaGreat
open Go Go.RowKit TxnMath KeyMath MsgMath
set_option maxRecDepth 100000

/-- light enough -/
structure LightP (m : MsgT) : Prop where
  en : m.entries.length ≤ 6
  ent : ∀ e ∈ m.entries, e.t.reads.length + e.t.writes.length ≤ 9
  t : m.t.reads.length + m.t.writes.length ≤ 12
  kn : m.keys.length ≤ 9
  gn : m.got.length ≤ 70
  tx : m.fromKey.size + m.toKey.size ≤ 60
theorem MsgIn.bnd {M : Nat} {m : MsgT} (h : MsgIn M m) (hM : M ≤ 281474976710656) (hl : LightP m) : MsgBnd m := by
  have tb : ∀ t : TxT, TxLim M t → t.reads.length + t.writes.length ≤ 12 → TxBnd t := fun t ht hn => ⟨by omega, by omega, fun x hx => ⟨by have := (ht.rd x hx).key; omega⟩, fun x hx => ⟨by have := (ht.wr x hx).key; omega⟩⟩
  exact ⟨by have := hl.en; omega, fun e he => tb e.t (h.ent e he) (by have := hl.ent e he; omega), tb m.t h.t hl.t, by have := hl.tx; omega, by have := hl.tx; omega, by have := hl.kn; omega, fun s hs => by have := h.ks s hs; omega, by have := hl.gn; omega, fun x hx => by have := (h.gk x hx).key; omega⟩
theorem MsgIn.vers {M : Nat} {m : MsgT} (h : MsgIn M m) : MsgVers m := ⟨fun x hx => (h.t.rd x hx).ver.2, fun e he x hx => ((h.ent e he).rd x hx).ver.2⟩
open Classical in
noncomputable def lightB (m : MsgT) : Bool := decide (LightP m)
theorem lightB_yes {m : MsgT} (h : LightP m) : lightB m = true := by unfold lightB; simp [h]
theorem lightB_no {m : MsgT} (h : ¬ LightP m) : lightB m = false := by unfold lightB; simp [h]
theorem lightB_is {m : MsgT} (h : lightB m = true) : LightP m := by
  unfold lightB at h
  simpa using h
def LightPost (w : World) (m : MsgT) (e : Ending) (w' : World) : Prop := e = .returned (.bool (lightB m)) ∧ Gr w w'

set_option maxHeartbeats 4000000 in
theorem Light_ok (v : Value) (m : MsgT) (w : World) (hv : MsgAt w v m) (M : Nat) (hM : M ≤ 281474976710656) (hin : MsgIn M m) : Calls Tryz.prog 8 #[v] w (LightPost w m) := by
  obtain ⟨eA, eC, rA, rC, wA, wC, kA, kC, gA, gC, rfl, hE, _⟩ := hv.open_
  have HE := hide hE
  have HIN := hide hin
  have hn0 := hin.en
  have hn1 := hin.kn
  have hn2 := hin.gn
  have hn3 := hin.t.rn
  have hn4 := hin.t.wn
  have hn5 := hin.fk
  have hn6 := hin.tk
  have HLP := hide (@LightP.mk m)
  obtain ⟨cs, hcs⟩ : ∃ cs, (cellsV m eA eC rA rC wA wC kA kC gA gC) = cs := ⟨_, rfl⟩
  rw [hcs]
  have HCS := hide hcs
  clear hv hE hcs hin
  go_enter Tryz.func8, Tryz.ntmps8
  go_upto_region 1 with (fail)
  obtain ⟨W, hW⟩ : ∃ W, w.alloc (.cells cs 31) = W := ⟨_, rfl⟩
  have hgW : Gr w W := by rw [← hW]; exact (Gr.refl _).alloc _
  have hbW : Bl W w.heap.size 31 cs := by rw [← hW]; exact Bl.new _ _ _
  change (Code.region 1 _ false).wp _ _ _ (w.alloc (.cells cs 31))
  rw [hW]
  clear hW
  obtain ⟨g, hg⟩ : ∃ g, w.heap.size = g := ⟨_, rfl⟩
  rw [hg] at hbW ⊢
  clear hg
  have HG := hide hgW
  have HB := hide hbW
  clear hgW hbW
  go_wp2_with fail
  go_loopw [3] (fun i wr => ∃ k : Nat, i = .int .i64 k ∧ k ≤ m.entries.length ∧ Hid (∀ j (hj : j < m.entries.length), j < k → m.entries[j].t.reads.length + m.entries[j].t.writes.length ≤ 9) ∧ Hid (Gr W wr)) (fun i _ => m.entries.length - (intOf i).toNat)
  case atStart => exact ⟨0, rfl, by omega, fun j _ hj => absurd hj (by omega), Gr.refl _⟩
  case round =>
    obtain ⟨k, rfl, hk, HJ, HX⟩ := hrel
    have hbx := HB.out.gr HX.out
    have z9 : wr.cell? ⟨g, 9, none⟩ = some (.slice eA m.entries.length eC) := (hbx.cell 9).trans (by rw [← HCS.out]; rfl)
    by_cases hlt : k < m.entries.length
    · have hlt' : (k : Int) < (m.entries.length : Int) := by omega
      obtain ⟨ad, c, p, e1, hrx, a0, a1, a2, a3, a4, a5⟩ := (HE.out.gr (HG.out.trans HX.out)).ent hlt
      simp only [Value.slice.injEq, true_and] at e1
      obtain ⟨rfl, rfl⟩ := e1
      obtain ⟨rA1, rC1, e4⟩ := hrx.rd.sl
      obtain ⟨wA1, wC1, e5⟩ := hrx.wr.sl
      obtain ⟨p1, p2⟩ := p
      simp only at e4 e5 a4 a5
      subst e4 e5
      rw [List.length_map] at a4 a5
      have hb1 := (HIN.out.ent _ (List.getElem_mem hlt)).rn
      have hb2 := (HIN.out.ent _ (List.getElem_mem hlt)).wn
      have HJ1 := hide (fun (h : m.entries[k].t.reads.length + m.entries[k].t.writes.length ≤ 9) => (show ∀ j (hj : j < m.entries.length), j < k + 1 → m.entries[j].t.reads.length + m.entries[j].t.writes.length ≤ 9 from fun j hj hjk => by
        by_cases hx : j < k
        · exact HJ.out j hj hx
        · obtain rfl : j = k := by omega
          exact h))
      have HNL := hide (fun (h : 9 < m.entries[k].t.reads.length + m.entries[k].t.writes.length) => lightB_no (m := m) fun hl => by have := hl.ent _ (List.getElem_mem hlt); omega)
      generalize m.entries[k].t.reads.length = m1 at a4 hb1 HJ1 HNL
      generalize m.entries[k].t.writes.length = m2 at a5 hb2 HJ1 HNL
      have hm1 : (m1 : Int) ≤ 281474976710656 := by omega
      have hm2 : (m2 : Int) ≤ 281474976710656 := by omega
      have hw1 : IntKind.i64.wrap ((m1 : Int) + (m2 : Int)) = (m1 : Int) + (m2 : Int) := IntWalk.i64_in _ (by omega)
      clear a0 a1 a2 a3 hrx hbx HJ
      by_cases hq : (9 : Int) < (m1 : Int) + (m2 : Int)
      · have d1 : decide ((9 : Int) < (m1 : Int) + (m2 : Int)) = true := decide_eq_true hq
        go_wp2_with fail
        go_quiet (fail)
        go_wp2_with fail
        go_ret
        exact ⟨by rw [HNL.out (by omega)]; rfl, (HG.out.trans HX.out).drewN _⟩
      · have d1 : decide ((9 : Int) < (m1 : Int) + (m2 : Int)) = false := decide_eq_false hq
        replace HJ1 := hide (HJ1.out (by omega))
        go_wp2_with fail
        go_quiet (fail)
        go_wp2_with fail
        go_roundw
        case rel => exact ⟨k + 1, by go_num, by omega, HJ1, HX.out.drewN _⟩
        case measure => simp [intOf]; omega
    · obtain rfl : k = m.entries.length := by omega
      have HAll := hide (show ∀ e ∈ m.entries, e.t.reads.length + e.t.writes.length ≤ 9 from fun e he => by
        obtain ⟨j, hj, rfl⟩ := List.getElem_of_mem he
        exact HJ.out j hj hj)
      have z12 : wr.cell? ⟨g, 12, none⟩ = some (.slice rA m.t.reads.length rC) := (hbx.cell 12).trans (by rw [← HCS.out]; rfl)
      have z13 : wr.cell? ⟨g, 13, none⟩ = some (.slice wA m.t.writes.length wC) := (hbx.cell 13).trans (by rw [← HCS.out]; rfl)
      have z19 : wr.cell? ⟨g, 19, none⟩ = some (.string m.fromKey) := (hbx.cell 19).trans (by rw [← HCS.out]; rfl)
      have z20 : wr.cell? ⟨g, 20, none⟩ = some (.string m.toKey) := (hbx.cell 20).trans (by rw [← HCS.out]; rfl)
      have z21 : wr.cell? ⟨g, 21, none⟩ = some (.slice kA m.keys.length kC) := (hbx.cell 21).trans (by rw [← HCS.out]; rfl)
      have z22 : wr.cell? ⟨g, 22, none⟩ = some (.slice gA m.got.length gC) := (hbx.cell 22).trans (by rw [← HCS.out]; rfl)
      have HGX := hide (HG.out.trans HX.out)
      clear HJ hbx HB HE HX HG HIN HCS
      replace HLP := hide (fun h1 h3 h4 h5 h6 => HLP.out h1 HAll.out h3 h4 h5 h6)
      clear HAll
      have e1 : (m.t.reads.length : Int) ≤ 281474976710656 := by omega
      have e2 : (m.t.writes.length : Int) ≤ 281474976710656 := by omega
      have e3 : (m.fromKey.size : Int) ≤ 281474976710656 := by omega
      have e4 : (m.toKey.size : Int) ≤ 281474976710656 := by omega
      clear hn0 hn1 hn2 hn3 hn4 hn5 hn6
      by_cases c1 : (m.entries.length : Int) ≤ 6
      · by_cases c2 : (m.keys.length : Int) ≤ 9
        · by_cases c3 : (m.got.length : Int) ≤ 70
          · by_cases c4 : (m.t.reads.length : Int) + (m.t.writes.length : Int) ≤ 12
            · by_cases c5 : (m.fromKey.size : Int) + (m.toKey.size : Int) ≤ 60
              · have HT := hide (HLP.out (by omega) (by omega) (by omega) (by omega) (by omega))
                clear HLP
                go_wp2_with fail
                go_ret
                exact ⟨by rw [lightB_yes HT.out]; rfl, HGX.out⟩
              · clear HLP
                go_wp2_with fail
                go_ret
                exact ⟨by rw [lightB_no fun h => by have := h.tx; omega]; rfl, HGX.out⟩
            · clear HLP
              go_wp2_with fail
              go_ret
              exact ⟨by rw [lightB_no fun h => by have := h.t; omega]; rfl, HGX.out⟩
          · clear HLP
            go_wp2_with fail
            go_ret
            exact ⟨by rw [lightB_no fun h => by have := h.gn; omega]; rfl, HGX.out⟩
        · clear HLP
          go_wp2_with fail
          go_ret
          exact ⟨by rw [lightB_no fun h => by have := h.kn; omega]; rfl, HGX.out⟩
      · clear HLP
        go_wp2_with fail
        go_ret
        exact ⟨by rw [lightB_no fun h => by have := h.en; omega]; rfl, HGX.out⟩
end Go.Proofs.YtpabppoohobjpaaGreat
