/-
  The document's TakeTxn by its contract.
-/
import Derived.Test.YtjpdhijhmpdbnaaGreatTxnReader
import Derived.Deep.CutBlock
import Derived.Deep.DeepCutAuto
namespace Go.Proofs.YtjpdhijhmpdbnaaGreat
open Go Go.RowKit TxnMath KeyMath NumPlain TakeMath
set_option maxRecDepth 100000

/-- nothing was taken -/
theorem take_none {w w8 : World} {l : List UInt8} {gR : Nat} (hno : takenT l = ⟨0, 0, [], []⟩ ∧ takenK l = 0 ∧ takenB l = false) (hg : Gr w w8) (hR : w.heap.size ≤ gR) (hb : Bl w8 gR 26 #[.int .i64 0, .int .i64 0, .slice none 0 0, .slice none 0 0]) (nq : Nat) :
    Bl (((((w8.drewN nq).setCell ⟨gR, 0, none⟩ (.int .i64 0)).setCell ⟨gR, 1, none⟩ (.int .i64 0)).setCell ⟨gR, 2, none⟩ (.slice none 0 0)).setCell ⟨gR, 3, none⟩ (.slice none 0 0)) gR 26 #[.int .i64 0, .int .i64 0, .slice none 0 0, .slice none 0 0] ∧
      TakenPost w l (.returned (.tuple #[.agg #[.int .i64 0, .int .i64 0, .slice none 0 0, .slice none 0 0], .int .i64 0, .bool false])) (((((w8.drewN nq).setCell ⟨gR, 0, none⟩ (.int .i64 0)).setCell ⟨gR, 1, none⟩ (.int .i64 0)).setCell ⟨gR, 2, none⟩ (.slice none 0 0)).setCell ⟨gR, 3, none⟩ (.slice none 0 0)) := by
  refine ⟨((((hb.drewN nq).put 0 _).put 1 _).put 2 _).put 3 _, .agg #[.int .i64 0, .int .i64 0, .slice none 0 0, .slice none 0 0], ?_, ?_, ?_⟩
  · rw [hno.2.1, hno.2.2]; rfl
  · rw [hno.1]; exact TxAt.none_ _
  · exact hg.fresh (((((But.refl w8 gR).drewN nq).set 0 _).set 1 _).set 2 _ |>.set 3 _) hR

/-- what was taken is handed out -/
theorem Tk.give {w wr : World} {g gR gT B : Nat} {A : Option Addr} {c : Nat} {l : List UInt8} {s : RdS} {a b : Int} {rv : Value} {xs : List RdT} {wv : Value} {ys : List WrT} (h : Tk w wr g gR gT B A c l s a b rv xs wv ys) (hR : w.heap.size ≤ gR) (nq : Nat) :
    Bl (((((wr.drewN nq).setCell ⟨gR, 0, none⟩ (.int .i64 a)).setCell ⟨gR, 1, none⟩ (.int .i64 b)).setCell ⟨gR, 2, none⟩ rv).setCell ⟨gR, 3, none⟩ wv) gR 26 #[.int .i64 a, .int .i64 b, rv, wv] ∧
      TxAt (((((wr.drewN nq).setCell ⟨gR, 0, none⟩ (.int .i64 a)).setCell ⟨gR, 1, none⟩ (.int .i64 b)).setCell ⟨gR, 2, none⟩ rv).setCell ⟨gR, 3, none⟩ wv) (.agg #[.int .i64 a, .int .i64 b, rv, wv]) ⟨a, b, xs, ys⟩ ∧
      Gr w (((((wr.drewN nq).setCell ⟨gR, 0, none⟩ (.int .i64 a)).setCell ⟨gR, 1, none⟩ (.int .i64 b)).setCell ⟨gR, 2, none⟩ rv).setCell ⟨gR, 3, none⟩ wv) := by
  have hl := h.lt
  have hb : But wr (((((wr.drewN nq).setCell ⟨gR, 0, none⟩ (.int .i64 a)).setCell ⟨gR, 1, none⟩ (.int .i64 b)).setCell ⟨gR, 2, none⟩ rv).setCell ⟨gR, 3, none⟩ wv) gR := (((((But.refl wr gR).drewN nq).set 0 _).set 1 _).set 2 _).set 3 _
  refine ⟨((((h.res.drewN nq).put 0 _).put 1 _).put 2 _).put 3 _, ⟨rv, wv, rfl, (h.rows.but hb (by omega)).rowAt, (h.wrs.but hb (by omega)).rowAt⟩, h.gr.fresh hb hR⟩

set_option maxHeartbeats 2000000 in
theorem RefTakeTxn_ok (A : Option Addr) (n c : Nat) (l : List UInt8) (hn : n = l.length) (w : World) (hby : By w A c l) (hmax : (l.length : Int) ≤ 1000000000) :
    Calls Tryz.prog 20 #[.slice A n c] w (TakenPost w l) := by
  subst hn
  obtain ⟨i0, hi, hz0, hz1, hz2⟩ := info_parts info_rd
  obtain ⟨i1, gi, gz0, gz1, gz2⟩ := info_parts info_wr
  have HBY := hide hby
  have hoff := hide (fun (g : Nat) (hg : w.heap.size ≤ g) (hl : 0 < l.length) (ad : Addr) (hA : A = some ad) => (show ad.block ≠ g by have := hby.rd.lt hl hA; omega))
  clear hby
  obtain ⟨r1, hr1⟩ : ∃ r, numS l ⟨0, false⟩ = r := ⟨_, rfl⟩
  obtain ⟨r2, hr2⟩ : ∃ r, numS l r1.2 = r := ⟨_, rfl⟩
  obtain ⟨r3, hr3⟩ : ∃ r, numS l r2.2 = r := ⟨_, rfl⟩
  have l1 := numS_lim l ⟨0, false⟩
  rw [hr1] at l1
  have l2 := numS_lim l r1.2
  rw [hr2] at l2
  have l3 := numS_lim l r2.2
  rw [hr3] at l3
  have p1 := l1.2.2.2 (by simp)
  have p2 := l2.2.2.2 p1
  have p3 := l3.2.2.2 p2
  go_enter Tryz.func20, Tryz.ntmps20
  go_wp2_with fail
  have hg0 : Gr w ((w.alloc (.cells #[.int .i64 0, .int .i64 0, .slice none 0 0, .slice none 0 0] 26)).alloc (.cells #[.slice A l.length c, .int .i64 0, .bool false] 81)) := ((Gr.refl _).alloc _).alloc _
  have hbR : Bl ((w.alloc (.cells #[.int .i64 0, .int .i64 0, .slice none 0 0, .slice none 0 0] 26)).alloc (.cells #[.slice A l.length c, .int .i64 0, .bool false] 81)) w.heap.size 26 #[.int .i64 0, .int .i64 0, .slice none 0 0, .slice none 0 0] := (Bl.new _ _ _).gr ((Gr.refl _).alloc _)
  have hbg : Bl ((w.alloc (.cells #[.int .i64 0, .int .i64 0, .slice none 0 0, .slice none 0 0] 26)).alloc (.cells #[.slice A l.length c, .int .i64 0, .bool false] 81)) (w.heap.size + 1) 81 #[.slice A l.length c, .int .i64 0, .bool false] := by
    have := Bl.new (w.alloc (.cells #[.int .i64 0, .int .i64 0, .slice none 0 0, .slice none 0 0] 26)) 81 #[.slice A l.length c, .int .i64 0, .bool false]
    rwa [show (w.alloc (.cells #[.int .i64 0, .int .i64 0, .slice none 0 0, .slice none 0 0] 26)).heap.size = w.heap.size + 1 by simp] at this
  generalize (w.alloc (.cells #[.int .i64 0, .int .i64 0, .slice none 0 0, .slice none 0 0] 26)).alloc (.cells #[.slice A l.length c, .int .i64 0, .bool false] 81) = w1 at hg0 hbR hbg ⊢
  obtain ⟨gR, hgR⟩ : ∃ gR, w.heap.size = gR := ⟨_, rfl⟩
  have HGR := hide hgR
  rw [hgR] at hbR hbg hoff ⊢
  obtain ⟨g, hgg⟩ : ∃ g, gR + 1 = g := ⟨_, rfl⟩
  rw [hgg] at hbg ⊢
  have hgl := hbg.lt
  refine (RefNum_ok g A c l ⟨0, false⟩ w1 hbg (HBY.out.gr hg0) (by simp) hmax).mono ?_
  rintro e w2 ⟨rfl, hrd2, hb2⟩
  rw [hr1] at hrd2 ⊢
  have hg2 : Gr w w2 := hg0.fresh hb2 (by omega)
  have hbR2 := hbR.but_ hb2 (by omega)
  clear hbR hbg hb2 hg0
  go_wp2_with fail
  have hg3 : Gr w (w2.alloc (.cells #[.int .i64 r1.1, .int .i64 0, .slice none 0 0, .slice none 0 0] 26)) := hg2.alloc _
  have hbT : Bl (w2.alloc (.cells #[.int .i64 r1.1, .int .i64 0, .slice none 0 0, .slice none 0 0] 26)) w2.heap.size 26 #[.int .i64 r1.1, .int .i64 0, .slice none 0 0, .slice none 0 0] := Bl.new _ _ _
  have hbR3 := hbR2.gr ((Gr.refl w2).alloc (.cells #[.int .i64 r1.1, .int .i64 0, .slice none 0 0, .slice none 0 0] 26))
  have hrd3 : RefRd (w2.alloc (.cells #[.int .i64 r1.1, .int .i64 0, .slice none 0 0, .slice none 0 0] 26)) g A l.length c r1.2 := Bl.gr hrd2 ((Gr.refl w2).alloc _)
  generalize w2.alloc (.cells #[.int .i64 r1.1, .int .i64 0, .slice none 0 0, .slice none 0 0] 26) = w3 at hg3 hbT hbR3 hrd3 ⊢
  have hgT2 : g < w2.heap.size := Bl.lt hrd2
  obtain ⟨gT, hgT⟩ : ∃ gT, w2.heap.size = gT := ⟨_, rfl⟩
  rw [hgT] at hbT hgT2 ⊢
  have hTl := hbT.lt
  have htk : Tk w w3 g gR gT (gT + 1) A c l r1.2 r1.1 0 (.slice none 0 0) [] (.slice none 0 0) [] := ⟨hg3, ⟨by omega, by omega, by omega, by omega, by omega⟩, hrd3, hbR3, hbT, OwnR.none_ _ _, OwnR.none_ _ _, Sep.none_ _ _ _⟩
  clear hg3 hbT hbR3 hrd3 hg2 hbR2 hrd2
  refine (RefNum_ok g A c l r1.2 w3 htk.rd (HBY.out.gr htk.gr) p1 hmax).mono ?_
  rintro e w4 ⟨rfl, hrd4, hb4⟩
  rw [hr2] at hrd4 ⊢
  replace htk := htk.call hb4 hrd4
  have t1 : w4.cell? ⟨gT, 1, none⟩ = some (.int .i64 0) := htk.t.cell 1
  have f1 : w4.frozen? ⟨gT, 1, none⟩ = false := htk.t.frozen 1
  clear hrd4 hb4
  have HTK := hide htk
  clear htk
  go_wp2_with fail
  have htk := HTK.out.setB r2.1
  generalize w4.setCell ⟨gT, 1, none⟩ (.int .i64 r2.1) = w5 at htk ⊢
  refine (RefNum_ok g A c l r2.2 w5 htk.rd (HBY.out.gr htk.gr) p2 hmax).mono ?_
  rintro e w6 ⟨rfl, hrd6, hb6⟩
  rw [hr3] at hrd6 ⊢
  replace htk := htk.call hb6 hrd6
  clear hrd6 hb6 t1 f1 HTK
  have HTK := hide htk
  have hlt := htk.lt
  clear htk
  go_upto_block 0 with fail
  obtain ⟨q, hq⟩ : ∃ q, readsS l r3.1 r3.2 = q := ⟨_, rfl⟩
  have HQ := hide hq
  clear hq
  go_cut [] (fun wx => ∃ rv, Tk w wx g gR gT (gT + 1) A c l q.2 r1.1 r2.1 rv q.1 (.slice none 0 0) [])
  case first =>
    go_wp2_with fail
    go_loopw [7] (fun nv wr => ∃ n xs s rv, nv = .int .i64 n ∧ n ≤ 9223372036854775807 ∧ 0 ≤ n ∧ xs.length ≤ 7 ∧ s.at_ ≤ l.length ∧ Hid (readsS l r3.1 r3.2 = loopS (rdS l) 6 (7 - xs.length) n xs s) ∧ Hid (Tk w wr g gR gT (gT + 1) A c l s r1.1 r2.1 rv xs (.slice none 0 0) [])) (fun nv _ => (intOf nv).toNat)
    case atStart => exact ⟨r3.1, [], r3.2, _, rfl, l3.2.1, l3.1, by simp, p3, rfl, HTK⟩
    case round =>
      obtain ⟨n, xs, s, rv, rfl, hn1, hn0, hxl, hsl, hso, htk⟩ := hrel
      have htk' := htk.out
      obtain ⟨rA, rc, hrv, _⟩ := htk'.rows.is
      rw [List.length_map] at hrv
      have d2 : wr.cell? ⟨g, 2, none⟩ = some (.bool s.bad) := Bl.cell htk'.rd 2
      have t2 : wr.cell? ⟨gT, 2, none⟩ = some rv := htk'.t.cell 2
      subst hrv
      clear htk'
      by_cases h1 : 0 < n
      · cases h2 : s.bad
        · rw [h2] at d2
          by_cases h3 : xs.length ≤ 6
          · have h3' : (xs.length : Int) ≤ 6 := by omega
            have hx := hso.out
            rw [loopS_next (M := 6) ⟨h1, h2, h3⟩] at hx
            have HX := hide hx
            clear hx hso h2
            obtain ⟨k, s1, e1⟩ : ∃ k s1, txtS l s = (k, s1) := ⟨_, _, rfl⟩
            obtain ⟨z, s2, e2⟩ : ∃ z s2, numS l s1 = (z, s2) := ⟨_, _, rfl⟩
            obtain ⟨v, s3, e3⟩ : ∃ v s3, txtS l s2 = (v, s3) := ⟨_, _, rfl⟩
            obtain ⟨f, s4, e4⟩ : ∃ f s4, flagS l s3 = (f, s4) := ⟨_, _, rfl⟩
            have m1 := (txtS_lim l s).2.2 hsl
            rw [e1] at m1
            have m2 := (numS_lim l s1).2.2.2 m1
            rw [e2] at m2
            have m3 := (txtS_lim l s2).2.2 m2
            rw [e3] at m3
            have m4 := (flagS_lim l s3).2 m3
            rw [e4] at m4
            have E := hide (show rdS l s = (⟨k, z, v, f⟩, s4) by unfold rdS; simp only [e1, e2, e3, e4])
            have C1 := hide (fun w' hr hb => RefText_ok g A c l s w' hr hb hsl hmax)
            have C2 := hide (fun w' hr hb => RefNum_ok g A c l s1 w' hr hb m1 hmax)
            have C3 := hide (fun w' hr hb => RefText_ok g A c l s2 w' hr hb m2 hmax)
            have C4 := hide (fun w' hr hb ho => RefFlag_ok g A c l s3 w' hr hb ho hmax)
            rw [e1] at C1
            rw [e2] at C2
            rw [e3] at C3
            rw [e4] at C4
            clear e1 e2 e3 e4 m1 m2 m3
            have hwr := htk.out
            go_wp2_with fail
            refine (C1.out _ hwr.rd (HBY.out.gr hwr.gr)).mono ?_
            rintro e w1 ⟨rfl, hrd, hb⟩
            replace hwr := hwr.call hb hrd
            have hlw := hwr.low
            clear hrd hb htk d2 t2
            have HWR := hide hwr
            clear hwr
            go_wp2_with fail
            have hX2 : Bl (w1.alloc (.cells #[.string k, .int .i64 0, .string ⟨#[]⟩, .bool false] 46)) w1.heap.size 46 #[.string k, .int .i64 0, .string ⟨#[]⟩, .bool false] := Bl.new _ _ _
            have hwr := HWR.out.more ((Gr.refl w1).alloc (.cells #[.string k, .int .i64 0, .string ⟨#[]⟩, .bool false] 46))
            have hB := HWR.out.lt.2.2.2.2
            generalize w1.alloc (.cells #[.string k, .int .i64 0, .string ⟨#[]⟩, .bool false] 46) = w2 at hX2 hwr ⊢
            obtain ⟨gX, hgX⟩ : ∃ gX, w1.heap.size = gX := ⟨_, rfl⟩
            rw [hgX] at hX2 hB hlw ⊢
            have n1 : some gX ≠ (Value.slice rA xs.length rc).ownBlock := fun e => by have := hlw _ (.inl e.symm); omega
            have n2 : some gX ≠ (Value.slice none 0 0).ownBlock := fun e => by cases e
            have n3 : gX ≠ g := by omega
            refine (C2.out _ hwr.rd (HBY.out.gr hwr.gr)).mono ?_
            rintro e w3 ⟨rfl, hrd, hb⟩
            replace hwr := hwr.call hb hrd
            have hX3 := hX2.but_ hb n3
            clear hrd hb hX2 hlw HWR hgX
            have x1 : w3.cell? ⟨gX, 1, none⟩ = some (.int .i64 0) := hX3.cell 1
            have y1 := hX3.frozen 1
            have HWR := hide hwr
            have HXB := hide hX3
            clear hwr hX3
            go_wp2_with fail
            have hwr := HWR.out.other (But.set (But.refl w3 gX) 1 (.int .i64 z)) hB n1 n2
            have hX4 : Bl (w3.setCell ⟨gX, 1, none⟩ (.int .i64 z)) gX 46 #[.string k, .int .i64 z, .string ⟨#[]⟩, .bool false] := HXB.out.put 1 _
            generalize w3.setCell ⟨gX, 1, none⟩ (.int .i64 z) = w4 at hwr hX4 ⊢
            clear x1 y1 HWR HXB
            refine (C3.out _ hwr.rd (HBY.out.gr hwr.gr)).mono ?_
            rintro e w5 ⟨rfl, hrd, hb⟩
            replace hwr := hwr.call hb hrd
            have hX5 := hX4.but_ hb n3
            clear hrd hb hX4
            have x2 : w5.cell? ⟨gX, 2, none⟩ = some (.string ⟨#[]⟩) := hX5.cell 2
            have y2 := hX5.frozen 2
            have HWR := hide hwr
            have HXB := hide hX5
            clear hwr hX5
            go_wp2_with fail
            have hwr := HWR.out.other (But.set (But.refl w5 gX) 2 (.string v)) hB n1 n2
            have hX6 : Bl (w5.setCell ⟨gX, 2, none⟩ (.string v)) gX 46 #[.string k, .int .i64 z, .string v, .bool false] := HXB.out.put 2 _
            generalize w5.setCell ⟨gX, 2, none⟩ (.string v) = w6 at hwr hX6 ⊢
            clear x2 y2 HWR HXB
            refine (C4.out _ hwr.rd (HBY.out.gr hwr.gr) (hoff.out g (by omega))).mono ?_
            rintro e w7 ⟨rfl, hrd, hb⟩
            replace hwr := hwr.call hb hrd
            have hX7 := hX6.but_ hb n3
            clear hrd hb hX6
            have x3 : w7.cell? ⟨gX, 3, none⟩ = some (.bool false) := hX7.cell 3
            have y3 := hX7.frozen 3
            have hw8 := hwr.other (But.set (But.refl w7 gX) 3 (.bool f)) hB n1 n2
            have hX8 : Bl (w7.setCell ⟨gX, 3, none⟩ (.bool f)) gX 46 #[.string k, .int .i64 z, .string v, .bool f] := hX7.put 3 _
            have z0 : (w7.setCell ⟨gX, 3, none⟩ (.bool f)).cell? ⟨gX, 0, none⟩ = some (.string k) := hX8.cell 0
            have z1 : (w7.setCell ⟨gX, 3, none⟩ (.bool f)).cell? ⟨gX, 1, none⟩ = some (.int .i64 z) := hX8.cell 1
            have z2 : (w7.setCell ⟨gX, 3, none⟩ (.bool f)).cell? ⟨gX, 2, none⟩ = some (.string v) := hX8.cell 2
            have z3 : (w7.setCell ⟨gX, 3, none⟩ (.bool f)).cell? ⟨gX, 3, none⟩ = some (.bool f) := hX8.cell 3
            have zt : (w7.setCell ⟨gX, 3, none⟩ (.bool f)).cell? ⟨gT, 2, none⟩ = some (.slice rA xs.length rc) := hw8.t.cell 2
            have HW8 := hide hw8
            clear hw8 hX8 hX7 hwr
            go_wp2_with (at_builtin; refine wpList_pushR rfl (.tmp 53) (.tmp 55) _ rfl 46 i0 _ 4 48 Tryz.underlying23 hi hz0 hz1 hz2 rfl (by decide) (cs := #[.string k, .int .i64 z, .string v, .bool f]) rfl (by simp [Value.oneCell']) rfl HW8.out.rows HW8.out.lt.2.2.2.2 (congrArg (fun z => Value.slice (some ⟨z, 0, none⟩) 1 1) (show w7.heap.size = (w7.setCell ⟨gX, 3, none⟩ (.bool f)).heap.size by simp [World.setCell])) (by rw [List.length_map]; unfold maxLen; omega) (by rw [List.length_map]; omega) ?_; intro v3 w9 ho9 hp9; obtain ⟨vA, vc, hv3, _⟩ := ho9.is; generalize hm3 : List.length _ = m3 at hv3; subst hv3; clear hm3; have hT9 := HW8.out.atR hp9; have c9 : w9.cell? ⟨gT, 2, none⟩ = some (.slice rA xs.length rc) := hT9.cell 2; have f9 := hT9.frozen 2; have HW9 := hide (HW8.out.pushR (x := ⟨k, z, v, f⟩) hp9 ho9); clear hT9 ho9 hp9)
            go_roundw
            case rel => exact ⟨n - 1, xs ++ [⟨k, z, v, f⟩], s4, _, rfl, by omega, by omega, by rw [List.length_append, List.length_singleton]; omega, m4, by have h := HX.out; rw [E.out] at h; exact h, HW9⟩
            case measure => simp [intOf]; omega
          · have h3' : ¬ (xs.length : Int) ≤ 6 := by omega
            have hx := hso.out
            rw [HQ.out, loopS_stop (fun h => h3 h.2.2)] at hx
            have HX := hide hx
            clear hx h2
            go_wp2_with fail
            go_meet
            rw [HX.out]
            exact ⟨_, htk.out⟩
        · rw [h2] at d2
          have hx := hso.out
          rw [HQ.out, loopS_stop (fun h => by rw [h2] at h; exact absurd h.2.1 (by simp))] at hx
          have HX := hide hx
          clear hx h2
          go_wp2_with fail
          go_meet
          rw [HX.out]
          exact ⟨_, htk.out⟩
      · have hx := hso.out
        rw [HQ.out, loopS_stop (fun h => h1 h.1)] at hx
        have HX := hide hx
        clear hx
        go_wp2_with fail
        go_meet
        rw [HX.out]
        exact ⟨_, htk.out⟩
  case rest =>
    obtain ⟨rv, htk⟩ := hcut
    have hql := readsS_lim l r3.1 r3.2 p3
    rw [HQ.out] at hql
    obtain ⟨r4, hr4⟩ : ∃ r, numS l q.2 = r := ⟨_, rfl⟩
    have l4 := numS_lim l q.2
    rw [hr4] at l4
    have p4 := l4.2.2.2 hql.1
    have C0 := hide (fun w' hr hb => RefNum_ok g A c l q.2 w' hr hb hql.1 hmax)
    rw [hr4] at C0
    clear HTK
    have HTK := hide htk
    clear htk
    go_wp2_with fail
    refine (C0.out _ HTK.out.rd (HBY.out.gr HTK.out.gr)).mono ?_
    rintro e w7 ⟨rfl, hrd, hb⟩
    have htk := HTK.out.call hb hrd
    clear HTK hrd hb C0
    have HTK := hide htk
    clear htk
    obtain ⟨y, hy⟩ : ∃ y, writesS l r4.1 r4.2 = y := ⟨_, rfl⟩
    have HY := hide hy
    clear hy
    obtain ⟨qA, qc, hrv, _⟩ := HTK.out.rows.is
    rw [List.length_map] at hrv
    subst hrv
    go_upto_block 2 with fail
    go_cut [] (fun wx => ∃ wv, Tk w wx g gR gT (gT + 1) A c l y.2 r1.1 r2.1 (.slice qA q.1.length qc) q.1 wv y.1)
    case first =>
      go_wp2_with fail
      go_loopw [9] (fun nv wr => ∃ n ys s wv, nv = .int .i64 n ∧ n ≤ 9223372036854775807 ∧ 0 ≤ n ∧ ys.length ≤ 5 ∧ s.at_ ≤ l.length ∧ Hid (writesS l r4.1 r4.2 = loopS (wrS l) 4 (5 - ys.length) n ys s) ∧ Hid (Tk w wr g gR gT (gT + 1) A c l s r1.1 r2.1 (.slice qA q.1.length qc) q.1 wv ys)) (fun nv _ => (intOf nv).toNat)
      case atStart => exact ⟨r4.1, [], r4.2, _, rfl, l4.2.1, l4.1, by simp, p4, rfl, HTK⟩
      case round =>
        obtain ⟨n, ys, s, wv, rfl, hn1, hn0, hxl, hsl, hso, htk⟩ := hrel
        have htk' := htk.out
        obtain ⟨rA, rc, hwv, _⟩ := htk'.wrs.is
        rw [List.length_map] at hwv
        have d2 : wr.cell? ⟨g, 2, none⟩ = some (.bool s.bad) := Bl.cell htk'.rd 2
        have t3 : wr.cell? ⟨gT, 3, none⟩ = some wv := htk'.t.cell 3
        subst hwv
        clear htk'
        by_cases h1 : 0 < n
        · cases h2 : s.bad
          · rw [h2] at d2
            by_cases h3 : ys.length ≤ 4
            · have h3' : (ys.length : Int) ≤ 4 := by omega
              have hx := hso.out
              rw [loopS_next (M := 4) ⟨h1, h2, h3⟩] at hx
              have HX := hide hx
              clear hx hso h2
              obtain ⟨k, s1, e1⟩ : ∃ k s1, txtS l s = (k, s1) := ⟨_, _, rfl⟩
              obtain ⟨v, s3, e3⟩ : ∃ v s3, txtS l s1 = (v, s3) := ⟨_, _, rfl⟩
              obtain ⟨f, s4, e4⟩ : ∃ f s4, flagS l s3 = (f, s4) := ⟨_, _, rfl⟩
              have m1 := (txtS_lim l s).2.2 hsl
              rw [e1] at m1
              have m3 := (txtS_lim l s1).2.2 m1
              rw [e3] at m3
              have m4 := (flagS_lim l s3).2 m3
              rw [e4] at m4
              have E := hide (show wrS l s = (⟨k, v, f⟩, s4) by unfold wrS; simp only [e1, e3, e4])
              have C1 := hide (fun w' hr hb => RefText_ok g A c l s w' hr hb hsl hmax)
              have C3 := hide (fun w' hr hb => RefText_ok g A c l s1 w' hr hb m1 hmax)
              have C4 := hide (fun w' hr hb ho => RefFlag_ok g A c l s3 w' hr hb ho hmax)
              rw [e1] at C1
              rw [e3] at C3
              rw [e4] at C4
              clear e1 e3 e4 m1 m3
              have hwr := htk.out
              go_wp2_with fail
              refine (C1.out _ hwr.rd (HBY.out.gr hwr.gr)).mono ?_
              rintro e w1 ⟨rfl, hrd, hb⟩
              replace hwr := hwr.call hb hrd
              have hlw := hwr.low
              clear hrd hb htk d2 t3
              have HWR := hide hwr
              clear hwr
              go_wp2_with fail
              have hX2 : Bl (w1.alloc (.cells #[.string k, .string ⟨#[]⟩, .bool false] 44)) w1.heap.size 44 #[.string k, .string ⟨#[]⟩, .bool false] := Bl.new _ _ _
              have hwr := HWR.out.more ((Gr.refl w1).alloc (.cells #[.string k, .string ⟨#[]⟩, .bool false] 44))
              have hB := HWR.out.lt.2.2.2.2
              generalize w1.alloc (.cells #[.string k, .string ⟨#[]⟩, .bool false] 44) = w2 at hX2 hwr ⊢
              obtain ⟨gX, hgX⟩ : ∃ gX, w1.heap.size = gX := ⟨_, rfl⟩
              rw [hgX] at hX2 hB hlw ⊢
              have n1 : some gX ≠ (Value.slice qA q.1.length qc).ownBlock := fun e => by have := hlw _ (.inl e.symm); omega
              have n2 : some gX ≠ (Value.slice rA ys.length rc).ownBlock := fun e => by have := hlw _ (.inr e.symm); omega
              have n3 : gX ≠ g := by omega
              refine (C3.out _ hwr.rd (HBY.out.gr hwr.gr)).mono ?_
              rintro e w5 ⟨rfl, hrd, hb⟩
              replace hwr := hwr.call hb hrd
              have hX5 := hX2.but_ hb n3
              clear hrd hb hX2 hlw HWR hgX
              have x2 : w5.cell? ⟨gX, 1, none⟩ = some (.string ⟨#[]⟩) := hX5.cell 1
              have y2 := hX5.frozen 1
              have HWR := hide hwr
              have HXB := hide hX5
              clear hwr hX5
              go_wp2_with fail
              have hwr := HWR.out.other (But.set (But.refl w5 gX) 1 (.string v)) hB n1 n2
              have hX6 : Bl (w5.setCell ⟨gX, 1, none⟩ (.string v)) gX 44 #[.string k, .string v, .bool false] := HXB.out.put 1 _
              generalize w5.setCell ⟨gX, 1, none⟩ (.string v) = w6 at hwr hX6 ⊢
              clear x2 y2 HWR HXB
              refine (C4.out _ hwr.rd (HBY.out.gr hwr.gr) (hoff.out g (by omega))).mono ?_
              rintro e w7 ⟨rfl, hrd, hb⟩
              replace hwr := hwr.call hb hrd
              have hX7 := hX6.but_ hb n3
              clear hrd hb hX6
              have x3 : w7.cell? ⟨gX, 2, none⟩ = some (.bool false) := hX7.cell 2
              have y3 := hX7.frozen 2
              have hw8 := hwr.other (But.set (But.refl w7 gX) 2 (.bool f)) hB n1 n2
              have hX8 : Bl (w7.setCell ⟨gX, 2, none⟩ (.bool f)) gX 44 #[.string k, .string v, .bool f] := hX7.put 2 _
              have z0 : (w7.setCell ⟨gX, 2, none⟩ (.bool f)).cell? ⟨gX, 0, none⟩ = some (.string k) := hX8.cell 0
              have z2 : (w7.setCell ⟨gX, 2, none⟩ (.bool f)).cell? ⟨gX, 1, none⟩ = some (.string v) := hX8.cell 1
              have z3 : (w7.setCell ⟨gX, 2, none⟩ (.bool f)).cell? ⟨gX, 2, none⟩ = some (.bool f) := hX8.cell 2
              have zt : (w7.setCell ⟨gX, 2, none⟩ (.bool f)).cell? ⟨gT, 3, none⟩ = some (.slice rA ys.length rc) := hw8.t.cell 3
              have HW8 := hide hw8
              clear hw8 hX8 hX7 hwr
              go_wp2_with (at_builtin; refine wpList_pushR rfl (.tmp 87) (.tmp 89) _ rfl 44 i1 _ 3 40 Tryz.underlying24 gi gz0 gz1 gz2 rfl (by decide) (cs := #[.string k, .string v, .bool f]) rfl (by simp [Value.oneCell']) rfl HW8.out.wrs HW8.out.lt.2.2.2.2 (congrArg (fun z => Value.slice (some ⟨z, 0, none⟩) 1 1) (show w7.heap.size = (w7.setCell ⟨gX, 2, none⟩ (.bool f)).heap.size by simp [World.setCell])) (by rw [List.length_map]; unfold maxLen; omega) (by rw [List.length_map]; omega) ?_; intro v3 w9 ho9 hp9; obtain ⟨vA, vc, hv3, _⟩ := ho9.is; generalize hm3 : List.length _ = m3 at hv3; subst hv3; clear hm3; have hT9 := HW8.out.atW hp9; have c9 : w9.cell? ⟨gT, 3, none⟩ = some (.slice rA ys.length rc) := hT9.cell 3; have f9 := hT9.frozen 3; have HW9 := hide (HW8.out.pushW (y := ⟨k, v, f⟩) hp9 ho9); clear hT9 ho9 hp9)
              go_roundw
              case rel => exact ⟨n - 1, ys ++ [⟨k, v, f⟩], s4, _, rfl, by omega, by omega, by rw [List.length_append, List.length_singleton]; omega, m4, by have h := HX.out; rw [E.out] at h; exact h, HW9⟩
              case measure => simp [intOf]; omega
            · have h3' : ¬ (ys.length : Int) ≤ 4 := by omega
              have hx := hso.out
              rw [HY.out, loopS_stop (fun h => h3 h.2.2)] at hx
              have HX := hide hx
              clear hx h2
              go_wp2_with fail
              go_meet
              rw [HX.out]
              exact ⟨_, htk.out⟩
          · rw [h2] at d2
            have hx := hso.out
            rw [HY.out, loopS_stop (fun h => by rw [h2] at h; exact absurd h.2.1 (by simp))] at hx
            have HX := hide hx
            clear hx h2
            go_wp2_with fail
            go_meet
            rw [HX.out]
            exact ⟨_, htk.out⟩
        · have hx := hso.out
          rw [HY.out, loopS_stop (fun h => h1 h.1)] at hx
          have HX := hide hx
          clear hx
          go_wp2_with fail
          go_meet
          rw [HX.out]
          exact ⟨_, htk.out⟩
    case rest =>
      obtain ⟨wv, htk⟩ := hcut
      obtain ⟨yA, yc, hwv, _⟩ := htk.wrs.is
      rw [List.length_map] at hwv
      subst hwv
      have hrun : runS l = (⟨r1.1, r2.1, q.1, y.1⟩, y.2) := by
        unfold runS
        simp only [hr1, hr2, hr3, HQ.out, hr4, HY.out]
      have hlim := runS_lim l
      have HRUN := hide hrun
      obtain ⟨t, ht⟩ : ∃ t : TxT, (⟨r1.1, r2.1, q.1, y.1⟩ : TxT) = t := ⟨_, rfl⟩
      have hlims : TxLim 1000000 t := by
        obtain ⟨f1, f2, f3, f4, f5, f6, f7, f8, _⟩ := hlim
        rw [hrun] at f1 f2 f3 f4 f5 f6 f7 f8
        rw [← ht]
        exact ⟨⟨by simp only [] at *; omega, f6⟩, ⟨by simp only [] at *; omega, f8⟩, by simp only [] at *; omega, by simp only [] at *; omega, fun x hx => ⟨by have := (f1 x hx).key; omega, by have := (f1 x hx).val; omega, by have := (f1 x hx).lo; omega, (f1 x hx).hi⟩, fun x hx => ⟨by have := (f2 x hx).key; omega, by have := (f2 x hx).val; omega⟩⟩
      have hat : y.2.at_ ≤ l.length := by
        have h9 := hlim.2.2.2.2.2.2.2.2
        rw [hrun] at h9
        exact h9
      clear hlim hrun hr1 hr2 hr3 hr4 l1 l2 l3 l4 p1 p2 p3 p4
      have htx := htk.txAt
      rw [ht] at htx
      have t0 : wc.cell? ⟨gT, 0, none⟩ = some (.int .i64 r1.1) := htk.t.cell 0
      have t1 : wc.cell? ⟨gT, 1, none⟩ = some (.int .i64 r2.1) := htk.t.cell 1
      have t2 : wc.cell? ⟨gT, 2, none⟩ = some (.slice qA q.1.length qc) := htk.t.cell 2
      have t3 : wc.cell? ⟨gT, 3, none⟩ = some (.slice yA y.1.length yc) := htk.t.cell 3
      have HTK2 := hide htk
      have HTX := hide htx
      have HT := hide ht
      clear htk htx ht
      go_wp2_with fail
      refine (RefPutTxn_ok _ t wc HTX.out hlims).mono ?_
      rintro e w8 ⟨vb, rfl, hown8, hg8⟩
      obtain ⟨A5, c5, rfl, hby5⟩ := hown8.by_
      have hwt := HTK2.out.more hg8
      have e2 : w8.cell? ⟨g, 2, none⟩ = some (.bool y.2.bad) := Bl.cell hwt.rd 2
      have e1 : w8.cell? ⟨g, 1, none⟩ = some (.int .i64 (y.2.at_ : Int)) := Bl.cell hwt.rd 1
      have q0 : w8.cell? ⟨gR, 0, none⟩ = some (.int .i64 0) := hwt.res.cell 0
      have q1 : w8.cell? ⟨gR, 1, none⟩ = some (.int .i64 0) := hwt.res.cell 1
      have q2 : w8.cell? ⟨gR, 2, none⟩ = some (.slice none 0 0) := hwt.res.cell 2
      have q3 : w8.cell? ⟨gR, 3, none⟩ = some (.slice none 0 0) := hwt.res.cell 3
      have g0 := hwt.res.frozen 0
      have g1 := hwt.res.frozen 1
      have g2 := hwt.res.frozen 2
      have g3 := hwt.res.frozen 3
      have HWT := hide hwt
      have HBY5 := hide hby5
      clear hwt hby5 hown8 t0 t1 t2 t3 hlt
      have HGOOD := hide (show goodS l = (!y.2.bad && !(putTx t).isEmpty && putTx t == l.take y.2.at_) by unfold goodS; rw [HRUN.out, HT.out])
      obtain ⟨P, hP⟩ : ∃ P, putTx t = P := ⟨_, rfl⟩
      rw [hP] at HBY5 HGOOD ⊢
      clear hP
      have hRle : w.heap.size ≤ gR := Nat.le_of_eq HGR.out
      have HN := hide (fun hno => take_none (w := w) (w8 := w8) (l := l) (gR := gR) hno HWT.out.gr hRle HWT.out.res)
      cases hbad : y.2.bad
      · rw [hbad] at e2 HGOOD
        clear hbad
        by_cases hz : (P.length : Int) = 0
        · have hP0 : P = [] := List.eq_nil_of_length_eq_zero (by omega)
          have HNO := hide (taken_no (l := l) (by rw [HGOOD.out, hP0]; rfl))
          clear hP0
          go_wp2_with fail
          go_quiet (fail)
          go_wp2_with fail
          obtain ⟨hbn, hpn⟩ := HN.out HNO.out _
          refine bodyPost_ret (results_cell3 rfl _ _ gR 26 #[.int .i64 0, .int .i64 0, .slice none 0 0, .slice none 0 0] (0, 0) _ rfl hbn Tryz.underlying26 rfl (by kernel_rfl)) rfl ?_
          exact hpn
        · have hPe : P.isEmpty = false := by
            cases P
            · exact absurd rfl hz
            · rfl
          rw [hPe] at HGOOD
          clear hPe
          have hb5 := ((HBY.out.gr HWT.out.gr).take y.2.at_)
          have hl5 : (l.take y.2.at_).length = y.2.at_ := by rw [List.length_take]; omega
          have h1 := hide (fun m => run_conv (P := Tryz.prog) (w8.drewN m) 22 9 5 Tryz.underlying22 Tryz.underlying5 Tryz.underlying9 (l := P) _ c5 rfl (HBY5.out.rd.drewN m))
          have h2 := hide (fun m => run_conv (P := Tryz.prog) (w8.drewN m) 22 9 5 Tryz.underlying22 Tryz.underlying5 Tryz.underlying9 (l := l.take y.2.at_) _ c hl5 (hb5.rd.drewN m))
          have hcap := (HBY.out).le
          have hat' : (y.2.at_ : Int) ≤ (c : Int) := by omega
          have hzb := beq_no hz
          clear hb5 hl5
          go_wp2_with fail
          refine wp_region_quiet_lit (by kernel_rfl) (by kernel_rfl) ?_
          repeat (go_big_quiet_step (fail))
          refine quiet_conv_if (by rfl) 22 9 (.tmp 104) rfl rfl (fun w' ⟨n, hw'⟩ => by rw [hw']; exact h1.out _) ?_
          simp only [Act.put, List.setIfInBounds_toArray, List.set_cons_zero, List.set_cons_succ]
          repeat (go_big_quiet_step (fail))
          refine quiet_conv_if (by rfl) 22 9 (.tmp 111) rfl rfl (fun w' ⟨n, hw'⟩ => by rw [hw']; exact h2.out _) ?_
          clear h1 h2
          simp only [Act.put, List.setIfInBounds_toArray, List.set_cons_zero, List.set_cons_succ]
          repeat (go_big_quiet_step (fail))
          refine wpQuiet_nil ?_
          rintro _ ⟨nq, rfl⟩
          by_cases he : P = l.take y.2.at_
          · have hq : (!((bs P).toList == (bs (l.take y.2.at_)).toList)) = false := by rw [he, beq_self_eq_true]; rfl
            rw [hq]
            have HYES := hide (taken_yes (l := l) (by rw [HGOOD.out, he, beq_self_eq_true]; rfl))
            clear he hq
            have t0 : w8.cell? ⟨gT, 0, none⟩ = some (.int .i64 r1.1) := HWT.out.t.cell 0
            have t1 : w8.cell? ⟨gT, 1, none⟩ = some (.int .i64 r2.1) := HWT.out.t.cell 1
            have t2 : w8.cell? ⟨gT, 2, none⟩ = some (.slice qA q.1.length qc) := HWT.out.t.cell 2
            have t3 : w8.cell? ⟨gT, 3, none⟩ = some (.slice yA y.1.length yc) := HWT.out.t.cell 3
            clear e2 hat'
            go_wp2_with fail
            go_region
            clear t0 t1 t2 t3
            go_wp2_with fail
            have hput := HWT.out.give hRle (nq + 1)
            refine bodyPost_ret (results_cell3 rfl _ _ gR 26 #[.int .i64 r1.1, .int .i64 r2.1, .slice qA q.1.length qc, .slice yA y.1.length yc] (0, 0) _ rfl hput.1 Tryz.underlying26 rfl (by kernel_rfl)) rfl ?_
            refine ⟨.agg #[.int .i64 r1.1, .int .i64 r2.1, .slice qA q.1.length qc, .slice yA y.1.length yc], ?_, ?_, hput.2.2⟩
            · rw [HYES.out.2.1, HYES.out.2.2, HRUN.out]; rfl
            · rw [HYES.out.1, HRUN.out]; exact hput.2.1
          · have hq : (!((bs P).toList == (bs (l.take y.2.at_)).toList)) = true := by rw [bs_ne_ he]; rfl
            rw [hq]
            have HNO := hide (taken_no (l := l) (by rw [HGOOD.out, beq_eq_false_iff_ne.2 he]; rfl))
            clear he hq
            go_wp2_with fail
            obtain ⟨hbn, hpn⟩ := HN.out HNO.out _
            refine bodyPost_ret (results_cell3 rfl _ _ gR 26 #[.int .i64 0, .int .i64 0, .slice none 0 0, .slice none 0 0] (0, 0) _ rfl hbn Tryz.underlying26 rfl (by kernel_rfl)) rfl ?_
            exact hpn
      · rw [hbad] at e2 HGOOD
        clear hbad
        have HNO := hide (taken_no (l := l) (by rw [HGOOD.out]; rfl))
        go_wp2_with fail
        go_quiet (fail)
        go_wp2_with fail
        obtain ⟨hbn, hpn⟩ := HN.out HNO.out _
        refine bodyPost_ret (results_cell3 rfl _ _ gR 26 #[.int .i64 0, .int .i64 0, .slice none 0 0, .slice none 0 0] (0, 0) _ rfl hbn Tryz.underlying26 rfl (by kernel_rfl)) rfl ?_
        exact hpn

end Go.Proofs.YtjpdhijhmpdbnaaGreat
