/-
  Two wals on one disk.
-/
import Derived.Test.YtfabcpdljclkpaaDoorWalDeeds
import Derived.Test.YtfabcpdljclkpaaDoorWalMath3
import Derived.Test.YtfabcpdljclkpaaDoorQuietIf
namespace Go.Proofs.YtfabcpdljclkpaaDoor
open Go Go.RowKit MapS DiskMem DiskHit DiskBegin DiskOps DiskApp DiskCrash KeyMath WalName WalObj WalDo WalWalk WalRead WalOpen WalMath WalBegun FrameMath
set_option maxRecDepth 100000

/-- the pieces of a letter, the wal that stands for them -/
structure Side (wr : World) (S : Nat → Prop) (F : Fs) (lo d g : Nat) (b : UInt8) (size u : Nat) (ls : List (List UInt8)) (fs : List FileT) : Prop where
  wal : WalAt wr g d b size fs.length
  gS : ¬ S g
  lo : lo ≤ g
  pcs : Pcs F b fs
  len : fs.length ≤ u
  recs : AllIn fs ls
structure TwAt (w wr : World) (d g1 g2 size u : Nat) (xs ys : List (List UInt8)) : Prop where
  gr : Gr w wr
  ne : g1 ≠ g2
  tl : tabG < w.heap.size
  ex : ∃ S F fs gs, Use w.heap.size S wr d 1048576 F ∧ TabW wr ∧ Ris F ∧ usedF F ≤ u * 106 ∧ F.length ≤ u ∧ Side wr S F w.heap.size d g1 97 size u xs fs ∧ Side wr S F w.heap.size d g2 98 size u ys gs
/-- one of them takes a record -/
theorem side_add {w wr : World} {S : Nat → Prop} {F : Fs} {d g h size u : Nat} {b c : UInt8} {xs ys : List (List UInt8)} {fs gs : List FileT} (hb : 97 ≤ b.toNat ∧ b.toNat ≤ 122) (hbc : c ≠ b) (hgr : Gr w wr) (hne : h ≠ g) (htl : tabG < w.heap.size)
    (hu : Use w.heap.size S wr d 1048576 F) (ht : TabW wr) (hr : Ris F) (hU : usedF F ≤ u * 106) (hF : F.length ≤ u) (s1 : Side wr S F w.heap.size d g b size u xs fs) (s2 : Side wr S F w.heap.size d h c size u ys gs) (hk : u < 100)
    {A : Option Addr} {cc : Nat} {l : List UInt8} (hby : By wr A cc l) (hl : l.length ≤ 100) :
    Calls Tryd.prog 15 #[.pointer (some ⟨g, 0, none⟩), .slice A l.length cc] wr fun e w2 => e = .returned (.int .i64 0) ∧ Gr w w2 ∧ ∃ S' F' fs', Use w.heap.size S' w2 d 1048576 F' ∧ TabW w2 ∧ Ris F' ∧ usedF F' ≤ (u + 1) * 106 ∧ F'.length ≤ u + 1 ∧ Side w2 S' F' w.heap.size d g b size (u + 1) (xs ++ [l]) fs' ∧ Side w2 S' F' w.heap.size d h c size (u + 1) ys gs := by
  have hst : WSt w.heap.size S wr d 1048576 F g b size fs.length := ⟨hu, s1.wal, s1.gS, ht, htl, s1.lo⟩
  have hl1 := s1.len
  obtain ⟨F', e1, a1⟩ := append_yes (room := 1048576) (size := size) (l := l) hb hr s1.pcs (by omega) (by omega) (by omega)
  have ha := append_ok hb (by omega) hst A l.length cc l rfl hby (by omega) (by omega) (by omega)
  rw [e1] at ha
  refine ha.mono fun e w2 hd => ?_
  have hsz := hd.2.2.size
  have hh := Bl.lt s2.wal
  refine ⟨hd.1, gr_done hst (Nat.le_refl _) hgr hd, _, F', addP size fs l, hd.2.1.use, hd.2.1.tab, a1.ris, by have := a1.used; omega, by have := a1.len; omega, ⟨hd.2.1.wal, hd.2.1.gS, s1.lo, a1.pcs, by have := (addP_len size fs l).1; omega, s1.recs.add size (by omega)⟩, ⟨s2.wal.only hd.2.2 (fun e => ?_), fun e => ?_, s2.lo, a1.other c gs hbc s2.pcs, Nat.le_succ_of_le s2.len, s2.recs⟩⟩
  · rcases e with e | e
    · exact s2.gS e
    · exact hne e
  · rcases e with e | e
    · exact s2.gS e
    · omega
theorem TwAt.addA {w wr : World} {d g1 g2 size u : Nat} {xs ys : List (List UInt8)} (h : TwAt w wr d g1 g2 size u xs ys) (hk : u < 100) {A : Option Addr} {cc : Nat} {l : List UInt8} (hby : By wr A cc l) (hl : l.length ≤ 100) :
    Calls Tryd.prog 15 #[.pointer (some ⟨g1, 0, none⟩), .slice A l.length cc] wr fun e w2 => e = .returned (.int .i64 0) ∧ TwAt w w2 d g1 g2 size (u + 1) (xs ++ [l]) ys := by
  obtain ⟨S, F, fs, gs, h1, h2, h3, h4, h5, s1, s2⟩ := h.ex
  refine (side_add (by decide) (by decide) h.gr h.ne.symm h.tl h1 h2 h3 h4 h5 s1 s2 hk hby hl).mono ?_
  rintro e w2 ⟨he, hg, S', F', fs', k1, k2, k3, k4, k5, k6, k7⟩
  exact ⟨he, hg, h.ne, h.tl, S', F', fs', gs, k1, k2, k3, k4, k5, k6, k7⟩
theorem TwAt.addB {w wr : World} {d g1 g2 size u : Nat} {xs ys : List (List UInt8)} (h : TwAt w wr d g1 g2 size u xs ys) (hk : u < 100) {A : Option Addr} {cc : Nat} {l : List UInt8} (hby : By wr A cc l) (hl : l.length ≤ 100) :
    Calls Tryd.prog 15 #[.pointer (some ⟨g2, 0, none⟩), .slice A l.length cc] wr fun e w2 => e = .returned (.int .i64 0) ∧ TwAt w w2 d g1 g2 size (u + 1) xs (ys ++ [l]) := by
  obtain ⟨S, F, fs, gs, h1, h2, h3, h4, h5, s1, s2⟩ := h.ex
  refine (side_add (by decide) (by decide) h.gr h.ne h.tl h1 h2 h3 h4 h5 s2 s1 hk hby hl).mono ?_
  rintro e w2 ⟨he, hg, S', F', gs', k1, k2, k3, k4, k5, k6, k7⟩
  exact ⟨he, hg, h.ne, h.tl, S', F', fs, gs', k1, k2, k3, k4, k5, k7, k6⟩
theorem TwAt.more {w wr : World} {d g1 g2 size u u' : Nat} {xs ys : List (List UInt8)} (h : TwAt w wr d g1 g2 size u xs ys) (hu : u ≤ u') : TwAt w wr d g1 g2 size u' xs ys := by
  obtain ⟨S, F, fs, gs, h1, h2, h3, h4, h5, s1, s2⟩ := h.ex
  exact ⟨h.gr, h.ne, h.tl, S, F, fs, gs, h1, h2, h3, by omega, by omega, ⟨s1.wal, s1.gS, s1.lo, s1.pcs, by have := s1.len; omega, s1.recs⟩, ⟨s2.wal, s2.gS, s2.lo, s2.pcs, by have := s2.len; omega, s2.recs⟩⟩

def bytesD (ds : List DeedW) : List (List UInt8) := ds.map (·.b)
theorem bytesD_take (ds : List DeedW) {k : Nat} (hk : k < ds.length) : bytesD (ds.take (k + 1)) = bytesD (ds.take k) ++ [ds[k].b] := by
  unfold bytesD
  rw [List.take_succ_eq_append_getElem hk, List.map_append]
  rfl
theorem bytesD_all (ds : List DeedW) {k : Nat} (hk : ds.length ≤ k) : bytesD (ds.take k) = bytesD ds := by rw [List.take_of_length_le hk]
theorem bytesD_past (ds : List DeedW) {k : Nat} (hk : ds.length ≤ k) : bytesD (ds.take (k + 1)) = bytesD (ds.take k) := by rw [bytesD_all ds hk, bytesD_all ds (by omega)]
theorem bytesD_len (ds : List DeedW) : (bytesD ds).length = ds.length := by unfold bytesD; rw [List.length_map]
theorem bytesD_at (ds : List DeedW) {k : Nat} (hk : k < ds.length) (hk2 : k < (bytesD ds).length) : (bytesD ds)[k] = ds[k].b := List.getElem_map _

end Go.Proofs.YtfabcpdljclkpaaDoor

/-
  The walk of 'WalTwo'.
-/
namespace Go.Proofs.YtfabcpdljclkpaaDoor
open Go Go.RowKit MapS DiskMem DiskHit DiskBegin DiskOps DiskApp DiskCrash KeyMath WalName WalObj WalDo WalWalk WalRead WalOpen WalMath WalBegun FrameMath
set_option maxRecDepth 100000

theorem u8_two {a : Int} (h : (Lit.int .u8 a).wf = true) : ∃ b : Nat, (b : Int) = a ∧ b < 256 := by
  have : 0 ≤ a ∧ a ≤ 255 := by simpa [Lit.wf, IntKind.min, IntKind.max, IntKind.bits, IntKind.signed] using h
  exact ⟨a.toNat, by omega, by omega⟩
theorem light_two {ds : List DeedW} (h : lightB ds = true) : ds.length ≤ 30 ∧ ∀ x ∈ ds, x.b.length ≤ 100 := by
  unfold lightB at h
  simp only [Bool.and_eq_true, decide_eq_true_eq, List.all_eq_true] at h
  refine ⟨h.2, fun x hx => ?_⟩
  have := h.1 x hx
  unfold smallD at this
  simp only [Bool.and_eq_true, decide_eq_true_eq] at this
  exact this.1
theorem conv_two (w : World) {A : Option Addr} {c : Nat} {l : List UInt8} (h : By w A c l) : (convert 33 9 (.slice A l.length c)).run Tryd.prog w = .ok (.string (bs l)) w := run_conv w 33 9 5 Tryd.underlying33 Tryd.underlying5 Tryd.underlying9 _ _ rfl h.rd

set_option maxHeartbeats 4000000 in
theorem walk_WalTwo (w : World) (ht : TabW w) (va : Value) (da : List DeedW) (hva : RowAt 3 w va (da.map deedW)) (hoka : ∀ x ∈ da, DeedOk8 w x) (hlena : da.length ≤ 281474976710656) (vb : Value) (db : List DeedW) (hvb : RowAt 3 w vb (db.map deedW)) (hokb : ∀ x ∈ db, DeedOk8 w x) (hlenb : db.length ≤ 281474976710656) (a : Int) (ha : (Lit.int .u8 a).wf = true) :
    Calls Tryd.prog 5 #[va, vb, .int .u8 a] w fun e w' => e = .returned (.bool true) ∧ Gr w w' := by
  obtain ⟨sz, rfl, hsz⟩ := u8_two ha
  have HT := hide ht
  have HL := hide ht.lt
  have HB := hide (begun_ok w ht)
  have VA := hide hva
  have VB := hide hvb
  have OA := hide hoka
  have OB := hide hokb
  have NA := hide (show (da.length : Int) ≤ 281474976710656 by omega)
  have NB := hide (show (db.length : Int) ≤ 281474976710656 by omega)
  obtain ⟨A, c, rfl, hac⟩ := hva.slice8
  obtain ⟨B, cb, rfl, hbc⟩ := hvb.slice8
  clear ht ha hva hvb hoka hokb hlena hlenb
  cases hli : lightB da with
  | false =>
    have LA := hide hli
    clear hli
    go_enter Tryd.func5, Tryd.ntmps5
    go_wp2_with fail
    refine HB.out.mono ?_
    rintro e w0 ⟨rfl, hg0⟩
    have G0 := hide hg0
    clear hg0
    go_wp2_with fail
    refine (light_ok _ da w0 (VA.out.gr G0.out) NA.out).mono ?_
    rintro e w1 ⟨rfl, rfl⟩
    rw [LA.out]
    go_wp2_with fail
    go_ret
    exact ⟨rfl, G0.out⟩
  | true =>
  cases hlb : lightB db with
  | false =>
    have LA := hide hli
    have LB := hide hlb
    clear hli hlb
    go_enter Tryd.func5, Tryd.ntmps5
    go_wp2_with fail
    refine HB.out.mono ?_
    rintro e w0 ⟨rfl, hg0⟩
    have G0 := hide hg0
    clear hg0
    go_wp2_with fail
    refine (light_ok _ da w0 (VA.out.gr G0.out) NA.out).mono ?_
    rintro e w1 ⟨rfl, rfl⟩
    rw [LA.out]
    go_wp2_with fail
    refine (light_ok _ db w1 (VB.out.gr G0.out) NB.out).mono ?_
    rintro e w2 ⟨rfl, rfl⟩
    rw [LB.out]
    go_wp2_with fail
    go_ret
    exact ⟨rfl, G0.out⟩
  | true =>
    have LA := hide hli
    have LB := hide hlb
    have SA := hide (light_two hli)
    have SB := hide (light_two hlb)
    have h30 := (light_two hli).1
    have h30b := (light_two hlb).1
    clear hli hlb
    go_enter Tryd.func5, Tryd.ntmps5
    go_wp2_with fail
    refine HB.out.mono ?_
    rintro e w0 ⟨rfl, hg0⟩
    have G0 := hide hg0
    clear hg0
    go_wp2_with fail
    refine (light_ok _ da w0 (VA.out.gr G0.out) NA.out).mono ?_
    rintro e w1 ⟨rfl, rfl⟩
    rw [LA.out]
    go_wp2_with fail
    refine (light_ok _ db w1 (VB.out.gr G0.out) NB.out).mono ?_
    rintro e w2 ⟨rfl, rfl⟩
    rw [LB.out]
    go_wp2_with fail
    refine (new_ok 1048576 w2).mono ?_
    rintro e w1 ⟨rfl, hg1, hb1, hs1⟩
    have U1 := hide (use_new (room := 1048576) (by omega) hb1 hs1)
    have O1 := hide (open_ok (by have := HL.out; have := G0.out.size; omega) (by omega) U1.out (HT.out.gr (G0.out.trans hg1)) (fun p hp => by cases hp) 97 (by decide) (1 + sz) (by omega) (by omega))
    have e1 : ((1 + sz : Nat) : Int) = 1 + (sz : Int) := by omega
    rw [openM_nil, e1] at O1
    have G1 := hide hg1
    clear hg1 hb1 hs1
    unfold ptr
    go_wp2_with fail
    refine O1.out.mono ?_
    rintro e w3 ⟨g1, A1, c1, S1, rfl, hst, hS, hlo, hon, hrw⟩
    have O2 := hide (open_ok hst.tl hst.loS hst.use hst.tab (fun p hp => by cases hp) 98 (by decide) (1 + sz) (by omega) (by omega))
    rw [openM_nil, e1] at O2
    have W1 := hide hst
    have G3 : Hid (Gr w2 w3) := hide (gr_only G1.out hon (fun i hi => by rw [show i = w2.heap.size from hi]; exact Nat.le_refl _))
    clear hst hS hlo hon hrw O1
    unfold ptr
    simp only [List.length_nil]
    go_wp2_with fail
    refine O2.out.mono ?_
    rintro e w4 ⟨g2, A2, c2, S2, rfl, hst, hS, hlo, hon, hrw⟩
    have P2 : Hid (TwAt w2 w4 w2.heap.size g1 g2 (1 + sz) 0 [] []) := hide (by
      have hb := Bl.lt W1.out.wal
      have hS2 : ¬ S2 g1 := fun e => by
        rcases hS g1 e with e | e
        · exact W1.out.gS e
        · omega
      exact ⟨gr_only G3.out hon (fun i hi => W1.out.use.lo i hi), by omega, hst.tl, S2, [], [], [], hst.use, hst.tab, List.Pairwise.nil, Nat.le_refl _, Nat.le_refl _, ⟨W1.out.wal.only hon W1.out.gS, hS2, W1.out.lo, pcs_nil _, Nat.le_refl _, AllIn.nil⟩, ⟨hst.wal, hst.gS, hst.lo, pcs_nil _, Nat.le_refl _, AllIn.nil⟩⟩)
    clear hst hS hlo hon hrw O2
    unfold ptr
    simp only [List.length_nil]
    obtain ⟨d, hd⟩ : ∃ d, w2.heap.size = d := ⟨_, rfl⟩
    rw [hd] at P2 ⊢
    clear hd
    go_wp2_with fail
    go_loopw [15] (fun i wr => ∃ k : Nat, i = .int .i64 k ∧ k ≤ max da.length db.length ∧ Hid (TwAt w2 wr d g1 g2 (1 + sz) (2 * k) (bytesD (da.take k)) (bytesD (db.take k)))) (fun i _ => max da.length db.length - (intOf i).toNat)
    case atStart => exact ⟨0, rfl, Nat.zero_le _, P2⟩
    case round =>
      obtain ⟨k, rfl, hk, hat⟩ := hrel
      have gA : Hid (∀ W, Gr w2 W → ∀ (hlt : k < da.length), ∃ ad, A = some ad ∧ W.cell? ⟨(ad.add (k * 3)).block, (ad.add (k * 3)).off + 1, none⟩ = some (.slice da[k].B da[k].b.length da[k].bc) ∧ By W da[k].B da[k].bc da[k].b ∧ da[k].b.length ≤ 100) := hide (fun W hW hlt => by
        obtain ⟨ad, c', ee, _, k1, _⟩ := ((VA.out.gr G0.out).gr hW).deed8 hlt
        injection ee with ee _ _
        exact ⟨ad, ee, k1, (((OA.out _ (List.getElem_mem hlt)).b).gr G0.out).gr hW, SA.out.2 _ (List.getElem_mem hlt)⟩)
      have gB : Hid (∀ W, Gr w2 W → ∀ (hlt : k < db.length), ∃ ad, B = some ad ∧ W.cell? ⟨(ad.add (k * 3)).block, (ad.add (k * 3)).off + 1, none⟩ = some (.slice db[k].B db[k].b.length db[k].bc) ∧ By W db[k].B db[k].bc db[k].b ∧ db[k].b.length ≤ 100) := hide (fun W hW hlt => by
        obtain ⟨ad, c', ee, _, k1, _⟩ := ((VB.out.gr G0.out).gr hW).deed8 hlt
        injection ee with ee _ _
        exact ⟨ad, ee, k1, (((OB.out _ (List.getElem_mem hlt)).b).gr G0.out).gr hW, SB.out.2 _ (List.getElem_mem hlt)⟩)
      have etA := hide (fun (h : k < da.length) => bytesD_take da h)
      have etB := hide (fun (h : k < db.length) => bytesD_take db h)
      by_cases hla : k < da.length
      · have dla : decide ((k : Int) < (da.length : Int)) = true := by simpa using hla
        have hac1 : (k : Int) < (c : Int) := by omega
        obtain ⟨ad, rfl, k1, hb1, hs1⟩ := gA.out wr hat.out.gr hla
        have ha1 := hat.out.addA (by omega) hb1 hs1
        rw [← etA.out hla] at ha1
        have HA1 := hide ha1
        clear ha1 hb1
        by_cases hlb : k < db.length
        · have dlb : decide ((k : Int) < (db.length : Int)) = true := by simpa using hlb
          have hbc1 : (k : Int) < (cb : Int) := by omega
          go_wp2_with fail
          refine HA1.out.mono ?_
          rintro e w5 ⟨rfl, h5⟩
          have H5 := hide h5
          obtain ⟨bd, rfl, k2, hb2, hs2⟩ := gB.out w5 h5.gr hlb
          have hb3 := h5.addB (by omega) hb2 hs2
          rw [← etB.out hlb] at hb3
          have HB3 := hide hb3
          clear h5 hb2 hb3 k1
          go_wp2_with fail
          refine HB3.out.mono ?_
          rintro e w6 ⟨rfl, h6⟩
          have H6 := hide h6
          clear h6 k2
          go_wp2_with fail
          refine ⟨⟨k + 1, by push_cast; rfl, by omega, ?_⟩, by simp only [intOf]; omega⟩
          exact hide (H6.out.more (by omega))
        · have dlb : decide ((k : Int) < (db.length : Int)) = false := by simp; omega
          go_wp2_with fail
          refine HA1.out.mono ?_
          rintro e w5 ⟨rfl, h5⟩
          have H5 := hide h5
          clear h5 k1
          go_wp2_with fail
          refine ⟨⟨k + 1, by push_cast; rfl, by omega, ?_⟩, by simp only [intOf]; omega⟩
          rw [bytesD_past db (by omega)]
          exact hide (H5.out.more (by omega))
      · have dla : decide ((k : Int) < (da.length : Int)) = false := by simp; omega
        by_cases hlb : k < db.length
        · have dlb : decide ((k : Int) < (db.length : Int)) = true := by simpa using hlb
          have hbc1 : (k : Int) < (cb : Int) := by omega
          obtain ⟨bd, rfl, k2, hb2, hs2⟩ := gB.out wr hat.out.gr hlb
          have hb3 := hat.out.addB (by omega) hb2 hs2
          rw [← etB.out hlb] at hb3
          have HB3 := hide hb3
          clear hb2 hb3
          go_wp2_with fail
          refine HB3.out.mono ?_
          rintro e w6 ⟨rfl, h6⟩
          have H6 := hide h6
          clear h6 k2
          go_wp2_with fail
          refine ⟨⟨k + 1, by push_cast; rfl, by omega, ?_⟩, by simp only [intOf]; omega⟩
          rw [bytesD_past da (by omega)]
          exact hide (H6.out.more (by omega))
        · have dlb : decide ((k : Int) < (db.length : Int)) = false := by simp; omega
          have hat2 := hat.out
          rw [bytesD_all da (by omega), bytesD_all db (by omega)] at hat2
          have GT := hide hat2.gr
          obtain ⟨S, F, fs, gs, h1, h2, h3, h4, h5, s1, s2⟩ := hat2.ex
          have hlo2 : w2.heap.size ≤ wr.heap.size := hat2.gr.size
          have O3 := hide (open_ok hat2.tl hlo2 h1 h2 (small_of h1 (by omega)) 97 (by decide) (1 + sz) (by omega) (by omega))
          rw [s1.recs.open s1.pcs, e1] at O3
          have Q1 := hide h1
          have E2 := hide (s2.recs.open s2.pcs)
          have TL := hide hat2.tl
          clear hat2 h1 h2 h3 h4 h5 s1 s2 etA etB gA gB
          go_wp2_with fail
          refine O3.out.mono ?_
          rintro e w5 ⟨g5, A5, c5, S5, rfl, hst5, hS5, hlo5, hon5, hrw5⟩
          have O4 := hide (open_ok hst5.tl hst5.loS hst5.use hst5.tab (small_of hst5.use (by omega)) 98 (by decide) (1 + sz) (by omega) (by omega))
          rw [E2.out, e1] at O4
          have G5 : Hid (Gr w2 w5) := hide (gr_only GT.out hon5 (fun i hi => Q1.out.lo i hi))
          have U5 := hide hst5.use
          have R5 := hide hrw5
          have h5c := hrw5.le
          clear hst5 hS5 hlo5 hon5 hrw5 O3
          unfold ptr
          simp only [bytesD_len] at h5c ⊢
          go_wp2_with fail
          refine O4.out.mono ?_
          rintro e w6 ⟨g6, A6, c6, S6, rfl, hst6, hS6, hlo6, hon6, hrw6⟩
          have G6 : Hid (Gr w2 w6) := hide (gr_only G5.out hon6 (fun i hi => U5.out.lo i hi))
          have P6 : Hid (Rws w6 A5 c5 (bytesD da)) := hide (R5.out.keep w6 hon6)
          have Q6 : Hid (Rws w6 A6 c6 (bytesD db)) := hide hrw6.toRws
          have h6c := hrw6.le
          clear hst6 hS6 hlo6 hon6 hrw6 O4
          unfold ptr
          simp only [bytesD_len] at h6c ⊢
          go_wp2_with fail
          go_loopw [20] (fun i wq => ∃ k : Nat, i = .int .i64 k ∧ k ≤ da.length ∧ Hid (Gr w6 wq)) (fun i _ => da.length - (intOf i).toNat)
          case atStart => exact ⟨0, rfl, Nat.zero_le _, Gr.refl _⟩
          case round =>
            obtain ⟨j, rfl, hj, hq⟩ := hrel
            by_cases hjl : j < da.length
            · have djl : decide ((j : Int) < (da.length : Int)) = true := by simpa using hjl
              have hj1 : (j : Int) < (da.length : Int) := by omega
              have hj2 : (j : Int) < (c5 : Int) := by omega
              have hj3 : (j : Int) < (c : Int) := by omega
              obtain ⟨a5, rfl, B5, d5, k5, hb5⟩ := P6.out.rd j (by rw [bytesD_len]; exact hjl)
              have ex := bytesD_at da hjl (by rw [bytesD_len]; exact hjl)
              obtain ⟨a6, c7, ee, _, k6, _⟩ := (((VA.out.gr G0.out).gr G6.out).gr hq.out).deed8 hjl
              injection ee with ee e9 ee2
              clear e9
              subst ee
              subst ee2
              have hb6 := ((((OA.out _ (List.getElem_mem hjl)).b).gr G0.out).gr G6.out).gr hq.out
              rw [ex] at k5 hb5
              replace k5 := gr_cell hq.out _ _ k5
              obtain ⟨y, hy⟩ : ∃ y, da[j] = y := ⟨_, rfl⟩
              rw [hy] at k5 hb5 k6 hb6
              have CX : Hid (∀ q, (convert 33 9 (.slice B5 y.b.length d5)).run Tryd.prog (wr.drewN q) = .ok (.string (bs y.b)) (wr.drewN q)) := hide (fun q => conv_two _ (hb5.gr (hq.out.trans (Gr.drewN (Gr.refl _) q))))
              have CY : Hid (∀ q, (convert 33 9 (.slice y.B y.b.length y.bc)).run Tryd.prog (wr.drewN q) = .ok (.string (bs y.b)) (wr.drewN q)) := hide (fun q => conv_two _ (hb6.gr (Gr.drewN (Gr.refl _) q)))
              clear hb5 hb6 hy ex
              go_wp2_with fail
              refine wp_region_quiet_lit (by kernel_rfl) (by kernel_rfl) ?_
              repeat (go_big_quiet_step (fail))
              refine quiet_conv_if (by rfl) 33 9 (.tmp 146) rfl rfl (fun w' ⟨n, hw'⟩ => by rw [hw']; exact CX.out _) ?_
              simp only [Act.put, List.setIfInBounds_toArray, List.set_cons_zero, List.set_cons_succ]
              repeat (go_big_quiet_step (fail))
              refine quiet_conv_if (by rfl) 33 9 (.tmp 152) rfl rfl (fun w' ⟨n, hw'⟩ => by rw [hw']; exact CY.out _) ?_
              simp only [Act.put, List.setIfInBounds_toArray, List.set_cons_zero, List.set_cons_succ]
              repeat (go_big_quiet_step (fail))
              refine wpQuiet_nil ?_
              rintro _ ⟨nq, rfl⟩
              go_wp2_with fail
              refine ⟨⟨j + 1, by push_cast; rfl, by omega, hq.out.drewN nq⟩, by simp only [intOf]; omega⟩
            · have djl : decide ((j : Int) < (da.length : Int)) = false := by simp; omega
              go_wp2_with fail
              have hq0 := hq
              go_loopw [21] (fun i wq => ∃ k : Nat, i = .int .i64 k ∧ k ≤ db.length ∧ Hid (Gr w6 wq)) (fun i _ => db.length - (intOf i).toNat)
              case atStart => exact ⟨0, rfl, Nat.zero_le _, hq0⟩
              case round =>
                obtain ⟨j, rfl, hj, hq⟩ := hrel
                by_cases hjl : j < db.length
                · have djl : decide ((j : Int) < (db.length : Int)) = true := by simpa using hjl
                  have hj1 : (j : Int) < (db.length : Int) := by omega
                  have hj2 : (j : Int) < (c6 : Int) := by omega
                  have hj3 : (j : Int) < (cb : Int) := by omega
                  obtain ⟨a5, rfl, B5, d5, k5, hb5⟩ := Q6.out.rd j (by rw [bytesD_len]; exact hjl)
                  have ex := bytesD_at db hjl (by rw [bytesD_len]; exact hjl)
                  obtain ⟨a6, c7, ee, _, k6, _⟩ := (((VB.out.gr G0.out).gr G6.out).gr hq.out).deed8 hjl
                  injection ee with ee e9 ee2
                  clear e9
                  subst ee
                  subst ee2
                  have hb6 := ((((OB.out _ (List.getElem_mem hjl)).b).gr G0.out).gr G6.out).gr hq.out
                  rw [ex] at k5 hb5
                  replace k5 := gr_cell hq.out _ _ k5
                  obtain ⟨y, hy⟩ : ∃ y, db[j] = y := ⟨_, rfl⟩
                  rw [hy] at k5 hb5 k6 hb6
                  have CX : Hid (∀ q, (convert 33 9 (.slice B5 y.b.length d5)).run Tryd.prog (wr.drewN q) = .ok (.string (bs y.b)) (wr.drewN q)) := hide (fun q => conv_two _ (hb5.gr (hq.out.trans (Gr.drewN (Gr.refl _) q))))
                  have CY : Hid (∀ q, (convert 33 9 (.slice y.B y.b.length y.bc)).run Tryd.prog (wr.drewN q) = .ok (.string (bs y.b)) (wr.drewN q)) := hide (fun q => conv_two _ (hb6.gr (Gr.drewN (Gr.refl _) q)))
                  clear hb5 hb6 hy ex
                  go_wp2_with fail
                  refine wp_region_quiet_lit (by kernel_rfl) (by kernel_rfl) ?_
                  repeat (go_big_quiet_step (fail))
                  refine quiet_conv_if (by rfl) 33 9 (.tmp 164) rfl rfl (fun w' ⟨n, hw'⟩ => by rw [hw']; exact CX.out _) ?_
                  simp only [Act.put, List.setIfInBounds_toArray, List.set_cons_zero, List.set_cons_succ]
                  repeat (go_big_quiet_step (fail))
                  refine quiet_conv_if (by rfl) 33 9 (.tmp 170) rfl rfl (fun w' ⟨n, hw'⟩ => by rw [hw']; exact CY.out _) ?_
                  simp only [Act.put, List.setIfInBounds_toArray, List.set_cons_zero, List.set_cons_succ]
                  repeat (go_big_quiet_step (fail))
                  refine wpQuiet_nil ?_
                  rintro _ ⟨nq, rfl⟩
                  go_wp2_with fail
                  refine ⟨⟨j + 1, by push_cast; rfl, by omega, hq.out.drewN nq⟩, by simp only [intOf]; omega⟩
                · have djl : decide ((j : Int) < (db.length : Int)) = false := by simp; omega
                  go_wp2_with fail
                  go_ret
                  exact ⟨rfl, (G0.out.trans G6.out).trans hq.out⟩

end Go.Proofs.YtfabcpdljclkpaaDoor
