/-
  follow.
-/
import Derived.Test.YthpaoeiackbdoaaRfStand
namespace Go.Proofs.Ythpaoeiackbdoaa
open Go Go.RowKit TxnMath KeyMath MsgMath BalMath RfMath
set_option maxRecDepth 100000

/-- a member beside a letter's box -/
structure MemL (g : Nat) (s : StT) (R : RowsM) (b : Nat) (l : MsgT) (r : Rows5) (w : World) (ob : Option Nat) : Prop where
  m : MemP g s R w ob
  bx : Bl w b 47 (cellsM l r).toArray
  ne : some b ≠ ob
  ents : EntsX (fun j => Free g R j ∧ some j ≠ ob) w r.e l.entries
theorem MemL.pay (g : Nat) (s : StT) (R : RowsM) (b : Nat) (l : MsgT) (r : Rows5) : PayR (MemL g s R b l r) := fun w ob w' ob' h hr => by
  have hne : ∀ j, j < w.heap.size → some j ≠ ob → some j ≠ ob' := fun j hj hx => by
    rcases hr.at_ with e | ⟨k, e, hk⟩
    · rw [e]; exact hx
    · rw [e]; intro e2; injection e2 with e2; omega
  exact ⟨MemP.pay g s R _ _ _ _ h.m hr, (hr.gb.block b h.bx.lt h.ne).trans h.bx, hne b h.bx.lt h.ne, h.ents.move fun j hj hx => ⟨hr.gb.block j hj hx.2, hx.1, hne j hj hx.2⟩⟩

set_option maxHeartbeats 4000000 in
theorem follow_ok (w : World) (g : Nat) (s : StT) (R : RowsM) (h : MemR w g s R) (hk : Rk s.r) (v : Value) (l : MsgT) (hl : MsgX (Free g R) w v l) (hi : l.index ≤ 9223372036854775807) (he : l.entries.length ≤ 1000) (hbe : ∀ e ∈ l.entries, EntBnd e) (hn : s.out.length ≤ 380) :
    Calls Try.prog 60 #[.pointer (some ⟨g, 0, none⟩), v] w (MbPost w g R (followS l s)) := by
  obtain ⟨r, rfl, hr⟩ := hl
  obtain ⟨W1, hW1⟩ : ∃ W1, w.alloc (.cells (cellsM l r).toArray 47) = W1 := ⟨_, rfl⟩
  have hB := h.box (cellsM l r).toArray 47
  have hb1 : Bl W1 w.heap.size 47 (cellsM l r).toArray := by rw [← hW1]; exact Bl.new _ _ _
  have hg1 : Gr w W1 := by rw [← hW1]; exact (Gr.refl _).alloc _
  rw [hW1] at hB
  obtain ⟨b, hb⟩ : ∃ b, w.heap.size = b := ⟨_, rfl⟩
  rw [hb] at hb1
  have hbg : ¬ b = g := by rw [← hb]; intro e; exact h.free_new (.inl e)
  have hbf : Free g R b := by rw [← hb]; exact h.free_new
  obtain ⟨fr, hfr⟩ : ∃ fr, l.frm = fr := ⟨_, rfl⟩
  have b1 : W1.cell? ⟨b, 1, none⟩ = some (.int .i64 fr) := by rw [← hfr]; exact hb1.cell 1
  obtain ⟨A, c, hA⟩ := h.log.is
  have c7 : W1.cell? ⟨g, 7, none⟩ = some (.int .i64 s.r.role) := hB.1.cell 7
  have c8 : W1.cell? ⟨g, 8, none⟩ = some (.int .i64 s.r.leader) := hB.1.cell 8
  have c12 : W1.cell? ⟨g, 12, none⟩ = some (.int .i64 s.r.clock) := hB.1.cell 12
  have f7 := hB.1.bl.frozen 7
  have f8 := hB.1.bl.frozen 8
  have f12 := hB.1.bl.frozen 12
  obtain ⟨S1, hS1⟩ : ∃ S1 : StT, S1 = { s with r := followR l s.r } := ⟨_, rfl⟩
  obtain ⟨W2, hW2⟩ : ∃ W2, (((W1.setCell ⟨g, 7, none⟩ (.int .i64 0)).setCell ⟨g, 8, none⟩ (.int .i64 fr)).setCell ⟨g, 12, none⟩ (.int .i64 0)).drew = W2 := ⟨_, rfl⟩
  have hP := hB.1.poke_s (s' := S1) (w' := W2) (by rw [← hW2]; exact ((((But.refl _ _).set 7 _).set 8 _).set 12 _).drewN 1) (by rw [← hW2, hS1, ← hfr]; exact (((hB.1.bl.put 7 _).put 8 _).put 12 _).drewN 1) (by rw [hS1]; rfl) (by rw [hS1]; rfl) (by rw [hS1]; rfl) (by rw [hS1]; rfl) (by rw [hS1])
  have hbu : But W1 W2 g := by rw [← hW2]; exact ((((But.refl _ _).set 7 _).set 8 _).set 12 _).drewN 1
  have hb2 : Bl W2 b 47 (cellsM l r).toArray := (hbu.block b hb1.lt (fun e => hbg (by injection e))).trans hb1
  have hen : EntsX (Free g R) W2 r.e l.entries := (hr.e.gr hg1).move (hP.2.moves)
  have hlog : S1.r.log = s.r.log := by rw [hS1]; rfl
  have k1 : W2.cell? ⟨b, 1, none⟩ = some (.int .i64 fr) := by rw [← hfr]; exact hb2.cell 1
  have k5 : W2.cell? ⟨b, 5, none⟩ = some (.int .i64 l.index) := hb2.cell 5
  have k6 : W2.cell? ⟨b, 6, none⟩ = some (.int .i64 l.logTerm) := hb2.cell 6
  have d5 : W2.cell? ⟨g, 5, none⟩ = some (.slice A s.r.log.length c) := by rw [← hA]; exact hP.1.cell 5
  have hll := hk.len
  have hbnd := hk.bnd
  have HH := hide (fun n => Has_ok R.l s.r.log l.index l.logTerm (W2.drewN n) (by rw [← hlog]; exact hP.1.log.any.gr ((Gr.refl W2).drewN n)) (by omega))
  rw [hA] at HH
  have HY : Hid (followS l s = if hasL s.r.log l.index l.logTerm = true then
      (if 200 < (joinL s.r.log l.index l.entries).length then sendS fr { noMsg with kind := 4 } S1
      else sendS fr { noMsg with kind := 4, ok := true, index := l.index + l.entries.length } { S1 with r := { S1.r with log := joinL s.r.log l.index l.entries, commit := max s.r.commit (min l.commit (l.index + l.entries.length)) } })
      else sendS fr { noMsg with kind := 4, index := min (max l.index 1 - 1) s.r.log.length } S1) := by unfold Hid followS; rw [hS1, hfr]
  have HL := hide (show hasL s.r.log l.index l.logTerm = true → 0 ≤ l.index ∧ l.index ≤ s.r.log.length by
    intro hh
    simp only [hasL, thereL, Bool.or_eq_true, Bool.and_eq_true, decide_eq_true_eq] at hh
    omega)
  have HO := hide (show S1.out = s.out by rw [hS1])
  have HSC := hide (show S1.r.commit = s.r.commit by rw [hS1]; rfl)
  have HP := hide (show MemR W2 g S1 R ∧ Stp w W2 g R R from ⟨hP.1, hB.2.1.trans hP.2⟩)
  have HB2 := hide hb2
  have HEN := hide hen
  have HBF := hide hbf
  have HLG := hide hlog
  simp only [cellsM, hfr] at hW1 ⊢
  clear h hk hr hB hb1 hg1 hP hbu hb2 hen hS1 hlog hbf
  generalize hasL s.r.log l.index l.logTerm = hs at HH HY HL
  go_enter Try.func60, Try.ntmps60
  go_upto_region 1 with (fail)
  clear hW1
  go_region
  clear b1 c7 c8 c12 f7 f8 f12 hW2
  go_wp2_with fail
  go_quiet (refine Calls.quiet_of_same (HH.out _))
  clear HH
  have k1' : (W2.drewN nq).cell? ⟨b, 1, none⟩ = some (.int .i64 fr) := k1
  have k5' : (W2.drewN nq).cell? ⟨b, 5, none⟩ = some (.int .i64 l.index) := k5
  have d5' : (W2.drewN nq).cell? ⟨g, 5, none⟩ = some (.slice A s.r.log.length c) := d5
  have HP' := hide (show MemR (W2.drewN nq) g S1 R ∧ Stp w (W2.drewN nq) g R R from ⟨HP.out.1.gr ((Gr.refl W2).drewN nq), HP.out.2.trans (Stp.of_gr ((Gr.refl W2).drewN nq))⟩)
  have HB2' : Hid (Bl (W2.drewN nq) b 47 (cellsM l r).toArray) := HB2
  have HEN' : Hid (EntsX (Free g R) (W2.drewN nq) r.e l.entries) := hide (HEN.out.gr ((Gr.refl W2).drewN nq))
  clear k1 k5 k6 d5 HP HB2 HEN
  generalize W2.drewN nq = W3 at *
  cases hs
  · obtain ⟨m1, hm1⟩ : ∃ m1, (if l.index < 1 then 1 else l.index) = m1 := ⟨_, rfl⟩
    obtain ⟨m2, hm2⟩ : ∃ m2, (if (s.r.log.length : Int) < m1 - 1 then (s.r.log.length : Int) else m1 - 1) = m2 := ⟨_, rfl⟩
    have hm1b : 1 ≤ m1 ∧ m1 ≤ 9223372036854775807 := by rw [← hm1]; split <;> omega
    have ew : IntKind.i64.wrap (m1 - 1) = m1 - 1 := IntWalk.i64_in _ (by omega)
    have hS : followS l s = sendS fr { noMsg with kind := 4, index := m2 } S1 := by
      rw [HY.out, if_neg (by simp)]
      congr 2
      rw [← hm2, ← hm1]
      rw [Int.min_def, Int.max_def]
      split <;> split <;> split <;> split <;> omega
    have HS := hide (fun W (hW : MemR W g S1 R) => send_plain W g S1 R hW fr { noMsg with kind := 4, index := m2 } rfl rfl rfl rfl (by rw [HO.out]; omega))
    rw [← hS] at HS
    simp only [cellsM, noMsg, noTxn, rows0] at HS
    clear HY HL HB2' HEN' HBF hS
    go_wp2_with fail
    go_still_tail 15, (by kernel_rfl)
    change wpList _ _ _ _ _ W3.drew
    clear hm1 hm2 hm1b ew k1' k5' d5'
    go_wp2_with fail
    refine (HS.out W3.drew (HP'.out.1.gr ((Gr.refl W3).drewN 1))).mono ?_
    rintro e w2 ⟨rfl, R', h1, h2⟩
    have H1 := hide h1
    have H2 := hide (HP'.out.2.trans ((Stp.of_gr ((Gr.refl W3).drewN 1)).trans h2))
    clear h1 h2
    go_wp2_with fail
    go_end0
    exact ⟨rfl, R', H1.out, H2.out⟩
  · obtain ⟨hix0, hixl⟩ := HL.out rfl
    obtain ⟨ix, hix⟩ : ∃ ix : Nat, l.index = ix := ⟨l.index.toNat, by omega⟩
    have hIm := MemL.pay g S1 R b l r
    have hW : MemL g S1 R b l r W3 none := ⟨MemP.none_ HP'.out.1, HB2'.out, by simp, HEN'.out.wide fun j hj => ⟨hj, by simp⟩⟩
    obtain ⟨jl, hjl⟩ : ∃ jl, joinL s.r.log l.index l.entries = jl := ⟨_, rfl⟩
    rw [hjl] at HY
    have HJ := hide (fun v u W (hv : EntsX Any W v s.r.log) (hu : EntsX Any W u l.entries) => Join_ok v u s.r.log l.entries l.index W hv hu (by omega) (by omega) hbnd hbe)
    go_wp2_with fail
    refine Mine.wp_region_mine_tail 10 96 [47, 48, 49, 50, 51, 52, 53, 54, 55, 56, 4] rfl (by kernel_rfl) (by kernel_rfl) (by kernel_rfl) (by kernel_rfl) (ob0 := none)
      (Mine.Ahead.more (Mine.Ahead.more (Mine.Ahead.none_ _ _ _) 0 (Mine.Wk.stays hIm (.pointer (some ⟨g, 0, none⟩))) ⟨rfl, hIm _ _ _ _ hW (Mine.RS.of_gr ((Gr.refl W3).drewN 1))⟩) 3 (Mine.Wk.stays hIm (.pointer (some ⟨b, 0, none⟩))) ⟨rfl, hIm _ _ _ _ hW (Mine.RS.of_gr ((Gr.refl W3).drewN 1))⟩)
      97 (C0 := fun _ _ o => o = none) (fun _ _ _ _ h _ => h) (fun k hk => by cases hk) rfl ?_
    clear hW
    refine Mine.wk_move hIm (x := .tmp 0) (.inl rfl) rfl (by decide) rfl ?_
    refine Mine.wk_nil hIm rfl rfl (by decide) rfl ?_
    refine Mine.wk_field 0 hIm rfl rfl (by decide) rfl (fun w => by rfl) ?_
    refine Mine.wk_field 5 hIm rfl rfl (by decide) rfl (fun w => by rfl) ?_
    refine Mine.wk_load R.l hIm rfl rfl (by decide) (fun w => by kernel_rfl) rfl (fun w ob h => h.m.m.cell 5) ?_
    refine Mine.wk_field 5 hIm rfl rfl (by decide) rfl (fun w => by rfl) ?_
    refine Mine.wk_load (.int .i64 l.index) hIm rfl rfl (by decide) (fun w => by kernel_rfl) rfl (fun w ob h => h.bx.cell 5) ?_
    refine Mine.wk_field 9 hIm rfl rfl (by decide) rfl (fun w => by rfl) ?_
    refine Mine.wk_load r.e hIm rfl rfl (by decide) (fun w => by kernel_rfl) rfl (fun w ob h => h.bx.cell 9) ?_
    refine Mine.call3 (Φ := Mine.Ei (MemL g S1 R b l r) W3.heap.size jl) rfl rfl (by decide) Try.func65 (by kernel_rfl) (by kernel_rfl) (Mine.Ei.stays hIm _ _) (Ψ := Mine.Wk (MemL g S1 R b l r) R.l) (Ψ' := Mine.Wk (MemL g S1 R b l r) (.int .i64 l.index)) (Ψ'' := Mine.Wk (MemL g S1 R b l r) r.e) rfl rfl rfl
      (fun v u z W ob hwf hsz h1 h2 h3 => by
        obtain ⟨rfl, hq⟩ := h1
        obtain ⟨rfl, _⟩ := h2
        obtain ⟨rfl, _⟩ := h3
        refine (HJ.out _ _ W (by rw [← HLG.out]; exact hq.m.m.log.any) hq.ents.any).mono fun e w' ⟨r', he, ho, hg⟩ => ⟨r', he, hg, (show EntsX (fun j => W.heap.size ≤ j) w' r' jl by rw [← hjl]; exact ho.entsIn).wide fun j hj => ⟨fun e2 => ?_, Nat.le_trans hsz hj⟩, hIm _ _ _ _ hq (Mine.RS.of_gr hg)⟩
        have := hwf j e2.symm
        omega) ?_
    intro a1 w1 ob hr hwf hsz hdf hun hkn hat
    have h56 : Mine.Ei (MemL g S1 R b l r) W3.heap.size jl (a1.tmps.getD 56 undef) w1 ob := hkn 56
    change ob = none at hat
    subst hat
    obtain ⟨X, hX, hlay⟩ := Grow.lay_kept_by _ a1 96 _ hsz hdf hun
    rw [hX] at h56
    clear hX hun hdf hsz hkn hwf
    subst hlay
    simp only [List.range, List.range.loop, List.map_cons, List.map_nil, List.contains_cons, List.contains_nil, Nat.reduceBEq, Bool.or_false, Bool.or_true, cond_false, cond_true, Array.getD_eq_getD_getElem?, List.getElem?_toArray, List.getElem?_cons_zero, List.getElem?_cons_succ, Option.getD_some, List.drop_succ_cons, List.drop_zero]
    have hg : Gr W3 w1 := RS_gr ((Mine.RS.of_gr (o := none) ((Gr.refl W3).drewN 1)).trans hr)
    obtain ⟨A2, c2, hu⟩ := EntsX.is h56.1
    obtain ⟨Ae, ce, hre⟩ := EntsX.is h56.2.ents
    have hjn : jl.length ≤ 2000 := by rw [← hjl]; exact Nat.le_trans join_len (by omega)
    obtain ⟨jn, hjn2⟩ : ∃ jn, jl.length = jn := ⟨_, rfl⟩
    obtain ⟨ne, hne⟩ : ∃ ne, l.entries.length = ne := ⟨_, rfl⟩
    rw [hjn2] at hu hjn HY
    rw [hne] at hre HY he
    have hMw := h56.2.m.m
    have hbx := h56.2.bx
    have hEx := h56.1
    rw [hu] at hEx ⊢
    have HSz := hide (fun j hj => HP'.out.1.lt j hj)
    have HLo := hide HP'.out.1.low
    have g1 : w1.cell? ⟨b, 1, none⟩ = some (.int .i64 fr) := by rw [← hfr]; exact hbx.cell 1
    have g5 : w1.cell? ⟨b, 5, none⟩ = some (.int .i64 ix) := by rw [← hix]; exact hbx.cell 5
    have g7 : w1.cell? ⟨b, 7, none⟩ = some (.int .i64 l.commit) := hbx.cell 7
    have g9 : w1.cell? ⟨b, 9, none⟩ = some (.slice Ae ne ce) := by rw [← hre]; exact hbx.cell 9
    have i5 : w1.cell? ⟨g, 5, none⟩ = some R.l := hMw.cell 5
    have i6 : w1.cell? ⟨g, 6, none⟩ = some (.int .i64 s.r.commit) := by rw [← HSC.out]; exact hMw.cell 6
    rw [hA] at i5
    have p5 := hMw.bl.frozen 5
    have p6 := hMw.bl.frozen 6
    have HMw := hide hMw
    have HEx := hide hEx
    have HSt := hide (HP'.out.2.trans (Stp.of_gr hg))
    rw [hix] at HY
    clear h56 hMw hbx hEx hu hre k1' k5' d5' HP' HB2' HEN' HJ hr hg hjl
    by_cases hbig : 200 < jn
    · have hbig' : (200 : Int) < (jn : Int) := by omega
      have hS : followS l s = sendS fr { noMsg with kind := 4 } S1 := by rw [HY.out, if_pos (by simp), if_pos hbig]
      have HS := hide (send_plain w1 g S1 R HMw.out fr { noMsg with kind := 4 } rfl rfl rfl rfl (by rw [HO.out]; omega))
      rw [← hS] at HS
      simp only [cellsM, noMsg, noTxn, rows0] at HS
      clear hS HY g5 g7 g9 i5 i6 p5 p6 HEx
      go_wp2_with fail
      refine HS.out.mono ?_
      rintro e w2 ⟨rfl, R', h1, h2⟩
      have H1 := hide h1
      have H2 := hide (HSt.out.trans h2)
      clear h1 h2
      go_wp2_with fail
      go_end0
      exact ⟨rfl, R', H1.out, H2.out⟩
    · have hbig' : ¬ (200 : Int) < (jn : Int) := by omega
      obtain ⟨q1, hq1⟩ : ∃ q1, (if (ix : Int) + (ne : Int) < l.commit then (ix : Int) + (ne : Int) else l.commit) = q1 := ⟨_, rfl⟩
      obtain ⟨q2, hq2⟩ : ∃ q2, (if s.r.commit < q1 then q1 else s.r.commit) = q2 := ⟨_, rfl⟩
      have ew : IntKind.i64.wrap ((ix : Int) + (ne : Int)) = (ix : Int) + (ne : Int) := IntWalk.i64_in _ (by omega)
      obtain ⟨S2, hS2⟩ : ∃ S2 : StT, S2 = { S1 with r := { S1.r with log := jl, commit := q2 } } := ⟨_, rfl⟩
      have hS : followS l s = sendS fr { noMsg with kind := 4, ok := true, index := (ix : Int) + (ne : Int) } S2 := by
        rw [HY.out, if_pos (by simp), if_neg hbig, hS2]
        congr 4
        rw [← hq2, ← hq1]
        rw [Int.min_def, Int.max_def]
        split <;> split <;> split <;> split <;> omega
      obtain ⟨W5, hW5⟩ : ∃ W5, ((w1.setCell ⟨g, 5, none⟩ (.slice A2 jn c2)).setCell ⟨g, 6, none⟩ (.int .i64 q2)).drew = W5 := ⟨_, rfl⟩
      have hbu : But w1 W5 g := by rw [← hW5]; exact (((But.refl _ _).set 5 _).set 6 _).drewN 1
      have hQ := HMw.out.poke (s' := S2) (l := .slice A2 jn c2) hbu (by rw [← hW5, hS2]; exact ((HMw.out.bl.put 5 _).put 6 _).drewN 1) (by rw [hS2]; exact HEx.out.wide fun j hj => ⟨fun hf => by have := HSz.out j hf; have := hj.2; omega, Nat.le_trans HLo.out hj.2⟩) (by rw [hS2]) (by rw [hS2]) (by rw [hS2]) (by rw [hS2])
      have o1 : W5.cell? ⟨b, 1, none⟩ = some (.int .i64 fr) := by rw [hbu.cell g1 hbg]
      have HS := hide (send_plain W5 g S2 _ hQ.1 fr { noMsg with kind := 4, ok := true, index := (ix : Int) + (ne : Int) } rfl rfl rfl rfl (by rw [hS2]; show S1.out.length ≤ 1000; rw [HO.out]; omega))
      rw [← hS] at HS
      simp only [cellsM, noMsg, noTxn, rows0] at HS
      have HSt2 := hide (HSt.out.trans hQ.2)
      clear hS HY HEx hS2 hQ hbu HSt
      go_wp2_with fail
      go_region
      clear hW5 g1 g5 g7 g9 i5 i6 p5 p6
      go_wp2_with fail
      refine HS.out.mono ?_
      rintro e w2 ⟨rfl, R', h1, h2⟩
      have H1 := hide h1
      have H2 := hide (HSt2.out.trans h2)
      clear h1 h2
      go_wp2_with fail
      go_end0
      exact ⟨rfl, R', H1.out, H2.out⟩

end Go.Proofs.Ythpaoeiackbdoaa

/-
  stepBack.
-/
namespace Go.Proofs.Ythpaoeiackbdoaa
open Go Go.RowKit TxnMath KeyMath MsgMath BalMath RfMath
set_option maxRecDepth 100000

theorem nth_at {l : List Int} {f : Int} {k : Nat} (hf : f = (k : Int) + 1) (hk : k < l.length) : nthI l f = l[k] := by
  unfold nthI
  rw [hf, List.getD_eq_getElem?_getD, show ((k : Int) + 1 - 1).toNat = k by omega, List.getElem?_eq_getElem hk]
  rfl
theorem put_at {l : List Int} {f x : Int} {k : Nat} (hf : f = (k : Int) + 1) : putI l f x = l.set k x := by
  unfold putI
  rw [hf, show ((k : Int) + 1 - 1).toNat = k by omega]
theorem MemR.at_m {w : World} {g : Nat} {s : StT} {R : RowsM} (h : MemR w g s R) {k L : Nat} {f : Int} (hf : f = (k : Int) + 1) (hL : s.r.mtch.length = L) (hk : k < L) (x : Int) (s' : StT) (hs : s' = { s with r := { s.r with mtch := putI s.r.mtch f x } }) :
    ∃ b c, R.m = .slice (some ⟨b, 0, none⟩) L c ∧ w.cell? ⟨b, k, none⟩ = some (.int .i64 (nthI s.r.mtch f)) ∧ w.frozen? ⟨b, k, none⟩ = false ∧ b ≠ g ∧ b < w.heap.size ∧ R.m.ownBlock = some b ∧ MemR (w.setCell ⟨b, k, none⟩ (.int .i64 x)) g s' R ∧ Stp w (w.setCell ⟨b, k, none⟩ (.int .i64 x)) g R R := by
  subst hL
  rw [put_at hf] at hs
  subst hs
  obtain ⟨b, c, h1, h2, h3, h4, h5, h6, h7⟩ := h.put_m hk x
  exact ⟨b, c, h1, by rw [h2, nth_at hf hk], h3, h4, h5, by rw [h1]; rfl, h7⟩
theorem MemR.at_n {w : World} {g : Nat} {s : StT} {R : RowsM} (h : MemR w g s R) {k L : Nat} {f : Int} (hf : f = (k : Int) + 1) (hL : s.r.next.length = L) (hk : k < L) (x : Int) (s' : StT) (hs : s' = { s with r := { s.r with next := putI s.r.next f x } }) :
    ∃ b c, R.n = .slice (some ⟨b, 0, none⟩) L c ∧ w.cell? ⟨b, k, none⟩ = some (.int .i64 (nthI s.r.next f)) ∧ w.frozen? ⟨b, k, none⟩ = false ∧ b ≠ g ∧ b < w.heap.size ∧ R.n.ownBlock = some b ∧ MemR (w.setCell ⟨b, k, none⟩ (.int .i64 x)) g s' R ∧ Stp w (w.setCell ⟨b, k, none⟩ (.int .i64 x)) g R R := by
  subst hL
  rw [put_at hf] at hs
  subst hs
  obtain ⟨b, c, h1, h2, h3, h4, h5, h6, h7⟩ := h.put_n hk x
  exact ⟨b, c, h1, by rw [h2, nth_at hf hk], h3, h4, h5, by rw [h1]; rfl, h7⟩
theorem RfMath.Rk.back {r : RaftT} (h : Rk r) (l : MsgT) (hf : 1 ≤ l.frm ∧ l.frm ≤ r.nodes) : Rk (backR l r) := by
  have hm := h.mtchs _ (nth_mem (l := r.mtch) (i := l.frm) hf.1 (by have := h.mtch; omega))
  have hx := h.nexts _ (nth_mem (l := r.next) (i := l.frm) hf.1 (by have := h.next; omega))
  unfold backR
  refine ⟨h.nodes, h.me, h.wait, h.term, h.len, h.bnd, h.commit, h.votes, by simp only [put_len]; exact h.next, h.mtch, fun x hx2 => ?_, h.mtchs, h.clock⟩
  rcases put_mem hx2 with h1 | h1
  · exact h.nexts x h1
  · rw [h1, Int.max_def, Int.min_def]
    split <;> split at * <;> omega

set_option maxHeartbeats 4000000 in
theorem stepBack_ok (w : World) (g : Nat) (s : StT) (R : RowsM) (h : MemR w g s R) (hk : Rk s.r) (v : Value) (l : MsgT) (hl : MsgX (Free g R) w v l) (hf : 1 ≤ l.frm ∧ l.frm ≤ s.r.nodes) (hn : s.out.length ≤ 380) :
    Calls Try.prog 76 #[.pointer (some ⟨g, 0, none⟩), v] w (MbPost w g R (entS l.frm { s with r := backR l s.r })) := by
  obtain ⟨r, rfl, hr⟩ := hl
  obtain ⟨k, hfr⟩ : ∃ k : Nat, l.frm = (k : Int) + 1 := ⟨(l.frm - 1).toNat, by omega⟩
  obtain ⟨n, hnn⟩ : ∃ n : Nat, s.r.nodes = n := ⟨s.r.nodes.toNat, by have := hk.nodes; omega⟩
  have hn5 : n ≤ 5 := by have := hk.nodes; omega
  have hkn : k < n := by omega
  have hnx : s.r.next.length = n := by have := hk.next; omega
  have hmx : s.r.mtch.length = n := by have := hk.mtch; omega
  obtain ⟨W1, hW1⟩ : ∃ W1, w.alloc (.cells (cellsM l r).toArray 47) = W1 := ⟨_, rfl⟩
  have hB := h.box (cellsM l r).toArray 47
  have hb1 : Bl W1 w.heap.size 47 (cellsM l r).toArray := by rw [← hW1]; exact Bl.new _ _ _
  rw [hW1] at hB
  obtain ⟨b, hb⟩ : ∃ b, w.heap.size = b := ⟨_, rfl⟩
  rw [hb] at hb1
  have hbf : Free g R b := by rw [← hb]; exact h.free_new
  have b1 : W1.cell? ⟨b, 1, none⟩ = some (.int .i64 ((k : Int) + 1)) := by rw [← hfr]; exact hb1.cell 1
  have b5 : W1.cell? ⟨b, 5, none⟩ = some (.int .i64 l.index) := hb1.cell 5
  have hmb := hk.mtchs _ (nth_mem (l := s.r.mtch) (i := l.frm) hf.1 (by omega))
  have hnb := hk.nexts _ (nth_mem (l := s.r.next) (i := l.frm) hf.1 (by omega))
  obtain ⟨mt, hmt⟩ : ∃ mt, nthI s.r.mtch l.frm = mt := ⟨_, rfl⟩
  obtain ⟨nx, hnx2⟩ : ∃ nx, nthI s.r.next l.frm = nx := ⟨_, rfl⟩
  obtain ⟨q1, hq1⟩ : ∃ q1, (if l.index < nx - 2 then l.index else nx - 2) = q1 := ⟨_, rfl⟩
  obtain ⟨q2, hq2⟩ : ∃ q2, (if q1 < mt then mt else q1) = q2 := ⟨_, rfl⟩
  rw [hmt] at hmb
  rw [hnx2] at hnb
  have hqb : 0 ≤ q2 ∧ q2 ≤ 1152921504606846976 := by rw [← hq2, ← hq1]; omega
  obtain ⟨S1, hS1⟩ : ∃ S1 : StT, S1 = { s with r := backR l s.r } := ⟨_, rfl⟩
  have hE : S1 = { s with r := { s.r with next := putI s.r.next l.frm (q2 + 1) } } := by
    rw [hS1]
    unfold backR
    rw [hmt, hnx2, show max (min (nx - 2) l.index) mt + 1 = q2 + 1 by rw [← hq2, ← hq1]; omega]
  obtain ⟨bm, cm, hRm, dm', _⟩ := hB.1.at_m hfr hmx hkn 0 _ rfl
  obtain ⟨bn, cn, hRn, dn1, fn1, hbg, hbl, hbf2, hM, hT⟩ := hB.1.at_n hfr hnx hkn (q2 + 1) S1 hE
  rw [hmt] at dm'
  rw [hnx2] at dn1
  have c10 : W1.cell? ⟨g, 10, none⟩ = some (.slice (some ⟨bn, 0, none⟩) n cn) := by rw [← hRn]; exact hB.1.cell 10
  have c11 : W1.cell? ⟨g, 11, none⟩ = some (.slice (some ⟨bm, 0, none⟩) n cm) := by rw [← hRm]; exact hB.1.cell 11
  have hbn : ¬ bn = b := fun e => hbf (.inr (.inr (.inl (by rw [hbf2, e]))))
  have ew : IntKind.i64.wrap (k : Int) = k := IntWalk.i64_in _ (by omega)
  have ew2 : IntKind.i64.wrap (nx - 2) = nx - 2 := IntWalk.i64_in _ (by omega)
  have ew3 : IntKind.i64.wrap (q2 + 1) = q2 + 1 := IntWalk.i64_in _ (by omega)
  have hkn' : (k : Int) < (n : Int) := by omega
  have HS := hide (fun W R' (hW : MemR W g S1 R') => show Calls Try.prog 75 #[.pointer (some ⟨g, 0, none⟩), .int .i64 ((k : Int) + 1)] W (MbPost W g R' (entS ((k : Int) + 1) S1)) from
    sendEntries_ok W g S1 R' hW (k + 1) (by omega) (by rw [hE]; show _ ≤ (putI _ _ _).length; rw [put_len]; omega) (by rw [hE]; show (putI _ _ _).length ≤ _; rw [put_len]; omega) (by have := (hk.back l hf).nexts; rw [hS1]; exact this) (by rw [hS1]; exact hk.len) (by rw [hS1]; exact hk.bnd) (by rw [hS1]; show s.out.length ≤ 1000; omega))
  have HW := hide (fun n => show MemR ((W1.drewN n).setCell ⟨bn, k, none⟩ (.int .i64 (q2 + 1))) g S1 R ∧ Stp w ((W1.drewN n).setCell ⟨bn, k, none⟩ (.int .i64 (q2 + 1))) g R R from ⟨hM.gr ((Gr.refl _).drewN n), hB.2.1.trans (hT.trans (Stp.of_gr ((Gr.refl _).drewN n)))⟩)
  rw [← hS1, hfr]
  simp only [cellsM, hfr] at hW1 ⊢
  clear h hk hr hB hb1 hS1 hE hM hT hRn hRm hf hnx hmx hnn
  go_enter Try.func76, Try.ntmps76
  go_upto_region 1 with (fail)
  clear hW1
  go_quiet (fail)
  go_wp2_with fail
  go_region
  have HW2 := hide (HW.out (nq + 1))
  have o1 : ((W1.drewN (nq + 1)).setCell ⟨bn, k, none⟩ (.int .i64 (q2 + 1))).cell? ⟨b, 1, none⟩ = some (.int .i64 ((k : Int) + 1)) :=
    (World.cell?_of_block (Below.heap_setCell (W1.drewN (nq + 1)) ⟨bn, k, none⟩ _ b (fun e => hbn e.symm))).trans b1
  clear HW b1 b5 dm' dn1 fn1 c10 c11 hq1 hq2
  generalize (W1.drewN (nq + 1)).setCell ⟨bn, k, none⟩ (.int .i64 (q2 + 1)) = W2 at *
  go_wp2_with fail
  refine (HS.out W2 R HW2.out.1).mono ?_
  rintro e w2 ⟨rfl, R', h1, h2⟩
  have H1 := hide h1
  have H2 := hide (HW2.out.2.trans h2)
  clear h1 h2
  go_wp2_with fail
  go_end0
  exact ⟨rfl, R', H1.out, H2.out⟩

end Go.Proofs.Ythpaoeiackbdoaa

/-
  answered.
-/
namespace Go.Proofs.Ythpaoeiackbdoaa
open Go Go.RowKit TxnMath KeyMath MsgMath BalMath RfMath
set_option maxRecDepth 100000

theorem RfMath.Rk.got {r : RaftT} (h : Rk r) (l : MsgT) (hf : 1 ≤ l.frm ∧ l.frm ≤ r.nodes) : Rk (gotR l r) := by
  have hm := h.mtchs _ (nth_mem (l := r.mtch) (i := l.frm) hf.1 (by have := h.mtch; omega))
  have hl := h.len
  have hq : 0 ≤ matchR l r ∧ matchR l r ≤ 200 := by unfold matchR; omega
  unfold gotR commitR
  refine ⟨h.nodes, h.me, h.wait, h.term, h.len, h.bnd, next_nonneg h.commit, h.votes, by simp only [put_len]; exact h.next, by simp only [put_len]; exact h.mtch, fun x hx2 => ?_, fun x hx2 => ?_, h.clock⟩
  · rcases put_mem hx2 with h1 | h1
    · exact h.nexts x h1
    · omega
  · rcases put_mem hx2 with h1 | h1
    · exact h.mtchs x h1
    · omega

/-- an operation that tells a value and changes nothing -/
theorem wpList_val {P : Program} {ops : Array Oper} {rest : List Oper} {o : Oper} {a : Act} {w : World} {Q : Exit → Act → World → Prop} (z : Value) (hgd : o.guard = none) (hr : (execOp a.eval o).run P w = .ok (.value z) w) (h : wpList P ops Q rest (a.put o.dst z) w) : wpList P ops Q (o :: rest) a w :=
  wpList_plain hgd fun _ hK => by
    unfold Oper.wp
    rw [hr]
    exact hK _ _ h
theorem exec_box {P : Program} {ev : Operand → Value} {o : Oper} {ty t : TypeId} {x : Operand} {g : Nat} {cs : Array Value} {d : TypeDesc} {w : World} (ho : o.op = .load ty x) (hx : ev x = .pointer (some ⟨g, 0, none⟩)) (hb : Bl w g t cs)
    (hu : P.underlying ty = some d) (hd' : (match d with | .struct _ | .array _ _ => true | _ => false) = true) (hi : (P.info? ty).map (·.size) = some cs.size) : (execOp ev o).run P w = .ok (.value (.agg cs)) w := by
  unfold execOp
  simp only [ho, hx, Instr.loadAt, Instr.sureAddr, Sem.run_bind, Sem.run_pure, Result.andThen_ok, run_loadVar_row w g t ty cs (0, 0) d hb hu hd' hi]

theorem setCell_drewN (w : World) (n : Nat) (a : Addr) (v : Value) : (w.drewN n).setCell a v = (w.setCell a v).drewN n := rfl

set_option maxHeartbeats 4000000 in
theorem answered_no (w : World) (g : Nat) (s : StT) (R : RowsM) (h : MemR w g s R) (hk : Rk s.r) (v : Value) (l : MsgT) (hl : MsgX (Free g R) w v l) (hf : 1 ≤ l.frm ∧ l.frm ≤ s.r.nodes) (hn : s.out.length ≤ 380) (hok : l.ok = false) :
    Calls Try.prog 56 #[.pointer (some ⟨g, 0, none⟩), v] w (MbPost w g R (answerS l s)) := by
  obtain ⟨r, rfl, hr⟩ := hl
  obtain ⟨k, hfr⟩ : ∃ k : Nat, l.frm = (k : Int) + 1 := ⟨(l.frm - 1).toNat, by omega⟩
  obtain ⟨n, hnn⟩ : ∃ n : Nat, s.r.nodes = n := ⟨s.r.nodes.toNat, by have := hk.nodes; omega⟩
  have hn5 : n ≤ 5 := by have := hk.nodes; omega
  have hkn : k < n := by omega
  obtain ⟨W1, hW1⟩ : ∃ W1, w.alloc (.cells (cellsM l r).toArray 47) = W1 := ⟨_, rfl⟩
  have hB := h.box (cellsM l r).toArray 47
  have hb1 : Bl W1 w.heap.size 47 (cellsM l r).toArray := by rw [← hW1]; exact Bl.new _ _ _
  have hg1 : Gr w W1 := by rw [← hW1]; exact (Gr.refl _).alloc _
  rw [hW1] at hB
  obtain ⟨b, hb⟩ : ∃ b, w.heap.size = b := ⟨_, rfl⟩
  rw [hb] at hb1
  have hbf : Free g R b := by rw [← hb]; exact h.free_new
  have HS := hide (stepBack_ok W1 g s R hB.1 hk _ l ⟨r, rfl, hr.move (Moves.of_gr hg1)⟩ hf hn)
  have HY := hide (show answerS l s = entS l.frm { s with r := backR l s.r } by unfold answerS; rw [hok, if_neg (by simp)])
  rw [← HY.out] at HS
  have HT := hide hB.2.1
  have HB1 := hide hb1
  have b8 : W1.cell? ⟨b, 8, none⟩ = some (.bool false) := by rw [← hok]; exact hb1.cell 8
  obtain ⟨D, hD⟩ : ∃ D, (cellsM l r).toArray = D := ⟨_, rfl⟩
  rw [hD] at HS HB1
  have hDs : some D.size = some 24 := by rw [← hD]; rfl
  simp only [cellsM, hok, hfr] at hW1 ⊢
  clear h hk hr hB hb1 hg1 HY
  go_enter Try.func56, Try.ntmps56
  go_upto_region 1 with (fail)
  clear hW1
  go_upto_region 2 with (fail)
  refine wp_region_list ?_
  rw [List.toList_toArray]
  refine wpList_val (.pointer (some ⟨g, 0, none⟩)) rfl rfl ?_
  refine wpList_val (.agg D) rfl (exec_box rfl rfl HB1.out Try.underlying47 rfl (by rw [hDs]; kernel_rfl)) ?_
  simp only [Act.put, List.setIfInBounds_toArray, List.set_cons_zero, List.set_cons_succ]
  clear hD hDs
  go_wp2_with fail
  refine HS.out.mono ?_
  rintro e w2 ⟨rfl, R', h1, h2⟩
  have H1 := hide h1
  have H2 := hide (HT.out.trans h2)
  clear h1 h2
  go_wp2_with fail
  go_end0
  exact ⟨rfl, R', H1.out, H2.out⟩
set_option maxHeartbeats 4000000 in
theorem answered_yes (w : World) (g : Nat) (s : StT) (R : RowsM) (h : MemR w g s R) (hk : Rk s.r) (v : Value) (l : MsgT) (hl : MsgX (Free g R) w v l) (hf : 1 ≤ l.frm ∧ l.frm ≤ s.r.nodes) (hn : s.out.length ≤ 380) (hok : l.ok = true) :
    Calls Try.prog 56 #[.pointer (some ⟨g, 0, none⟩), v] w (MbPost w g R (answerS l s)) := by
  obtain ⟨r, rfl, hr⟩ := hl
  obtain ⟨k, hfr⟩ : ∃ k : Nat, l.frm = (k : Int) + 1 := ⟨(l.frm - 1).toNat, by omega⟩
  obtain ⟨n, hnn⟩ : ∃ n : Nat, s.r.nodes = n := ⟨s.r.nodes.toNat, by have := hk.nodes; omega⟩
  have hn5 : n ≤ 5 := by have := hk.nodes; omega
  have hkn : k < n := by omega
  have hnx : s.r.next.length = n := by have := hk.next; omega
  have hmx : s.r.mtch.length = n := by have := hk.mtch; omega
  obtain ⟨W1, hW1⟩ : ∃ W1, w.alloc (.cells (cellsM l r).toArray 47) = W1 := ⟨_, rfl⟩
  have hB := h.box (cellsM l r).toArray 47
  have hb1 : Bl W1 w.heap.size 47 (cellsM l r).toArray := by rw [← hW1]; exact Bl.new _ _ _
  have hg1 : Gr w W1 := by rw [← hW1]; exact (Gr.refl _).alloc _
  rw [hW1] at hB
  obtain ⟨b, hb⟩ : ∃ b, w.heap.size = b := ⟨_, rfl⟩
  rw [hb] at hb1
  have hbf : Free g R b := by rw [← hb]; exact h.free_new
  obtain ⟨A, c, hA⟩ := h.log.is
  have hll := hk.len
  have b1 : W1.cell? ⟨b, 1, none⟩ = some (.int .i64 ((k : Int) + 1)) := by rw [← hfr]; exact hb1.cell 1
  have b5 : W1.cell? ⟨b, 5, none⟩ = some (.int .i64 l.index) := hb1.cell 5
  have b8 : W1.cell? ⟨b, 8, none⟩ = some (.bool true) := by rw [← hok]; exact hb1.cell 8
  have c5 : W1.cell? ⟨g, 5, none⟩ = some (.slice A s.r.log.length c) := by rw [← hA]; exact hB.1.cell 5
  have hmb := hk.mtchs _ (nth_mem (l := s.r.mtch) (i := l.frm) hf.1 (by omega))
  obtain ⟨mt, hmt⟩ : ∃ mt, nthI s.r.mtch l.frm = mt := ⟨_, rfl⟩
  obtain ⟨q1, hq1⟩ : ∃ q1, (if mt < l.index then l.index else mt) = q1 := ⟨_, rfl⟩
  obtain ⟨q2, hq2⟩ : ∃ q2, (if (s.r.log.length : Int) < q1 then (s.r.log.length : Int) else q1) = q2 := ⟨_, rfl⟩
  rw [hmt] at hmb
  have hqb : 0 ≤ q2 ∧ q2 ≤ 200 := by rw [← hq2, ← hq1]; omega
  have hmq : matchR l s.r = q2 := by unfold matchR; rw [hmt, ← hq2, ← hq1]; omega
  obtain ⟨S1, hS1⟩ : ∃ S1 : StT, S1 = { s with r := { s.r with mtch := putI s.r.mtch l.frm q2 } } := ⟨_, rfl⟩
  obtain ⟨S2, hS2⟩ : ∃ S2 : StT, S2 = { S1 with r := { S1.r with next := putI S1.r.next l.frm (q2 + 1) } } := ⟨_, rfl⟩
  obtain ⟨S3, hS3⟩ : ∃ S3 : StT, S3 = { S2 with r := commitR S2.r } := ⟨_, rfl⟩
  have hE : S3 = { s with r := gotR l s.r } := by
    rw [hS3, hS2, hS1]
    unfold gotR
    rw [hmq]
  obtain ⟨bm, cm, hRm, dm, fm, hbg, hbl, hbf2, hM1, hT1⟩ := hB.1.at_m hfr hmx hkn q2 S1 hS1
  obtain ⟨bn, cn, hRn, dn, fn, hbg2, _, hbf3, hM2, hT2⟩ := hM1.at_n hfr (by rw [hS1]; exact hnx) hkn (q2 + 1) S2 hS2
  rw [hmt] at dm
  have fn' : W1.frozen? ⟨bn, k, none⟩ = false := by
    obtain ⟨bx, _, hx, _, fx, _⟩ := hB.1.at_n hfr hnx hkn 0 _ rfl
    rw [hRn] at hx
    simp only [Value.slice.injEq, Option.some.injEq, Addr.mk.injEq, and_true] at hx
    rw [hx.1]
    exact fx
  generalize nthI S1.r.next l.frm = nx at dn
  have hbb : bm ≠ bn := fun e => hB.1.nmm bn hbf3 (by rw [← e]; exact hbf2)
  have hbb2 : bn ≠ bm := fun e => hbb e.symm
  have dn' : W1.cell? ⟨bn, k, none⟩ = some (.int .i64 nx) := by
    rw [← dn]
    exact (World.cell?_of_block (Below.heap_setCell W1 ⟨bm, k, none⟩ _ bn hbb2)).symm
  have c10 : W1.cell? ⟨g, 10, none⟩ = some (.slice (some ⟨bn, 0, none⟩) n cn) := by rw [← hRn]; exact hB.1.cell 10
  have c11 : W1.cell? ⟨g, 11, none⟩ = some (.slice (some ⟨bm, 0, none⟩) n cm) := by rw [← hRm]; exact hB.1.cell 11
  have hbm : ¬ bm = b := fun e => hbf (.inr (.inr (.inr (.inl (by rw [hbf2, e])))))
  have hbn : ¬ bn = b := fun e => hbf (.inr (.inr (.inl (by rw [hbf3, e]))))
  have ew : IntKind.i64.wrap (k : Int) = k := IntWalk.i64_in _ (by omega)
  have ew2 : IntKind.i64.wrap (q2 + 1) = q2 + 1 := IntWalk.i64_in _ (by omega)
  have hkn' : (k : Int) < (n : Int) := by omega
  have hK3 : Rk S3.r := by rw [hE]; exact hk.got l hf
  have HK3 := hide hK3
  have HO3 := hide (show S3.out = s.out by rw [hE])
  have HL3 := hide (show S3.r.log.length = s.r.log.length by rw [hE]; rfl)
  have HC := hide (fun W (hW : MemR W g S2 R) => commit_ok W g S2 R hW (by have h7 : (S3.r.mtch.length : Int) = S3.r.nodes := hK3.mtch; have h8 := hK3.nodes; rw [hS3] at h7 h8; have h9 : (S2.r.mtch.length : Int) = S2.r.nodes := h7; have h10 : S2.r.nodes ≤ 5 := h8.2; omega) (fun x hx => (hK3.mtchs x (by rw [hS3]; exact hx)).1) (by rw [hS2, hS1]; show s.r.log.length ≤ 1000; omega) (by rw [hS2, hS1]; exact hk.commit))
  rw [← hS3] at HC
  have HS := hide (fun W R' (hW : MemR W g S3 R') => show Calls Try.prog 75 #[.pointer (some ⟨g, 0, none⟩), .int .i64 ((k : Int) + 1)] W (MbPost W g R' (entS ((k : Int) + 1) S3)) from
    sendEntries_ok W g S3 R' hW (k + 1) (by omega) (by have h7 := hK3.next; have h8 : S3.r.nodes = n := by rw [hE]; exact hnn
                                                       omega) (by have h7 := hK3.next; have h8 := hK3.nodes; omega) hK3.nexts hK3.len hK3.bnd (by rw [HO3.out]; omega))
  obtain ⟨D, hD⟩ : ∃ D, (cellsM l r).toArray = D := ⟨_, rfl⟩
  rw [hD] at hb1
  have hD1 : D[1]? = some (.int .i64 ((k : Int) + 1)) := by rw [← hD, ← hfr]; rfl
  have HW := hide (fun n => show MemR (((W1.drewN n).setCell ⟨bm, k, none⟩ (.int .i64 q2)).setCell ⟨bn, k, none⟩ (.int .i64 (q2 + 1))) g S2 R ∧ Stp w (((W1.drewN n).setCell ⟨bm, k, none⟩ (.int .i64 q2)).setCell ⟨bn, k, none⟩ (.int .i64 (q2 + 1))) g R R ∧ Bl (((W1.drewN n).setCell ⟨bm, k, none⟩ (.int .i64 q2)).setCell ⟨bn, k, none⟩ (.int .i64 (q2 + 1))) b 47 D from by
    rw [setCell_drewN, setCell_drewN]
    have hS : Stp W1 (((W1.setCell ⟨bm, k, none⟩ (.int .i64 q2)).setCell ⟨bn, k, none⟩ (.int .i64 (q2 + 1))).drewN n) g R R := (hT1.trans hT2).trans (Stp.of_gr ((Gr.refl _).drewN n))
    exact ⟨hM2.gr ((Gr.refl _).drewN n), hB.2.1.trans hS, (hS.bl hb1 hbf).1⟩)
  have HBF := hide hbf
  have HY := hide (show answerS l s = if q2 < s.r.log.length then entS ((k : Int) + 1) S3 else S3 by unfold answerS; rw [hok, if_pos rfl, hmq, ← hE, hfr])
  simp only [cellsM, hok, hfr] at hW1 ⊢
  clear h hk hr hB hb1 hg1 hS1 hS2 hS3 hE hM1 hM2 hT1 hT2 hRm hRn hf hnx hmx hnn dn hK3 hmq
  go_enter Try.func56, Try.ntmps56
  go_upto_region 1 with (fail)
  clear hW1
  go_wp2_with fail
  go_quiet (fail)
  go_wp2_with fail
  go_region
  have HW2 := hide (HW.out (nq + 1))
  clear HW b1 b5 b8 c5 dm dn' fm fn fn' c10 c11 hq1 hq2 hbl hbg hbg2
  generalize ((W1.drewN (nq + 1)).setCell ⟨bm, k, none⟩ (.int .i64 q2)).setCell ⟨bn, k, none⟩ (.int .i64 (q2 + 1)) = W2 at *
  go_wp2_with fail
  refine (HC.out W2 HW2.out.1).mono ?_
  rintro e w2 ⟨rfl, R2, h1, h2⟩
  have hb2 := h2.bl HW2.out.2.2 HBF.out
  have b1 : w2.cell? ⟨b, 1, none⟩ = some (.int .i64 ((k : Int) + 1)) := by rw [hb2.1.cell]; exact hD1
  obtain ⟨A2, c2, hA2⟩ := h1.log.is
  have c5 : w2.cell? ⟨g, 5, none⟩ = some (.slice A2 s.r.log.length c2) := by rw [← HL3.out, ← hA2]; exact h1.cell 5
  have H1 := hide h1
  have H2 := hide (HW2.out.2.1.trans h2)
  clear h1 h2 hb2 hD hD1 HW2 HC hA2
  by_cases hlt : q2 < (s.r.log.length : Int)
  · have HY2 := hide (HY.out.trans (if_pos hlt))
    go_wp2_with fail
    refine (HS.out w2 R2 H1.out).mono ?_
    rintro e w3 ⟨rfl, R3, h3, h4⟩
    have H3 := hide h3
    have H4 := hide (H2.out.trans h4)
    clear h3 h4
    go_wp2_with fail
    go_end0
    exact ⟨rfl, R3, by rw [HY2.out]; exact H3.out, H4.out⟩
  · have HY2 := hide (HY.out.trans (if_neg hlt))
    go_wp2_with fail
    go_end0
    exact ⟨rfl, R2, by rw [HY2.out]; exact H1.out, H2.out⟩

theorem answered_ok (w : World) (g : Nat) (s : StT) (R : RowsM) (h : MemR w g s R) (hk : Rk s.r) (v : Value) (l : MsgT) (hl : MsgX (Free g R) w v l) (hf : 1 ≤ l.frm ∧ l.frm ≤ s.r.nodes) (hn : s.out.length ≤ 380) :
    Calls Try.prog 56 #[.pointer (some ⟨g, 0, none⟩), v] w (MbPost w g R (answerS l s)) := by
  cases hok : l.ok
  · exact answered_no w g s R h hk v l hl hf hn hok
  · exact answered_yes w g s R h hk v l hl hf hn hok


end Go.Proofs.Ythpaoeiackbdoaa
