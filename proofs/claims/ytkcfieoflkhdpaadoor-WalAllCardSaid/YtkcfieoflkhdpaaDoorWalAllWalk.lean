/-
  The walk of 'WalAll'.
-/
import Derived.Test.YtkcfieoflkhdpaaDoorWalAllMem
import Derived.Test.YtkcfieoflkhdpaaDoorLent
import Derived.Deep.CutBlock
import Derived.Deep.DeepCutAuto
namespace Go.Proofs.YtkcfieoflkhdpaaDoor
open Go Go.RowKit MapS DiskMem DiskHit DiskBegin DiskOps DiskApp DiskCrash KeyMath WalName WalObj WalDo WalWalk WalRead WalOpen WalMath WalBegun FrameMath
set_option maxRecDepth 100000

theorem u8_all {a : Int} (h : (Lit.int .u8 a).wf = true) : ∃ b : Nat, (b : Int) = a ∧ b < 256 := by
  have : 0 ≤ a ∧ a ≤ 255 := by simpa [Lit.wf, IntKind.min, IntKind.max, IntKind.bits, IntKind.signed] using h
  exact ⟨a.toNat, by omega, by omega⟩
theorem light_all {ds : List DeedW} (h : lightB ds = true) : ds.length ≤ 30 ∧ ∀ x ∈ ds, x.b.length ≤ 100 ∧ x.keep.length ≤ 20 := by
  unfold lightB at h
  rw [Bool.and_eq_true, List.all_eq_true] at h
  refine ⟨by simpa using h.2, fun x hx => ?_⟩
  have := h.1 x hx
  unfold smallD at this
  simpa using this
theorem conv_all (w : World) {A : Option Addr} {c : Nat} {l : List UInt8} (h : By w A c l) : (convert 33 9 (.slice A l.length c)).run Tryd.prog w = .ok (.string (bs l)) w := run_conv w 33 9 5 Tryd.underlying33 Tryd.underlying5 Tryd.underlying9 _ c rfl h.rd

theorem tmod8 (a : Int) : -8 < a.tmod 8 ∧ a.tmod 8 < 8 ∧ (0 ≤ a → 0 ≤ a.tmod 8) := by
  rcases Int.le_total 0 a with h | h
  · rw [Int.tmod_eq_emod_of_nonneg h]; omega
  · have e := Int.neg_tmod (-a) 8
    rw [Int.neg_neg] at e
    rcases Int.lt_or_eq_of_le h with h2 | h2
    · rw [e, Int.tmod_eq_emod_of_nonneg (by omega)]; omega
    · subst h2; decide

set_option maxHeartbeats 4000000 in
theorem walk_WalAll (w : World) (ht : TabW w) (a : Int) (ha : (Lit.int .u8 a).wf = true) (v : Value) (ds : List DeedW) (hv : RowAt 3 w v (ds.map deedW)) (hok : ∀ x ∈ ds, DeedOk8 w x) (hlen : ds.length ≤ 281474976710656) :
    Calls Tryd.prog 3 #[.int .u8 a, v] w fun e w' => e = .returned (.bool true) ∧ Gr w w' := by
  obtain ⟨sz, rfl, hsz⟩ := u8_all ha
  have HT := hide ht
  have HL := hide ht.lt
  have HB := hide (begun_ok w ht)
  have HV := hide hv
  have HOK := hide hok
  have HLI := hide (fun wz (hg : Gr w wz) => light_ok v ds wz (hv.gr hg) (by omega))
  obtain ⟨VA, vc, rfl, hvc⟩ := hv.slice8
  clear ht ha hv hok
  obtain ⟨lb, hlb⟩ : ∃ b, lightB ds = b := ⟨_, rfl⟩
  rw [hlb] at HLI
  cases lb
  · clear hlb
    go_enter Tryd.func3, Tryd.ntmps3
    go_wp2_with fail
    refine HB.out.mono ?_
    rintro e w0 ⟨rfl, hg0⟩
    have G0 := hide hg0
    clear hg0
    go_wp2_with fail
    refine (HLI.out _ G0.out).mono ?_
    rintro e w1 ⟨rfl, rfl⟩
    go_wp2_with fail
    go_ret
    exact ⟨rfl, G0.out⟩
  obtain ⟨h30, hsm⟩ := light_all hlb
  have HSM := hide hsm
  clear hlb hsm
  go_enter Tryd.func3, Tryd.ntmps3
  go_wp2_with fail
  refine HB.out.mono ?_
  rintro e w0 ⟨rfl, hg0⟩
  have G0 := hide hg0
  clear hg0 HB
  go_wp2_with fail
  refine (HLI.out _ G0.out).mono ?_
  rintro e w1 ⟨rfl, hw1⟩
  subst hw1
  clear HLI
  go_wp2_with fail
  refine (new_ok 1048576 _).mono ?_
  rintro e w2 ⟨rfl, hg1, hb1, hs1⟩
  have U1 := hide (use_new (room := 1048576) (by omega) hb1 hs1)
  have HL0 : Hid (tabG < w1.heap.size) := hide (Nat.lt_of_lt_of_le HL.out G0.out.size)
  have O1 := hide (open_ok HL0.out (by omega) U1.out (HT.out.gr (G0.out.trans hg1)) (fun p hp => by cases hp) 114 (by decide) (1 + sz) (by omega) (by omega))
  have e1 : ((1 + sz : Nat) : Int) = 1 + (sz : Int) := by omega
  rw [openM_nil, e1] at O1
  have G1 := hide hg1
  clear hg1 hb1 hs1
  unfold ptr
  go_wp2_with fail
  refine O1.out.mono ?_
  rintro e w3 ⟨g, A1, c1, S, rfl, hst, hS, hlo, hon, hrw⟩
  have P0 : Hid (AllAt w1 w3 w1.heap.size (1 + sz) 0 g (.slice none 0 0) [] [] 0) := hide ⟨gr_only G1.out hon (fun i hi => by rw [show i = w1.heap.size from hi]; exact Nat.le_refl _), Nat.le_refl _, (fun r hr => nomatch hr), S, [], [], hst, pcs_nil _, List.Pairwise.nil, Nat.le_refl _, Nat.le_refl _, Nat.le_refl _, AInv.begin _, ⟨OwnV.none_ _ _, fun k hk => by cases hk⟩⟩
  clear hst hS hlo hon hrw O1 U1 G1
  unfold ptr
  simp only [List.length_nil]
  obtain ⟨d, hd⟩ : ∃ d, w1.heap.size = d := ⟨_, rfl⟩
  have HD := hide hd
  rw [hd] at P0 ⊢
  clear hd
  obtain ⟨nn, hnn⟩ : ∃ nn, 1 + sz = nn := ⟨_, rfl⟩
  have hn1 : 1 ≤ nn := by omega
  have hn2 : nn ≤ 256 := by omega
  rw [hnn] at P0 e1
  rw [← e1]
  clear e1 hnn hsz
  go_wp2_with fail
  go_loopw [7, 10, 11, 12] (fun v7 v10 v11 v12 wr => ∃ (j g sure : Nat) (ls : List (List UInt8)), v7 = .pointer (some ⟨g, 0, none⟩) ∧ v11 = .int .i64 sure ∧ v12 = .int .i64 j ∧ j ≤ ds.length ∧ Hid (AllAt w1 wr d nn j g v10 ls ls sure)) (fun _ _ _ v12 _ => ds.length - (intOf v12).toNat)
  case atStart => exact ⟨0, g, 0, [], rfl, rfl, rfl, Nat.zero_le _, P0⟩
  case round =>
    clear P0
    obtain ⟨j, g, sure, ls, rfl, rfl, rfl, hj, HA⟩ := hrel
    by_cases hlt : j < ds.length
    · have hlt' : (j : Int) < (ds.length : Int) := by omega
      obtain ⟨ad, c', e2, k0, k1, k2⟩ := ((HV.out.gr (G0.out.trans HA.out.gr))).deed8 hlt
      injection e2 with e2 _ e3
      subst e2 e3
      have hx := HOK.out ds[j] (List.getElem_mem hlt)
      have hxs := HSM.out ds[j] (List.getElem_mem hlt)
      generalize ds[j] = x at k0 k1 k2 hx hxs
      have HX := hide hx
      obtain ⟨hxb, hxk⟩ := hxs
      have hjc : (j : Int) < (vc : Int) := by omega
      obtain ⟨VA, cc, hv10, hlcc⟩ := HA.out.is
      have HSLE : sure ≤ ls.length := by
        obtain ⟨_, _, _, _, _, _, _, _, _, hi, _⟩ := HA.out.ex
        exact hi.sure_le
      subst hv10
      obtain ⟨r, hr⟩ : ∃ r, x.kind.tmod 8 = r := ⟨_, rfl⟩
      have hr8 : -8 < r ∧ r < 8 := by have := tmod8 x.kind; omega
      obtain ⟨q, hq⟩ : ∃ q, (r + 8).tmod 8 = q := ⟨_, rfl⟩
      have hq8 : 0 ≤ q ∧ q < 8 := by have := tmod8 (r + 8); omega
      clear hx
      go_upto_block 2 with fail
      have gO : Gr wr (wr.alloc (.cells #[.int .i64 x.kind, .slice x.B x.b.length x.bc, .slice x.K x.keep.length x.kc] 36)) := (Gr.refl wr).alloc _
      have bO := Bl.new wr 36 #[.int .i64 x.kind, .slice x.B x.b.length x.bc, .slice x.K x.keep.length x.kc]
      have qO : wr.heap.size < (wr.alloc (.cells #[.int .i64 x.kind, .slice x.B x.b.length x.bc, .slice x.K x.keep.length x.kc] 36)).heap.size := by simp
      generalize wr.alloc (.cells #[.int .i64 x.kind, .slice x.B x.b.length x.bc, .slice x.K x.keep.length x.kc] 36) = wo at gO bO qO ⊢
      obtain ⟨o, ho⟩ : ∃ o, wr.heap.size = o := ⟨_, rfl⟩
      have HLO := hide (Nat.le_of_eq ho)
      rw [ho] at bO qO ⊢
      have HBO := hide bO
      have HGO := hide gO
      have HQO := hide qO
      clear gO bO qO ho k0 k1 k2
      go_cut [7, 10, 11] (fun v7 v10 v11 wx => ∃ (g' sure' : Nat) (ls' : List (List UInt8)), v7 = .pointer (some ⟨g', 0, none⟩) ∧ v11 = .int .i64 sure' ∧ Hid (AllAt w1 wx d nn (j + 1) g' v10 ls' ls' sure'))
      case first =>
        have HSL := hide HSLE
        have hll : ls.length ≤ 30 := by have := HA.out.len; omega
        have k0 := HBO.out.cell 0
        have k1 := HBO.out.cell 1
        have k2 := HBO.out.cell 2
        simp only [List.getElem?_toArray, List.getElem?_cons_zero, List.getElem?_cons_succ] at k0 k1 k2
        by_cases q5 : q = 5
        · subst q5
          have HS := hide ((HA.out.gr_ HGO.out).sync (by omega))
          clear k1 k2
          go_wp2_with fail
          refine HS.out.mono ?_
          rintro e w4 ⟨rfl, h4⟩
          have H4 := hide h4.more
          clear h4 HS
          go_wp2_with fail
          go_meet
          exact ⟨g, ls.length, ls, rfl, rfl, H4⟩
        have q5' : (q == 5) = false := by rw [beq_eq_false_iff_ne]; exact q5
        by_cases q67 : q = 6 ∨ q = 7
        · by_cases r7 : r = 7
          · have hq7 : q = 7 := by rw [← hq, r7]; rfl
            subst hq7 r7
            have HC := hide (HA.out.crash (by omega) HGO.out x.K x.keep.length x.kc x.keep rfl (HX.out.keep.gr ((G0.out.trans HA.out.gr).trans HGO.out)) (fun ad hl hA => by
              obtain ⟨ad', e1, e2⟩ := HX.out.keep.rd 0 hl
              rw [hA] at e1
              injection e1 with e1
              subst e1
              have := World.block_lt_of_cell? w _ e2
              rw [add_block] at this
              exact Nat.lt_of_lt_of_le this G0.out.size))
            go_wp2_with fail
            refine HC.out.mono ?_
            rintro e w4 ⟨rfl, h4, hk4⟩
            have HBO4 := hide (hk4 o _ _ HLO.out HBO.out)
            have HOP := hide (h4.open (by omega) hn1 (by omega) (Gr.refl w4))
            clear h4 hk4 HC k0 k1 k2
            go_wp2_with fail
            refine HOP.out.mono ?_
            rintro e w5 ⟨k, hsk, ⟨⟨g2, GA, gc, rfl, h5, hrw⟩, hkl⟩, hk5⟩
            have HBO5 := hide (hk5 o _ _ HLO.out HQO.out HBO4.out)
            clear hk5 HOP HBO4
            have H5 := hide h5
            have HRW := hide hrw
            have k0 := HBO5.out.cell 0
            simp only [List.getElem?_toArray, List.getElem?_cons_zero] at k0
            have hkl' : (k : Int) ≤ (ls.length : Int) := by omega
            have hsk' : (sure : Int) ≤ (k : Int) := by omega
            have hkcc : (k : Int) ≤ (cc : Int) := by omega
            unfold ptr
            clear h5 hrw
            go_wp2_with fail
            go_loopw [14] (fun v14 wz => ∃ i : Nat, v14 = .int .i64 i ∧ i ≤ k ∧ Hid (Gr w5 wz)) (fun v14 _ => k - (intOf v14).toNat)
            case atStart => exact ⟨0, rfl, Nat.zero_le _, Gr.refl _⟩
            case round =>
              obtain ⟨i, rfl, hi, HZ⟩ := hrel
              by_cases hik : i < k
              · have hik' : (i : Int) < (k : Int) := by omega
                have hil : i < ls.length := by omega
                have hil' : (i : Int) < (ls.length : Int) := by omega
                obtain ⟨ad5, eG, B5, cB5, hc5, hby5⟩ := HRW.out.rd i (by rw [List.length_take]; omega)
                obtain ⟨ad6, eA, hc6⟩ := H5.out.cell hil
                subst eG eA
                obtain ⟨y, hy⟩ : ∃ y, ls[i]'hil = y := ⟨_, rfl⟩
                have ey : (ls.take k)[i]'(by rw [List.length_take]; omega) = y := by rw [List.getElem_take]; exact hy
                rw [ey] at hc5 hby5
                rw [hy] at hc6
                have k5 := gr_cell HZ.out _ _ hc5
                have k6 := gr_cell HZ.out _ _ hc6
                have cx : ∀ nz, (convert 33 9 (.slice B5 y.length cB5)).run Tryd.prog (wr.drewN nz) = .ok (.string (bs y)) (wr.drewN nz) := fun nz => conv_all (wr.drewN nz) ((hby5.gr HZ.out).drewN nz)
                clear hc5 hc6 hby5 ey hy
                go_wp2_with fail
                go_quiet (fail)
                go_wp2_with fail
                go_roundw
                case rel => exact ⟨i + 1, by go_num, by omega, HZ.out.drewN _⟩
                case measure => simp [intOf]; omega
              · have hik2 : k = i := by omega
                subst hik2
                have HF := hide ((H5.out.gr_ HZ.out).cut (k := k) hkl).more
                have k0' := gr_cell HZ.out _ _ k0
                clear k0
                go_wp2_with fail
                go_meet
                exact ⟨g2, k, ls.take k, rfl, rfl, HF⟩
          · have r7' : (r == 7) = false := by rw [beq_eq_false_iff_ne]; exact r7
            rcases q67 with e | e
            · subst e
              have HOP := hide (HA.out.open (by omega) hn1 (by omega) HGO.out)
              go_wp2_with fail
              refine HOP.out.mono ?_
              rintro e w5 ⟨⟨⟨g2, GA, gc, rfl, h5, hrw⟩, hkl⟩, hk5⟩
              have HBO5 := hide (hk5 o _ _ HLO.out HBO.out)
              clear hk5 HOP k0 k1 k2
              have hsk : sure ≤ ls.length := HSL.out
              have H5 := hide h5
              have HRW := hide hrw
              have k0 := HBO5.out.cell 0
              simp only [List.getElem?_toArray, List.getElem?_cons_zero] at k0
              have hkl' : (ls.length : Int) ≤ (ls.length : Int) := by omega
              have hsk' : (sure : Int) ≤ (ls.length : Int) := by omega
              have hkcc : (ls.length : Int) ≤ (cc : Int) := by omega
              unfold ptr
              clear h5 hrw
              go_wp2_with fail
              go_loopw [14] (fun v14 wz => ∃ i : Nat, v14 = .int .i64 i ∧ i ≤ ls.length ∧ Hid (Gr w5 wz)) (fun v14 _ => ls.length - (intOf v14).toNat)
              case atStart => exact ⟨0, rfl, Nat.zero_le _, Gr.refl _⟩
              case round =>
                obtain ⟨i, rfl, hi, HZ⟩ := hrel
                by_cases hik : i < ls.length
                · have hik' : (i : Int) < (ls.length : Int) := by omega
                  have hil : i < ls.length := by omega
                  have hil' : (i : Int) < (ls.length : Int) := by omega
                  obtain ⟨ad5, eG, B5, cB5, hc5, hby5⟩ := HRW.out.rd i (by rw [List.length_take]; omega)
                  obtain ⟨ad6, eA, hc6⟩ := H5.out.cell hil
                  subst eG eA
                  obtain ⟨y, hy⟩ : ∃ y, ls[i]'hil = y := ⟨_, rfl⟩
                  have ey : (ls.take ls.length)[i]'(by rw [List.length_take]; omega) = y := by rw [List.getElem_take]; exact hy
                  rw [ey] at hc5 hby5
                  rw [hy] at hc6
                  have k5 := gr_cell HZ.out _ _ hc5
                  have k6 := gr_cell HZ.out _ _ hc6
                  have cx : ∀ nz, (convert 33 9 (.slice B5 y.length cB5)).run Tryd.prog (wr.drewN nz) = .ok (.string (bs y)) (wr.drewN nz) := fun nz => conv_all (wr.drewN nz) ((hby5.gr HZ.out).drewN nz)
                  clear hc5 hc6 hby5 ey hy
                  go_wp2_with fail
                  go_quiet (fail)
                  go_wp2_with fail
                  go_roundw
                  case rel => exact ⟨i + 1, by go_num, by omega, HZ.out.drewN _⟩
                  case measure => simp [intOf]; omega
                · have hik2 : ls.length = i := by omega
                  subst hik2
                  have HF := hide ((H5.out.gr_ HZ.out).cut (k := ls.length) hkl).more
                  have k0' := gr_cell HZ.out _ _ k0
                  clear k0
                  go_wp2_with fail
                  go_meet
                  exact ⟨g2, sure, ls.take ls.length, rfl, rfl, HF⟩
            · subst e
              have HOP := hide (HA.out.open (by omega) hn1 (by omega) HGO.out)
              go_wp2_with fail
              refine HOP.out.mono ?_
              rintro e w5 ⟨⟨⟨g2, GA, gc, rfl, h5, hrw⟩, hkl⟩, hk5⟩
              have HBO5 := hide (hk5 o _ _ HLO.out HBO.out)
              clear hk5 HOP k0 k1 k2
              have hsk : sure ≤ ls.length := HSL.out
              have H5 := hide h5
              have HRW := hide hrw
              have k0 := HBO5.out.cell 0
              simp only [List.getElem?_toArray, List.getElem?_cons_zero] at k0
              have hkl' : (ls.length : Int) ≤ (ls.length : Int) := by omega
              have hsk' : (sure : Int) ≤ (ls.length : Int) := by omega
              have hkcc : (ls.length : Int) ≤ (cc : Int) := by omega
              unfold ptr
              clear h5 hrw
              go_wp2_with fail
              go_loopw [14] (fun v14 wz => ∃ i : Nat, v14 = .int .i64 i ∧ i ≤ ls.length ∧ Hid (Gr w5 wz)) (fun v14 _ => ls.length - (intOf v14).toNat)
              case atStart => exact ⟨0, rfl, Nat.zero_le _, Gr.refl _⟩
              case round =>
                obtain ⟨i, rfl, hi, HZ⟩ := hrel
                by_cases hik : i < ls.length
                · have hik' : (i : Int) < (ls.length : Int) := by omega
                  have hil : i < ls.length := by omega
                  have hil' : (i : Int) < (ls.length : Int) := by omega
                  obtain ⟨ad5, eG, B5, cB5, hc5, hby5⟩ := HRW.out.rd i (by rw [List.length_take]; omega)
                  obtain ⟨ad6, eA, hc6⟩ := H5.out.cell hil
                  subst eG eA
                  obtain ⟨y, hy⟩ : ∃ y, ls[i]'hil = y := ⟨_, rfl⟩
                  have ey : (ls.take ls.length)[i]'(by rw [List.length_take]; omega) = y := by rw [List.getElem_take]; exact hy
                  rw [ey] at hc5 hby5
                  rw [hy] at hc6
                  have k5 := gr_cell HZ.out _ _ hc5
                  have k6 := gr_cell HZ.out _ _ hc6
                  have cx : ∀ nz, (convert 33 9 (.slice B5 y.length cB5)).run Tryd.prog (wr.drewN nz) = .ok (.string (bs y)) (wr.drewN nz) := fun nz => conv_all (wr.drewN nz) ((hby5.gr HZ.out).drewN nz)
                  clear hc5 hc6 hby5 ey hy
                  go_wp2_with fail
                  go_quiet (fail)
                  go_wp2_with fail
                  go_roundw
                  case rel => exact ⟨i + 1, by go_num, by omega, HZ.out.drewN _⟩
                  case measure => simp [intOf]; omega
                · have hik2 : ls.length = i := by omega
                  subst hik2
                  have HF := hide ((H5.out.gr_ HZ.out).cut (k := ls.length) hkl).more
                  have k0' := gr_cell HZ.out _ _ k0
                  clear k0
                  go_wp2_with fail
                  go_meet
                  exact ⟨g2, sure, ls.take ls.length, rfl, rfl, HF⟩
        · have q6' : (q == 6) = false := by rw [beq_eq_false_iff_ne]; omega
          have q7' : (q == 7) = false := by rw [beq_eq_false_iff_ne]; omega
          obtain ⟨i0, hi, hz0, hz1, hz2⟩ := info_s
          have hga := HA.out.gr.trans HGO.out
          have hbx : By wo x.B x.bc x.b := HX.out.b.gr (G0.out.trans hga)
          have HLE := hide (Lent_new x.B x.b.length x.bc x.b rfl wo hbx (by omega))
          clear hga hbx
          go_wp2_with fail
          refine HLE.out.mono ?_
          rintro e w4 ⟨gl, cur, hgl, rfl, hbl, hcur, hg4⟩
          have HAD := hide (HA.out.add (by omega) hn1 (HGO.out.trans hg4) rfl hxb (hcur.by_ hbl (by omega)))
          have HBL := hide hbl
          have HCU := hide hcur
          have HB4 := hide (HBO.out.gr hg4)
          have HGL : Hid (wr.heap.size ≤ gl) := hide (Nat.le_trans HGO.out.size hgl)
          have k1b := HB4.out.cell 1
          simp only [List.getElem?_toArray, List.getElem?_cons_zero, List.getElem?_cons_succ] at k1b
          clear hbl hcur hg4 HLE k0 k1 k2 hgl
          go_wp2_with fail
          refine HAD.out.mono ?_
          rintro e w5 ⟨rfl, h5, hk5⟩
          have H5 := hide h5
          have HBL5 := hide (hk5 gl _ _ HGL.out HBL.out)
          have k1c := (hk5 o _ _ HLO.out HB4.out).cell 1
          simp only [List.getElem?_toArray, List.getElem?_cons_zero, List.getElem?_cons_succ] at k1c
          have hbx := HX.out.b.gr (G0.out.trans h5.gr)
          have HBK := hide (Back_ok x.B x.b.length x.bc x.b rfl gl cur w5 hbx HBL5.out HCU.out (by omega))
          have cx := conv_all w5 hbx
          clear k1b h5 hk5 HAD hbx
          go_wp2_with fail
          refine HBK.out.mono ?_
          rintro e w6 ⟨rfl, hw6⟩
          subst hw6
          have HOW := hide H5.out.own
          have HGR := hide H5.out.gr
          go_wp2_with (at_builtin; refine wpList_pushV rfl (.tmp 75) (.tmp 79) _ rfl 9 i0 _ 16 Tryd.underlying32 hi hz0 hz1 hz2 rfl (u := strV x.b) rfl rfl HOW.out HGR.out (congrArg (fun z => Value.slice (some ⟨z, 0, none⟩) 1 1) (by simp)) (by rw [strsV_len]; unfold maxLen; omega) (by rw [strsV_len]; omega) ?_; intro v7 w7 ho7 hg7 hp7; have H7 := hide (H5.out.push hxb ho7 hp7); clear ho7 hg7 hp7)
          obtain ⟨A7, c7, hv7, _⟩ := H7.out.is
          subst hv7
          go_wp2_with fail
          go_meet
          exact ⟨g, sure, ls ++ [x.b], rfl, rfl, H7⟩
      case rest =>
        obtain ⟨g', sure', ls', rfl, rfl, H8⟩ := hcut
        clear HA HBO HGO HLO HQO HX HSLE hr hr8 hq hq8 hxb hxk hlcc
        obtain ⟨A8, c8, hv8, hc8⟩ := H8.out.is
        subst hv8
        have hl8 := H8.out.len
        have HSM8 := hide H8.out.small
        have HCN := hide (fun k hk => cntL_le (n := nn) HSM8.out k hk)
        have HCT := hide (fun (k : Nat) (hk : k < ls'.length) => cntL_take (n := nn) hk)
        go_wp2_with fail
        go_loopw [16, 17, 18] (fun v16 v17 v18 wz => ∃ k : Nat, v18 = .int .i64 k ∧ k ≤ ls'.length ∧ v16 = .int .i64 (cntL nn (ls'.take k)).1 ∧ v17 = .int .i64 (cntL nn (ls'.take k)).2 ∧ wz = wc) (fun _ _ v18 _ => ls'.length - (intOf v18).toNat)
        case atStart => exact ⟨0, rfl, Nat.zero_le _, rfl, rfl, rfl⟩
        case round =>
          obtain ⟨k, rfl, hk, rfl, rfl, hwz⟩ := hrel
          subst hwz
          obtain ⟨hc1, hc2⟩ := HCN.out k hk
          by_cases hkl : k < ls'.length
          · have hkl' : (k : Int) < (ls'.length : Int) := by omega
            have hct := HCT.out k hkl
            obtain ⟨ad8, eA8, k8⟩ := H8.out.cell hkl
            subst eA8
            have hsz8 := HSM8.out _ (List.getElem_mem hkl)
            obtain ⟨y, hy⟩ : ∃ y, ls'[k] = y := ⟨_, rfl⟩
            rw [hy] at k8 hct hsz8
            have ey : (bs y).size = y.length := bs_size y
            unfold cntS at hct
            generalize cntL nn (ls'.take k) = pl at hct hc1 hc2 ⊢
            obtain ⟨P, L⟩ := pl
            simp only at hct hc1 hc2
            have HCTK := hide hct
            clear hct hy
            by_cases hP : P = 0
            · subst hP
              go_wp2_with fail
              go_roundw
              case rel => exact ⟨k + 1, by go_num, by omega, by rw [HCTK.out, if_pos (.inl rfl)]; simp, by rw [HCTK.out, if_pos (.inl rfl)]; simp, trivial⟩
              case measure => simp [intOf]; omega
            · have hP' : ((P : Int) == 0) = false := by rw [beq_eq_false_iff_ne]; omega
              by_cases hL : nn ≤ L
              · have hL' : (nn : Int) ≤ (L : Int) := by omega
                go_wp2_with fail
                go_roundw
                case rel => exact ⟨k + 1, by go_num, by omega, by rw [HCTK.out, if_pos (.inr hL)]; simp, by rw [HCTK.out, if_pos (.inr hL)]; simp, trivial⟩
                case measure => simp [intOf]; omega
              · have hL' : ¬ (nn : Int) ≤ (L : Int) := by omega
                go_wp2_with fail
                go_roundw
                case rel => exact ⟨k + 1, by go_num, by omega, by rw [HCTK.out, if_neg (by omega)], by rw [HCTK.out, if_neg (by omega)]; simp, trivial⟩
                case measure => simp [intOf]; omega
          · have hk2 : ls'.length = k := by omega
            subst hk2
            rw [List.take_length] at *
            obtain ⟨p, q, hp, hq, hp1, hq1, HPC, HLS⟩ := H8.out.count (by omega)
            have HPC := hide HPC
            have HLS := hide HLS
            generalize (cntL nn ls').1 = P at *
            have hp' : ¬ (p : Int) < (P : Int) := by omega
            have hq' : ¬ (q : Int) < (P : Int) := by omega
            by_cases hP0 : P = 0
            · subst hP0
              have hp0 : ¬ (p : Int) < 0 := by omega
              go_wp2_with fail
              refine HPC.out.mono ?_
              rintro e w9 ⟨rfl, hw9⟩
              subst hw9
              go_wp2_with fail
              go_roundw
              case rel => exact ⟨j + 1, g', sure', ls', rfl, rfl, by go_num, by omega, H8⟩
              case measure => simp [intOf]; omega
            · have hP1 : (0 : Int) < (P : Int) := by omega
              go_wp2_with fail
              refine HPC.out.mono ?_
              rintro e w9 ⟨rfl, hw9⟩
              subst hw9
              unfold ptr at HLS
              go_wp2_with fail
              refine HLS.out.mono ?_
              rintro e w10 ⟨A10, c10, rfl, hg10⟩
              have H10 := hide (H8.out.gr_ hg10)
              clear hg10 HLS HPC
              go_wp2_with fail
              go_roundw
              case rel => exact ⟨j + 1, g', sure', ls', rfl, rfl, by go_num, by omega, H10⟩
              case measure => simp [intOf]; omega
    · go_wp2_with fail
      go_ret
      exact ⟨rfl, G0.out.trans HA.out.gr⟩

end Go.Proofs.YtkcfieoflkhdpaaDoor
