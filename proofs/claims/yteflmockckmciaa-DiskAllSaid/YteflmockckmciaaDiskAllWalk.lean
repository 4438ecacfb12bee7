/-
  The walk of 'DiskAll'.
-/
import Derived.Test.YteflmockckmciaaDiskAllS1
import Derived.Test.YteflmockckmciaaDiskAllS2
import Derived.Test.YteflmockckmciaaDiskAllS3
import Derived.Test.YteflmockckmciaaDiskAllS4
import Derived.Test.YteflmockckmciaaDiskKeepsWalk
import Derived.Deep.CutBlock
namespace Go.Proofs.Yteflmockckmciaa
open Go Go.RowKit MapS DiskMem DiskFile DiskHit DiskFind DiskBegin DiskOps DiskApp DiskList DiskCrash DiskCopy DiskRising KeyMath
set_option maxRecDepth 100000

theorem sw_ok {w w3 : World} {room : Int} {A : Option Addr} {n cc da0 rm j da ba bm g cn : Nat} {x : DeedT} {Sd : Nat → Prop} {F : Fs} {G : KV Int} {N : Option Addr} {was : List UInt8} {there : Bool} {q : Int} (h : SwAt w w3 room rm j da ba bm g cn x Sd F G N was there)
    {K : Act → World → Prop} {Q : Exit → Act → World → Prop} (hK : SwTo w room A n cc ba bm da0 rm j K) {a : Act} (hfr : Fr room A n cc ba bm da0 a) (s5 : a.tmps.getD 5 undef = .pointer (some ⟨da, 0, none⟩)) (s8 : a.tmps.getD 8 undef = .int .i64 (j : Int)) (s9 : a.tmps.getD 9 undef = .pointer (some ⟨g, 0, none⟩)) (s10 : a.tmps.getD 10 undef = .int .i64 (usedF F : Int))
    (s11 : a.tmps.getD 11 undef = .slice N F.length cn) (s13 : a.tmps.getD 13 undef = .string (bs was)) (s14 : a.tmps.getD 14 undef = .bool there) (s15 : a.tmps.getD 15 undef = .int .i64 0) (s16 : a.tmps.getD 16 undef = .int .i64 0) (s94 : a.tmps.getD 94 undef = .int .i64 q) :
    Code.wp Try.prog sw (Exit.then K Q) a w3 := by
  obtain ⟨X, rfl⟩ := hfr
  by_cases q4 : q = 4
  · subst q4; exact sw_sync h hK X s5 s8 s9 s10 s11 s13 s14 s15 s16 s94
  by_cases q5 : q = 5
  · subst q5; exact sw_cut h hK X s5 s8 s9 s10 s11 s13 s14 s15 s16 s94
  by_cases q6 : q = 6
  · subst q6; exact sw_rem h hK X s5 s8 s9 s10 s11 s13 s14 s15 s16 s94
  by_cases q7 : q = 7
  · subst q7; exact sw_crash h hK X s5 s8 s9 s10 s11 s13 s14 s15 s16 s94
  by_cases q8 : q = 8
  · subst q8; exact sw_copy h hK X s5 s8 s9 s10 s11 s13 s14 s15 s16 s94
  exact sw_app h hK X s5 s8 s9 s10 s11 s13 s14 s15 s16 s94 (by simp [q4]) (by simp [q5]) (by simp [q6]) (by simp [q7]) (by simp [q8])

set_option maxHeartbeats 40000000 in
theorem walk_DiskAll (w : World) (room : Int) (hroom : (Lit.int .i64 room).wf = true) (v : Value) (ds : List DeedT) (hv : RowAt 5 w v (ds.map deedC)) (hok : ∀ x ∈ ds, DeedOk w x) (hlen : ds.length ≤ 140737488355328) :
    Calls Try.prog 3 #[.int .i64 room, v] w fun e w' => e = .returned (.bool true) ∧ Gr w w' := by
  obtain ⟨A, c, rfl, hr⟩ := hv.is_
  have HR := hide hr
  have HOK := hide hok
  clear hr hv hok
  by_cases hbig : (40 : Int) < (ds.length : Int)
  · have d1 : decide ((40 : Int) < (ds.length : Int)) = true := decide_eq_true hbig
    go_enter Try.func3, Try.ntmps3
    go_wp2_with fail
    refine (begun_ok _).mono ?_
    rintro e w1 ⟨rfl, hg1⟩
    have G := hide hg1
    clear hg1
    go_wp2_with fail
    go_ret
    exact ⟨rfl, G.out⟩
  · have d1 : decide ((40 : Int) < (ds.length : Int)) = false := decide_eq_false hbig
    go_enter Try.func3, Try.ntmps3
    go_wp2_with fail
    refine (begun_ok _).mono ?_
    rintro e w1 ⟨rfl, hg1⟩
    have G1 := hide hg1
    clear hg1
    have hmm := @run_makeMap Try.prog
    go_wp2_with fail
    refine (new_ok room _).mono ?_
    rintro e w2 ⟨rfl, hg2, hb2, hs2⟩
    have hroom2 : -9223372036854775808 ≤ room ∧ room ≤ 9223372036854775807 := by simpa [Lit.wf, IntKind.min, IntKind.max, IntKind.signed, IntKind.bits] using hroom
    obtain ⟨rm, hrm⟩ : ∃ rm : Nat, max room 0 = rm := ⟨(max room 0).toNat, by omega⟩
    rw [hrm] at hb2
    have u2 := use_new (room := rm) (by omega) hb2 hs2
    have hstart : Keeps w w1.heap.size w2.heap.size (w2.heap.size + 1) rm 0 ((w2.alloc (.map #[] 0)).alloc (.map #[] 0)) := by
      have g1 := G1.out.size
      have gg : Gr w2 ((w2.alloc (.map #[] 0)).alloc (.map #[] 0)) := ((Gr.refl w2).alloc _).alloc _
      have hm2 := MapAt.made (P := Try.prog) (k := 9) (w2.alloc (.map #[] 0))
      rw [World.size_alloc] at hm2
      refine ⟨onB w1.heap.size, [], [], ⟨(G1.out.trans hg2).trans gg, (u2.gr gg).lower g1, (MapAt.made w2).gr ((Gr.refl _).alloc _), hm2, by omega, fun e => ?_, fun e => ?_, by omega, by omega⟩, sure_start, Nat.le_refl _, Nat.zero_le _, Nat.zero_le _⟩
      · have e2 : w2.heap.size = w1.heap.size := e
        omega
      · have e2 : w2.heap.size + 1 = w1.heap.size := e
        omega
    have HS := hide hstart
    have HRM := hide hrm
    unfold ptr
    clear hg2 hb2 hs2 u2 hstart hrm
    go_wp2_with fail
    generalize w1.heap.size = da0 at *
    generalize hbm : w2.heap.size + 1 = bm at *
    generalize w2.heap.size = ba at *
    clear hbm G1
    go_loopw [5, 8] (fun d i wr => ∃ j da : Nat, d = .pointer (some ⟨da, 0, none⟩) ∧ i = .int .i64 j ∧ j ≤ ds.length ∧ Hid (Keeps w da ba bm rm j wr)) (fun _ i _ => ds.length - (intOf i).toNat)
    case atStart => exact ⟨0, da0, rfl, rfl, by omega, HS⟩
    case round =>
      obtain ⟨j, da, rfl, rfl, hj, hkp⟩ := hrel
      by_cases hlt : j < ds.length
      · have hlt2 : (j : Int) < (ds.length : Int) := by omega
        obtain ⟨Sd, F, G, hall, hsu, hFl, hGl, hus⟩ := hkp.out
        obtain ⟨ad, c', e1, a0, a1, a2, a3, a4⟩ := (HR.out.gr hall.gr).deed hlt
        injection e1 with e1 _ e2
        subst e1
        subst e2
        have hx := HOK.out ds[j] (List.getElem_mem hlt)
        generalize ds[j] = x at a0 a1 a2 a3 a4 hx
        have HX := hide hx
        have HALL := hide hall
        have HSU := hide hsu
        have HFL := hide hFl
        have HGL := hide hGl
        have HUS := hide hus
        have hxb := hx.b.le
        have hxk := hx.keep.le
        have hxbm := hx.b.max
        have hxkm := hx.keep.max
        unfold maxLen at hxbm hxkm
        have hxn := hx.name
        clear hall hsu hFl hGl hus hx hkp
        by_cases hb60 : (60 : Int) < (x.b.length : Int)
        · have d2 : decide ((60 : Int) < (x.b.length : Int)) = true := decide_eq_true hb60
          go_wp2_with fail
          go_ret
          exact ⟨rfl, HALL.out.gr.trans ((Gr.refl _).alloc _)⟩
        have d2 : decide ((60 : Int) < (x.b.length : Int)) = false := decide_eq_false hb60
        by_cases hn20 : (20 : Int) < (x.name.size : Int)
        · have d3 : decide ((20 : Int) < (x.name.size : Int)) = true := decide_eq_true hn20
          go_wp2_with fail
          go_ret
          exact ⟨rfl, HALL.out.gr.trans ((Gr.refl _).alloc _)⟩
        have d3 : decide ((20 : Int) < (x.name.size : Int)) = false := decide_eq_false hn20
        by_cases hk10 : (10 : Int) < (x.keep.length : Int)
        · have d4 : decide ((10 : Int) < (x.keep.length : Int)) = true := decide_eq_true hk10
          go_wp2_with fail
          go_ret
          exact ⟨rfl, HALL.out.gr.trans ((Gr.refl _).alloc _)⟩
        have d4 : decide ((10 : Int) < (x.keep.length : Int)) = false := decide_eq_false hk10
        go_wp2_with fail
        have hF40 : F.length ≤ 40 := by have := HFL.out; omega
        refine (rising_ok _ ba (valsB F) (by rw [valsA_B]; exact (HALL.out.to_gr ((Gr.refl _).alloc _)).a) (by rw [valsB_len]; omega)).mono ?_
        rintro e w3 ⟨v3, rfl, hown3, hg3⟩
        rw [keyV_B] at hown3
        obtain ⟨N, cn, hv3, hnc, _⟩ := hown3.is
        subst hv3
        have hrd : RdAt w w3 da ba bm Sd rm F (valsA F) (valsG G) wr.heap.size #[.int .i64 x.kind, .int .i64 x.n, .string x.name, .slice x.B x.b.length x.bc, .slice x.K x.keep.length x.kc] N cn (nameV F) := by
          have ha := HALL.out
          refine ⟨(ha.to_gr ((Gr.refl _).alloc _)).to_gr hg3, (Bl.new wr _ _).gr hg3, fun e => Nat.lt_irrefl _ (ha.d.hi _ e), ha.gr.size, Mine.vs_own hown3, fun hl ad hA => ?_⟩
          subst hA
          have hb := (World.ownsRow.lt hown3 ad.block rfl).1
          simp only [World.size_alloc] at hb
          have h1 := ha.a.lt
          have h2 := ha.s.lt
          exact ⟨fun e => by have := ha.d.hi _ e; omega, by omega, by omega⟩
        rw [nameV_len]
        have RD := hide hrd
        clear hrd hg3 hown3 a0 a1 a2 a3 a4 HALL hmm
        generalize wr.heap.size = g at RD ⊢
        go_wp2_with fail
        have HRIS := hide RD.out.all.d.is.ris
        go_loop [10, 12] (fun u i => ∃ k : Nat, u = .int .i64 (usedF (F.take k)) ∧ i = .int .i64 k ∧ k ≤ F.length) (fun _ i => F.length - (intOf i).toNat)
        case atStart => exact ⟨0, by simp [usedF], rfl, by omega⟩
        case round =>
          obtain ⟨k, rfl, rfl, hk⟩ := hrel
          by_cases hkl : k < F.length
          · have hkl2 : (k : Int) < (F.length : Int) := by omega
            obtain ⟨ad2, hN, hcl⟩ := RD.out.nm.rd k (by rw [nameV_len]; exact hkl)
            rw [nameV_get] at hcl
            subst hN
            have hlk := RD.out.all.look_at (bs F[k].1) (name_small RD.out.all hkl)
            rw [bs_list, name_get HRIS.out hkl] at hlk
            have hut := used_take hkl
            have hul := used_take_le F (k + 1)
            have hul2 := HUS.out
            have hbl := bs_size F[k].2.b
            go_wp2_with fail
            go_round
            case rel => exact ⟨k + 1, by rw [hut]; go_num, by go_num, by omega⟩
            case measure => simp [intOf]; omega
          · obtain rfl : k = F.length := by omega
            have hlo := RD.out.all.look_ok x.name (by unfold maxLen; omega)
            have e0 := RD.out.bl.cell 0
            have e2 := RD.out.bl.cell 2
            simp only [List.getElem?_toArray, List.getElem?_cons_zero, List.getElem?_cons_succ] at e0 e2
            rw [List.take_length]
            go_upto_block 4 with (fail)
            generalize (wrap64 (x.kind.tmod 9 + 9)).tmod 9 = q
            refine sw_ok (A := some ad) (n := ds.length) (cc := c) (da0 := da0) (q := q) ⟨HX.out, RD.out, HSU.out, HFL.out, HGL.out, HUS.out, by omega, HRM.out, hroom2, by omega, by omega, by omega, rfl, rfl⟩ ?_ (fr_mk _ (by kernel_rfl)) rfl rfl rfl rfl rfl rfl rfl rfl rfl rfl
            intro a' w' da' e hfr h8 h5 h15 h16 hk
            obtain ⟨X, rfl⟩ := hfr
            replace h8 : X 8 = _ := h8
            replace h5 : X 5 = _ := h5
            replace h15 : X 15 = _ := h15
            replace h16 : X 16 = _ := h16
            have HKP := hide hk
            unfold litF
            rw [h5, h8, h15, h16]
            clear h5 h8 h15 h16 hk hlo e0 e2
            go_wp2_with fail
            go_roundw
            case rel => exact ⟨j + 1, da', rfl, by go_num, hlt, HKP⟩
            case measure => simp [intOf]; omega
      · obtain rfl : j = ds.length := by omega
        obtain ⟨Sd, F, G, hall, hsu, hFl, hGl, hus⟩ := hkp.out
        have HALL := hide hall
        have HUS := hide hus
        have hF40 : F.length ≤ 40 := by omega
        clear hall hsu hGl hus hkp
        go_wp2_with fail
        refine (rising_ok _ ba (valsB F) (by rw [valsA_B]; exact HALL.out.a) (by rw [valsB_len]; omega)).mono ?_
        rintro e w3 ⟨v3, rfl, hown3, hg3⟩
        rw [keyV_B] at hown3
        obtain ⟨N, cn, hv3, hnc, _⟩ := hown3.is
        subst hv3
        rw [nameV_len] at hnc ⊢
        have HN := hide (Mine.vs_own hown3)
        have HALL3 := hide (HALL.out.to_gr hg3)
        clear hown3 hg3
        go_wp2_with fail
        refine (List_ok HALL3.out.d.is (by omega)).mono ?_
        rintro e w4 ⟨v4, rfl, hg4, hown4⟩
        obtain ⟨M, cm, hv4, hmc, _⟩ := hown4.is
        subst hv4
        rw [nameV_len] at hmc ⊢
        have HM := hide (Mine.vs_own hown4)
        have HN4 := hide (HN.out.gr hg4)
        have HALL4 := hide (HALL3.out.to_gr hg4)
        have HRIS := hide HALL.out.d.is.ris
        clear hown4 hg4 HN HALL3
        go_wp2_with fail
        go_loopw [23, 24] (fun u i wr => ∃ k : Nat, u = .int .i64 (usedF (F.take k)) ∧ i = .int .i64 k ∧ k ≤ F.length ∧ Hid (Gr w4 wr)) (fun _ i _ => F.length - (intOf i).toNat)
        case atStart => exact ⟨0, by simp [usedF], rfl, by omega, hide (Gr.refl _)⟩
        case round =>
          obtain ⟨k, rfl, rfl, hk, hgr⟩ := hrel
          by_cases hkl : k < F.length
          · have hkl2 : (k : Int) < (F.length : Int) := by omega
            obtain ⟨ad2, hN, hcl⟩ := (HN4.out.gr hgr.out).rd k (by rw [nameV_len]; exact hkl)
            rw [nameV_get] at hcl
            subst hN
            have hnm := name_small HALL4.out hkl
            go_wp2_with fail
            refine (Read_ok (HALL4.out.to_gr hgr.out).d.is hnm).mono ?_
            rintro e w5 ⟨hg5, hrv⟩
            have hgf : getE F F[k].1 = some F[k].2 := (mem_getE HRIS.out).2 (List.getElem_mem hkl)
            rw [bs_list, hgf] at hrv
            obtain ⟨v5, rfl, ho5⟩ := hrv
            obtain ⟨A5, c5, rfl, hby5⟩ := ho5.by_
            have hg45 := hgr.out.trans hg5
            have HG5 := hide hg45
            obtain ⟨ad3, hM, hcm⟩ := (HM.out.gr hg45).rd k (by rw [nameV_len]; exact hkl)
            rw [nameV_get] at hcm
            subst hM
            have hcl5 := gr_cell hg5 _ _ hcl
            have hlk := fun q => ((HALL4.out.to_gr hg45).to_gr ((Gr.refl w5).drewN q)).look_at (bs F[k].1) hnm
            rw [bs_list, name_get HRIS.out hkl] at hlk
            have hcx : ∀ q, (convert 28 9 (.slice A5 F[k].2.b.length c5)).run Try.prog (w5.drewN q) = .ok (.string (bs F[k].2.b)) (w5.drewN q) := fun q => run_conv (w5.drewN q) _ _ _ Try.underlying28 Try.underlying5 Try.underlying9 _ _ rfl (hby5.rd.drewN q)
            have HLK := hide hlk
            have HCX := hide hcx
            have HUT := hide (used_take hkl)
            have hul := used_take_le F (k + 1)
            rw [HUT.out] at hul
            have hul2 := HUS.out
            clear hlk hcx hcl hg5 hgf ho5 hby5 hg45 hnm
            have hk0 : (0 : Int) ≤ (k : Int) := by omega
            go_wp2_with fail
            refine wp_region_quiet_lit (by kernel_rfl) (by kernel_rfl) ?_
            repeat (go_big_quiet_step (fail))
            refine quiet_conv_if (by rfl) 28 9 (.tmp 316) rfl rfl (fun w' ⟨n, hw'⟩ => by rw [hw']; exact HCX.out _) ?_
            simp only [Act.put, List.setIfInBounds_toArray, List.set_cons_zero, List.set_cons_succ]
            repeat (go_big_quiet_step (fail))
            refine quiet_any (by rfl) (u := .string (bs F[k].2.b)) (fun w' hw' => ?_) ?_
            · obtain ⟨n, rfl⟩ := hw'
              have h1 := HLK.out n
              simp [execOp, Act.eval, h1]
            simp only [Act.put, List.setIfInBounds_toArray, List.set_cons_zero, List.set_cons_succ]
            repeat (go_big_quiet_step (fail))
            refine wpQuiet_nil ?_
            rintro _ ⟨nq, rfl⟩
            go_wp2_with fail
            go_roundw
            case rel => exact ⟨k + 1, by rw [HUT.out]; go_num, by go_num, by omega, hide (HG5.out.drewN _)⟩
            case measure => simp [intOf]; omega
          · obtain rfl : k = F.length := by omega
            rw [List.take_length]
            go_wp2_with fail
            refine (Read_ok (HALL4.out.to_gr hgr.out).d.is (s := ⟨#[110, 111, 110, 101]⟩) (by decide)).mono ?_
            rintro e w5 ⟨hg5, hrv⟩
            obtain ⟨there, hth⟩ : ∃ there, (getE F (⟨#[110, 111, 110, 101]⟩ : ByteArray).data.toList).isSome = there := ⟨_, rfl⟩
            obtain ⟨v5, rfl⟩ : ∃ v5, e = .returned (.tuple #[v5, .bool there]) := by
              rw [← hth]
              cases hf : getE F (⟨#[110, 111, 110, 101]⟩ : ByteArray).data.toList with
              | none => rw [hf] at hrv; exact ⟨_, hrv⟩
              | some f =>
                rw [hf] at hrv
                obtain ⟨v, h1, _⟩ := hrv
                exact ⟨v, h1⟩
            have HALL5 := hide ((HALL4.out.to_gr hgr.out).to_gr hg5)
            have hlo := HALL5.out.look_ok ⟨#[110, 111, 110, 101]⟩ (by decide)
            rw [hth] at hlo
            have hu60 := HUS.out
            clear hrv hth hg5
            go_wp2_with fail
            refine (Used_ok HALL5.out.d.is).mono ?_
            rintro e w6 ⟨rfl, hw6⟩
            subst hw6
            go_wp2_with fail
            go_ret
            exact ⟨rfl, HALL5.out.gr⟩

end Go.Proofs.Yteflmockckmciaa
