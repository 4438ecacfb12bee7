/-
  The switch of 'DiskAll': Sync, Remove, Copy.
-/
import Derived.Test.YteflmockckmciaaDiskAllFr
namespace Go.Proofs.Yteflmockckmciaa
open Go Go.RowKit MapS DiskMem DiskFile DiskHit DiskFind DiskBegin DiskOps DiskApp DiskList DiskCrash DiskCopy DiskRising KeyMath
set_option maxRecDepth 100000

set_option maxHeartbeats 20000000 in
theorem sw_sync {w w3 : World} {room : Int} {A : Option Addr} {n cc da0 rm j da ba bm g cn : Nat} {x : DeedT} {Sd : Nat → Prop} {F : Fs} {G : KV Int} {N : Option Addr} {was : List UInt8} {there : Bool} (h : SwAt w w3 room rm j da ba bm g cn x Sd F G N was there)
    {K : Act → World → Prop} {Q : Exit → Act → World → Prop} (hK : SwTo w room A n cc ba bm da0 rm j K) (X : Nat → Value) (s5 : X 5 = .pointer (some ⟨da, 0, none⟩)) (s8 : X 8 = .int .i64 (j : Int)) (s9 : X 9 = .pointer (some ⟨g, 0, none⟩)) (s10 : X 10 = .int .i64 (usedF F : Int))
    (s11 : X 11 = .slice N F.length cn) (s13 : X 13 = .string (bs was)) (s14 : X 14 = .bool there) (s15 : X 15 = .int .i64 0) (s16 : X 16 = .int .i64 0) (s94 : X 94 = .int .i64 4) :
    Code.wp Try.prog sw (Exit.then K Q) ⟨litF room A n cc ba bm da0 X, []⟩ w3 := by
  unfold litF
  rw [s5, s8, s9, s10, s11, s13, s14, s15, s16, s94]
  clear s5 s8 s9 s10 s11 s13 s14 s15 s16 s94
  have HK := hide hK
  have RD := hide h.rd
  have HX := hide h.deed
  have HSU := hide h.su
  have HFL := hide h.fl
  have HGL := hide h.gl
  have HUS := hide h.us
  have HRM := hide h.hrm
  have hj40 := h.j40
  have hroom2 := h.room64
  have hb60 := h.b60
  have hn20 := h.n20
  have hk10 := h.k10
  have HW := hide h.was_
  have HT := hide h.there_
  have HRIS := hide h.rd.all.d.is.ris
  have hF40 : F.length ≤ 40 := by have := h.fl; omega
  have hxs : x.name.size ≤ maxLen := by unfold maxLen; omega
  have hws := bs_size was
  have hwl : was.length ≤ 1000000 := by
    have hw := h.was_
    rw [← hw]
    cases hf : getE F x.name.data.toList with
    | none => simp [f0]
    | some f =>
      have h1 := used_get ((mem_getE HRIS.out).1 hf)
      have h2 := h.us
      simp only [Option.getD_some]
      omega
  have e0 := RD.out.bl.cell 0
  have e1 := RD.out.bl.cell 1
  have e2 := RD.out.bl.cell 2
  have e3 := RD.out.bl.cell 3
  have e4 := RD.out.bl.cell 4
  simp only [List.getElem?_toArray, List.getElem?_cons_zero, List.getElem?_cons_succ] at e0 e1 e2 e3 e4
  clear hK h
  conv => arg 2; whnf
  cases there with
  | false =>
    have hno := isSome_no HT.out
    go_wp2_with fail
    refine (use_sync RD.out.all.d RD.out.all.gr.size x.name hxs (sync_no hno)).mono ?_
    rintro e w4 ⟨rfl, u4, o4⟩
    have RD4 := hide (RD.out.did u4 o4)
    clear u4 o4 e0 e1 e2 e3 e4
    go_wp2_with fail
    exact HK.out _ _ da _ (fr_mk _ (by kernel_rfl)) rfl rfl rfl rfl (keeps_mk RD4.out.all HSU.out (by have := HFL.out; omega) (by have := HGL.out; omega) (by have := HUS.out; omega))
  | true =>
    obtain ⟨f, hf⟩ := isSome_some HT.out
    have hwf : was = f.b := by have := HW.out; rw [hf] at this; exact this.symm
    subst hwf
    go_wp2_with fail
    refine (use_sync RD.out.all.d RD.out.all.gr.size x.name hxs (sync_some hf)).mono ?_
    rintro e w4 ⟨rfl, u4, o4⟩
    have rd4 := RD.out.did u4 o4
    obtain ⟨w5, hrun, m5, t5⟩ := rd4.all.s.store (e := 3) Try.underlying9 Try.underlying27 hxs (by rw [valsG_len]; have := HGL.out; unfold maxLen; omega) (.int .i64 (f.b.length : Int))
    rw [valsG_put] at m5
    have c2 := rd4.bl.cell 2
    simp only [List.getElem?_toArray, List.getElem?_cons_zero, List.getElem?_cons_succ] at c2
    have RD5 := hide (rd4.setS m5 t5)
    have HF := hide hf
    clear u4 o4 e0 e1 e2 e3 e4 rd4 m5 t5 hf
    go_wp2_with fail
    have hr := HRIS.out
    refine HK.out _ _ da _ (fr_mk _ (by kernel_rfl)) rfl rfl rfl rfl (keeps_mk (F := putE x.name.data.toList ⟨f.b, f.b.length⟩ F) (by rw [valsA_same hr HF.out]; exact RD5.out.all) (sure_put HSU.out hr (valsG_ris RD.out.all.s.2) _ _) (len_le_put _ _ _ HFL.out) (Nat.le_trans (len_le_put _ _ _ HGL.out) (by omega)) ?_)
    have h1 := used_le_put hr x.name.data.toList ⟨f.b, f.b.length⟩
    have h2 := HUS.out
    rw [HF.out] at h1
    simp only [Option.getD_some] at h1
    omega

set_option maxHeartbeats 20000000 in
theorem sw_rem {w w3 : World} {room : Int} {A : Option Addr} {n cc da0 rm j da ba bm g cn : Nat} {x : DeedT} {Sd : Nat → Prop} {F : Fs} {G : KV Int} {N : Option Addr} {was : List UInt8} {there : Bool} (h : SwAt w w3 room rm j da ba bm g cn x Sd F G N was there)
    {K : Act → World → Prop} {Q : Exit → Act → World → Prop} (hK : SwTo w room A n cc ba bm da0 rm j K) (X : Nat → Value) (s5 : X 5 = .pointer (some ⟨da, 0, none⟩)) (s8 : X 8 = .int .i64 (j : Int)) (s9 : X 9 = .pointer (some ⟨g, 0, none⟩)) (s10 : X 10 = .int .i64 (usedF F : Int))
    (s11 : X 11 = .slice N F.length cn) (s13 : X 13 = .string (bs was)) (s14 : X 14 = .bool there) (s15 : X 15 = .int .i64 0) (s16 : X 16 = .int .i64 0) (s94 : X 94 = .int .i64 6) :
    Code.wp Try.prog sw (Exit.then K Q) ⟨litF room A n cc ba bm da0 X, []⟩ w3 := by
  unfold litF
  rw [s5, s8, s9, s10, s11, s13, s14, s15, s16, s94]
  clear s5 s8 s9 s10 s11 s13 s14 s15 s16 s94
  have HK := hide hK
  have RD := hide h.rd
  have HX := hide h.deed
  have HSU := hide h.su
  have HFL := hide h.fl
  have HGL := hide h.gl
  have HUS := hide h.us
  have HRM := hide h.hrm
  have hj40 := h.j40
  have hroom2 := h.room64
  have hb60 := h.b60
  have hn20 := h.n20
  have hk10 := h.k10
  have HW := hide h.was_
  have HT := hide h.there_
  have HRIS := hide h.rd.all.d.is.ris
  have hF40 : F.length ≤ 40 := by have := h.fl; omega
  have hxs : x.name.size ≤ maxLen := by unfold maxLen; omega
  have hws := bs_size was
  have hwl : was.length ≤ 1000000 := by
    have hw := h.was_
    rw [← hw]
    cases hf : getE F x.name.data.toList with
    | none => simp [f0]
    | some f =>
      have h1 := used_get ((mem_getE HRIS.out).1 hf)
      have h2 := h.us
      simp only [Option.getD_some]
      omega
  have e0 := RD.out.bl.cell 0
  have e1 := RD.out.bl.cell 1
  have e2 := RD.out.bl.cell 2
  have e3 := RD.out.bl.cell 3
  have e4 := RD.out.bl.cell 4
  simp only [List.getElem?_toArray, List.getElem?_cons_zero, List.getElem?_cons_succ] at e0 e1 e2 e3 e4
  clear hK h
  conv => arg 2; whnf
  have hrem : ∃ r F', removeF F x.name.data.toList = (r, F') ∧ F' = delE x.name.data.toList F ∧ r = (if there = true then 0 else 6) := by
    cases there with
    | false => exact ⟨_, _, rem_no (isSome_no HT.out), (del_none (isSome_no HT.out)).symm, rfl⟩
    | true =>
      obtain ⟨f, hf⟩ := isSome_some HT.out
      exact ⟨_, _, rem_some hf, rfl, rfl⟩
  obtain ⟨r, F', hr1, hr2, hr3⟩ := hrem
  go_wp2_with fail
  refine (use_remove RD.out.all.d RD.out.all.gr.size x.name hxs hr1).mono ?_
  rintro e w4 ⟨rfl, u4, o4⟩
  subst hr2
  have rd4 := RD.out.did u4 o4
  have c2 := rd4.bl.cell 2
  simp only [List.getElem?_toArray, List.getElem?_cons_zero, List.getElem?_cons_succ] at c2
  have RD4 := hide rd4
  clear u4 o4 e0 e1 e2 e3 e4 rd4 hr1
  cases there
  all_goals
    simp only [Bool.false_eq_true, if_false, if_true] at hr3
    subst hr3
    go_upto_region 48 with (at_delete; refine wpList_del_map rfl (.tmp 187) (.tmp 189) 26 9 rfl 9 Try.underlying9 Try.underlying26 rfl RD4.out.all.a x.name rfl hxs ?_)
    intro w5 m5 t5
    have rd5 := RD4.out.setA m5 t5
    have d2 := rd5.bl.cell 2
    simp only [List.getElem?_toArray, List.getElem?_cons_zero, List.getElem?_cons_succ] at d2
    have RD5 := hide rd5
    clear rd5 m5 t5 c2
    go_wp2_with (at_delete; refine wpList_del_map rfl (.tmp 190) (.tmp 192) 27 9 rfl 3 Try.underlying9 Try.underlying27 rfl RD5.out.all.s x.name rfl hxs ?_)
    intro w6 m6 t6
    have RD6 := hide (RD5.out.setS m6 t6)
    clear m6 t6 d2
    go_wp2_with fail
    have h6 := RD6.out.all
    rw [valsA_del, valsG_del] at h6
    exact HK.out _ _ da _ (fr_mk _ (by kernel_rfl)) rfl rfl rfl rfl (keeps_mk h6 (sure_del HSU.out HRIS.out (valsG_ris RD.out.all.s.2) _) (by have := HFL.out; have := len_del_le x.name.data.toList F; omega) (by have := HGL.out; have := len_del_le x.name.data.toList G; omega) (by have := HUS.out; have := used_le_del (F := F) x.name.data.toList; omega))

set_option maxHeartbeats 20000000 in
theorem sw_copy {w w3 : World} {room : Int} {A : Option Addr} {n cc da0 rm j da ba bm g cn : Nat} {x : DeedT} {Sd : Nat → Prop} {F : Fs} {G : KV Int} {N : Option Addr} {was : List UInt8} {there : Bool} (h : SwAt w w3 room rm j da ba bm g cn x Sd F G N was there)
    {K : Act → World → Prop} {Q : Exit → Act → World → Prop} (hK : SwTo w room A n cc ba bm da0 rm j K) (X : Nat → Value) (s5 : X 5 = .pointer (some ⟨da, 0, none⟩)) (s8 : X 8 = .int .i64 (j : Int)) (s9 : X 9 = .pointer (some ⟨g, 0, none⟩)) (s10 : X 10 = .int .i64 (usedF F : Int))
    (s11 : X 11 = .slice N F.length cn) (s13 : X 13 = .string (bs was)) (s14 : X 14 = .bool there) (s15 : X 15 = .int .i64 0) (s16 : X 16 = .int .i64 0) (s94 : X 94 = .int .i64 8) :
    Code.wp Try.prog sw (Exit.then K Q) ⟨litF room A n cc ba bm da0 X, []⟩ w3 := by
  unfold litF
  rw [s5, s8, s9, s10, s11, s13, s14, s15, s16, s94]
  clear s5 s8 s9 s10 s11 s13 s14 s15 s16 s94
  have HK := hide hK
  have RD := hide h.rd
  have HX := hide h.deed
  have HSU := hide h.su
  have HFL := hide h.fl
  have HGL := hide h.gl
  have HUS := hide h.us
  have HRM := hide h.hrm
  have hj40 := h.j40
  have hroom2 := h.room64
  have hb60 := h.b60
  have hn20 := h.n20
  have hk10 := h.k10
  have HW := hide h.was_
  have HT := hide h.there_
  have HRIS := hide h.rd.all.d.is.ris
  have hF40 : F.length ≤ 40 := by have := h.fl; omega
  have hxs : x.name.size ≤ maxLen := by unfold maxLen; omega
  have hws := bs_size was
  have hwl : was.length ≤ 1000000 := by
    have hw := h.was_
    rw [← hw]
    cases hf : getE F x.name.data.toList with
    | none => simp [f0]
    | some f =>
      have h1 := used_get ((mem_getE HRIS.out).1 hf)
      have h2 := h.us
      simp only [Option.getD_some]
      omega
  have e0 := RD.out.bl.cell 0
  have e1 := RD.out.bl.cell 1
  have e2 := RD.out.bl.cell 2
  have e3 := RD.out.bl.cell 3
  have e4 := RD.out.bl.cell 4
  simp only [List.getElem?_toArray, List.getElem?_cons_zero, List.getElem?_cons_succ] at e0 e1 e2 e3 e4
  clear hK h
  conv => arg 2; whnf
  go_wp2_with fail
  refine (Copy_ok RD.out.all.d.is (by omega) (by have := HUS.out; omega)).mono ?_
  rintro e w4 ⟨cc, rfl, hcc, hg4, hcp⟩
  have rd4 := RD.out.to_gr hg4
  have hall4 : AllAt w w4 cc ba bm (fun i => w3.heap.size ≤ i ∧ i < w4.heap.size) rm F (valsA F) (valsG G) := by
    have h1 := RD.out.all.a.lt
    have h2 := RD.out.all.s.lt
    exact ⟨rd4.all.gr, (use_copy hcp).lower RD.out.all.gr.size, rd4.all.a, rd4.all.s, rd4.all.ne, fun e => by omega, fun e => by omega, rd4.all.la, rd4.all.lm⟩
  have hdis : ∀ i, w3.heap.size ≤ i ∧ i < w4.heap.size → ¬ Sd i := fun i hi e => by have := RD.out.all.d.hi i e; omega
  have HALL4 := hide hall4
  have HDIS := hide hdis
  have RD4 := hide rd4
  clear hcp hg4 hcc hall4 hdis rd4
  unfold ptr
  go_wp2_with fail
  obtain ⟨r5, F5, hF5⟩ : ∃ r F', appendF rm F ⟨#[111, 116, 104, 101, 114]⟩ [] = (r, F') := ⟨_, _, rfl⟩
  refine (use_append RD4.out.all.d RD4.out.all.gr.size (Gr.refl w4) ⟨#[111, 116, 104, 101, 114]⟩ (by decide) none 0 0 [] rfl ⟨Rd.nil _ _, Nat.le_refl _, Nat.zero_le _, fun _ => rfl⟩ (fun ad hl _ => absurd hl (by simp)) (by omega) (by have := HUS.out; simp; omega) hF5).mono ?_
  rintro e w5 ⟨rfl, u5, o5⟩
  have rd5 := RD4.out.did u5 o5
  have hall5 := HALL4.out.beside o5 RD4.out.all.d.lo HDIS.out RD4.out.all.na RD4.out.all.nm
  have c2 := rd5.bl.cell 2
  simp only [List.getElem?_toArray, List.getElem?_cons_zero, List.getElem?_cons_succ] at c2
  have RD5 := hide rd5
  have HALL5 := hide hall5
  clear u5 o5 rd5 hall5 hF5 e0 e1 e2 e3 e4
  go_wp2_with fail
  obtain ⟨r6, F6, hF6⟩ : ∃ r F', removeF F5 x.name.data.toList = (r, F') := ⟨_, _, rfl⟩
  refine (use_remove RD5.out.all.d RD5.out.all.gr.size x.name hxs hF6).mono ?_
  rintro e w6 ⟨rfl, u6, o6⟩
  have hall6 := HALL5.out.beside o6 RD5.out.all.d.lo (fun i hi e => by
    rcases e with e | e
    · exact HDIS.out i hi e
    · omega) RD5.out.all.na RD5.out.all.nm
  have HALL6 := hide hall6
  clear u6 o6 hall6 c2 hF6
  go_wp2_with fail
  exact HK.out _ _ cc _ (fr_mk _ (by kernel_rfl)) rfl rfl rfl rfl (keeps_mk HALL6.out HSU.out (by have := HFL.out; omega) (by have := HGL.out; omega) (by have := HUS.out; omega))

end Go.Proofs.Yteflmockckmciaa
