/-
  The switch of 'DiskAll': Append.
-/
import Derived.Test.YteflmockckmciaaDiskAllFr
namespace Go.Proofs.Yteflmockckmciaa
open Go Go.RowKit MapS DiskMem DiskFile DiskHit DiskFind DiskBegin DiskOps DiskApp DiskList DiskCrash DiskCopy DiskRising KeyMath
set_option maxRecDepth 100000

set_option maxHeartbeats 20000000 in
theorem sw_app {w w3 : World} {room : Int} {A : Option Addr} {n cc da0 rm j da ba bm g cn : Nat} {x : DeedT} {Sd : Nat → Prop} {F : Fs} {G : KV Int} {N : Option Addr} {was : List UInt8} {there : Bool} (h : SwAt w w3 room rm j da ba bm g cn x Sd F G N was there)
    {K : Act → World → Prop} {Q : Exit → Act → World → Prop} (hK : SwTo w room A n cc ba bm da0 rm j K) (X : Nat → Value) (s5 : X 5 = .pointer (some ⟨da, 0, none⟩)) (s8 : X 8 = .int .i64 (j : Int)) (s9 : X 9 = .pointer (some ⟨g, 0, none⟩)) (s10 : X 10 = .int .i64 (usedF F : Int))
    (s11 : X 11 = .slice N F.length cn) (s13 : X 13 = .string (bs was)) (s14 : X 14 = .bool there) (s15 : X 15 = .int .i64 0) (s16 : X 16 = .int .i64 0) {q : Int} (s94 : X 94 = .int .i64 q) (b4 : (q == 4) = false) (b5 : (q == 5) = false) (b6 : (q == 6) = false) (b7 : (q == 7) = false) (b8 : (q == 8) = false) :
    Code.wp Try.prog sw (Exit.then K Q) ⟨litF room A n cc ba bm da0 X, []⟩ w3 := by
  unfold litF
  rw [s5, s8, s9, s10, s11, s13, s14, s15, s16, s94]
  clear s5 s8 s9 s10 s11 s13 s14 s15 s16 s94
  have HK := hide hK
  have RD := hide h.rd
  have HX := hide h.deed
  have HSU := hide h.su
  have HFL := hide h.fl
  have HGL := hide h.gl
  have HUS := hide h.us
  have HRM := hide h.hrm
  have hj40 := h.j40
  have hroom2 := h.room64
  have hb60 := h.b60
  have hn20 := h.n20
  have hk10 := h.k10
  have HW := hide h.was_
  have HT := hide h.there_
  have HRIS := hide h.rd.all.d.is.ris
  have hF40 : F.length ≤ 40 := by have := h.fl; omega
  have hxs : x.name.size ≤ maxLen := by unfold maxLen; omega
  have hws := bs_size was
  have hwl : was.length ≤ 1000000 := by
    have hw := h.was_
    rw [← hw]
    cases hf : getE F x.name.data.toList with
    | none => simp [f0]
    | some f =>
      have h1 := used_get ((mem_getE HRIS.out).1 hf)
      have h2 := h.us
      simp only [Option.getD_some]
      omega
  have e0 := RD.out.bl.cell 0
  have e1 := RD.out.bl.cell 1
  have e2 := RD.out.bl.cell 2
  have e3 := RD.out.bl.cell 3
  have e4 := RD.out.bl.cell 4
  simp only [List.getElem?_toArray, List.getElem?_cons_zero, List.getElem?_cons_succ] at e0 e1 e2 e3 e4
  clear hK h
  conv => arg 2; whnf
  go_wp2_with fail
  refine (Lent_new x.B _ x.bc x.b rfl _ (HX.out.b.gr RD.out.all.gr) (by omega)).mono ?_
  rintro e w4 ⟨gl, cur, hgl, rfl, hbl, hlent, hg4⟩
  have rd4 := RD.out.to_gr hg4
  have hngl : ¬ Sd gl := fun e => by have := RD.out.all.d.hi _ e; omega
  have hbyl := hlent.by_ hbl (by omega)
  have hapd := fun (r : Int) (F' : Fs) (hF : appendF rm F x.name x.b = (r, F')) => by
    have h1 := Append_ok rd4.all.d.is (s := x.name) (by omega) _ _ _ x.b rfl hbyl (fun _ ad hA e => hngl (by injection hA with hA; rw [← hA] at e; exact e)) (by omega) (by have := HUS.out; omega)
    rw [hF] at h1
    exact h1
  have HAPD := hide hapd
  have HGL' := hide hgl
  have HBL := hide hbl
  have HLENT := hide hlent
  have RD4 := hide rd4
  have c2 := rd4.bl.cell 2
  have c3 := rd4.bl.cell 3
  simp only [List.getElem?_toArray, List.getElem?_cons_zero, List.getElem?_cons_succ] at c2 c3
  have HNGL := hide hngl
  clear hapd hgl hbl hlent rd4 hbyl hngl hg4 e0 e1 e2 e3 e4
  go_wp2_with fail
  cases hmay : mayK x.name with
  | false =>
    refine (HAPD.out _ _ (app_bad hmay)).mono ?_
    rintro e w5 hd5
    obtain ⟨rfl, u5, o5⟩ := RD4.out.all.d.does hd5 RD4.out.all.gr.size
    have rd5 := RD4.out.did u5 o5
    have hbl5 := o5.bl HBL.out HNGL.out
    have c2' := rd5.bl.cell 2
    have c3' := rd5.bl.cell 3
    simp only [List.getElem?_toArray, List.getElem?_cons_zero, List.getElem?_cons_succ] at c2' c3'
    have RD5 := hide rd5
    have HBL5 := hide hbl5
    clear hd5 u5 o5 rd5 hbl5 c2 c3
    go_wp2_with fail
    refine (may_ok x.name (by omega) _).mono ?_
    rintro e w6 ⟨rfl, hw6⟩
    subst hw6
    rw [hmay]
    clear hmay
    go_wp2_with fail
    refine (Back_ok x.B _ x.bc x.b rfl gl cur _ (HX.out.b.gr RD5.out.all.gr) HBL5.out HLENT.out (by omega)).mono ?_
    rintro e w7 ⟨rfl, hw7⟩
    subst hw7
    go_wp2_with fail
    exact HK.out _ _ da _ (fr_mk _ (by kernel_rfl)) rfl rfl rfl rfl (keeps_mk RD5.out.all HSU.out (by have := HFL.out; omega) (by have := HGL.out; omega) (by have := HUS.out; omega))
  | true =>
    have hrm := HRM.out
    have hrmb : (rm : Int) ≤ 9223372036854775807 := by omega
    have hus := HUS.out
    by_cases hfull : rm < usedF F + x.b.length
    · have dfull : decide ((rm : Int) - (usedF F : Int) < (x.b.length : Int)) = true := decide_eq_true (by omega)
      refine (HAPD.out _ _ (app_full hmay hfull)).mono ?_
      rintro e w5 hd5
      obtain ⟨rfl, u5, o5⟩ := RD4.out.all.d.does hd5 RD4.out.all.gr.size
      have rd5 := RD4.out.did u5 o5
      have hbl5 := o5.bl HBL.out HNGL.out
      have c2' := rd5.bl.cell 2
      have c3' := rd5.bl.cell 3
      simp only [List.getElem?_toArray, List.getElem?_cons_zero, List.getElem?_cons_succ] at c2' c3'
      have RD5 := hide rd5
      have HBL5 := hide hbl5
      clear hd5 u5 o5 rd5 hbl5 c2 c3
      go_wp2_with fail
      refine (may_ok x.name (by omega) _).mono ?_
      rintro e w6 ⟨rfl, hw6⟩
      subst hw6
      rw [hmay]
      clear hmay
      go_wp2_with fail
      refine (Back_ok x.B _ x.bc x.b rfl gl cur _ (HX.out.b.gr RD5.out.all.gr) HBL5.out HLENT.out (by omega)).mono ?_
      rintro e w7 ⟨rfl, hw7⟩
      subst hw7
      go_wp2_with fail
      exact HK.out _ _ da _ (fr_mk _ (by kernel_rfl)) rfl rfl rfl rfl (keeps_mk RD5.out.all HSU.out (by have := HFL.out; omega) (by have := HGL.out; omega) (by have := HUS.out; omega))
    · have dfull : decide ((rm : Int) - (usedF F : Int) < (x.b.length : Int)) = false := decide_eq_false (by omega)
      refine (HAPD.out _ _ (app_good hmay hfull)).mono ?_
      rintro e w5 hd5
      obtain ⟨rfl, u5, o5⟩ := RD4.out.all.d.does hd5 RD4.out.all.gr.size
      have rd5 := RD4.out.did u5 o5
      have hbl5 := o5.bl HBL.out HNGL.out
      have c2' := rd5.bl.cell 2
      have c3' := rd5.bl.cell 3
      simp only [List.getElem?_toArray, List.getElem?_cons_zero, List.getElem?_cons_succ] at c2' c3'
      obtain ⟨w6, hrun, m6, t6⟩ := rd5.all.a.store (e := 9) Try.underlying9 Try.underlying26 hxs (by rw [valsA_len]; unfold maxLen; omega) (.string (bs was ++ bs x.b))
      have hcv : (convert 28 9 (.slice x.B x.b.length x.bc)).run Try.prog w5 = .ok (.string (bs x.b)) w5 :=
        run_conv w5 28 9 5 Try.underlying28 Try.underlying5 Try.underlying9 _ _ rfl (HX.out.b.gr rd5.all.gr).rd
      have hbs := bs_size x.b
      have hsum : was.length + x.b.length ≤ 9223372036854775807 := by omega
      have rd6 := rd5.setA m6 t6
      have hbl6 := (turned_only t6).bl hbl5 (fun e => rd5.all.a.ne hbl5 (show gl = ba from e).symm)
      have d2' := rd6.bl.cell 2
      have d3' := rd6.bl.cell 3
      simp only [List.getElem?_toArray, List.getElem?_cons_zero, List.getElem?_cons_succ] at d2' d3'
      have RD6 := hide rd6
      have HBL6 := hide hbl6
      clear hd5 u5 o5 rd5 hbl5 c2 c3 m6 t6 rd6 hbl6
      go_wp2_with fail
      refine (may_ok x.name (by omega) _).mono ?_
      rintro e w7 ⟨rfl, hw7⟩
      subst hw7
      rw [hmay]
      clear hmay
      go_wp2_with fail
      refine (Back_ok x.B _ x.bc x.b rfl gl cur _ (HX.out.b.gr RD6.out.all.gr) HBL6.out HLENT.out (by omega)).mono ?_
      rintro e w8 ⟨rfl, hw8⟩
      subst hw8
      go_wp2_with fail
      have hr := HRIS.out
      have h6 := RD6.out.all
      have hW := HW.out
      refine HK.out _ _ da _ (fr_mk _ (by kernel_rfl)) rfl rfl rfl rfl (keeps_mk (F := putE x.name.data.toList ⟨((getE F x.name.data.toList).getD f0).b ++ x.b, ((getE F x.name.data.toList).getD f0).sure⟩ F) (by rw [← valsA_put, hW, bs_app]; rw [hW] at h6; exact h6) (sure_text HSU.out hr _ _) (len_le_put _ _ _ HFL.out) (by have := HGL.out; omega) ?_)
      have h1 := used_le_put hr x.name.data.toList ⟨((getE F x.name.data.toList).getD f0).b ++ x.b, ((getE F x.name.data.toList).getD f0).sure⟩
      simp only [List.length_append] at h1
      omega

end Go.Proofs.Yteflmockckmciaa
