/-
  The switch of 'DiskAll': Cut.
-/
import Derived.Test.YteflmockckmciaaDiskAllFr
namespace Go.Proofs.Yteflmockckmciaa
open Go Go.RowKit MapS DiskMem DiskFile DiskHit DiskFind DiskBegin DiskOps DiskApp DiskList DiskCrash DiskCopy DiskRising KeyMath
set_option maxRecDepth 100000

set_option maxHeartbeats 20000000 in
theorem sw_cut {w w3 : World} {room : Int} {A : Option Addr} {n cc da0 rm j da ba bm g cn : Nat} {x : DeedT} {Sd : Nat → Prop} {F : Fs} {G : KV Int} {N : Option Addr} {was : List UInt8} {there : Bool} (h : SwAt w w3 room rm j da ba bm g cn x Sd F G N was there)
    {K : Act → World → Prop} {Q : Exit → Act → World → Prop} (hK : SwTo w room A n cc ba bm da0 rm j K) (X : Nat → Value) (s5 : X 5 = .pointer (some ⟨da, 0, none⟩)) (s8 : X 8 = .int .i64 (j : Int)) (s9 : X 9 = .pointer (some ⟨g, 0, none⟩)) (s10 : X 10 = .int .i64 (usedF F : Int))
    (s11 : X 11 = .slice N F.length cn) (s13 : X 13 = .string (bs was)) (s14 : X 14 = .bool there) (s15 : X 15 = .int .i64 0) (s16 : X 16 = .int .i64 0) (s94 : X 94 = .int .i64 5) :
    Code.wp Try.prog sw (Exit.then K Q) ⟨litF room A n cc ba bm da0 X, []⟩ w3 := by
  unfold litF
  rw [s5, s8, s9, s10, s11, s13, s14, s15, s16, s94]
  clear s5 s8 s9 s10 s11 s13 s14 s15 s16 s94
  have HK := hide hK
  have RD := hide h.rd
  have HX := hide h.deed
  have HSU := hide h.su
  have HFL := hide h.fl
  have HGL := hide h.gl
  have HUS := hide h.us
  have HRM := hide h.hrm
  have hj40 := h.j40
  have hroom2 := h.room64
  have hb60 := h.b60
  have hn20 := h.n20
  have hk10 := h.k10
  have HW := hide h.was_
  have HT := hide h.there_
  have HRIS := hide h.rd.all.d.is.ris
  have hF40 : F.length ≤ 40 := by have := h.fl; omega
  have hxs : x.name.size ≤ maxLen := by unfold maxLen; omega
  have hws := bs_size was
  have hwl : was.length ≤ 1000000 := by
    have hw := h.was_
    rw [← hw]
    cases hf : getE F x.name.data.toList with
    | none => simp [f0]
    | some f =>
      have h1 := used_get ((mem_getE HRIS.out).1 hf)
      have h2 := h.us
      simp only [Option.getD_some]
      omega
  have e0 := RD.out.bl.cell 0
  have e1 := RD.out.bl.cell 1
  have e2 := RD.out.bl.cell 2
  have e3 := RD.out.bl.cell 3
  have e4 := RD.out.bl.cell 4
  simp only [List.getElem?_toArray, List.getElem?_cons_zero, List.getElem?_cons_succ] at e0 e1 e2 e3 e4
  clear hK h
  conv => arg 2; whnf
  have hxnn := HX.out.n
  cases there with
  | false =>
    have hno := isSome_no HT.out
    go_wp2_with fail
    refine (use_cut RD.out.all.d RD.out.all.gr.size x.name hxs x.n hxnn (cut_no hno x.n)).mono ?_
    rintro e w4 ⟨rfl, u4, o4⟩
    have rd4 := RD.out.did u4 o4
    have c1 := rd4.bl.cell 1
    have c2 := rd4.bl.cell 2
    simp only [List.getElem?_toArray, List.getElem?_cons_zero, List.getElem?_cons_succ] at c1 c2
    have RD4 := hide rd4
    clear u4 o4 e0 e1 e2 e3 e4 rd4
    go_wp2_with fail
    exact HK.out _ _ da _ (fr_mk _ (by kernel_rfl)) rfl rfl rfl rfl (keeps_mk RD4.out.all HSU.out (by have := HFL.out; omega) (by have := HGL.out; omega) (by have := HUS.out; omega))
  | true =>
    obtain ⟨f, hf⟩ := isSome_some HT.out
    have hwf : was = f.b := by have := HW.out; rw [hf] at this; exact this.symm
    subst hwf
    have HF := hide hf
    clear hf
    by_cases hneg : x.n < 0
    · have dneg : decide (x.n < 0) = true := decide_eq_true hneg
      go_wp2_with fail
      refine (use_cut RD.out.all.d RD.out.all.gr.size x.name hxs x.n hxnn (cut_bad HF.out (.inl hneg))).mono ?_
      rintro e w4 ⟨rfl, u4, o4⟩
      have rd4 := RD.out.did u4 o4
      have c1 := rd4.bl.cell 1
      have c2 := rd4.bl.cell 2
      simp only [List.getElem?_toArray, List.getElem?_cons_zero, List.getElem?_cons_succ] at c1 c2
      have RD4 := hide rd4
      clear u4 o4 e0 e1 e2 e3 e4 rd4
      go_wp2_with fail
      exact HK.out _ _ da _ (fr_mk _ (by kernel_rfl)) rfl rfl rfl rfl (keeps_mk RD4.out.all HSU.out (by have := HFL.out; omega) (by have := HGL.out; omega) (by have := HUS.out; omega))
    · have dneg : decide (x.n < 0) = false := decide_eq_false hneg
      by_cases hbig2 : (f.b.length : Int) < x.n
      · have dbig : decide ((f.b.length : Int) < x.n) = true := decide_eq_true hbig2
        go_wp2_with fail
        refine (use_cut RD.out.all.d RD.out.all.gr.size x.name hxs x.n hxnn (cut_bad HF.out (.inr hbig2))).mono ?_
        rintro e w4 ⟨rfl, u4, o4⟩
        have rd4 := RD.out.did u4 o4
        have c1 := rd4.bl.cell 1
        have c2 := rd4.bl.cell 2
        simp only [List.getElem?_toArray, List.getElem?_cons_zero, List.getElem?_cons_succ] at c1 c2
        have RD4 := hide rd4
        clear u4 o4 e0 e1 e2 e3 e4 rd4
        go_wp2_with fail
        exact HK.out _ _ da _ (fr_mk _ (by kernel_rfl)) rfl rfl rfl rfl (keeps_mk RD4.out.all HSU.out (by have := HFL.out; omega) (by have := HGL.out; omega) (by have := HUS.out; omega))
      · have dbig : decide ((f.b.length : Int) < x.n) = false := decide_eq_false hbig2
        go_wp2_with fail
        refine (use_cut RD.out.all.d RD.out.all.gr.size x.name hxs x.n hxnn (cut_good HF.out (by omega))).mono ?_
        rintro e w4 ⟨rfl, u4, o4⟩
        have rd4 := RD.out.did u4 o4
        have c1 := rd4.bl.cell 1
        have c2 := rd4.bl.cell 2
        simp only [List.getElem?_toArray, List.getElem?_cons_zero, List.getElem?_cons_succ] at c1 c2
        have RD4 := hide rd4
        clear u4 o4 e0 e1 e2 e3 e4 rd4
        go_wp2_with fail
        obtain ⟨k, hk⟩ : ∃ k : Nat, x.n = (k : Int) := ⟨x.n.toNat, by omega⟩
        have hkl : k ≤ f.b.length := by omega
        have rd0 := RD4.out.to_gr ((Gr.refl w4).drew)
        obtain ⟨v0, st, w1', hen, _, _, hsame, hst⟩ := rd0.all.a.entry (z := .string ⟨#[]⟩) Try.underlying9 Try.underlying26 zero_str hxs (by rw [valsA_len]; unfold maxLen; omega)
        have hw1 := hsame (by rw [there_eq, HF.out]; rfl)
        subst hw1
        obtain ⟨w5, hes, m5, t5⟩ := hst (.string (bs (f.b.take k)))
        have rd5 := rd0.setA m5 t5
        obtain ⟨w6, hms, m6, t6⟩ := rd5.all.s.store (e := 3) Try.underlying9 Try.underlying27 hxs (by rw [valsG_len]; have := HGL.out; unfold maxLen; omega) (.int .i64 x.n)
        have rd6 := rd5.setS m6 t6
        have hcells : ∀ m, Bl (at3 w4.drew w5 w6 m) g 31 #[.int .i64 x.kind, .int .i64 x.n, .string x.name, .slice x.B x.b.length x.bc, .slice x.K x.keep.length x.kc] := at3_all (p := fun w => Bl w g 31 #[.int .i64 x.kind, .int .i64 x.n, .string x.name, .slice x.B x.b.length x.bc, .slice x.K x.keep.length x.kc]) rd0.bl rd5.bl rd6.bl
        have HC1 : Hid (∀ m, (at3 w4.drew w5 w6 m).cell? ⟨g, 1, none⟩ = some (.int .i64 x.n)) := hide fun m => by rw [(hcells m).cell 1]; rfl
        have HC2 : Hid (∀ m, (at3 w4.drew w5 w6 m).cell? ⟨g, 2, none⟩ = some (.string x.name)) := hide fun m => by rw [(hcells m).cell 2]; rfl
        have HCUT : Hid (∀ w, (Instr.sliceAt 9 (.string (bs f.b)) none (some (.int .i64 x.n)) none).run Try.prog w = .ok (.string (bs (f.b.take k))) w) := hide fun w => by rw [hk]; exact run_cut_bs w Try.underlying9 f.b k hkl
        have HEN := hide hen
        have HES := hide hes
        have HMS := hide hms
        have RD6 := hide rd6
        clear hen hes hms rd6 hcells rd5 rd0 m5 t5 m6 t6 hst hsame
        refine Det.wp_region_det [14, 15] (fun m w' => w' = at3 w4.drew w5 w6 m) (by kernel_rfl) (by kernel_rfl) (by kernel_rfl) rfl ?_
        refine Det.pure rfl rfl (.map (some ba)) (fun _ => rfl) ?_
        simp only [Act.put, List.setIfInBounds_toArray, List.set_cons_zero, List.set_cons_succ]
        refine Det.pure rfl rfl (.pointer (some ⟨g, 2, none⟩)) (fun _ => rfl) ?_
        simp only [Act.put, List.setIfInBounds_toArray, List.set_cons_zero, List.set_cons_succ]
        refine Det.load (u := .string x.name) rfl rfl rfl 0 2 (by kernel_rfl) agg_str rfl (fun m' _ hm w hw => by rw [hw]; exact HC2.out m') ?_
        simp only [Act.put, List.setIfInBounds_toArray, List.set_cons_zero, List.set_cons_succ]
        refine Det.pure rfl rfl (.map (some bm)) (fun _ => rfl) ?_
        simp only [Act.put, List.setIfInBounds_toArray, List.set_cons_zero, List.set_cons_succ]
        refine Det.pure rfl rfl (.pointer (some ⟨g, 2, none⟩)) (fun _ => rfl) ?_
        simp only [Act.put, List.setIfInBounds_toArray, List.set_cons_zero, List.set_cons_succ]
        refine Det.load (u := .string x.name) rfl rfl rfl 0 2 (by kernel_rfl) agg_str rfl (fun m' _ hm w hw => by rw [hw]; exact HC2.out m') ?_
        simp only [Act.put, List.setIfInBounds_toArray, List.set_cons_zero, List.set_cons_succ]
        refine Det.pure rfl rfl (.string (bs f.b)) (fun _ => rfl) ?_
        simp only [Act.put, List.setIfInBounds_toArray, List.set_cons_zero, List.set_cons_succ]
        refine Det.pure rfl rfl (.pointer (some ⟨g, 1, none⟩)) (fun _ => rfl) ?_
        simp only [Act.put, List.setIfInBounds_toArray, List.set_cons_zero, List.set_cons_succ]
        refine Det.load (u := .int .i64 x.n) rfl rfl rfl 0 2 (by kernel_rfl) agg_int rfl (fun m' _ hm w hw => by rw [hw]; exact HC1.out m') ?_
        simp only [Act.put, List.setIfInBounds_toArray, List.set_cons_zero, List.set_cons_succ]
        refine Det.pure rfl rfl (.string (bs (f.b.take k))) (fun w => ?_) ?_
        · have h1 := HCUT.out w
          simp [execOp, Act.eval, h1]
        simp only [Act.put, List.setIfInBounds_toArray, List.set_cons_zero, List.set_cons_succ]
        refine Det.pure rfl rfl (.pointer (some ⟨g, 1, none⟩)) (fun _ => rfl) ?_
        simp only [Act.put, List.setIfInBounds_toArray, List.set_cons_zero, List.set_cons_succ]
        refine Det.load (u := .int .i64 x.n) rfl rfl rfl 0 2 (by kernel_rfl) agg_int rfl (fun m' _ hm w hw => by rw [hw]; exact HC1.out m') ?_
        simp only [Act.put, List.setIfInBounds_toArray, List.set_cons_zero, List.set_cons_succ]
        refine Det.entry_there (x := .tmp 151) (y := .tmp 153) (u := .tuple #[v0, st]) rfl rfl rfl 0 0 (by kernel_rfl) rfl rfl (fun m' _ hm w hw => by
          have h0 : m' = 0 := by omega
          subst h0
          rw [hw]
          exact HEN.out) ?_
        simp only [Act.put, List.setIfInBounds_toArray, List.set_cons_zero, List.set_cons_succ]
        refine Det.pure rfl rfl (st) (fun _ => rfl) ?_
        simp only [Act.put, List.setIfInBounds_toArray, List.set_cons_zero, List.set_cons_succ]
        refine Det.entry_store (x := .tmp 151) (y := .tmp 164) (z := .tmp 160) rfl rfl rfl rfl rfl rfl (fun w hw => ⟨w5, by rw [hw]; exact HES.out, rfl⟩) ?_
        simp only [Act.put]
        refine Det.map_store (x := .tmp 154) (y := .tmp 156) (z := .tmp 162) rfl rfl rfl rfl rfl rfl (fun w hw => ⟨w6, by rw [hw]; exact HMS.out, rfl⟩) ?_
        simp only [Act.put]
        refine Det.nil ?_
        intro w' hw'
        obtain rfl : w' = w6 := hw'
        go_wp2_with fail
        have hr := HRIS.out
        have h6 := RD6.out.all
        have hfull : f.b.take k = (⟨f.b.take x.n.toNat, x.n.toNat⟩ : FileT).b := by rw [hk]; rfl
        rw [hfull, valsA_put, valsG_put] at h6
        have hs := sure_put HSU.out hr (valsG_ris RD.out.all.s.2) x.name.data.toList ⟨f.b.take x.n.toNat, x.n.toNat⟩
        have e1 : (((⟨f.b.take x.n.toNat, x.n.toNat⟩ : FileT).sure : Nat) : Int) = x.n := by show ((x.n.toNat : Nat) : Int) = x.n; omega
        rw [e1] at hs
        refine HK.out _ _ da _ (fr_mk _ (by kernel_rfl)) rfl rfl rfl rfl (keeps_mk h6 hs (len_le_put _ _ _ HFL.out) (Nat.le_trans (len_le_put _ _ _ HGL.out) (by omega)) ?_)
        have h1 := used_le_put hr x.name.data.toList ⟨f.b.take x.n.toNat, x.n.toNat⟩
        have h2 := HUS.out
        rw [HF.out] at h1
        simp only [Option.getD_some, List.length_take] at h1
        omega

end Go.Proofs.Yteflmockckmciaa
