/-
  store's Span by its contract.
-/
import Derived.Test.YtbfbghfaeejicaaStGet
namespace Go.Proofs.Ytbfbghfaeejicaa
open Go Go.RowKit ChMath KeyMath StMath TxnMath
set_option maxRecDepth 100000

set_option maxHeartbeats 2000000 in
theorem Span_ok (s : StT) (f t : ByteArray) (pos : Int) (u : Value) (w : World) (hv : ChnsX w u s.chains) (hl : CsLen s.chains) :
    Calls Try.prog 18 #[.agg #[u, .int .i64 s.mark], .string f, .string t, .int .i64 pos] w (SpanPost (spanS s f t pos) w) := by
  obtain ⟨cs, m⟩ := s
  simp only at hv hl ⊢
  have HV := hide hv
  have hcl := hl.1
  have HL := hide hl
  obtain ⟨A, c, rfl⟩ := hv.is
  clear hv hl
  obtain ⟨r, hr⟩ : ∃ r, spanS ⟨cs, m⟩ f t pos = r := ⟨_, rfl⟩
  rw [hr]
  have HR := hide hr
  clear hr
  go_enter Try.func18, Try.ntmps18
  go_upto_region 1 with (fail)
  obtain ⟨W1, hW1⟩ : ∃ W1, w.alloc (.cells #[.slice A cs.length c, .int .i64 m] 26) = W1 := ⟨_, rfl⟩
  have hg1 : Gr w W1 := by rw [← hW1]; exact (Gr.refl _).alloc _
  have hb1 : Bl W1 w.heap.size 26 #[.slice A cs.length c, .int .i64 m] := by rw [← hW1]; exact Bl.new _ _ _
  rw [hW1]
  have k0 : W1.cell? ⟨w.heap.size, 0, none⟩ = some (.slice A cs.length c) := hb1.cell 0
  have k1 : W1.cell? ⟨w.heap.size, 1, none⟩ = some (.int .i64 m) := hb1.cell 1
  have HG1 := hide hg1
  clear hW1 hg1 hb1
  by_cases hpm : pos < m
  · have HE := hide (HR.out.symm.trans (spanS_old (s := ⟨cs, m⟩) hpm))
    go_wp2_with fail
    go_ret2
    exact ⟨_, by rw [HE.out]; rfl, by rw [HE.out]; exact OwnR.none_ _ _, HG1.out⟩
  · have HE := hide (HR.out.symm.trans (spanS_ok (s := ⟨cs, m⟩) hpm))
    clear HR
    go_wp2_with fail
    go_loopw [10, 21] (fun u i wr => ∃ (j : Nat), i = .int .i64 j ∧ j ≤ cs.length ∧ Hid (RdsO wr w.heap.size u (spanC f t pos (cs.take j))) ∧ Hid (Gr w wr)) (fun _ i _ => cs.length - (intOf i).toNat)
    case atStart => exact ⟨0, rfl, by omega, OwnR.none_ _ _, HG1.out⟩
    case round =>
      obtain ⟨j, rfl, hj, HO, HG⟩ := hrel
      obtain ⟨B, d, hu⟩ := HO.out.is
      have hol := span_len f t pos (cs.take j)
      rw [List.length_take] at hol
      generalize hq : (spanC f t pos (cs.take j)).length = q at hu hol
      subst hu
      by_cases hlt : j < cs.length
      · have hlt' : (j : Int) < (cs.length : Int) := by omega
        obtain ⟨ad, c', p, e1, hp, a0, a1⟩ := (HV.out.gr HG.out).at_ hlt
        simp only [Value.slice.injEq, true_and] at e1
        obtain ⟨rfl, rfl⟩ := e1
        have HN := hide (span_next (f := f) (t := t) (p := pos) hlt)
        have hcl2 := HL.out.2 _ (List.getElem_mem hlt)
        generalize cs[j] = x at a0 a1 HN hp hcl2
        obtain ⟨xk, xl⟩ := x
        simp only at a0 a1 HN hp hcl2
        have HAS := hide (fun W (h : VersX W p xl) => asOf_ok xk p xl pos W h hcl2)
        have HP := hide hp
        obtain ⟨pA, pc, rfl, _⟩ := hp.is
        obtain ⟨y, hy⟩ : ∃ y, seenC xk xl pos = y := ⟨_, rfl⟩
        have hyk : y.key = xk := by rw [← hy]; rfl
        rw [hy] at HAS HN
        obtain ⟨yk, yv, yx, yt⟩ := y
        simp only at hyk
        subst hyk
        have HW := hide (Within_ok yk f t)
        generalize hwi : withinK yk f t = wi at HW HN
        simp only at HN
        unfold chA rdA at HAS
        simp only at HAS
        clear hp hy hwi
        go_wp2_with fail
        refine (HAS.out _ (HP.out.gr ((Gr.refl _).alloc _))).mono ?_
        rintro e w2 ⟨rfl, hg2⟩
        go_upto_region 8 with (fail)
        obtain ⟨W2, hW2⟩ : ∃ W2, w2.alloc (.cells #[.string yk, .int .i64 yv, .string yx, .bool yt] 40) = W2 := ⟨_, rfl⟩
        have hg3 : Gr wr W2 := by rw [← hW2]; exact ((((Gr.refl wr).alloc _).trans hg2).alloc _)
        have hb3 : Bl W2 w2.heap.size 40 #[.string yk, .int .i64 yv, .string yx, .bool yt] := by rw [← hW2]; exact Bl.new _ _ _
        rw [hW2]
        have n0 : W2.cell? ⟨w2.heap.size, 0, none⟩ = some (.string yk) := hb3.cell 0
        have n1 : W2.cell? ⟨w2.heap.size, 1, none⟩ = some (.int .i64 yv) := hb3.cell 1
        have n2 : W2.cell? ⟨w2.heap.size, 2, none⟩ = some (.string yx) := hb3.cell 2
        have n3 : W2.cell? ⟨w2.heap.size, 3, none⟩ = some (.bool yt) := hb3.cell 3
        have HG3 := hide (HG.out.trans hg3)
        have HO3 := hide (HO.out.gr hg3)
        have HB3 := hide hb3
        clear hW2 hg3 hb3 hg2 a0 a1 HAS HP HG HO
        cases yt
        · have HN2 := hide ((HN.out.trans (List.append_nil _) : spanC f t pos (cs.take (j + 1)) = spanC f t pos (cs.take j)))
          go_wp2_with fail
          go_roundw
          case rel => exact ⟨j + 1, by go_num, by omega, by rw [HN2.out]; exact HO3, HG3⟩
          case measure => simp [intOf]; omega
        · go_wp2_with fail
          refine (HW.out _).mono ?_
          rintro e w4 ⟨rfl, hg4⟩
          cases wi
          · have HN2 := hide ((HN.out.trans (List.append_nil _) : spanC f t pos (cs.take (j + 1)) = spanC f t pos (cs.take j)))
            have HO4 := hide (HO3.out.gr hg4)
            have HG4 := hide (HG3.out.trans hg4)
            clear n0 n1 n2 n3 hg4
            go_wp2_with fail
            go_roundw
            case rel => exact ⟨j + 1, by go_num, by omega, by rw [HN2.out]; exact HO4, HG4⟩
            case measure => simp [intOf]; omega
          · have HN2 : Hid (spanC f t pos (cs.take (j + 1)) = spanC f t pos (cs.take j) ++ [⟨yk, yv, yx, true⟩]) := hide HN.out
            have HO4 := hide (HO3.out.gr hg4)
            have HG4 := hide (HG3.out.trans hg4)
            have hb4 := HB3.out.gr hg4
            have m0 : w4.cell? ⟨w2.heap.size, 0, none⟩ = some (.string yk) := hb4.cell 0
            have m1 : w4.cell? ⟨w2.heap.size, 1, none⟩ = some (.int .i64 yv) := hb4.cell 1
            have m2 : w4.cell? ⟨w2.heap.size, 2, none⟩ = some (.string yx) := hb4.cell 2
            have m3 : w4.cell? ⟨w2.heap.size, 3, none⟩ = some (.bool true) := hb4.cell 3
            clear n0 n1 n2 n3 hg4 hb4 HB3
            go_wp2_with (at_builtin; refine pause ?_)
            refine hide ?_
            refine wpList_pushRd rfl (.tmp 37) (.tmp 39) rfl (w0 := w) (ls := spanC f t pos (cs.take j)) rfl HO4.out HG4.out rfl (by omega) ?_
            intro v3 w3 h1 h2
            rw [← HN2.out] at h1
            have HO5 := hide h1
            have HG5 := hide h2
            obtain ⟨A3, c3, hv3⟩ := h1.is
            generalize (spanC f t pos (cs.take (j + 1))).length = q5 at hv3
            subst hv3
            clear h1 h2 m0 m1 m2 m3
            go_wp2_with fail
            go_roundw
            case rel => exact ⟨j + 1, by go_num, by omega, HO5, HG5⟩
            case measure => simp [intOf]; omega
      · obtain rfl : j = cs.length := by omega
        rw [List.take_length] at HO
        go_wp2_with fail
        go_ret2
        exact ⟨_, by rw [HE.out]; rfl, by rw [HE.out]; exact HO.out, HG.out⟩
end Go.Proofs.Ytbfbghfaeejicaa
