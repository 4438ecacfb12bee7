/-
  The document's Cut by its contract.
-/
import Derived.Test.YtncdmecppfmmgaaEpMath
import Derived.Test.YtncdmecppfmmgaaIntRows
import Derived.Test.YtncdmecppfmmgaaEntMem
namespace Go.Proofs.Ytncdmecppfmmgaa
open Go Go.RowKit TxnMath KeyMath MsgMath EpMath
set_option maxRecDepth 100000

theorem shuts_eq (es : List EntT) (k : Nat) (h : k < es.length) : (es.map (·.shut)).getD k false = es[k].shut := by simp [h]

set_option maxHeartbeats 4000000 in
theorem RefCut_ok (v : Value) (es : List EntT) (w : World) (hv : EntsX Any w v es) (hl : es.length ≤ 500) :
    Calls Try.prog 19 #[v] w fun e w' => ∃ u, e = .returned u ∧ RowsI w' w.heap.size u (cutL (es.map (·.shut))) ∧ Gr w w' := by
  have HV := hide hv
  obtain ⟨A, c, rfl⟩ := hv.is
  clear hv
  have hlit : ∀ w : World, (Instr.buildSlice 46 1 #[(0, .slice none 0 0)]).run Try.prog w = .ok (.slice (some ⟨w.heap.size, 0, none⟩) 1 1) (w.alloc (.cells #[.slice none 0 0] 49)) := fun w => by kernel_rfl
  go_enter Try.func19, Try.ntmps19
  go_wp2_with fail
  have H0 := hide (RowsI.lit1 w)
  have HG := hide ((Gr.refl w).alloc (.cells #[.slice none 0 0] 49))
  generalize w.alloc (.cells #[.slice none 0 0] 49) = w1 at H0 HG ⊢
  go_loopw [3, 4] (fun v i wr => ∃ k : Nat, i = .int .i64 k ∧ k ≤ es.length ∧ Hid (RowsI wr w.heap.size v ((cloL (es.map (·.shut)) k).1 ++ [risL (cloL (es.map (·.shut)) k).2 (k + 1)])) ∧ Hid (Gr w wr)) (fun _ i _ => es.length - (intOf i).toNat)
  case atStart => exact ⟨0, rfl, by omega, H0, HG⟩
  case round =>
    obtain ⟨k, rfl, hk, HR, HW⟩ := hrel
    have hcl := clo_len (es.map (·.shut)) k
    have hcb := clo_begin (es.map (·.shut)) k
    have hws := HW.out.size
    by_cases hlt : k < es.length
    · have hlt' : (k : Int) < (es.length : Int) := by omega
      obtain ⟨ad, c', p, e1, _, _, a1, _⟩ := (HV.out.gr HW.out).ent hlt
      simp only [Value.slice.injEq, true_and] at e1
      obtain ⟨rfl, rfl⟩ := e1
      have hsa := shuts_eq es k hlt
      cases hb : es[k].shut
      · rw [hb] at a1 hsa
        have HN := hide (clo_no hsa)
        clear hsa hb
        generalize cloL (es.map (·.shut)) k = pr at HR HN hcl hcb
        obtain ⟨ls, b⟩ := pr
        simp only at HN hcl hcb
        replace HR : Hid (RowsI wr w.heap.size _ (ls ++ [risL b (k + 1)])) := HR
        obtain ⟨g, cc, u, rfl, hBg, hgs, hcu, hou, hlast⟩ := HR.out.last
        obtain ⟨Au, cu, rfl, _⟩ := hou.is
        rw [risL_len] at hcu hou hlast
        have HO := hide hou
        have HL := hide hlast
        clear hou hlast HR
        go_wp2_with (at_builtin; refine wpList_pushI1 rfl (.tmp 29) (.tmp 32) rfl ((k : Int) + 1) rfl HO.out HW.out (congrArg (fun z => Value.slice (some ⟨z, 0, none⟩) 1 1) (by simp)) (by rw [risL_len]; omega) ?_; intro v3 w4 ho3 hg3 hp3; have H3 := hide (HL.out w4 v3 _ hp3 ho3); obtain ⟨A3, c3, hv3, _⟩ := ho3.is; generalize hm3 : List.length _ = m3 at hv3; subst hv3; clear hm3; have HG3 := hide hg3; clear ho3 hg3 hp3; have k1 := H3.out.1; have k2 := H3.out.2.1)
        go_roundw
        case rel =>
          refine ⟨k + 1, by go_num, by omega, ?_, ?_⟩
          · unfold Hid
            rw [HN.out]
            simp only
            rw [risL_more (by omega)]
            exact H3.out.2.2.1
          · have hb3 := H3.out.2.2.2
            have hz := HG3.out.size
            exact ⟨hb3.os.trans HG3.out.os, hb3.tape.trans HG3.out.tape, hb3.output.trans HG3.out.output, Nat.le_trans hz hb3.size, fun j hj => (hb3.block j (by omega) (by simp; omega)).trans (HG3.out.block j hj)⟩
        case measure => simp [intOf]; omega
      · rw [hb] at a1 hsa
        have HN := hide (clo_yes hsa)
        clear hsa hb
        generalize cloL (es.map (·.shut)) k = pr at HR HN hcl hcb
        obtain ⟨ls, b⟩ := pr
        simp only at HN hcl hcb
        replace HR : Hid (RowsI wr w.heap.size _ (ls ++ [risL b (k + 1)])) := HR
        obtain ⟨A1, c1, hv1⟩ := HR.out.is
        generalize hq : (ls ++ [risL b (k + 1)]).length = q at hv1
        subst hv1
        go_wp2_with (at_builtin; refine wpList_pushRow rfl (.tmp 17) (.tmp 18) rfl (w0 := w) (wo := wr) (B := w.heap.size) (l := []) (u := .slice none 0 0) (g := wr.heap.size) rfl HR.out ((Gr.refl wr).alloc _) (OwnI.none_ _ _) (HW.out.alloc _) (Nat.le_refl _) (by simp; omega) rfl (by rw [(Bl.new wr _ _).cell]; rfl) (fun k hk => nomatch hk) (by simp; omega) ?_; intro v3 w4 hr3 hg3 _; obtain ⟨A3, c3, hv3⟩ := hr3.is; generalize hm3 : List.length _ = m3 at hv3; subst hv3; clear hm3; have HR3 := hide hr3; have HG3 := hide hg3; clear hr3 hg3)
        go_roundw
        case rel =>
          refine ⟨k + 1, by go_num, by omega, ?_, HG3⟩
          unfold Hid
          rw [HN.out]
          simp only
          rw [risL_nil (b := k + 2) (e := k + 1 + 1) (by omega)]
          exact HR3.out
        case measure => simp [intOf]; omega
    · obtain rfl : k = es.length := by omega
      have HC := hide (show (cloL (es.map (·.shut)) es.length).1 ++ [risL (cloL (es.map (·.shut)) es.length).2 (es.length + 1)] = cutL (es.map (·.shut)) from by unfold cutL; rw [List.length_map])
      rw [HC.out] at HR
      go_wp2_with fail
      go_ret
      exact ⟨_, rfl, HR.out, HW.out⟩

end Go.Proofs.Ytncdmecppfmmgaa
