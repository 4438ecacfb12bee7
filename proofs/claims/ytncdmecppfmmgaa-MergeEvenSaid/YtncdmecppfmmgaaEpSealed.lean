/-
  epoch's Sealed by its contract.
-/
import Derived.Test.YtncdmecppfmmgaaEpSeals
namespace Go.Proofs.Ytncdmecppfmmgaa
open Go Go.RowKit Go.Shelf TxnMath KeyMath MsgMath EpMath
set_option maxRecDepth 100000

attribute [local go_sem] Oper.semAt_some

/-- what holds between two rounds -/
structure SealI (w : World) (rec : Loop) (n : Nat) (W : World) : Prop where
  gr : Gr w W
  mark : W.heap[w.heap.size + 1]? = some (.deferred (some []))
  loop : W.heap[w.heap.size + 2]? = some (.loop rec)
  num : Bl W w.heap.size 3 #[.int .i64 (n : Int)]
theorem SealI.of_gr {w : World} {rec : Loop} {n : Nat} {W W' : World} (h : SealI w rec n W) (hg : Gr W W') : SealI w rec n W' :=
  ⟨h.gr.trans hg, (hg.block _ (Array.getElem?_eq_some_iff.1 h.mark).1).trans h.mark, (hg.block _ (Array.getElem?_eq_some_iff.1 h.loop).1).trans h.loop, h.num.gr hg⟩
theorem SealI.turn {w : World} {rec : Loop} {n : Nat} {W : World} (h : SealI w rec n W) (rec' : Loop) : SealI w rec' n (W.putObj (w.heap.size + 2) (.loop rec')) := by
  have hlt := (Array.getElem?_eq_some_iff.1 h.loop).1
  refine ⟨⟨h.gr.os, h.gr.tape, h.gr.output, ?_, fun k hk => ?_⟩, ?_, World.putObj_heap_same hlt, ?_⟩
  · simpa [World.putObj] using h.gr.size
  · rw [World.putObj_heap_other (by omega)]; exact h.gr.block k hk
  · rw [World.putObj_heap_other (by omega)]; exact h.mark
  · unfold Bl; rw [World.putObj_heap_other (by omega)]; exact h.num
theorem SealI.next {w : World} {rec : Loop} {n : Nat} {W : World} (h : SealI w rec n W) (m : Nat) : SealI w rec m (W.setCell ⟨w.heap.size, 0, none⟩ (.int .i64 (m : Int))) := by
  have s1 : But W (W.setCell ⟨w.heap.size, 0, none⟩ (.int .i64 (m : Int))) w.heap.size := (But.refl W _).set 0 _
  have hs := h.gr.size
  have l2 := (Array.getElem?_eq_some_iff.1 h.mark).1
  have l3 := (Array.getElem?_eq_some_iff.1 h.loop).1
  refine ⟨⟨s1.os.trans h.gr.os, s1.tape.trans h.gr.tape, s1.output.trans h.gr.output, Nat.le_trans hs s1.size, fun k hk => ?_⟩, ?_, ?_, h.num.put 0 _⟩
  · rw [s1.block k (by omega) (by simp; omega)]
    exact h.gr.block k hk
  · rw [s1.block _ l2 (by simp)]; exact h.mark
  · rw [s1.block _ l3 (by simp)]; exact h.loop

theorem seal_len (l : List Bool) : sealN l l.length + 1 = (cutL l).length := by rw [cut_len]; rfl
theorem seal_le (l : List Bool) (k : Nat) : sealN l k ≤ k := clo_len l k

set_option maxHeartbeats 4000000 in
theorem Sealed_ok (v : Value) (es : List EntT) (w : World) (hv : EntsX Any w v es) (hl : es.length ≤ 500) :
    Calls Try.prog 30 #[v] w fun e w' => e = .returned (.int .i64 (sealN (shuts es) es.length : Nat)) ∧ Gr w w' := by
  have HV := hide hv
  obtain ⟨A, c, rfl⟩ := hv.is
  clear hv
  refine (callsIn_wide (n := 5)).1 ?_
  refine callsIn_of_wp_marks Try.func30 rfl trivial ?_ rfl
  simp only [Try.ntmps30, List.size_toArray, List.length_cons, List.length_nil, Nat.reduceAdd, Nat.reduceSub, Array.replicate_succ, Array.replicate_zero, List.push_toArray, List.append_toArray, List.nil_append, List.cons_append]
  gi_wp2
  obtain ⟨W2, hW2⟩ : ∃ W2, w.alloc (.cells #[.int .i64 0] 3) = W2 := ⟨_, rfl⟩
  have hs2 : W2.heap.size = w.heap.size + 1 := by rw [← hW2]; simp
  have g2 : Gr w W2 := by rw [← hW2]; exact (Gr.refl w).alloc _
  have b0 : Bl W2 w.heap.size 3 #[.int .i64 0] := by rw [← hW2]; exact Bl.new w _ _
  rw [hW2]
  clear hW2
  refine Round.rangeFunc rfl (fun args w => Grow.enters Try.func34 (by kernel_rfl) (by kernel_rfl) args w) fun fn D rec hD hrec => ?_
  rw [hs2] at hD
  subst hD
  have h0 : SealI w rec (sealN (shuts es) 0) ((W2.alloc (.deferred (some []))).alloc (.loop rec)) := by
    have e3 : (W2.alloc (.deferred (some []))).heap.size = w.heap.size + 2 := by simp [hs2]
    have g3 : Gr W2 (W2.alloc (.deferred (some []))) := (Gr.refl _).alloc _
    have g4 : Gr (W2.alloc (.deferred (some []))) ((W2.alloc (.deferred (some []))).alloc (.loop rec)) := (Gr.refl _).alloc _
    refine ⟨(g2.trans g3).trans g4, ?_, ?_, (b0.gr g3).gr g4⟩
    · rw [g4.block _ (by omega), ← hs2]
      exact heap_alloc_new W2 _
    · rw [← e3]
      exact heap_alloc_new _ _
  clear b0 g2 hs2
  have HS := hide (fun (k : Nat) (W : World) (hj : SealI w rec (sealN (shuts es) k) W) (hsh : (shuts es).getD k false = false) => show SealI w rec (sealN (shuts es) (k + 1)) W from by rw [seal_no hsh]; exact hj)
  refine (seals_ok 3 (w.heap.size + 2) (.slice A es.length c) es (by omega) (fun k W => SealI w rec (sealN (shuts es) k) W) (fun k W hj => HV.out.gr hj.gr) (fun k W W' hj hg => hj.of_gr hg) (fun k W hj _ hsh => HS.out k W hj hsh) (fun k W hj hk hsh => ?_) _ h0).mono ?_
  · have HN := hide (seal_yes hsh)
    have hle := seal_le (shuts es) k
    generalize sealN (shuts es) k = q at HN hj hle
    obtain ⟨hr1, hr2, hr3, hr4, hr5, hr6⟩ := Round.rec_of hrec
    refine Round.yields hj.loop hr1 (by rw [hr2]; rfl) ?_
    rw [hr3, hr4, hr5, hr2]
    have HJ := hide (hj.turn (Round.busy rec))
    have HL := hide hj.loop
    clear hj h0 HS hrec hr1 hr2 hr3 hr4 hr5 hsh
    gi_wp2
    refine ⟨HL.out, ?_⟩
    generalize W.putObj (w.heap.size + 2) (.loop (Round.busy rec)) = W1 at HJ ⊢
    have c0 : W1.cell? ⟨w.heap.size, 0, none⟩ = some (.int .i64 (q : Int)) := by rw [HJ.out.num.cell]; rfl
    have c1 := HJ.out.num.frozen 0
    clear HL
    gi_wp2
    have F := HJ.out.next (q + 1)
    rw [show ((q + 1 : Nat) : Int) = (q : Int) + 1 from by omega] at F
    refine ⟨F.loop, ?_⟩
    rw [HN.out, show Round.ready rec = rec from hr6]
    exact F.turn rec
  · rintro e W ⟨⟨u, rfl⟩, hj⟩
    refine ⟨⟨u, rfl⟩, hj.loop, ?_⟩
    have HJ := hide (hj.turn (Round.spent rec))
    clear hj h0 hrec HS
    generalize W.putObj (w.heap.size + 2) (.loop (Round.spent rec)) = W1 at HJ ⊢
    obtain ⟨q, hq⟩ : ∃ q, sealN (shuts es) es.length = q := ⟨_, rfl⟩
    rw [hq] at HJ
    have HQ := hide hq
    clear hq
    have c0 : W1.cell? ⟨w.heap.size, 0, none⟩ = some (.int .i64 (q : Int)) := by rw [HJ.out.num.cell]; rfl
    have HMK := hide HJ.out.mark
    have HG2 := hide HJ.out.gr
    clear HJ
    gi_wp2
    refine ⟨by simp, .inl ⟨_, _, rfl, run_takeDeferred HMK.out, ?_⟩⟩
    refine ⟨_, results_tmp rfl _ _ _, by rw [HQ.out]; rfl, ?_⟩
    have hz := HG2.out.size
    refine ⟨HG2.out.os, HG2.out.tape, HG2.out.output, by simpa [World.putObj] using hz, fun k hk => ?_⟩
    rw [World.putObj_heap_other (by omega)]
    exact HG2.out.block k hk

end Go.Proofs.Ytncdmecppfmmgaa
