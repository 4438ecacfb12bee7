/-
  The walk of 'MsgTake'.
-/
import Derived.Test.YtpabppoohobjpaaGreatMsgBegun
import Derived.Test.YtpabppoohobjpaaGreatMgBareAll
import Derived.Test.YtpabppoohobjpaaGreatLent
namespace Go.Proofs.YtpabppoohobjpaaGreat
open Go Go.RowKit TxnMath KeyMath MsgMath
set_option maxRecDepth 100000

section
variable {P : Program} {ops : Array Oper} {w0 : World} {n0 : Nat} {Q : (Tmp → Grow.Known) → Prop} {o : Oper} {rest : List Oper} {K : Tmp → Grow.Known}
/-- 'T{}' -/
theorem grow_build0 {t : TypeId} {cs : Array Value} {Ψ : Grow.Known} (ho : o.op = .build t #[]) (hw : Grow.Wanted ops K n0 o true) (hr : P.built t [] = some cs) (hst : Grow.Stays Ψ) (hΨ : ∀ w, Ψ (.agg cs) w)
    (h : Grow.wpGrow P ops w0 n0 Q rest (Grow.upd K o.dst Ψ)) : Grow.wpGrow P ops w0 n0 Q (o :: rest) K := by
  refine Grow.grow_step hw (fun _ => hst) (fun a w _ _ _ => ?_) h
  unfold Grow.does execOp
  have hc : P.built t ((#[] : Array (Nat × Operand)).map fun (i, x) => (i, a.eval x)).toList = some cs := by simpa using hr
  simp only [ho, Sem.run_bind, run_build w t _ cs hc, Result.andThen_ok]
  exact ⟨Gr.refl w, hΨ w⟩
end
theorem took_put {l : List UInt8} (h : tookM l = true) : putM (readM l) = l ∧ mayM (readM l) = true := by
  unfold tookM at h
  simp only [Bool.not_eq_true', Bool.or_eq_false_iff, beq_eq_false_iff_ne, ne_eq, Bool.not_eq_false', decide_eq_true_eq] at h
  refine ⟨h.2, ?_⟩
  cases hm : mayM (readM l)
  · have h2 := h.2
    unfold putM at h2
    rw [hm] at h2
    exact absurd (by rw [← h2]; rfl) h.1
  · rfl
theorem taken_yes {l : List UInt8} (h : tookM l = true) : takenM l = readM l := by unfold takenM; rw [h]; rfl
theorem taken_no {l : List UInt8} (h : tookM l = false) : takenM l = noMsg := by unfold takenM; rw [h]; rfl

set_option maxHeartbeats 8000000 in
theorem walk_MsgTake (w : World) (A : Option Addr) (n c : Nat) (l : List UInt8) (hn : n = l.length) (hby : By w A c l) :
    Calls Tryz.prog 4 #[.slice A n c] w fun e w' => e = .returned (.bool true) ∧ Gr w w' := by
  subst hn
  have HBY := hide hby
  clear hby
  by_cases h1 : (200 : Int) < (l.length : Int)
  · go_enter Tryz.func4, Tryz.ntmps4
    go_wp2_with fail
    refine (begun_ok _).mono ?_
    rintro e w1 ⟨rfl, hg1⟩
    go_wp2_with fail
    go_ret
    exact ⟨rfl, hg1⟩
  have hmax : (l.length : Int) ≤ 140737488351232 := by omega
  have hlim := readM_lim l
  have F1 := hide (@took_put l)
  have F2 := hide (@taken_yes l)
  have F3 := hide (@taken_no l)
  go_enter Tryz.func4, Tryz.ntmps4
  go_wp2_with fail
  refine (begun_ok _).mono ?_
  rintro e w1 ⟨rfl, hg1⟩
  have HG1 := hide hg1
  clear hg1
  go_wp2_with fail
  refine (Lent_ok A l.length c l rfl w1 (HBY.out.gr HG1.out) hmax).mono ?_
  rintro e w2 ⟨g, cur, rfl, hb2, hcur, hg2⟩
  have HG2 := hide (HG1.out.trans hg2)
  have HB2 := hide hb2
  have HCUR := hide hcur
  clear hg2 hb2 hcur HG1
  have HBK := hide (fun A' c' W (h : By W A' c' l) (hb : Bl W g 5 cur) => Back_ok A' l.length c' l rfl g cur W h hb HCUR.out hmax)
  go_wp2_with fail
  refine (MgTake_ok (some ⟨g, 0, none⟩) (l.length + 6) l w2 (HCUR.out.by_ HB2.out hmax) (by omega)).mono ?_
  rintro e w3 ⟨u, rfl, hu, hg3⟩
  have HU := hide hu.any
  obtain ⟨cs3, r3, rfl, hc3⟩ := hu.cells
  have hsz3 : (Tryz.prog.info? 31).map (·.size) = some cs3.size := by rw [hc3.size]; kernel_rfl
  have ho3 := hide (show 24 = cs3.size from hc3.size.symm)
  have hone3 := hc3.one
  have HG3 := hide hg3
  have HN3 := hide (fun old => Bl.new w3 31 old)
  obtain ⟨tb, htb⟩ : ∃ tb, tookM l = tb := ⟨_, rfl⟩
  rw [htb]
  clear hu hg3 hc3
  go_upto_region 7 with (first
    | refine wpList_store_row rfl 31 (.tmp 4) (.tmp 16) (by with_reducible rfl) w3.heap.size cs3 rfl rfl 31 _ (HN3.out _) hsz3 ho3.out hone3 ?_
    | fail)
  obtain ⟨V, hV⟩ : ∃ V, (w3.alloc (.cells zeroCs 31)).setRow w3.heap.size cs3 = V := ⟨_, rfl⟩
  have hbV : Bl V w3.heap.size 31 cs3 := by rw [← hV]; exact (HN3.out _).row cs3
  have hgV : Gr w3 V := by rw [← hV]; exact ((Gr.refl _).alloc _).fresh (But.row _ _ _) (Nat.le_refl _)
  change (Code.region 7 _ false).wp _ _ _ ((w3.alloc (.cells zeroCs 31)).setRow w3.heap.size cs3)
  rw [hV]
  have HBV := hide hbV
  have HUV := hide (HU.out.gr hgV)
  have HGV := hide (HG3.out.trans hgV)
  have HGW := hide (HG2.out.trans HGV.out)
  clear hV HN3 hbV hgV HU HG3
  cases tb
  · have e3 := F3.out htb
    have CS := hide (fun W (h : Gr V W) => (decide_eq_true (rfl : noMsg = noMsg)) ▸ RefSameMsg_ok _ _ noMsg noMsg W ((e3 ▸ HUV.out).gr h) (noMsg_at W) noMsg_bnd noMsg_bnd)
    clear e3 htb F1 F2 F3
    go_upto_region 8 with (fail)
    refine Grow.wp_region_text 47 [20, 21, 22, 23, 24, 25, 26, 27, 2] rfl (by kernel_rfl) (by kernel_rfl)
      (Grow.Ahead.more (Grow.Ahead.more (Grow.Ahead.more (Grow.Ahead.none_ _ _) 4 (Grow.Bx.stays w3.heap.size 31 cs3) (by exact ⟨rfl, HBV.out⟩)) 3 (Grow.Is.stays (.slice (some ⟨g, 0, none⟩) l.length (l.length + 6))) (by exact rfl)) 0 (Grow.Sl.stays l) (by exact ⟨A, c, rfl, HBY.out.gr HGW.out⟩)) ?_
    refine Grow.grow_row rfl (.inl ⟨rfl, rfl⟩) rfl Tryz.underlying31 rfl hsz3 ?_
    refine grow_build0 (Ψ := Grow.Is (.agg (cellsM noMsg ⟨.slice none 0 0, (.slice none 0 0, .slice none 0 0), .slice none 0 0, .slice none 0 0⟩).toArray)) rfl (.inl ⟨rfl, rfl⟩) (by kernel_rfl) (Grow.Is.stays _) (fun _ => rfl) ?_
    refine Grow.grow_call2 (Φ := Grow.Is (.bool true)) rfl (.inl ⟨rfl, rfl⟩) Tryz.func14 (by kernel_rfl) (by kernel_rfl) (Ψ := Grow.Is (.agg cs3)) (Ψ' := Grow.Is (.agg (cellsM noMsg ⟨.slice none 0 0, (.slice none 0 0, .slice none 0 0), .slice none 0 0, .slice none 0 0⟩).toArray)) rfl rfl (Grow.Is.stays _) (fun v u W hg hv hu => by
      obtain rfl : v = _ := hv
      obtain rfl : u = _ := hu
      exact (CS.out W hg).mono fun e w1 ⟨h1, h2⟩ => ⟨_, h1, h2, rfl⟩) ?_
    refine Grow.grow_mv (.inl rfl) (.inl ⟨rfl, rfl⟩) rfl ?_
    refine Grow.grow_mv (.inl rfl) (.inr ⟨3, true, 23, rfl, rfl, rfl, by decide⟩) rfl ?_
    refine Grow.grow_move (.tmp 0) (.inl rfl) (.inr ⟨3, true, 23, rfl, rfl, rfl, by decide⟩) rfl (Grow.Sl.stays l) ?_
    refine Grow.grow_call2 (Φ := Grow.Is (.bool true)) rfl (.inr ⟨3, true, 23, rfl, rfl, rfl, by decide⟩) Tryz.func17 (by kernel_rfl) (by kernel_rfl) (Ψ := Grow.Is (.slice (some ⟨g, 0, none⟩) l.length (l.length + 6))) (Ψ' := Grow.Sl l) rfl rfl (Grow.Is.stays _) (fun v u W hg hv hu => by
      obtain rfl : v = _ := hv
      obtain ⟨A2, c2, rfl, hb⟩ := hu
      refine (HBK.out A2 c2 W hb (HB2.out.gr (HGV.out.trans hg))).mono ?_
      rintro e w' ⟨he, rfl⟩
      exact ⟨_, he, Gr.refl _, rfl⟩) ?_
    refine Grow.grow_pick_yes rfl (.inl ⟨rfl, rfl⟩) rfl rfl (Grow.Is.stays _) ?_
    refine Grow.grow_mv (.inr rfl) (.inl ⟨rfl, rfl⟩) rfl ?_
    intro a1 w5 hg hsz hdf hun hk
    have h2 := hk 2
    clear hk hun
    change a1.tmps.getD 2 undef = _ at h2
    have hgr := HGW.out.trans hg
    rw [Grow.lay_frame a1 47 hsz, hdf]
    simp only [List.range, List.range.loop, List.map_cons, List.map_nil, h2]
    go_wp2_with fail
    go_ret
    exact ⟨rfl, hgr⟩
  · obtain ⟨hput, hmay⟩ := F1.out htb
    have e3 := F2.out htb
    rw [e3] at HUV
    have CM := hide (fun W (h : Gr V W) => hmay ▸ MgMay_ok _ (readM l) W (HUV.out.gr h) hlim.bnd hlim.vers)
    have CR := hide (fun W (h : Gr V W) => hmay ▸ RefMayMsg_ok _ (readM l) W (HUV.out.gr h) hlim.bnd)
    have CP := hide (fun W (h : Gr V W) => hput ▸ MgPut_ok _ (readM l) W (HUV.out.gr h) hlim.bnd hlim.vers)
    clear hput hmay e3 htb F1 F2 F3 HUV
    go_wp2_with fail
    refine Grow.wp_region_kept 47 [28, 29, 30, 31, 32, 33, 34, 35, 36, 37, 38, 39, 40, 41, 42, 43, 44, 45, 46, 2] rfl (by kernel_rfl) (by kernel_rfl) (by kernel_rfl)
      (Grow.Ahead.more (Grow.Ahead.more (Grow.Ahead.more (Grow.Ahead.none_ _ _) 4 (Grow.Bx.stays w3.heap.size 31 cs3) (by exact ⟨rfl, HBV.out.drewN 1⟩)) 3 (Grow.Is.stays (.slice (some ⟨g, 0, none⟩) l.length (l.length + 6))) (by exact rfl)) 0 (Grow.Sl.stays l) (by exact ⟨A, c, rfl, HBY.out.gr (HGW.out.drewN 1)⟩)) ?_
    refine Grow.grow_row rfl (.inl ⟨rfl, rfl⟩) rfl Tryz.underlying31 rfl hsz3 ?_
    refine Grow.grow_call1 (Φ := Grow.Is (.bool true)) rfl (.inl ⟨rfl, rfl⟩) Tryz.func11 (by kernel_rfl) (by kernel_rfl) (Ψ := Grow.Is (.agg cs3)) rfl (Grow.Is.stays _) (fun v W hg hv => by
      obtain rfl : v = _ := hv
      exact (CM.out W ((Gr.drew (Gr.refl V)).trans hg)).mono fun e w1 ⟨h1, h2⟩ => ⟨_, h1, h2, rfl⟩) ?_
    refine Grow.grow_mv (.inl rfl) (.inl ⟨rfl, rfl⟩) rfl ?_
    refine Grow.grow_row rfl (.inr ⟨2, true, 30, rfl, rfl, rfl, by decide⟩) rfl Tryz.underlying31 rfl hsz3 ?_
    refine Grow.grow_call1 (Φ := Grow.Is (.bool true)) rfl (.inr ⟨2, true, 30, rfl, rfl, rfl, by decide⟩) Tryz.func10 (by kernel_rfl) (by kernel_rfl) (Ψ := Grow.Is (.agg cs3)) rfl (Grow.Is.stays _) (fun v W hg hv => by
      obtain rfl : v = _ := hv
      exact (CR.out W ((Gr.drew (Gr.refl V)).trans hg)).mono fun e w1 ⟨h1, h2⟩ => ⟨_, h1, h2, rfl⟩) ?_
    refine Grow.grow_pick_yes rfl (.inl ⟨rfl, rfl⟩) rfl rfl (Grow.Is.stays _) ?_
    refine Grow.grow_mv (.inl rfl) (.inl ⟨rfl, rfl⟩) rfl ?_
    refine Grow.grow_row rfl (.inr ⟨6, true, 34, rfl, rfl, rfl, by decide⟩) rfl Tryz.underlying31 rfl hsz3 ?_
    refine Grow.grow_call1 (Φ := Grow.Sl l) rfl (.inr ⟨6, true, 34, rfl, rfl, rfl, by decide⟩) Tryz.func12 (by kernel_rfl) (by kernel_rfl) (Ψ := Grow.Is (.agg cs3)) rfl (Grow.Sl.stays l) (fun v W hg hv => by
      obtain rfl : v = _ := hv
      refine (CP.out W ((Gr.drew (Gr.refl V)).trans hg)).mono ?_
      rintro e w' ⟨r, h1, h2, h3⟩
      obtain ⟨A2, c2, rfl, h4⟩ := h2.by_
      exact ⟨_, h1, h3, A2, c2, rfl, h4⟩) ?_
    refine Grow.grow_conv (l := l) rfl (.inr ⟨6, true, 34, rfl, rfl, rfl, by decide⟩) rfl Tryz.underlying22 Tryz.underlying5 Tryz.underlying9 ?_
    refine Grow.grow_move (.tmp 0) (.inl rfl) (.inr ⟨6, true, 34, rfl, rfl, rfl, by decide⟩) rfl (Grow.Sl.stays l) ?_
    refine Grow.grow_conv (l := l) rfl (.inr ⟨6, true, 34, rfl, rfl, rfl, by decide⟩) rfl Tryz.underlying22 Tryz.underlying5 Tryz.underlying9 ?_
    refine Grow.grow_str_same rfl rfl (.inr ⟨6, true, 34, rfl, rfl, rfl, by decide⟩) rfl rfl ?_
    refine Grow.grow_pick_yes rfl (.inl ⟨rfl, rfl⟩) rfl rfl (Grow.Is.stays _) ?_
    refine Grow.grow_mv (.inl rfl) (.inl ⟨rfl, rfl⟩) rfl ?_
    refine Grow.grow_mv (.inl rfl) (.inr ⟨14, true, 42, rfl, rfl, rfl, by decide⟩) rfl ?_
    refine Grow.grow_move (.tmp 0) (.inl rfl) (.inr ⟨14, true, 42, rfl, rfl, rfl, by decide⟩) rfl (Grow.Sl.stays l) ?_
    refine Grow.grow_call2 (Φ := Grow.Is (.bool true)) rfl (.inr ⟨14, true, 42, rfl, rfl, rfl, by decide⟩) Tryz.func17 (by kernel_rfl) (by kernel_rfl) (Ψ := Grow.Is (.slice (some ⟨g, 0, none⟩) l.length (l.length + 6))) (Ψ' := Grow.Sl l) rfl rfl (Grow.Is.stays _) (fun v u W hg hv hu => by
      obtain rfl : v = _ := hv
      obtain ⟨A2, c2, rfl, hb⟩ := hu
      refine (HBK.out A2 c2 W hb (HB2.out.gr (HGV.out.trans ((Gr.drew (Gr.refl V)).trans hg)))).mono ?_
      rintro e w' ⟨he, rfl⟩
      exact ⟨_, he, Gr.refl _, rfl⟩) ?_
    refine Grow.grow_pick_yes rfl (.inl ⟨rfl, rfl⟩) rfl rfl (Grow.Is.stays _) ?_
    refine Grow.grow_mv (.inr rfl) (.inl ⟨rfl, rfl⟩) rfl ?_
    intro a1 w5 hg hsz hdf hun hk
    have h2 := hk 2
    clear hk hun
    change a1.tmps.getD 2 undef = _ at h2
    have hgr := HGW.out.trans ((Gr.drew (Gr.refl V)).trans hg)
    rw [Grow.lay_frame a1 47 hsz, hdf]
    simp only [List.range, List.range.loop, List.map_cons, List.map_nil, h2]
    go_wp2_with fail
    go_ret
    exact ⟨rfl, hgr⟩

end Go.Proofs.YtpabppoohobjpaaGreat
