/-
  The walk of 'MergeStops'.
-/
import Derived.Test.YtncdmecppfmmgaaMergeFacts
import Derived.Test.YtncdmecppfmmgaaMgCopy
namespace Go.Proofs.Ytncdmecppfmmgaa
open Go Go.RowKit TxnMath KeyMath MsgMath EpMath MgMath
set_option maxRecDepth 100000

theorem u8_nat {a : Int} (h : (Lit.int .u8 a).wf = true) : ∃ k : Nat, a = (k : Int) ∧ k < 256 := by
  have h0 : 0 ≤ a ∧ a ≤ 255 := by simpa [Lit.wf, IntKind.min, IntKind.max, IntKind.signed, IntKind.bits] using h
  exact ⟨a.toNat, by omega, by omega⟩

set_option maxHeartbeats 4000000 in
theorem walk_MergeStops (w : World) (A : Option Addr) (n c : Nat) (l : List UInt8) (hn : n = l.length) (hby : By w A c l) (a : Int) (ha : (Lit.int .u8 a).wf = true) :
    Calls Try.prog 8 #[.slice A n c, .int .u8 a] w fun e w' => e = .returned (.bool true) ∧ Gr w w' := by
  subst hn
  have HBY := hide hby
  clear hby
  obtain ⟨na, rfl, hna⟩ := u8_nat ha
  clear ha
  by_cases h1 : (250 : Int) < (l.length : Int)
  · go_enter Try.func8, Try.ntmps8
    go_wp2_with fail
    refine (begun_ok _).mono ?_
    rintro e w1 ⟨rfl, hg1⟩
    go_wp2_with fail
    go_ret
    exact ⟨rfl, hg1⟩
  go_enter Try.func8, Try.ntmps8
  go_wp2_with fail
  refine (begun_ok _).mono ?_
  rintro e w1 ⟨rfl, hg1⟩
  have HG1 := hide hg1
  clear hg1
  go_wp2_with fail
  refine (logs_ok A c l w1 (HBY.out.gr HG1.out) (by omega)).mono ?_
  rintro e w2 ⟨v, rfl, hlx, hg2⟩
  have HT := hide (logsL_10 l)
  have HE := hide (logsL_each l)
  have HL3 := hide (logsL_len l)
  generalize logsL l = ls at hlx HT HE HL3
  have HLX := hide hlx
  replace HG1 := hide (HG1.out.trans hg2)
  obtain ⟨vA, vc, rfl, _⟩ := hlx.is
  clear hlx hg2
  have HH := hide (fun W v (h : LogsX W v ls) => Head_ok v ls W h HT.out.len HT.out.each)
  by_cases hz : ls.length = 0
  · have hd : (orderL ls).2 = -1 := by rw [order_none hz]
    rw [hd] at HH
    rw [hz] at HLX ⊢
    clear hd hz
    go_wp2_with fail
    refine (HH.out w2 _ HLX.out).mono ?_
    rintro e w3 ⟨rfl, hg3⟩
    replace HG1 := hide (HG1.out.trans hg3)
    clear hg3
    go_wp2_with fail
    go_ret
    exact ⟨rfl, HG1.out⟩
  have hpos : 0 < ls.length := by omega
  obtain ⟨p, hp, hhd⟩ := order_head hpos
  have HHD := hide hhd
  rw [hhd] at HH
  obtain ⟨k, hk⟩ : ∃ k, na % ls.length = k := ⟨_, rfl⟩
  have hkl : k < ls.length := by rw [← hk]; exact Nat.mod_lt _ hpos
  have ek : (na : Int).tmod (ls.length : Int) = (k : Int) := by rw [← hk]; rfl
  have ek2 : (na : Int) % (ls.length : Int) = (k : Int) := by rw [← hk]; exact (Int.natCast_emod na ls.length).symm
  have m0 : ¬ (ls.length : Int) = 0 := by omega
  have hlen3 : ls.length ≤ 3 := HL3.out
  have hkI : (k : Int) < (ls.length : Int) := by omega
  have hpI : (p : Int) < (ls.length : Int) := by omega
  clear hk hhd
  have HOL := hide (order_len HT.out.len HT.out.each)
  have HOB := hide (order_bnd HT.out.bnd)
  have HA := hide (fun W v (h : LogsX W v ls) => All_ok v ls W h HT.out.len HT.out.each HT.out.bnd)
  have hel : ls[k].length ≤ 15 := by have := HE.out k; rwa [lg_at hkl] at this
  have hT2 : Logs10 (ls.set k (ls[k] ++ [barE 9 true 0 0])) := HT.out.set hkl (by simp; omega) fun e he => by
    rcases List.mem_append.1 he with he | he
    · exact HT.out.bnd k e (by rw [lg_at hkl]; exact he)
    · rw [List.mem_singleton] at he; subst he; exact Bare.bnd ⟨rfl, rfl⟩
  have HST := hide (fun (h : (orderL ls).2 ≠ (k : Int)) => order_sealed (ls := ls) (ls' := ls.set k (ls[k] ++ [barE 9 true 0 0])) (k := k) (s := barE 9 true 0 0) rfl (by simp) hkl (by rw [lg_set_self _ hkl, lg_at hkl]) (fun q hq => lg_set_ne _ hq) h)
  have HGO := hide (order_set hkl (barE 9 true 0 0))
  have HB := hide (fun W v (h : LogsX W v (ls.set k (ls[k] ++ [barE 9 true 0 0]))) => All_ok v _ W h hT2.len hT2.each hT2.bnd)
  have HBH := hide (fun W v (h : LogsX W v (ls.set k (ls[k] ++ [barE 9 true 0 0]))) => Head_ok v _ W h hT2.len hT2.each)
  have HBL := hide (order_len hT2.len hT2.each)
  have HBB := hide (order_bnd hT2.bnd)
  clear hT2
  go_wp2_with fail
  refine (HH.out w2 _ HLX.out).mono ?_
  rintro e w3 ⟨rfl, hg3⟩
  replace HG1 := hide (HG1.out.trans hg3)
  replace HLX := hide (HLX.out.gr hg3)
  clear hg3 HH
  go_wp2_with fail
  refine (HA.out w3 _ HLX.out).mono ?_
  rintro e w4 ⟨va, rfl, hpa, hg4, _⟩
  obtain ⟨aA, ac, rfl, _⟩ := hpa.is
  have HPA := hide hpa
  replace HG1 := hide (HG1.out.trans hg4)
  replace HLX := hide (HLX.out.gr hg4)
  clear hpa hg4 HA
  go_wp2_with (at_builtin; refine pause ?_)
  refine hide ?_
  refine wpList_copyLogs rfl (.tmp 41) (.tmp 42) rfl rfl HLX.out rfl (by omega) hpos ?_
  intro g gc cs w5 hcp
  have hg5 := hcp.bl.lt
  have hgi := hcp.hi
  obtain ⟨lA, lc, e1, _, hj⟩ := HLX.out.is
  simp only [Value.slice.injEq, true_and] at e1
  obtain ⟨rfl, rfl⟩ := e1
  obtain ⟨ad, kA, kc, rfl, a0, hx⟩ := hj k hkl
  have hgr5 : Gr w4 (w5.alloc (.cells #[] 43)) := hcp.gr.alloc _
  have a1 := gr_cell hgr5 _ _ a0
  have hx5 := (hx.low.wide (X' := fun j => j < w4.heap.size) fun j hj => hj.2).gr hgr5
  have HX := hide (hx5.wide (X' := fun j => j < w4.heap.size ∧ (Value.slice (some ⟨w5.heap.size, 0, none⟩) 0 0).ownBlock ≠ some j) fun j hj => ⟨hj, by intro e; simp [Value.ownBlock] at e; have := hcp.gr.size; omega⟩)
  have HOE := hide (ownEnt_empty (fun j => j < w4.heap.size) w5 (Nat.le_refl _))
  have HCP := hide hcp
  have hkA := hide hx5
  clear hj hx hx5 a0 hgr5 hcp hkA
  obtain ⟨ml, hml⟩ : ∃ ml, ls[k].length = ml := ⟨_, rfl⟩
  rw [hml] at a1 HX
  go_wp2_with (at_builtin; refine pause ?_)
  refine hide ?_
  refine wpList_appEnt rfl (.tmp 46) (.tmp 50) rfl rfl HOE.out HX.out (by simp) rfl (by simp; omega) ?_
  intro v6 w6 o6 p6
  rw [List.nil_append] at o6
  obtain ⟨A6, c6, rfl⟩ := o6.is
  rw [hml] at o6 p6 ⊢
  have g6 : Gr w5 w6 := own_more ((Gr.refl w5).alloc _) HOE.out (Nat.le_refl _) (Gr.refl _) p6
  have HO6 := hide o6
  have HG6 := hide g6
  clear o6 p6 g6 HOE HX a1
  go_wp2_with (at_builtin; refine pause ?_)
  refine hide ?_
  refine wpList_pushEnt rfl (.tmp 51) (.tmp 53) rfl (barE 9 true 0 0) (.slice none 0 0, .slice none 0 0) rfl rfl HO6.out (bare_rows _ _ ⟨rfl, rfl⟩) HG6.out.size (congrArg (fun z => Value.slice (some ⟨z, 0, none⟩) 1 1) (by simp)) (by omega) ?_
  intro v7 w7 o7 p7
  have g7 : Gr w5 w7 := own_more HG6.out HO6.out (Nat.le_refl _) (Gr.refl _) p7
  have hcp7 := HCP.out.more g7
  obtain ⟨u0, hc7⟩ := hcp7.cell hkl
  have f7 : w7.frozen? ⟨g, k, none⟩ = false := hcp7.bl.frozen k
  have hx7 := o7.off (g := g) (fun e => by have := (o7.lt g e).1; omega) (fun j hj => by omega)
  obtain ⟨hlx8, hg8⟩ := hcp7.put (k := k) hx7
  obtain ⟨A7, c7, e7⟩ := o7.is
  have e8 : (ls[k] ++ [barE 9 true 0 0]).length = ml + 1 := by simp [hml]
  rw [e8] at e7
  subst e7
  have HLX8 := hide hlx8
  have HG8 := hide hg8
  clear hlx8 hg8 hx7 hcp7 g7 p7 o7 HO6 HG6 HCP hml e8
  go_wp2_with fail
  refine (HB.out _ _ HLX8.out).mono ?_
  rintro e w9 ⟨vb, rfl, hpb, hg9, _⟩
  have HPB := hide hpb
  replace HPA := hide (HPA.out.gr (HG8.out.trans hg9))
  have HLX9 := hide (HLX8.out.gr hg9)
  replace HG1 := hide (HG1.out.trans (HG8.out.trans hg9))
  obtain ⟨bA, bc, rfl, hbc⟩ := hpb.is
  clear hpb hg9 HG8 HLX8 HB hc7 f7
  have HHQ := hide (fun (h : ¬ k = p) => HST.out (by rw [HHD.out]; intro e; exact h (by omega)))
  clear HST
  by_cases hkp : k = p
  · subst hkp
    obtain ⟨r, hr⟩ := HGO.out
    rw [hr] at HPB HBL HBB hbc ⊢
    clear hr HGO HHQ HHD HBH
    generalize (orderL ls).1 = ps at *
    have htk := HPB.out.take ps.length (by simp)
    rw [List.take_left' rfl] at htk
    have HTK := hide htk
    have hmm : ps.length ≤ (ps ++ r).length := by simp
    have hmI : (ps.length : Int) ≤ ((ps ++ r).length : Int) := by omega
    have hbI : (ps.length : Int) ≤ (bc : Int) := by omega
    clear htk HPB HBL HBB
    generalize (ps ++ r).length = m at *
    go_wp2_with fail
    refine (SamePlaces_ok _ _ ps ps w9 HPA.out HTK.out HOL.out HOB.out rfl).mono ?_
    rintro e w10 ⟨rfl, hg10⟩
    replace HG1 := hide (HG1.out.trans hg10)
    clear hg10
    go_wp2_with fail
    go_ret
    exact ⟨rfl, HG1.out⟩
  · have hoo := HHQ.out hkp
    rw [hoo] at HPB HBH hbc ⊢
    rw [HHD.out] at HBH
    clear hoo HGO HHQ HHD HBL HBB
    have hkpI : ((k : Int) == (p : Int)) = false := by rw [beq_eq_false_iff_ne]; omega
    generalize (orderL ls).1 = ps at *
    go_wp2_with fail
    refine (HBH.out w9 _ HLX9.out).mono ?_
    rintro e w10 ⟨rfl, hg10⟩
    replace HG1 := hide (HG1.out.trans hg10)
    replace HPA := hide (HPA.out.gr hg10)
    replace HPB := hide (HPB.out.gr hg10)
    clear hg10
    go_wp2_with fail
    refine (SamePlaces_ok _ _ ps ps w10 HPA.out HPB.out HOL.out HOB.out rfl).mono ?_
    rintro e w11 ⟨rfl, hg11⟩
    replace HG1 := hide (HG1.out.trans hg11)
    clear hg11
    go_wp2_with fail
    go_ret
    exact ⟨rfl, HG1.out⟩

end Go.Proofs.Ytncdmecppfmmgaa
