/-
  The walk of 'MergeAll'.
-/
import Derived.Test.YtncdmecppfmmgaaMergeFacts
namespace Go.Proofs.Ytncdmecppfmmgaa
open Go Go.RowKit TxnMath KeyMath MsgMath EpMath MgMath
set_option maxRecDepth 100000

set_option maxHeartbeats 4000000 in
theorem walk_MergeAll (w : World) (A : Option Addr) (n c : Nat) (l : List UInt8) (hn : n = l.length) (hby : By w A c l) (a : Int) (_ : (Lit.int .i64 a).wf = true) (b : Int) (_ : (Lit.int .i64 b).wf = true) :
    Calls Try.prog 3 #[.slice A n c, .int .i64 a, .int .i64 b] w fun e w' => e = .returned (.bool true) ∧ Gr w w' := by
  subst hn
  have HBY := hide hby
  clear hby
  by_cases h1 : (250 : Int) < (l.length : Int)
  · go_enter Try.func3, Try.ntmps3
    go_wp2_with fail
    refine (begun_ok _).mono ?_
    rintro e w1 ⟨rfl, hg1⟩
    go_wp2_with fail
    go_ret
    exact ⟨rfl, hg1⟩
  go_enter Try.func3, Try.ntmps3
  go_wp2_with fail
  refine (begun_ok _).mono ?_
  rintro e w1 ⟨rfl, hg1⟩
  have HG1 := hide hg1
  clear hg1
  go_wp2_with fail
  refine (logs_ok A c l w1 (HBY.out.gr HG1.out) (by omega)).mono ?_
  rintro e w2 ⟨v, rfl, hlx, hg2⟩
  have HT := hide (logsL_10 l)
  generalize logsL l = ls at hlx HT
  have HLX := hide hlx
  replace HG1 := hide (HG1.out.trans hg2)
  obtain ⟨vA, vc, rfl, _⟩ := hlx.is
  clear hlx hg2
  have HOL := hide (order_len HT.out.len HT.out.each)
  have HOB := hide (order_bnd HT.out.bnd)
  have HA := hide (fun W v (h : LogsX W v ls) => All_ok v ls W h HT.out.len HT.out.each HT.out.bnd)
  have HRA := hide (fun W v (h : LogsX W v ls) => RefAll_ok v ls W h HT.out.len HT.out.each)
  have HH := hide (fun W v (h : LogsX W v ls) => Head_ok v ls W h HT.out.len HT.out.each)
  have HRH := hide (fun W v (h : LogsX W v ls) => RefHead_ok v ls W h HT.out.len HT.out.each)
  generalize orderL ls = o at HOL HOB HA HRA HH HRH
  obtain ⟨ps, hd⟩ := o
  go_wp2_with fail
  refine (HA.out w2 _ HLX.out).mono ?_
  rintro e w3 ⟨va, rfl, hpa, hg3, _⟩
  obtain ⟨aA, ac, rfl, _⟩ := hpa.is
  have HPA := hide hpa
  replace HG1 := hide (HG1.out.trans hg3)
  replace HLX := hide (HLX.out.gr hg3)
  clear hpa hg3 HA
  go_wp2_with fail
  refine (HRA.out w3 _ HLX.out).mono ?_
  rintro e w4 ⟨vb, rfl, hpb, hg4⟩
  obtain ⟨bA, bc, rfl, _⟩ := hpb.is
  have HPB := hide hpb
  replace HPA := hide (HPA.out.gr hg4)
  replace HG1 := hide (HG1.out.trans hg4)
  replace HLX := hide (HLX.out.gr hg4)
  clear hpb hg4 HRA
  have HF := hide (fun W v x y (h : PlX W v ps) => First_ok v ps x y W h HOL.out)
  have HRF := hide (fun W v x y (h : PlX W v ps) => RefFirst_ok v ps x y W h HOL.out)
  go_wp2_with fail
  refine (SamePlaces_ok _ _ ps ps w4 HPA.out HPB.out HOL.out HOB.out rfl).mono ?_
  rintro e w5 ⟨rfl, hg5⟩
  replace HPB := hide (HPB.out.gr hg5)
  replace HG1 := hide (HG1.out.trans hg5)
  replace HLX := hide (HLX.out.gr hg5)
  clear hg5 HPA
  go_wp2_with fail
  refine (HH.out w5 _ HLX.out).mono ?_
  rintro e w6 ⟨rfl, hg6⟩
  replace HPB := hide (HPB.out.gr hg6)
  replace HG1 := hide (HG1.out.trans hg6)
  replace HLX := hide (HLX.out.gr hg6)
  clear hg6 HH
  go_wp2_with fail
  refine (HRH.out w6 _ HLX.out).mono ?_
  rintro e w7 ⟨rfl, hg7⟩
  replace HPB := hide (HPB.out.gr hg7)
  replace HG1 := hide (HG1.out.trans hg7)
  clear hg7 HRH HLX
  go_wp2_with fail
  refine (HF.out w7 _ a b HPB.out).mono ?_
  rintro e w8 ⟨rfl, hg8⟩
  replace HPB := hide (HPB.out.gr hg8)
  replace HG1 := hide (HG1.out.trans hg8)
  clear hg8
  obtain ⟨f1, hf1⟩ : ∃ f1, firstL a b ps 0 = f1 := ⟨_, rfl⟩
  rw [hf1]
  go_wp2_with fail
  refine (HRF.out w8 _ a b HPB.out).mono ?_
  rintro e w9 ⟨rfl, rfl⟩
  rw [hf1]
  clear hf1
  go_wp2_with fail
  refine (HF.out w9 _ 1 2 HPB.out).mono ?_
  rintro e w10 ⟨rfl, hg8⟩
  replace HPB := hide (HPB.out.gr hg8)
  replace HG1 := hide (HG1.out.trans hg8)
  clear hg8
  obtain ⟨f2, hf2⟩ : ∃ f2, firstL 1 2 ps 0 = f2 := ⟨_, rfl⟩
  rw [hf2]
  go_wp2_with fail
  refine (HRF.out w10 _ 1 2 HPB.out).mono ?_
  rintro e w11 ⟨rfl, rfl⟩
  rw [hf2]
  clear hf2
  go_wp2_with fail
  go_ret
  exact ⟨rfl, HG1.out⟩

end Go.Proofs.Ytncdmecppfmmgaa
