/-
  The walk of 'TxnBack'.
-/
import Derived.Test.YtjpdhijhmpdbnaaTxnMade
namespace Go.Proofs.Ytjpdhijhmpdbnaa
open Go Go.RowKit TxnMath KeyMath NumPlain TakeMath
set_option maxRecDepth 100000

set_option maxRecDepth 100000 in
set_option maxHeartbeats 1000000 in
theorem walk_TxnBack (w : World) (A : Option Addr) (n c : Nat) (l : List UInt8) (hn : n = l.length) (hby : By w A c l) (B : Option Addr) (m d : Nat) (r : List UInt8) (hm : m = r.length) (hbr : By w B d r) (cut : Int) (hcut : (Lit.int .u16 cut).wf = true) :
    Calls Try.prog 3 #[.slice A n c, .slice B m d, .int .u16 cut] w fun e w' => e = .returned (.bool true) ∧ Gr w w' := by
  subst hn hm
  have hc2 : 0 ≤ cut ∧ cut ≤ 65535 := by simpa [Lit.wf, IntKind.min, IntKind.max, IntKind.signed, IntKind.bits] using hcut
  clear hcut
  obtain ⟨i0, hi, hz0, hz1, hz2⟩ := info_parts info_u8
  have HBY := hide hby
  have HBR := hide hbr
  clear hby hbr
  by_cases h1 : (30 : Int) < (l.length : Int)
  · go_enter Try.func3, Try.ntmps3
    go_wp2_with fail
    refine (begun_ok _).mono ?_
    rintro e w1 ⟨rfl, hg1⟩
    go_wp2_with fail
    go_ret
    exact ⟨rfl, hg1⟩
  by_cases h2 : (20 : Int) < (r.length : Int)
  · go_enter Try.func3, Try.ntmps3
    go_wp2_with fail
    refine (begun_ok _).mono ?_
    rintro e w1 ⟨rfl, hg1⟩
    go_wp2_with fail
    go_ret
    exact ⟨rfl, hg1⟩
  go_enter Try.func3, Try.ntmps3
  go_wp2_with fail
  refine (begun_ok _).mono ?_
  rintro e w1 ⟨rfl, hg1⟩
  go_wp2_with fail
  refine (Made_ok A c l w1 (HBY.out.gr hg1)).mono ?_
  rintro e w2 ⟨rfl, hg2, hpk⟩
  go_wp2_with fail
  refine (Txn_ok w1.heap.size A c l 0 200 (by decide) (by omega) w2 hpk).mono ?_
  intro e w3 hp
  obtain ⟨ta, tb, tA, tn, tc, tB, tm, td, rfl, htx, hb3⟩ := hp.made
  have hmay := txP_may l 0 200
  have hhi := txP_hi l 0 200 (by decide)
  have hlim := txP_lim l 0 200 (by decide)
  clear hp hpk
  generalize (txP l 0 200).1 = t at htx hmay hhi hlim
  have hg3 : Gr w w3 := (hg1.trans hg2).fresh hb3 hg1.size
  clear hg1 hg2 hb3
  have HTX := hide htx
  have HLIM := hide hlim
  have HTK := hide (fun r => taken_put hmay hhi r)
  have HTC := hide (fun j hj => taken_cut hmay hhi j hj)
  have hlen := encT_len hmay
  have HPUT := hide (put_may hmay)
  have HMAY := hide hmay
  clear htx hlim hmay hhi
  go_wp2_with fail
  have hg4 : Gr w (w3.alloc (.cells #[.int .i64 ta, .int .i64 tb, .slice tA tn tc, .slice tB tm td] 28)) := hg3.alloc _
  have hX4 := Bl.new w3 28 #[.int .i64 ta, .int .i64 tb, .slice tA tn tc, .slice tB tm td]
  have hT4 := HTX.out.gr ((Gr.refl w3).alloc (.cells #[.int .i64 ta, .int .i64 tb, .slice tA tn tc, .slice tB tm td] 28))
  generalize w3.alloc (.cells #[.int .i64 ta, .int .i64 tb, .slice tA tn tc, .slice tB tm td] 28) = w4 at hg4 hX4 hT4 ⊢
  generalize w3.heap.size = gT at hX4 ⊢
  clear HTX hg3
  refine (TxPut_ok _ t w4 hT4 HLIM.out).mono ?_
  rintro e w5 ⟨pA, pc, rfl, hbyP, hg5⟩
  rw [HPUT.out] at hbyP ⊢
  have HX4 := hide hX4
  have HT4 := hide hT4
  have HBP := hide hbyP
  obtain ⟨E, hE⟩ : ∃ E, encT t = E := ⟨_, rfl⟩
  rw [hE] at hlen HBP HTK HTC ⊢
  clear hE hX4 hT4 hbyP HPUT
  have hg05 := hg4.trans hg5
  obtain ⟨t0, t1, t2, t3⟩ := (HX4.out.gr hg5).four
  have hne : ¬ (E.length : Int) = 0 := by omega
  have hnb := beq_no hne
  go_wp2_with fail
  refine (TxMay_ok _ t w5 (HT4.out.gr hg5) HLIM.out).mono ?_
  rintro e w6 ⟨rfl, hg6⟩
  rw [HMAY.out]
  have hg46 := hg5.trans hg6
  have hg06 := hg05.trans hg6
  have hbP6 := HBP.out.gr hg6
  clear t0 t1 t2 t3 hg5
  go_wp2_with (at_builtin; first | (refine wpList_app rfl (.tmp 39) (.tmp 40) _ rfl 5 i0 Try.underlying22 hi hz0 hz1 hz2 (r := E) rfl rfl (own_empty w6 5 (Gr.refl w6)) ((Gr.refl w6).alloc _) rfl (hbP6.gr ((Gr.refl w6).alloc _)).rd hbP6.nil (by simp; omega) ?_; intro v3 w7 ho3 hg7) | (refine wpList_app rfl (.tmp 41) (.tmp 42) _ rfl 5 i0 Try.underlying22 hi hz0 hz1 hz2 (r := r) rfl rfl ho3 hg7 rfl (HBR.out.gr (hg06.trans hg7)).rd HBR.out.nil (by simp; omega) ?_; intro v4 w8 ho4 hg8))
  rw [List.nil_append] at ho4
  obtain ⟨A4, c4, rfl, hb4⟩ := ho4.by_
  have hg08 := hg06.trans hg8
  have hg48 := hg46.trans hg8
  have hg58 := hg6.trans hg8
  clear ho4 ho3 hg7 hbP6 hg05 hg06 hg46
  refine (TxTake_ok A4 _ c4 (E ++ r) rfl w8 hb4 (by rw [List.length_append]; omega)).mono ?_
  rintro e w9 ⟨v9, rfl, htx9, hg9⟩
  rw [(HTK.out r).1] at htx9
  rw [(HTK.out r).2.1, (HTK.out r).2.2]
  obtain ⟨xa, xb, xA, xn, xc, xB, xm, xd, rfl⟩ := htx9.shape
  have hg09 := hg08.trans hg9
  have hg49 := hg48.trans hg9
  have hg59 := hg58.trans hg9
  have HX9 := hide htx9
  clear htx9 hb4 hg08 hg48 hg58 hg9 hg8
  have hq0 : 0 ≤ cut % (E.length : Int) := Int.emod_nonneg _ (by omega)
  have hq1 : cut % (E.length : Int) < (E.length : Int) := Int.emod_lt_of_pos _ (by omega)
  obtain ⟨j, hj⟩ : ∃ j : Nat, cut % (E.length : Int) = (j : Int) := ⟨(cut % (E.length : Int)).toNat, by omega⟩
  rw [hj] at hq0 hq1
  have hq2 : (E.length : Int) ≤ (pc : Int) := by have := HBP.out.le; omega
  go_wp2_with fail
  have hX10 := Bl.new w9 28 #[.int .i64 xa, .int .i64 xb, .slice xA xn xc, .slice xB xm xd]
  have hal := (Gr.refl w9).alloc (.cells #[.int .i64 xa, .int .i64 xb, .slice xA xn xc, .slice xB xm xd] 28)
  generalize w9.alloc (.cells #[.int .i64 xa, .int .i64 xb, .slice xA xn xc, .slice xB xm xd] 28) = w10 at hX10 hal ⊢
  generalize w9.heap.size = gX at hX10 ⊢
  have hjE : j < E.length := by omega
  have hlj : (E.take j).length = j := by rw [List.length_take]; omega
  refine (TxTake_ok pA j pc (E.take j) hlj.symm w10 ((HBP.out.gr (hg59.trans hal)).take j) (by omega)).mono ?_
  rintro e w11 ⟨v11, rfl, htx11, hg11⟩
  rw [(HTC.out j hjE).1] at htx11
  rw [(HTC.out j hjE).2.1, (HTC.out j hjE).2.2]
  obtain ⟨ya, yb, yA, yn, yc, yB, ym, yd, rfl⟩ := htx11.shape
  have hg0x := hg09.trans (hal.trans hg11)
  have hg4x := hg49.trans (hal.trans hg11)
  have hX12 := hX10.gr (hg11.trans ((Gr.refl w11).alloc (.cells #[.int .i64 ya, .int .i64 yb, .slice yA yn yc, .slice yB ym yd] 28)))
  have hT12 := HX4.out.gr (hg4x.trans ((Gr.refl w11).alloc (.cells #[.int .i64 ya, .int .i64 yb, .slice yA yn yc, .slice yB ym yd] 28)))
  obtain ⟨t0, t1, t2, t3⟩ := hT12.four
  obtain ⟨x0, x1, x2, x3⟩ := hX12.four
  have HS := hide (fun w' (h9 : Gr w9 w') (h4 : Gr w4 w') => SameTxn_ok _ _ t t w' (HX9.out.gr h9) (HT4.out.gr h4) (by have := HLIM.out.rn; omega) (by have := HLIM.out.rn; omega) (by have := HLIM.out.wn; omega))
  rw [decide_eq_true rfl] at HS
  have hal2 := (Gr.refl w11).alloc (.cells #[.int .i64 ya, .int .i64 yb, .slice yA yn yc, .slice yB ym yd] 28)
  have hg9y := hal.trans (hg11.trans hal2)
  have hg4y := hg4x.trans hal2
  have hg0y := hg0x.trans hal2
  clear htx11 hX10 hal hg09 hg49 hg59 hg0x hg4x hX12 hT12 hg11 hq0 hq1 hq2 hj hnb hne
  go_wp2_with fail
  refine (HS.out _ hg9y hg4y).mono ?_
  rintro e w13 ⟨rfl, hg13⟩
  go_wp2_with fail
  go_ret
  exact ⟨rfl, hg0y.trans hg13⟩

end Go.Proofs.Ytjpdhijhmpdbnaa
