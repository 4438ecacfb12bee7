/-
  The walk of 'FrameForms'.
-/
import Derived.Test.YtfcbhmfhhkifnaaFrameBegun
import Derived.Test.YtfcbhmfhhkifnaaFrameTakeRef
namespace Go.Proofs.Ytfcbhmfhhkifnaa
open Go.RowKit FrameMath

def YesForms (w : World) (e : Ending) (w' : World) : Prop := e = .returned (.bool true) ∧ Gr w w'

theorem nil_enc : enc [] = [0, 0, 65, 217, 18, 255] := by decide +kernel
theorem nil_put : putL [] = [0, 0, 65, 217, 18, 255] ∧ putB [] = true := by
  obtain ⟨p1, p2⟩ := putL_yes (l := []) (by decide)
  exact ⟨p1.trans nil_enc, p2⟩
theorem five_take : takeL [0, 0, 65, 217, 18] = [] ∧ takeK [0, 0, 65, 217, 18] = 0 ∧ takeB [0, 0, 65, 217, 18] = false := take_no (fun h => absurd h.1 (by decide))
theorem nil_all : all [0, 0, 65, 217, 18, 255, 7] = [[]] ∧ allK [0, 0, 65, 217, 18, 255, 7] = 6 := by
  have h : all [0, 0, 65, 217, 18, 255, 7] = [[]] := by
    have e : [0, 0, 65, 217, 18, 255, 7] = enc [] ++ [7] := by rw [nil_enc]; rfl
    rw [e, all_enc (by decide), all_not (fun h => absurd h.1 (by decide))]
  refine ⟨h, ?_⟩
  unfold allK
  rw [h]
  rfl
theorem by_made (w : World) (n : Nat) (e : TypeId) (hn : n ≤ maxLen) : ∃ Z : List UInt8, Z.length = n ∧ By (w.alloc (.cells (madeCells #[.int .u8 0] n) e)) (some ⟨w.heap.size, 0, none⟩) n Z := by
  refine ⟨List.replicate n 0, List.length_replicate, ?_⟩
  have h := by_new w e (List.replicate n 0) (by rw [List.length_replicate]; exact hn)
  rw [List.length_replicate] at h
  rw [made_zeros]
  exact h

set_option maxRecDepth 100000 in
set_option maxHeartbeats 400000 in
theorem walk_FrameForms (w : World) : Calls Try.prog 6 #[] w (YesForms w) := by
  have kc := fun (w : World) (C : Array Value) (n c : Nat) => Lib.run_convert_bytes_const (P := Try.prog) w 22 5 C n c Try.underlying22 Try.underlying5
  have m1 : ∀ w, (Instr.makeSlice 22 (.int .i64 60001) (.int .i64 60001)).run Try.prog w = .ok (.slice (some ⟨w.heap.size, 0, none⟩) 60001 60001) (w.alloc (.cells (madeCells #[.int .u8 0] 60001) 5)) := fun w => make_bytes w 60001 (by decide)
  have m2 : ∀ w, (Instr.makeSlice 22 (.int .i64 60000) (.int .i64 60000)).run Try.prog w = .ok (.slice (some ⟨w.heap.size, 0, none⟩) 60000 60000) (w.alloc (.cells (madeCells #[.int .u8 0] 60000) 5)) := fun w => make_bytes w 60000 (by decide)
  obtain ⟨i0, hi, hz0, hz1, hz2⟩ := info_parts info_u8'
  go_enter Try.func6, Try.ntmps6
  go_wp2_with fail
  refine (begun_ok _).mono ?_
  rintro e w1 ⟨rfl, hg1⟩
  go_wp2_with fail
  refine (Put_ok none 0 0 [] rfl _ ⟨Rd.nil _ _, by simp, by simp [maxLen], fun _ => rfl⟩ (by decide)).mono ?_
  rintro e w2 ⟨v2, t2, rfl, ho2, hg2⟩
  rw [nil_put.1] at ho2
  rw [nil_put.2]
  obtain ⟨A2, c2, rfl, hb2⟩ := ho2.by_
  clear ho2
  go_wp2_with fail
  obtain ⟨Z3, hZ3, hb3⟩ := by_made w2 60001 5 (by decide)
  refine (Put_ok _ 60001 60001 Z3 hZ3.symm _ hb3 (by rw [hZ3]; decide)).mono ?_
  rintro e w3 ⟨v3, t3, rfl, ho3, hg3⟩
  obtain ⟨p1, p2⟩ := putL_no (l := Z3) (by rw [hZ3]; decide)
  rw [p1] at ho3
  rw [p2]
  replace hg3 := ((Gr.refl w2).alloc _).trans hg3
  clear p1 p2 hb3 hZ3 m1
  obtain ⟨A3, c3, rfl, hb3⟩ := ho3.by_
  clear ho3 hb3
  go_wp2_with fail
  obtain ⟨Z4, hZ4, hb4⟩ := by_made w3 60000 5 (by decide)
  refine (Put_ok _ 60000 60000 Z4 hZ4.symm _ hb4 (by rw [hZ4]; decide)).mono ?_
  rintro e w4 ⟨v4, t4, rfl, ho4, hg4⟩
  obtain ⟨p1, p2⟩ := putL_yes (l := Z4) (by rw [hZ4]; decide)
  rw [p1] at ho4
  rw [p2]
  replace hg4 := ((Gr.refl w3).alloc _).trans hg4
  have hel := enc_length Z4
  rw [hZ4] at hel
  obtain ⟨A4, c4, rfl, hb4⟩ := ho4.by_
  rw [hel]
  clear ho4 hb4 p1 p2 hel hZ4 m2
  go_wp2_with fail
  refine (Take_ok _ _ _ [0, 0, 65, 217, 18] rfl _ (by_lit w4 5 [0, 0, 65, 217, 18] _ (by decide)) (by decide)).mono ?_
  rintro e w5 ⟨A5, c5, rfl, hb5, hg5⟩
  rw [five_take.1, five_take.2.1, five_take.2.2]
  replace hg5 := ((Gr.refl w4).alloc _).trans hg5
  have hg25 := hg3.trans (hg4.trans hg5)
  replace hb2 := hb2.gr hg25
  clear hb5 kc
  go_wp2_with (at_builtin; first | (refine wpList_app rfl (.tmp 36) (.tmp 37) _ rfl 5 i0 Try.underlying22 hi hz0 hz1 hz2 (r := [0, 0, 65, 217, 18, 255]) rfl rfl (own_empty w5 5 (Gr.refl w5)) ((Gr.refl w5).alloc _) rfl (hb2.gr ((Gr.refl w5).alloc _)).rd hb2.nil (by simp) ?_; intro v6 w6 ho6 hg6) | (refine wpList_push rfl (.tmp 38) (.tmp 39) _ rfl 5 i0 Try.underlying22 hi hz0 hz1 hz2 (b := 7) rfl rfl ho6 hg6 rfl (by simp) ?_; intro v7 w7 ho7 hg7))
  rw [List.nil_append] at ho7
  obtain ⟨A7, c7, rfl, hb7⟩ := ho7.by_
  clear ho7 ho6 hg6
  refine (All_ok A7 _ c7 _ rfl _ hb7 (by decide)).mono ?_
  rintro e w8 ⟨A8, c8, rfl, hr8, hg8⟩
  rw [show [0, 0, 65, 217, 18, 255] ++ [7] = ([0, 0, 65, 217, 18, 255, 7] : List UInt8) from rfl] at hr8 ⊢
  rw [nil_all.1] at hr8 ⊢
  rw [nil_all.2]
  replace hb2 := hb2.gr (hg7.trans hg8)
  have hgw := hide (hg1.trans (hg2.trans (hg25.trans (hg7.trans hg8))))
  clear hb7 hg1 hg2 hg3 hg4 hg5 hg7 hg8 hg25
  have hle := hb2.le
  have hc2 : ¬ c2 = 2 := by simp at hle; omega
  obtain ⟨ad, rfl, k0⟩ := hb2.cell 0 (by simp)
  obtain ⟨ad', e', k1⟩ := hb2.cell 1 (by simp)
  injection e' with e'
  subst e'
  rw [add_zero_] at k0
  rw [Addr.add_succ'] at k1
  have k0' : w8.cell? ad = some (.int .u8 0) := k0
  have k1' : w8.cell? ⟨ad.block, ad.off + 1, none⟩ = some (.int .u8 0) := k1
  have hcut := hb2.cut 2 6 (by decide) (by decide)
  rw [if_neg hc2] at hcut
  have hrd : Rd w8 (some ⟨ad.block, ad.off + 2, none⟩) [65, 217, 18, 255] := by
    have e : ad.add 2 = ⟨ad.block, ad.off + 2, none⟩ := Addr.add_succ' ad 1
    rw [← e]
    exact hcut.rd
  have kv : (convert 22 9 (.slice (some ⟨ad.block, ad.off + 2, none⟩) 4 (c2 - 2))).run Try.prog w8 = .ok (.string ⟨#[65, 217, 18, 255]⟩) w8 := run_conv w8 22 9 5 Try.underlying22 Try.underlying5 Try.underlying9 4 (c2 - 2) rfl hrd
  obtain ⟨a8, rfl, B8, d8, k8, _⟩ := hr8.rd 0 (by simp)
  rw [add_zero_] at k8
  have k8' : w8.cell? a8 = some (.slice B8 0 d8) := k8
  have hcI : (6 : Int) ≤ (c2 : Int) := by simp at hle; omega
  clear hcut hrd k0 k1 k8 hr8 hb2 hle hi hz0 hz1 hz2 hb4
  go_wp2_with fail
  go_ret
  exact ⟨rfl, hgw.out⟩

end Go.Proofs.Ytfcbhmfhhkifnaa
