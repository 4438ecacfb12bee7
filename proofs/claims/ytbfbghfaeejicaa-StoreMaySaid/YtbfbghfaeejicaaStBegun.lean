/-
  The law's begun, by its contract.
-/
import Derived.Test.YtbfbghfaeejicaaStTrim
import Derived.Test.YtbfbghfaeejicaaStSpan
import Derived.Test.YtbfbghfaeejicaaStMay
import Derived.Test.YtbfbghfaeejicaaStSame
import Derived.Test.YtbfbghfaeejicaaStFacts
namespace Go.Proofs.Ytbfbghfaeejicaa
open Go Go.RowKit ChMath KeyMath StMath TxnMath
set_option maxRecDepth 100000

def kA : ByteArray := ⟨#[97]⟩
def kB : ByteArray := ⟨#[98]⟩
def tV : ByteArray := ⟨#[118]⟩
def wsB : List WrT := [⟨kB, tV, false⟩, ⟨kA, nothing, true⟩]
def csB : List ChT := [⟨kA, [⟨3, nothing, true⟩]⟩, ⟨kB, [⟨3, tV, false⟩]⟩]
theorem wsB_is : writeC 3 wsB [] = csB := by kernel_rfl
theorem csB_get : getS ⟨csB, 0⟩ kB 3 = (⟨kB, 3, tV, true⟩, 0) := by kernel_rfl
theorem csB_span : spanS ⟨csB, 0⟩ nothing nothing 5 = ([⟨kB, 3, tV, true⟩], 0) := by kernel_rfl
theorem csB_trim : trimS ⟨csB, 0⟩ 9 = ⟨csB, 9⟩ := by kernel_rfl
theorem csB_old : getS ⟨csB, 9⟩ kB 8 = (noRd, 4) := by kernel_rfl
theorem csB_last : lastP (findC kA csB) = 3 := by kernel_rfl
theorem csB_may : mayS ⟨csB, 0⟩ = true := by kernel_rfl
theorem csB_len : CsLen csB := ⟨by decide, fun c hc => by
  simp only [csB, List.mem_cons, List.not_mem_nil, or_false] at hc
  rcases hc with rfl | rfl <;> simp⟩
theorem csB_big : CsBig csB := fun c hc => by
  simp only [csB, List.mem_cons, List.not_mem_nil, or_false] at hc
  rcases hc with rfl | rfl
  · exact ⟨by decide, fun v hv => by rw [List.mem_singleton.1 hv]; decide⟩
  · exact ⟨by decide, fun v hv => by rw [List.mem_singleton.1 hv]; decide⟩
theorem row_lit {w : World} {g k n : Nat} {t : TypeId} {cs : Array Value} {rs : List (List Value)} (hb : Bl w g t cs) (hr : ∀ r ∈ rs, r.length = k) (hc : cs.toList = rs.flatten) (hn : rs.length = n) : RowAt k w (.slice (some ⟨g, 0, none⟩) n n) rs := by
  subst hn
  refine ⟨some ⟨g, 0, none⟩, rs.length, rfl, Nat.le_refl _, fun j i r u hj hi => ⟨_, rfl, ?_⟩⟩
  have hf := flatten_at hr hj hi
  rw [Addr.add_lit, Nat.zero_add, hb.cell, ← Array.getElem?_toList, hc]
  exact hf

set_option maxHeartbeats 8000000 in
theorem stBegun_ok (w : World) : Calls Try.prog 8 #[] w fun e w' => e = .returned (.bool true) ∧ Gr w w' := by
  have HW := hide (fun W g (h : RowAt 3 W (.slice (some ⟨g, 0, none⟩) 2 2) (wsB.map wrC)) => Write_ok (.slice none 0 0) 0 3 [] _ wsB W (ChnsX.nil _ _ _) 0 ⟨Nat.le_refl _, fun c hc => by simp at hc⟩ (by decide) h)
  rw [wsB_is] at HW
  have HG := hide (fun W u (h : ChnsX W u csB) => Get_ok ⟨csB, 0⟩ kB 3 u W h csB_len)
  have HS := hide (fun W u (h : ChnsX W u csB) => Span_ok ⟨csB, 0⟩ nothing nothing 5 u W h csB_len)
  have HT := hide (fun W u (h : ChnsX W u csB) => StTrim_ok ⟨csB, 0⟩ u 9 W h csB_len)
  have HO := hide (fun W u (h : ChnsX W u csB) => Get_ok ⟨csB, 9⟩ kB 8 u W h csB_len)
  have HL := hide (fun W u (h : ChnsX W u csB) => StLast_ok kA u 0 csB W h csB_len)
  have HM := hide (fun W u (h : ChnsX W u csB) => StMay_ok ⟨csB, 0⟩ u W h csB_len csB_big)
  have HQ := hide (fun W u (h : ChnsX W u csB) => StSame_ok ⟨csB, 0⟩ ⟨csB, 0⟩ u u W h h csB_len)
  have HN := hide (fun W u v (h : ChnsX W u csB) (h2 : ChnsX W v csB) => StSame_ok ⟨csB, 0⟩ ⟨csB, 9⟩ u v W h h2 csB_len)
  unfold GetPost at HG HO
  unfold SpanPost at HS
  unfold StPost at HT HW
  rw [csB_get] at HG
  rw [csB_span] at HS
  rw [csB_trim] at HT
  rw [csB_old] at HO
  rw [csB_last] at HL
  rw [csB_may] at HM
  rw [decide_eq_true rfl] at HQ
  rw [decide_eq_false (p := (⟨csB, 0⟩ : StT) = ⟨csB, 9⟩) (fun e => by injection e with _ e; cases e)] at HN
  simp only [rdA, noRd, kA, kB, tV, nothing] at HG HS HO HL
  go_enter Try.func8, Try.ntmps8
  go_wp2_with fail
  refine (HW.out _ _ (row_lit (Bl.new w 59 #[.string ⟨#[98]⟩, .string ⟨#[118]⟩, .bool false, .string ⟨#[97]⟩, .string ⟨#[]⟩, .bool true]) (fun r hr => by obtain ⟨x, _, rfl⟩ := List.mem_map.1 hr; rfl) rfl rfl)).mono ?_
  rintro e w1 ⟨u1, rfl, hu1, hg1⟩
  have HG1 := hide (((Gr.refl w).alloc _).trans hg1)
  have HU1 := hide hu1
  obtain ⟨ad, c1, pp, hue, _, r0, _⟩ := hu1.at_ (k := 0) (by decide)
  subst hue
  rw [Nat.zero_mul, add_zero_] at r0
  replace r0 : w1.cell? ad = some (.string ⟨#[97]⟩) := r0
  rw [show csB.length = 2 from rfl] at HU1 ⊢
  have HR0 := hide r0
  clear hu1 hg1 r0
  go_upto_region 2 with (fail)
  obtain ⟨W2, hW2⟩ : ∃ W2, w1.alloc (.cells #[.slice (some ad) 2 c1, .int .i64 0] 26) = W2 := ⟨_, rfl⟩
  have hg2 : Gr w1 W2 := by rw [← hW2]; exact (Gr.refl _).alloc _
  have hb2 : Bl W2 w1.heap.size 26 #[.slice (some ad) 2 c1, .int .i64 0] := by rw [← hW2]; exact Bl.new _ _ _
  rw [hW2]
  obtain ⟨g1, hg1e⟩ : ∃ g1, w1.heap.size = g1 := ⟨_, rfl⟩
  rw [hg1e] at hb2 ⊢
  have HB1 := hide hb2
  have HG2 := hide (HG1.out.trans hg2)
  have HU2 := hide (HU1.out.gr hg2)
  have HR2 := hide (gr_cell hg2 _ _ HR0.out)
  have k0 : W2.cell? ⟨g1, 0, none⟩ = some (.slice (some ad) 2 c1) := hb2.cell 0
  have k1 : W2.cell? ⟨g1, 1, none⟩ = some (.int .i64 0) := hb2.cell 1
  clear hW2 hg2 hb2 hg1e HU1 HG1 HR0
  go_wp2_with fail
  refine (HG.out _ _ HU2.out).mono ?_
  rintro e w3 ⟨rfl, hg3⟩
  go_upto_region 3 with (fail)
  obtain ⟨W3, hW3⟩ : ∃ W3, w3.alloc (.cells #[.string ⟨#[98]⟩, .int .i64 3, .string ⟨#[118]⟩, .bool true] 40) = W3 := ⟨_, rfl⟩
  have hg4 : Gr W2 W3 := by rw [← hW3]; exact hg3.alloc _
  have hb4 : Bl W3 w3.heap.size 40 #[.string ⟨#[98]⟩, .int .i64 3, .string ⟨#[118]⟩, .bool true] := by rw [← hW3]; exact Bl.new _ _ _
  rw [hW3]
  obtain ⟨g2, hg2e⟩ : ∃ g2, w3.heap.size = g2 := ⟨_, rfl⟩
  rw [hg2e] at hb4 ⊢
  have HB2 := hide hb4
  have HG3 := hide hg4
  have k0 : W3.cell? ⟨g1, 0, none⟩ = some (.slice (some ad) 2 c1) := (HB1.out.gr hg4).cell 0
  have k1 : W3.cell? ⟨g1, 1, none⟩ = some (.int .i64 0) := (HB1.out.gr hg4).cell 1
  clear hW3 hg4 hb4 hg2e hg3
  go_wp2_with fail
  refine (HS.out _ _ (HU2.out.gr HG3.out)).mono ?_
  rintro e w4 ⟨u4, rfl, hu4, hg4⟩
  obtain ⟨A4, c4, rfl⟩ := hu4.is
  simp only [List.length_cons, List.length_nil, Nat.zero_add]
  have HG4 := hide (HG3.out.trans hg4)
  have HB22 := hide (HB2.out.gr hg4)
  have k0 : w4.cell? ⟨g1, 0, none⟩ = some (.slice (some ad) 2 c1) := (HB1.out.gr HG4.out).cell 0
  have k1 : w4.cell? ⟨g1, 1, none⟩ = some (.int .i64 0) := (HB1.out.gr HG4.out).cell 1
  clear hu4 hg4 HB2
  go_wp2_with fail
  refine (HT.out _ _ (HU2.out.gr HG4.out)).mono ?_
  rintro e w5 ⟨u5, rfl, hu5, hg5⟩
  have HU5 := hide hu5
  obtain ⟨A5, c5, rfl⟩ := hu5.is
  rw [show csB.length = 2 from rfl] at HU5 ⊢
  go_upto_region 5 with (fail)
  obtain ⟨W5, hW5⟩ : ∃ W5, w5.alloc (.cells #[.slice A5 2 c5, .int .i64 9] 26) = W5 := ⟨_, rfl⟩
  have hg6 : Gr w5 W5 := by rw [← hW5]; exact (Gr.refl _).alloc _
  have hb5 : Bl W5 w5.heap.size 26 #[.slice A5 2 c5, .int .i64 9] := by rw [← hW5]; exact Bl.new _ _ _
  rw [hW5]
  obtain ⟨g5, hg5e⟩ : ∃ g5, w5.heap.size = g5 := ⟨_, rfl⟩
  rw [hg5e] at hb5 ⊢
  have HB5 := hide hb5
  have HG5 := hide (HG4.out.trans (hg5.trans hg6))
  have HB23 := hide (HB22.out.gr (hg5.trans hg6))
  have HU6 := hide (HU5.out.gr hg6)
  have k0 : W5.cell? ⟨g5, 0, none⟩ = some (.slice A5 2 c5) := hb5.cell 0
  have k1 : W5.cell? ⟨g5, 1, none⟩ = some (.int .i64 9) := hb5.cell 1
  clear hW5 hg6 hb5 hg5e hg5 hu5 HU5 HB22
  go_wp2_with fail
  refine (HO.out _ _ HU6.out).mono ?_
  rintro e w6 ⟨rfl, hg6⟩
  go_upto_region 6 with (fail)
  obtain ⟨W6, hW6⟩ : ∃ W6, w6.alloc (.cells #[.string ⟨#[]⟩, .int .i64 0, .string ⟨#[]⟩, .bool false] 40) = W6 := ⟨_, rfl⟩
  have hg7 : Gr W5 W6 := by rw [← hW6]; exact hg6.alloc _
  rw [hW6]
  have HG6 := hide (HG5.out.trans hg7)
  have HB54 := hide (HB5.out.gr hg7)
  have HU7 := hide (HU6.out.gr hg7)
  have hb2 := HB23.out.gr hg7
  have r0 : W6.cell? ad = some (.string ⟨#[97]⟩) := gr_cell HG6.out _ _ HR2.out
  have k0 : W6.cell? ⟨g1, 0, none⟩ = some (.slice (some ad) 2 c1) := (HB1.out.gr HG6.out).cell 0
  have k1 : W6.cell? ⟨g1, 1, none⟩ = some (.int .i64 0) := (HB1.out.gr HG6.out).cell 1
  have b0 : W6.cell? ⟨g2, 0, none⟩ = some (.string ⟨#[98]⟩) := hb2.cell 0
  have b1 : W6.cell? ⟨g2, 1, none⟩ = some (.int .i64 3) := hb2.cell 1
  have b2 : W6.cell? ⟨g2, 2, none⟩ = some (.string ⟨#[118]⟩) := hb2.cell 2
  have b3 : W6.cell? ⟨g2, 3, none⟩ = some (.bool true) := hb2.cell 3
  have t1 : W6.cell? ⟨g5, 1, none⟩ = some (.int .i64 9) := HB54.out.cell 1
  clear hW6 hg6 hg7 hb2 HU6 HB5 HB23 HG5 HG4 HG3
  go_wp2_with fail
  refine (HL.out _ _ (HU2.out.gr HG6.out)).mono ?_
  rintro e w7 ⟨rfl, hg7⟩
  have HG7 := hide (HG6.out.trans hg7)
  have k0 : w7.cell? ⟨g1, 0, none⟩ = some (.slice (some ad) 2 c1) := (HB1.out.gr HG7.out).cell 0
  have k1 : w7.cell? ⟨g1, 1, none⟩ = some (.int .i64 0) := (HB1.out.gr HG7.out).cell 1
  have HB55 := hide (HB54.out.gr hg7)
  have HU8 := hide (HU7.out.gr hg7)
  clear hg7 r0 b0 b1 b2 b3 t1 HB54 HU7
  go_wp2_with fail
  refine (HM.out _ _ (HU2.out.gr HG7.out)).mono ?_
  rintro e w8 ⟨rfl, hg8⟩
  have HG8 := hide (HG7.out.trans hg8)
  have k0 : w8.cell? ⟨g1, 0, none⟩ = some (.slice (some ad) 2 c1) := (HB1.out.gr HG8.out).cell 0
  have k1 : w8.cell? ⟨g1, 1, none⟩ = some (.int .i64 0) := (HB1.out.gr HG8.out).cell 1
  have HB56 := hide (HB55.out.gr hg8)
  have HU9 := hide (HU8.out.gr hg8)
  clear hg8 HB55 HU8
  go_wp2_with fail
  refine (HQ.out _ _ (HU2.out.gr HG8.out)).mono ?_
  rintro e w9 ⟨rfl, hg9⟩
  have HG9 := hide (HG8.out.trans hg9)
  have k0 : w9.cell? ⟨g1, 0, none⟩ = some (.slice (some ad) 2 c1) := (HB1.out.gr HG9.out).cell 0
  have k1 : w9.cell? ⟨g1, 1, none⟩ = some (.int .i64 0) := (HB1.out.gr HG9.out).cell 1
  have t0 : w9.cell? ⟨g5, 0, none⟩ = some (.slice A5 2 c5) := (HB56.out.gr hg9).cell 0
  have t1 : w9.cell? ⟨g5, 1, none⟩ = some (.int .i64 9) := (HB56.out.gr hg9).cell 1
  have HUA := hide (HU9.out.gr hg9)
  clear hg9 HB56 HU9
  go_wp2_with fail
  refine (HN.out _ _ _ (HU2.out.gr HG9.out) HUA.out).mono ?_
  rintro e w10 ⟨rfl, hg10⟩
  have HGE := hide (HG2.out.trans (HG9.out.trans hg10))
  clear hg10 t0 t1 k0 k1
  go_wp2_with fail
  go_ret
  exact ⟨rfl, HGE.out⟩
end Go.Proofs.Ytbfbghfaeejicaa
