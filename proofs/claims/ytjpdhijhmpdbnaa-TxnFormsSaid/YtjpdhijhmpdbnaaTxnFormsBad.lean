/-
  The transactions of 'TxnForms': the good one, the sixteen bad ones; that they may be, or not.
-/
import Derived.Test.YtjpdhijhmpdbnaaTxnFormsPlan
namespace Go.Proofs.Ytjpdhijhmpdbnaa
open Go Go.RowKit TxnMath KeyMath
open Go.Proofs.Ytjpdhijhmpdbnaa.Flow (HitG Sees LaidG RowN)
set_option maxRecDepth 100000

def sA : ByteArray := ⟨#[97]⟩
def sB : ByteArray := ⟨#[98]⟩
def sV : ByteArray := ⟨#[118]⟩
def s0 : ByteArray := ⟨#[]⟩
def sX : ByteArray := ⟨#[120]⟩
def sC : ByteArray := ⟨#[99]⟩
def s16 : ByteArray := ⟨#[115, 105, 120, 116, 101, 101, 110, 45, 98, 121, 116, 101, 115, 45, 111, 107]⟩
def s17 : ByteArray := ⟨#[115, 101, 118, 101, 110, 116, 101, 101, 110, 45, 98, 121, 116, 101, 115, 45, 120]⟩
def s9 : ByteArray := ⟨#[110, 105, 110, 101, 45, 98, 121, 116, 101]⟩
def gR0 : RdT := ⟨sA, 3, sV, true⟩
def gR1 : RdT := ⟨sB, 2, s0, false⟩
def gW0 : WrT := ⟨sA, s0, true⟩
def gW1 : WrT := ⟨sB, s16, false⟩
def goodT : TxT := ⟨9, 1000, [gR0, gR1], [gW0, gW1]⟩
def zR : RdT := ⟨s0, 0, s0, false⟩
def zW : WrT := ⟨s0, s0, false⟩
/-- the bad ones -/
def bads : List TxT := [⟨0, 1000, [gR0, gR1], [gW0, gW1]⟩, ⟨10, 1000, [gR0, gR1], [gW0, gW1]⟩, ⟨9, 0, [gR0, gR1], [gW0, gW1]⟩, ⟨9, 1001, [gR0, gR1], [gW0, gW1]⟩,
  ⟨9, 1000, [gR0, ⟨sA, 2, s0, false⟩], [gW0, gW1]⟩, ⟨9, 1000, [⟨s0, 3, sV, true⟩, gR1], [gW0, gW1]⟩, ⟨9, 1000, [⟨sA, -1, sV, true⟩, gR1], [gW0, gW1]⟩, ⟨9, 1000, [⟨sA, 0, sV, true⟩, gR1], [gW0, gW1]⟩,
  ⟨9, 1000, [gR0, ⟨sB, 2, sX, false⟩], [gW0, gW1]⟩, ⟨9, 1000, [⟨sA, 3, s17, true⟩, gR1], [gW0, gW1]⟩, ⟨9, 1000, [gR0, gR1], [⟨sA, sX, true⟩, gW1]⟩, ⟨9, 1000, [gR0, gR1], [gW0, ⟨sB, s17, false⟩]⟩,
  ⟨9, 1000, [gR0, gR1], [⟨sC, s0, true⟩, gW1]⟩, ⟨9, 1000, [gR0, gR1], [gW0, ⟨s9, s16, false⟩]⟩, ⟨9, 1000, List.replicate 7 zR, [gW0, gW1]⟩, ⟨9, 1000, [gR0, gR1], List.replicate 5 zW⟩]

theorem bads_no : bads.all (fun t => !mayT t) = true := by
  simp only [bads, mayT, List.all_cons, List.all_nil, rdOk, wrOk, empty, nothing, risingK, risesTo, ByteArray.toList_eq]
  decide +kernel
theorem good_may : mayT goodT = true := by
  simp only [goodT, mayT, List.all_cons, List.all_nil, rdOk, wrOk, empty, nothing, risingK, risesTo, ByteArray.toList_eq]
  decide +kernel
theorem bads_ne : bads.all (fun t => !decide (t = goodT)) = true := by decide +kernel

theorem bad_at (z : Nat) (hz : z < 16) : mayT (bads.getD z goodT) = false ∧ decide (bads.getD z goodT = goodT) = false := by
  have hl : z < bads.length := hz
  have hm : bads.getD z goodT ∈ bads := by rw [List.getD_eq_getElem?_getD, List.getElem?_eq_getElem hl]; exact List.getElem_mem hl
  have h1 := List.all_eq_true.1 bads_no _ hm
  have h2 := List.all_eq_true.1 bads_ne _ hm
  simpa using And.intro h1 h2
def limB (t : TxT) : Bool := decide (-9223372036854775808 ≤ t.ses) && decide (t.ses ≤ 9223372036854775807) && decide (-9223372036854775808 ≤ t.seq) && decide (t.seq ≤ 9223372036854775807) && decide (t.reads.length ≤ 1000000) && decide (t.writes.length ≤ 1000000) &&
  (t.reads.all fun x => decide (x.key.size ≤ 1000000) && decide (x.val.size ≤ 1000000) && decide (-9223372036854775808 ≤ x.ver) && decide (x.ver ≤ 9223372036854775807)) && (t.writes.all fun x => decide (x.key.size ≤ 1000000) && decide (x.val.size ≤ 1000000))
theorem lim_of {t : TxT} (h : limB t = true) : TxLim 1000000 t := by
  unfold limB at h
  simp only [Bool.and_eq_true, decide_eq_true_eq, List.all_eq_true] at h
  obtain ⟨⟨⟨⟨⟨⟨⟨h1, h2⟩, h3⟩, h4⟩, h5⟩, h6⟩, h7⟩, h8⟩ := h
  exact ⟨⟨h1, h2⟩, ⟨h3, h4⟩, h5, h6, fun x hx => ⟨(h7 x hx).1.1.1, (h7 x hx).1.1.2, (h7 x hx).1.2, (h7 x hx).2⟩, fun x hx => ⟨(h8 x hx).1, (h8 x hx).2⟩⟩
theorem bads_lim : bads.all limB = true := by decide +kernel
theorem bad_lim (z : Nat) (hz : z < 16) : TxLim 1000000 (bads.getD z goodT) := by
  have hl : z < bads.length := hz
  have hm : bads.getD z goodT ∈ bads := by rw [List.getD_eq_getElem?_getD, List.getElem?_eq_getElem hl]; exact List.getElem_mem hl
  exact lim_of (List.all_eq_true.1 bads_lim _ hm)
theorem good_lim : TxLim 1000000 goodT := lim_of (by decide +kernel)
theorem one2_may : mayT ⟨1, 1, [], []⟩ = true := by
  simp only [mayT, List.all_nil, risingK, risesTo]
  decide +kernel
theorem one2_lim : TxLim 1000000 ⟨1, 1, [], []⟩ := lim_of (by decide +kernel)

/-! The last region's plan: two rows are made. -/
def zRs : List Value := ((List.replicate 7 zR).map rdC).flatten
def zWs : List Value := ((List.replicate 5 zW).map wrC).flatten
def L13 (B : Nat) : Plan := [(0, 14, 2, RowN B 39 7 zRs), (0, 15, 3, RowN B 41 5 zWs)]
theorem HL13 {gb B : Nat} {R W : Nat → Nat} {k : Nat} (h : HL gb R W (L13 B) k) : k = gb := by
  obtain ⟨x, hx, rfl⟩ := h
  simp only [L13, List.mem_cons, List.not_mem_nil, or_false] at hx
  rcases hx with rfl | rfl <;> rfl
theorem two_allK {P : Grow.Known → Prop} {B : Nat} (h1 : P (RowN B 39 7 zRs)) (h2 : P (RowN B 41 5 zWs)) : ∀ x ∈ L13 B, P x.2.2.2 := by
  intro x hx
  simp only [L13, List.mem_cons, List.not_mem_nil, or_false] at hx
  rcases hx with rfl | rfl <;> assumption
theorem L13.fits {B : Nat} : Fits (L13 B) 16 := by
  intro x hx
  simp only [L13, List.mem_cons, List.not_mem_nil, or_false] at hx
  rcases hx with rfl | rfl
  · exact ⟨show 0 < 3 by decide, show 14 < 16 by decide, show 2 < 4 by decide⟩
  · exact ⟨show 0 < 3 by decide, show 15 < 16 by decide, show 3 < 4 by decide⟩
theorem L13.one {B : Nat} : ∀ x ∈ L13 B, x.1 = 0 → x.2.1 = 14 → x.2.2.1 = 2 → x.2.2.2 = RowN B 39 7 zRs := by
  intro x hx h1 h2 h3
  simp only [L13, List.mem_cons, List.not_mem_nil, or_false] at hx
  rcases hx with rfl | rfl
  · rfl
  · cases h2
theorem L13.two {B : Nat} : ∀ x ∈ L13 B, x.1 = 0 → x.2.1 = 15 → x.2.2.1 = 3 → x.2.2.2 = RowN B 41 5 zWs := by
  intro x hx h1 h2 h3
  simp only [L13, List.mem_cons, List.not_mem_nil, or_false] at hx
  rcases hx with rfl | rfl
  · cases h2
  · rfl
theorem rowN_plain {B : Nat} {t : TypeId} {n : Nat} {xs : List Value} {v : Value} {w : World} (h : RowN B t n xs v w) : plainV v = true := by
  obtain ⟨r, c, _, rfl, _⟩ := h
  rfl
theorem rowN_set {B : Nat} {t : TypeId} {n : Nat} {xs : List Value} {v u : Value} {w : World} {g i : Nat} (h : RowN B t n xs v w) (hg : g < B) : RowN B t n xs v (w.setCell ⟨g, i, none⟩ u) := by
  obtain ⟨r, c, cs, h1, h2, h3, h4, h5⟩ := h
  exact ⟨r, c, cs, h1, h2, h3, Bl.but_ h4 ((But.refl w g).set i u) (by omega), h5⟩
/-- the sixteen places read as the bad ones -/
theorem bads_at {w : World} {gb r14 c14 r15 c15 : Nat} {R W cR cW : Nat → Nat} (h : Mem w 16 gb R W (over [(0, 14, 2, .slice (some ⟨r14, 0, none⟩) 7 c14), (0, 15, 3, .slice (some ⟨r15, 0, none⟩) 5 c15)] (over [(2, 12, 0, .string ⟨#[99]⟩), (2, 13, 3, .string ⟨#[110, 105, 110, 101, 45, 98, 121, 116, 101]⟩)] (over [(1, 8, 6, .string ⟨#[120]⟩), (1, 9, 2, .string ⟨#[115, 101, 118, 101, 110, 116, 101, 101, 110, 45, 98, 121, 116, 101, 115, 45, 120]⟩), (2, 10, 1, .string ⟨#[120]⟩), (2, 11, 4, .string ⟨#[115, 101, 118, 101, 110, 116, 101, 101, 110, 45, 98, 121, 116, 101, 115, 45, 120]⟩)] (over [(1, 4, 4, .string ⟨#[97]⟩), (1, 5, 0, .string ⟨#[]⟩), (1, 6, 1, .int .i64 (-1)), (1, 7, 1, .int .i64 0)] (over [(0, 3, 1, .int .i64 1001)] (over [(0, 2, 1, .int .i64 0)] (over [(0, 1, 0, .int .i64 10)] (over [(0, 0, 0, .int .i64 0)] (val0 R W cR cW))))))))))
    (hcap : ∀ z, z < 16 → 2 ≤ cR z ∧ 2 ≤ cW z) (h14 : RowAt 4 w (.slice (some ⟨r14, 0, none⟩) 7 c14) ((List.replicate 7 zR).map rdC)) (h15 : RowAt 3 w (.slice (some ⟨r15, 0, none⟩) 5 c15) ((List.replicate 5 zW).map wrC)) : ∀ z, z < 16 → At16 w gb z (bads.getD z goodT) := by
  intro z hz
  match z, hz with
  | 0, _ => exact h.at16 (by decide) _ _ _ _ _ rfl rfl rfl rfl (h.reads (by decide) gR0 gR1 (hcap 0 (by decide)).1 rfl) (h.writes (by decide) gW0 gW1 (hcap 0 (by decide)).2 rfl)
  | 1, _ => exact h.at16 (by decide) _ _ _ _ _ rfl rfl rfl rfl (h.reads (by decide) gR0 gR1 (hcap 1 (by decide)).1 rfl) (h.writes (by decide) gW0 gW1 (hcap 1 (by decide)).2 rfl)
  | 2, _ => exact h.at16 (by decide) _ _ _ _ _ rfl rfl rfl rfl (h.reads (by decide) gR0 gR1 (hcap 2 (by decide)).1 rfl) (h.writes (by decide) gW0 gW1 (hcap 2 (by decide)).2 rfl)
  | 3, _ => exact h.at16 (by decide) _ _ _ _ _ rfl rfl rfl rfl (h.reads (by decide) gR0 gR1 (hcap 3 (by decide)).1 rfl) (h.writes (by decide) gW0 gW1 (hcap 3 (by decide)).2 rfl)
  | 4, _ => exact h.at16 (by decide) _ _ _ _ _ rfl rfl rfl rfl (h.reads (by decide) gR0 ⟨sA, 2, s0, false⟩ (hcap 4 (by decide)).1 rfl) (h.writes (by decide) gW0 gW1 (hcap 4 (by decide)).2 rfl)
  | 5, _ => exact h.at16 (by decide) _ _ _ _ _ rfl rfl rfl rfl (h.reads (by decide) ⟨s0, 3, sV, true⟩ gR1 (hcap 5 (by decide)).1 rfl) (h.writes (by decide) gW0 gW1 (hcap 5 (by decide)).2 rfl)
  | 6, _ => exact h.at16 (by decide) _ _ _ _ _ rfl rfl rfl rfl (h.reads (by decide) ⟨sA, -1, sV, true⟩ gR1 (hcap 6 (by decide)).1 rfl) (h.writes (by decide) gW0 gW1 (hcap 6 (by decide)).2 rfl)
  | 7, _ => exact h.at16 (by decide) _ _ _ _ _ rfl rfl rfl rfl (h.reads (by decide) ⟨sA, 0, sV, true⟩ gR1 (hcap 7 (by decide)).1 rfl) (h.writes (by decide) gW0 gW1 (hcap 7 (by decide)).2 rfl)
  | 8, _ => exact h.at16 (by decide) _ _ _ _ _ rfl rfl rfl rfl (h.reads (by decide) gR0 ⟨sB, 2, sX, false⟩ (hcap 8 (by decide)).1 rfl) (h.writes (by decide) gW0 gW1 (hcap 8 (by decide)).2 rfl)
  | 9, _ => exact h.at16 (by decide) _ _ _ _ _ rfl rfl rfl rfl (h.reads (by decide) ⟨sA, 3, s17, true⟩ gR1 (hcap 9 (by decide)).1 rfl) (h.writes (by decide) gW0 gW1 (hcap 9 (by decide)).2 rfl)
  | 10, _ => exact h.at16 (by decide) _ _ _ _ _ rfl rfl rfl rfl (h.reads (by decide) gR0 gR1 (hcap 10 (by decide)).1 rfl) (h.writes (by decide) ⟨sA, sX, true⟩ gW1 (hcap 10 (by decide)).2 rfl)
  | 11, _ => exact h.at16 (by decide) _ _ _ _ _ rfl rfl rfl rfl (h.reads (by decide) gR0 gR1 (hcap 11 (by decide)).1 rfl) (h.writes (by decide) gW0 ⟨sB, s17, false⟩ (hcap 11 (by decide)).2 rfl)
  | 12, _ => exact h.at16 (by decide) _ _ _ _ _ rfl rfl rfl rfl (h.reads (by decide) gR0 gR1 (hcap 12 (by decide)).1 rfl) (h.writes (by decide) ⟨sC, s0, true⟩ gW1 (hcap 12 (by decide)).2 rfl)
  | 13, _ => exact h.at16 (by decide) _ _ _ _ _ rfl rfl rfl rfl (h.reads (by decide) gR0 gR1 (hcap 13 (by decide)).1 rfl) (h.writes (by decide) gW0 ⟨s9, s16, false⟩ (hcap 13 (by decide)).2 rfl)
  | 14, _ => exact h.at16 (by decide) _ _ _ _ _ rfl rfl rfl rfl h14 (h.writes (by decide) gW0 gW1 (hcap 14 (by decide)).2 rfl)
  | 15, _ => exact h.at16 (by decide) _ _ _ _ _ rfl rfl rfl rfl (h.reads (by decide) gR0 gR1 (hcap 15 (by decide)).1 rfl) h15
  | z + 16, hz => exact absurd hz (by omega)
theorem good_at {w : World} {g1 g2 : Nat} (h1 : Bl w g1 39 goodR.toArray) (h2 : Bl w g2 41 goodW.toArray) : TxAt w (.agg #[.int .i64 9, .int .i64 1000, .slice (some ⟨g1, 0, none⟩) 2 2, .slice (some ⟨g2, 0, none⟩) 2 2]) goodT :=
  ⟨_, _, rfl, row_sees (t := 39) (rs := [gR0, gR1].map rdC) (fun x hx => by
    obtain ⟨y, _, rfl⟩ := List.mem_map.1 hx
    rfl) rfl (by decide) (fun i u h => ⟨_, h1, by rw [List.getElem?_toArray]; exact h⟩), row_sees (t := 41) (rs := [gW0, gW1].map wrC) (fun x hx => by
    obtain ⟨y, _, rfl⟩ := List.mem_map.1 hx
    rfl) rfl (by decide) (fun i u h => ⟨_, h2, by rw [List.getElem?_toArray]; exact h⟩)⟩
theorem one2_at (w : World) : TxAt w (.agg #[.int .i64 1, .int .i64 1, .slice none 0 0, .slice none 0 0]) ⟨1, 1, [], []⟩ :=
  ⟨_, _, rfl, ⟨none, 0, rfl, Nat.le_refl _, fun j i r u hj _ => by simp at hj⟩, ⟨none, 0, rfl, Nat.le_refl _, fun j i r u hj _ => by simp at hj⟩⟩

end Go.Proofs.Ytjpdhijhmpdbnaa
