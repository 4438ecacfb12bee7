/-
  Sixteen transactions in one block, each with rows of its own: what their cells hold, and what they read as.
-/
import Derived.Test.YtjpdhijhmpdbnaaTxnBegun
import Derived.Test.YtjpdhijhmpdbnaaBaseG
namespace Go.Proofs.Ytjpdhijhmpdbnaa
open Go Go.RowKit TxnMath KeyMath
open Go.Proofs.Ytjpdhijhmpdbnaa.Flow (HitG Sees LaidG RowN)

/-- where a cell lies: 0: a transaction's; 1: its reads'; 2: its writes' -/
def bk (gb : Nat) (R W : Nat → Nat) (κ z : Nat) : Nat := match κ with | 0 => gb | 1 => R z | _ => W z
def ix (κ z j : Nat) : Nat := match κ with | 0 => 4 * z + j | _ => j
def wd (κ : Nat) : Nat := match κ with | 0 => 4 | 1 => 8 | _ => 6
def ty (κ : Nat) : TypeId := match κ with | 0 => 28 | 1 => 39 | _ => 41
structure Mem (w : World) (n gb : Nat) (R W : Nat → Nat) (val : Nat → Nat → Nat → Value) : Prop where
  sees : ∀ κ z j, κ < 3 → z < n → j < wd κ → Sees w (bk gb R W κ z) (ix κ z j) (ty κ) (val κ z j)
  injR : ∀ z z', z < n → z' < n → R z = R z' → z = z'
  injW : ∀ z z', z < n → z' < n → W z = W z' → z = z'
  blk : ∃ cs, Bl w gb 28 cs ∧ cs.size = 64

theorem ty_inj {κ κ' : Nat} (h : κ < 3) (h' : κ' < 3) (e : ty κ = ty κ') : κ = κ' := by
  match κ, h, κ', h' with
  | 0, _, 0, _ => rfl
  | 1, _, 1, _ => rfl
  | 2, _, 2, _ => rfl
  | 0, _, 1, _ => cases e
  | 0, _, 2, _ => cases e
  | 1, _, 0, _ => cases e
  | 1, _, 2, _ => cases e
  | 2, _, 0, _ => cases e
  | 2, _, 1, _ => cases e
/-- two cells of one place are one -/
theorem Mem.place {w : World} {n gb : Nat} {R W : Nat → Nat} {val : Nat → Nat → Nat → Value} (h : Mem w n gb R W val) {κ z j κ' z' j' : Nat} (h1 : κ < 3) (h2 : z < n) (h3 : j < wd κ) (h1' : κ' < 3) (h2' : z' < n) (h3' : j' < wd κ')
    (e : bk gb R W κ z = bk gb R W κ' z') (e2 : ix κ z j = ix κ' z' j') : κ = κ' ∧ z = z' ∧ j = j' := by
  have s1 := h.sees κ z j h1 h2 h3
  have s2 := h.sees κ' z' j' h1' h2' h3'
  rw [e] at s1
  obtain rfl := ty_inj h1 h1' (s1.same s2)
  refine ⟨rfl, ?_⟩
  match κ, h1 with
  | 0, _ =>
    simp only [ix, wd] at e2 h3 h3'
    omega
  | 1, _ => exact ⟨h.injR z z' h2 h2' e, e2⟩
  | 2, _ => exact ⟨h.injW z z' h2 h2' e, e2⟩

/-- what is stored, over what was there -/
def over (L : List (Nat × Nat × Nat × Value)) (val : Nat → Nat → Nat → Value) (κ z j : Nat) : Value :=
  match L.find? (fun x => Nat.beq x.1 κ && (Nat.beq x.2.1 z && Nat.beq x.2.2.1 j)) with | some x => x.2.2.2 | none => val κ z j

theorem Mem.hit {w w' : World} {n gb : Nat} {R W : Nat → Nat} {val : Nat → Nat → Nat → Value} (h : Mem w n gb R W val) (L : List (Nat × Nat × Nat × Value)) (hL : ∀ x ∈ L, x.1 < 3 ∧ x.2.1 < n ∧ x.2.2.1 < wd x.1)
    {H : Nat → Prop} {G : Nat → Nat → Value → World → Prop} (hh : HitG H G w w') (hG : ∀ g i v, G g i v w' → ∃ x ∈ L, g = bk gb R W x.1 x.2.1 ∧ i = ix x.1 x.2.1 x.2.2.1) (hS : ∀ x ∈ L, ∃ t, Sees w' (bk gb R W x.1 x.2.1) (ix x.1 x.2.1 x.2.2.1) t x.2.2.2) :
    Mem w' n gb R W (over L val) := by
  refine ⟨fun κ z j h1 h2 h3 => ?_, h.injR, h.injW, ?_⟩
  · have hs := h.sees κ z j h1 h2 h3
    unfold over
    cases hf : L.find? (fun x => Nat.beq x.1 κ && (Nat.beq x.2.1 z && Nat.beq x.2.2.1 j)) with
    | some x =>
      have hx := List.find?_some hf
      have hm := List.mem_of_find?_eq_some hf
      simp only [Bool.and_eq_true] at hx
      have e1 := Nat.eq_of_beq_eq_true hx.1
      have e2 := Nat.eq_of_beq_eq_true hx.2.1
      have e3 := Nat.eq_of_beq_eq_true hx.2.2
      obtain ⟨t, hx2⟩ := hS x hm
      rw [e1, e2, e3] at hx2
      obtain ⟨u, hu⟩ := hs.there hh
      obtain ⟨e4, e5⟩ := hx2.one hu
      simp only []
      rw [e4]
      exact hu
    | none =>
      refine hs.kept hh (fun u hu => ?_)
      obtain ⟨x, hm, e1, e2⟩ := hG _ _ _ hu
      obtain ⟨a1, a2, a3⟩ := hL x hm
      obtain ⟨b1, b2, b3⟩ := h.place h1 h2 h3 a1 a2 a3 e1 e2
      have := List.find?_eq_none.1 hf x hm
      rw [← b1, ← b2, ← b3] at this
      simp at this
  · obtain ⟨cs, hb, hc⟩ := h.blk
    obtain ⟨cs', hb', hc'⟩ := hh.some_ hb
    exact ⟨cs', hb', hc'.trans hc⟩
/-- one store -/
theorem Mem.set {w : World} {n gb : Nat} {R W : Nat → Nat} {val : Nat → Nat → Nat → Value} (h : Mem w n gb R W val) {κ z j : Nat} (h1 : κ < 3) (h2 : z < n) (h3 : j < wd κ) (v : Value) :
    Mem (w.setCell ⟨bk gb R W κ z, ix κ z j, none⟩ v) n gb R W (over [(κ, z, j, v)] val) := by
  obtain ⟨cs, hb, hc⟩ := h.sees κ z j h1 h2 h3
  have hi : ix κ z j < cs.size := (Array.getElem?_eq_some_iff.1 hc).1
  refine h.hit [(κ, z, j, v)] (fun x hx => ?_) (H := fun k => k = bk gb R W κ z) (G := fun g i u _ => g = bk gb R W κ z ∧ i = ix κ z j ∧ u = v) (HitG.set hb rfl ⟨rfl, rfl, rfl⟩) (fun g i u hu => ⟨_, List.mem_singleton.2 rfl, hu.1, hu.2.1⟩) (fun x hx => ?_)
  · rw [List.mem_singleton] at hx
    subst hx
    exact ⟨h1, h2, h3⟩
  · rw [List.mem_singleton] at hx
    subst hx
    exact ⟨ty κ, _, hb.put _ v, by rw [Array.getElem?_setIfInBounds_self_of_lt hi]⟩

/-! A region that stores into some of the cells: which ones, and what. -/
abbrev Plan := List (Nat × Nat × Nat × Grow.Known)
def HL (gb : Nat) (R W : Nat → Nat) (L : Plan) (k : Nat) : Prop := ∃ x ∈ L, k = bk gb R W x.1 x.2.1
def GL (gb : Nat) (R W : Nat → Nat) (L : Plan) (g i : Nat) (v : Value) (w : World) : Prop := ∃ x ∈ L, g = bk gb R W x.1 x.2.1 ∧ i = ix x.1 x.2.1 x.2.2.1 ∧ x.2.2.2 v w
def Fits (L : Plan) (n : Nat) : Prop := ∀ x ∈ L, x.1 < 3 ∧ x.2.1 < n ∧ x.2.2.1 < wd x.1
theorem GL.stays {gb : Nat} {R W : Nat → Nat} {L : Plan} (h : ∀ x ∈ L, Flow.Stays (HitG (HL gb R W L) (GL gb R W L)) x.2.2.2) : ∀ k i, Flow.Stays (HitG (HL gb R W L) (GL gb R W L)) (GL gb R W L k i) := fun _ _ v w w' ⟨x, hx, h1, h2, h3⟩ hr => ⟨x, hx, h1, h2, h x hx v w w' h3 hr⟩
/-- a cell that is not stored into -/
theorem Mem.still {w w' : World} {n gb : Nat} {R W : Nat → Nat} {val : Nat → Nat → Nat → Value} (h : Mem w n gb R W val) {L : Plan} (hL : Fits L n) (hh : HitG (HL gb R W L) (GL gb R W L) w w') {κ z j : Nat} (h1 : κ < 3) (h2 : z < n) (h3 : j < wd κ)
    (hno : ∀ x ∈ L, x.1 = κ → x.2.1 = z → x.2.2.1 = j → False) : Sees w' (bk gb R W κ z) (ix κ z j) (ty κ) (val κ z j) := by
  refine (h.sees κ z j h1 h2 h3).kept hh (fun u ⟨x, hx, e1, e2, _⟩ => ?_)
  obtain ⟨a1, a2, a3⟩ := hL x hx
  obtain ⟨b1, b2, b3⟩ := h.place h1 h2 h3 a1 a2 a3 e1 e2
  exact hno x hx b1.symm b2.symm b3.symm
/-- what a cell may become -/
theorem Mem.only {w : World} {n gb : Nat} {R W : Nat → Nat} {val : Nat → Nat → Nat → Value} (h : Mem w n gb R W val) {L : Plan} (hL : Fits L n) {κ z j : Nat} (h1 : κ < 3) (h2 : z < n) (h3 : j < wd κ) {Ψ : Grow.Known}
    (ho : ∀ x ∈ L, x.1 = κ → x.2.1 = z → x.2.2.1 = j → x.2.2.2 = Ψ) (v : Value) (w' : World) (hg : GL gb R W L (bk gb R W κ z) (ix κ z j) v w') : Ψ v w' := by
  obtain ⟨x, hx, e1, e2, e3⟩ := hg
  obtain ⟨a1, a2, a3⟩ := hL x hx
  obtain ⟨b1, b2, b3⟩ := h.place h1 h2 h3 a1 a2 a3 e1 e2
  rw [ho x hx b1.symm b2.symm b3.symm] at e3
  exact e3
/-- behind the region -/
theorem Mem.put {w w' : World} {n gb : Nat} {R W : Nat → Nat} {val : Nat → Nat → Nat → Value} (h : Mem w n gb R W val) {L : Plan} (hL : Fits L n) (hh : HitG (HL gb R W L) (GL gb R W L) w w') (L' : List (Nat × Nat × Nat × Value))
    (hk : L.map (fun x => (x.1, x.2.1, x.2.2.1)) = L'.map (fun x => (x.1, x.2.1, x.2.2.1))) (hS : ∀ x ∈ L', ∃ t, Sees w' (bk gb R W x.1 x.2.1) (ix x.1 x.2.1 x.2.2.1) t x.2.2.2) : Mem w' n gb R W (over L' val) := by
  have hm : ∀ x ∈ L', ∃ y ∈ L, x.1 = y.1 ∧ x.2.1 = y.2.1 ∧ x.2.2.1 = y.2.2.1 := fun x hx => by
    have h1 : (x.1, x.2.1, x.2.2.1) ∈ L.map (fun x => (x.1, x.2.1, x.2.2.1)) := by rw [hk]; exact List.mem_map.2 ⟨x, hx, rfl⟩
    obtain ⟨y, hy, e⟩ := List.mem_map.1 h1
    simp only [Prod.mk.injEq] at e
    exact ⟨y, hy, e.1.symm, e.2.1.symm, e.2.2.symm⟩
  have hm2 : ∀ x ∈ L, ∃ y ∈ L', x.1 = y.1 ∧ x.2.1 = y.2.1 ∧ x.2.2.1 = y.2.2.1 := fun x hx => by
    have h1 : (x.1, x.2.1, x.2.2.1) ∈ L'.map (fun x => (x.1, x.2.1, x.2.2.1)) := by rw [← hk]; exact List.mem_map.2 ⟨x, hx, rfl⟩
    obtain ⟨y, hy, e⟩ := List.mem_map.1 h1
    simp only [Prod.mk.injEq] at e
    exact ⟨y, hy, e.1.symm, e.2.1.symm, e.2.2.symm⟩
  refine h.hit L' (fun x hx => ?_) hh (fun g i v ⟨x, hx, e1, e2, _⟩ => ?_) hS
  · obtain ⟨y, hy, e1, e2, e3⟩ := hm x hx
    rw [e1, e2, e3]
    exact hL y hy
  · obtain ⟨y, hy, a1, a2, a3⟩ := hm2 x hx
    exact ⟨y, hy, by rw [← a1, ← a2]; exact e1, by rw [← a1, ← a2, ← a3]; exact e2⟩

/-- n elements of k cells in one block -/
theorem row_sees {k n c r : Nat} {w : World} {t : TypeId} {rs : List (List Value)} (hk : ∀ x ∈ rs, x.length = k) (hn : rs.length = n) (hc : n ≤ c) (h : ∀ i u, rs.flatten[i]? = some u → Sees w r i t u) : RowAt k w (.slice (some ⟨r, 0, none⟩) n c) rs := by
  subst hn
  refine ⟨_, c, rfl, hc, fun j i x u hj hi => ⟨_, rfl, ?_⟩⟩
  have := (h _ u (flatten_at hk hj hi)).cell
  rw [show (⟨r, 0, none⟩ : Addr).add (j * k + i) = ⟨r, j * k + i, none⟩ from by unfold Addr.add; split <;> simp_all]
  exact this
theorem get8 {a b c d e f g h : Value} {P : Nat → Value → Prop} (h0 : P 0 a) (h1 : P 1 b) (h2 : P 2 c) (h3 : P 3 d) (h4 : P 4 e) (h5 : P 5 f) (h6 : P 6 g) (h7 : P 7 h) : ∀ (i : Nat) (u : Value), [a, b, c, d, e, f, g, h][i]? = some u → P i u := by
  intro i u hu
  match i, hu with
  | 0, hu => simp at hu; subst hu; exact h0
  | 1, hu => simp at hu; subst hu; exact h1
  | 2, hu => simp at hu; subst hu; exact h2
  | 3, hu => simp at hu; subst hu; exact h3
  | 4, hu => simp at hu; subst hu; exact h4
  | 5, hu => simp at hu; subst hu; exact h5
  | 6, hu => simp at hu; subst hu; exact h6
  | 7, hu => simp at hu; subst hu; exact h7
theorem get6 {a b c d e f : Value} {P : Nat → Value → Prop} (h0 : P 0 a) (h1 : P 1 b) (h2 : P 2 c) (h3 : P 3 d) (h4 : P 4 e) (h5 : P 5 f) : ∀ (i : Nat) (u : Value), [a, b, c, d, e, f][i]? = some u → P i u := by
  intro i u hu
  match i, hu with
  | 0, hu => simp at hu; subst hu; exact h0
  | 1, hu => simp at hu; subst hu; exact h1
  | 2, hu => simp at hu; subst hu; exact h2
  | 3, hu => simp at hu; subst hu; exact h3
  | 4, hu => simp at hu; subst hu; exact h4
  | 5, hu => simp at hu; subst hu; exact h5
section
variable {w : World} {n gb : Nat} {R W : Nat → Nat} {val : Nat → Nat → Nat → Value}
theorem Mem.reads (h : Mem w n gb R W val) {z c : Nat} (hz : z < n) (r0 r1 : RdT) (hc : 2 ≤ c) (e : [val 1 z 0, val 1 z 1, val 1 z 2, val 1 z 3, val 1 z 4, val 1 z 5, val 1 z 6, val 1 z 7] = rdC r0 ++ rdC r1) : RowAt 4 w (.slice (some ⟨R z, 0, none⟩) 2 c) ([r0, r1].map rdC) := by
  refine row_sees (t := ty 1) (fun x hx => ?_) rfl hc ?_
  · simp at hx
    rcases hx with rfl | rfl <;> rfl
  · have e2 : ([r0, r1].map rdC).flatten = [val 1 z 0, val 1 z 1, val 1 z 2, val 1 z 3, val 1 z 4, val 1 z 5, val 1 z 6, val 1 z 7] := by rw [e]; simp
    rw [e2]
    have hs := fun j hj => h.sees 1 z j (by decide) hz hj
    exact get8 (P := fun i u => Sees w (R z) i (ty 1) u) (hs 0 (by decide)) (hs 1 (by decide)) (hs 2 (by decide)) (hs 3 (by decide)) (hs 4 (by decide)) (hs 5 (by decide)) (hs 6 (by decide)) (hs 7 (by decide))
theorem Mem.writes (h : Mem w n gb R W val) {z c : Nat} (hz : z < n) (r0 r1 : WrT) (hc : 2 ≤ c) (e : [val 2 z 0, val 2 z 1, val 2 z 2, val 2 z 3, val 2 z 4, val 2 z 5] = wrC r0 ++ wrC r1) : RowAt 3 w (.slice (some ⟨W z, 0, none⟩) 2 c) ([r0, r1].map wrC) := by
  refine row_sees (t := ty 2) (fun x hx => ?_) rfl hc ?_
  · simp at hx
    rcases hx with rfl | rfl <;> rfl
  · have e2 : ([r0, r1].map wrC).flatten = [val 2 z 0, val 2 z 1, val 2 z 2, val 2 z 3, val 2 z 4, val 2 z 5] := by rw [e]; simp
    rw [e2]
    have hs := fun j hj => h.sees 2 z j (by decide) hz hj
    exact get6 (P := fun i u => Sees w (W z) i (ty 2) u) (hs 0 (by decide)) (hs 1 (by decide)) (hs 2 (by decide)) (hs 3 (by decide)) (hs 4 (by decide)) (hs 5 (by decide))
end

/-- a place of the sixteen reads as the transaction -/
def At16 (w : World) (gb z : Nat) (t : TxT) : Prop := ∃ A c B d, Sees w gb (4 * z) 28 (.int .i64 t.ses) ∧ Sees w gb (4 * z + 1) 28 (.int .i64 t.seq) ∧ Sees w gb (4 * z + 2) 28 (.slice A t.reads.length c) ∧ Sees w gb (4 * z + 3) 28 (.slice B t.writes.length d) ∧
  RowAt 4 w (.slice A t.reads.length c) (t.reads.map rdC) ∧ RowAt 3 w (.slice B t.writes.length d) (t.writes.map wrC)
theorem At16.gr {w w' : World} {gb z : Nat} {t : TxT} (h : At16 w gb z t) (hg : Gr w w') : At16 w' gb z t := by
  obtain ⟨A, c, B, d, h1, h2, h3, h4, h5, h6⟩ := h
  exact ⟨A, c, B, d, h1.gr hg, h2.gr hg, h3.gr hg, h4.gr hg, h5.gr hg, h6.gr hg⟩
theorem Mem.at16 {w : World} {n gb : Nat} {R W : Nat → Nat} {val : Nat → Nat → Nat → Value} (h : Mem w n gb R W val) {z : Nat} (hz : z < n) (t : TxT) (A : Option Addr) (c : Nat) (B : Option Addr) (d : Nat) (e0 : val 0 z 0 = .int .i64 t.ses) (e1 : val 0 z 1 = .int .i64 t.seq)
    (e2 : val 0 z 2 = .slice A t.reads.length c) (e3 : val 0 z 3 = .slice B t.writes.length d) (h5 : RowAt 4 w (.slice A t.reads.length c) (t.reads.map rdC)) (h6 : RowAt 3 w (.slice B t.writes.length d) (t.writes.map wrC)) : At16 w gb z t := by
  have hs := fun j hj => h.sees 0 z j (by decide) hz hj
  exact ⟨A, c, B, d, e0 ▸ hs 0 (by decide), e1 ▸ hs 1 (by decide), e2 ▸ hs 2 (by decide), e3 ▸ hs 3 (by decide), h5, h6⟩
theorem At16.is {w : World} {gb z : Nat} {t : TxT} (h : At16 w gb z t) : ∃ a b A n c B m d, Sees w gb (4 * z) 28 (.int .i64 a) ∧ Sees w gb (4 * z + 1) 28 (.int .i64 b) ∧ Sees w gb (4 * z + 2) 28 (.slice A n c) ∧ Sees w gb (4 * z + 3) 28 (.slice B m d) ∧ TxAt w (.agg #[.int .i64 a, .int .i64 b, .slice A n c, .slice B m d]) t := by
  obtain ⟨A, c, B, d, h1, h2, h3, h4, h5, h6⟩ := h
  exact ⟨_, _, A, _, c, B, _, d, h1, h2, h3, h4, _, _, rfl, h5, h6⟩

/-! What is made. -/
def goodR : List Value := [.string ⟨#[97]⟩, .int .i64 3, .string ⟨#[118]⟩, .bool true, .string ⟨#[98]⟩, .int .i64 2, .string ⟨#[]⟩, .bool false]
def goodW : List Value := [.string ⟨#[97]⟩, .string ⟨#[]⟩, .bool true, .string ⟨#[98]⟩, .string ⟨#[115, 105, 120, 116, 101, 101, 110, 45, 98, 121, 116, 101, 115, 45, 111, 107]⟩, .bool false]
def val0 (R W cR cW : Nat → Nat) (κ z j : Nat) : Value :=
  match κ with
  | 0 => (match j with | 0 => .int .i64 9 | 1 => .int .i64 1000 | 2 => .slice (some ⟨R z, 0, none⟩) 2 (cR z) | _ => .slice (some ⟨W z, 0, none⟩) 2 (cW z))
  | 1 => goodR.getD j .nilIface
  | _ => goodW.getD j .nilIface
/-- the first n of them, as they were made -/
def Made16 (w : World) (n gb : Nat) : Prop := ∃ R W cR cW, Mem w n gb R W (val0 R W cR cW) ∧ (∀ z, z < n → gb < R z ∧ gb < W z ∧ R z < w.heap.size ∧ W z < w.heap.size ∧ 2 ≤ cR z ∧ 2 ≤ cW z)

def setN (f : Nat → Nat) (n r : Nat) (z : Nat) : Nat := bif Nat.beq z n then r else f z
theorem setN_self (f : Nat → Nat) (n r : Nat) : setN f n r n = r := by simp [setN]
theorem setN_ne (f : Nat → Nat) (n r : Nat) {z : Nat} (h : z ≠ n) : setN f n r z = f z := by
  have : Nat.beq z n = false := by rw [Bool.eq_false_iff]; intro hh; exact h (Nat.eq_of_beq_eq_true hh)
  simp [setN, this]

/-- a round: the next one is made -/
def G8 (gb j B : Nat) : Nat → Nat → Value → World → Prop := fun g i v w => g = gb ∧ ((i = 4 * j ∧ v = .int .i64 9) ∨ (i = 4 * j + 1 ∧ v = .int .i64 1000) ∨ (i = 4 * j + 2 ∧ RowN B 39 2 goodR v w) ∨ (i = 4 * j + 3 ∧ RowN B 41 2 goodW v w))
theorem Made16.more {w w' : World} {n gb B : Nat} (h : Made16 w n gb) (hn : n < 16) (hB : gb < B) (hB2 : w.heap.size ≤ B) (hh : HitG (fun k => k = gb) (G8 gb n B) w w')
    (l0 : Sees w' gb (4 * n) 28 (.int .i64 9)) (l1 : Sees w' gb (4 * n + 1) 28 (.int .i64 1000)) {v2 v3 : Value} (l2 : Sees w' gb (4 * n + 2) 28 v2) (p2 : RowN B 39 2 goodR v2 w') (l3 : Sees w' gb (4 * n + 3) 28 v3) (p3 : RowN B 41 2 goodW v3 w') : Made16 w' (n + 1) gb := by
  obtain ⟨R, W, cR, cW, hm, hb⟩ := h
  obtain ⟨r, c, cs, rfl, hc, hr, hbr, hcr⟩ := p2
  obtain ⟨q, d, ds, rfl, hd, hq, hbq, hdq⟩ := p3
  have hgb : ∀ z j, z < n → ∀ u, ¬ G8 gb n B gb (4 * z + j) u w' ∨ 4 ≤ j := fun z j hz u => by
    by_cases hj : 4 ≤ j
    · exact .inr hj
    · refine .inl fun hu => ?_
      rcases hu.2 with ⟨e, _⟩ | ⟨e, _⟩ | ⟨e, _⟩ | ⟨e, _⟩ <;> omega
  refine ⟨setN R n r, setN W n q, setN cR n c, setN cW n d, ⟨fun κ z j h1 h2 h3 => ?_, fun z z' hz hz' e => ?_, fun z z' hz hz' e => ?_, ?_⟩, fun z hz => ?_⟩
  · by_cases hzn : z = n
    · subst hzn
      match κ, h1 with
      | 0, _ =>
        match j, h3 with
        | 0, _ => exact l0
        | 1, _ => exact l1
        | 2, _ =>
          show Sees w' gb (4 * z + 2) 28 (.slice (some ⟨setN R z r z, 0, none⟩) 2 (setN cR z c z))
          rw [setN_self, setN_self]
          exact l2
        | 3, _ =>
          show Sees w' gb (4 * z + 3) 28 (.slice (some ⟨setN W z q z, 0, none⟩) 2 (setN cW z d z))
          rw [setN_self, setN_self]
          exact l3
        | k + 4, h3 => exact absurd h3 (by simp [wd])
      | 1, _ =>
        show Sees w' (setN R z r z) j 39 (goodR.getD j .nilIface)
        rw [setN_self]
        refine ⟨cs, hbr, hcr j _ ?_⟩
        have h3' : j < goodR.length := h3
        rw [List.getD_eq_getElem?_getD, List.getElem?_eq_getElem h3']
        rfl
      | 2, _ =>
        show Sees w' (setN W z q z) j 41 (goodW.getD j .nilIface)
        rw [setN_self]
        refine ⟨ds, hbq, hdq j _ ?_⟩
        have h3' : j < goodW.length := h3
        rw [List.getD_eq_getElem?_getD, List.getElem?_eq_getElem h3']
        rfl
    · have hz : z < n := by omega
      have hs := hm.sees κ z j h1 hz h3
      match κ, h1 with
      | 0, _ =>
        have hk : Sees w' gb (4 * z + j) 28 (val0 R W cR cW 0 z j) := hs.kept hh (fun u => by
          rcases hgb z j hz u with h | h
          · exact h
          · have h3' : j < 4 := h3
            omega)
        have e : val0 (setN R n r) (setN W n q) (setN cR n c) (setN cW n d) 0 z j = val0 R W cR cW 0 z j := by
          simp only [val0, setN_ne _ _ _ hzn]
        rw [e]
        exact hk
      | 1, _ =>
        show Sees w' (setN R n r z) j 39 (goodR.getD j .nilIface)
        rw [setN_ne _ _ _ hzn]
        exact hs.kept hh (fun u hu => by
          have h5 : R z = gb := hu.1
          have := (hb z hz).1
          omega)
      | 2, _ =>
        show Sees w' (setN W n q z) j 41 (goodW.getD j .nilIface)
        rw [setN_ne _ _ _ hzn]
        exact hs.kept hh (fun u hu => by
          have h5 : W z = gb := hu.1
          have := (hb z hz).2.1
          omega)
  · by_cases h1 : z = n <;> by_cases h2 : z' = n
    · omega
    · subst h1
      rw [setN_self, setN_ne _ _ _ h2] at e
      have := hb z' (by omega)
      omega
    · subst h2
      rw [setN_self, setN_ne _ _ _ h1] at e
      have := hb z (by omega)
      omega
    · rw [setN_ne _ _ _ h1, setN_ne _ _ _ h2] at e
      exact hm.injR z z' (by omega) (by omega) e
  · by_cases h1 : z = n <;> by_cases h2 : z' = n
    · omega
    · subst h1
      rw [setN_self, setN_ne _ _ _ h2] at e
      have := hb z' (by omega)
      omega
    · subst h2
      rw [setN_self, setN_ne _ _ _ h1] at e
      have := hb z (by omega)
      omega
    · rw [setN_ne _ _ _ h1, setN_ne _ _ _ h2] at e
      exact hm.injW z z' (by omega) (by omega) e
  · obtain ⟨cs', hb', hc'⟩ := hm.blk
    obtain ⟨cs2, hb2, hc2⟩ := hh.some_ hb'
    exact ⟨cs2, hb2, hc2.trans hc'⟩
  · by_cases h1 : z = n
    · subst h1
      simp only [setN_self]
      exact ⟨by omega, by omega, hbr.lt, hbq.lt, hc, hd⟩
    · simp only [setN_ne _ _ _ h1]
      have := hb z (by omega)
      have := hh.size
      exact ⟨by omega, by omega, by omega, by omega, by omega, by omega⟩
theorem Made16.none_ {w : World} {gb : Nat} {cs : Array Value} (hb : Bl w gb 28 cs) (hc : cs.size = 64) : Made16 w 0 gb :=
  ⟨fun _ => 0, fun _ => 0, fun _ => 0, fun _ => 0, ⟨fun _ _ _ _ h => absurd h (by omega), fun _ _ h => absurd h (by omega), fun _ _ h => absurd h (by omega), cs, hb, hc⟩, fun _ h => absurd h (by omega)⟩

end Go.Proofs.Ytjpdhijhmpdbnaa
