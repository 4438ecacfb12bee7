/-
  What key asks of rows of names: each, eachTwo.
-/
import Derived.Test.YtbfbghfaeejicaaKeyName
namespace Go.Proofs.Ytbfbghfaeejicaa
open Go.RowKit KeyMath
set_option maxRecDepth 100000

theorem bl_total : ∀ x y : List UInt8, Op.bytesLess x y = true ∨ x = y ∨ Op.bytesLess y x = true
  | [], [] => .inr (.inl rfl)
  | [], _ :: _ => .inl rfl
  | _ :: _, [] => .inr (.inr rfl)
  | a :: x, b :: y => by
    simp only [Op.bytesLess, Bool.or_eq_true, Bool.and_eq_true, decide_eq_true_eq, beq_iff_eq]
    rcases Nat.lt_trichotomy a.toNat b.toNat with h | h | h
    · exact .inl (.inl (UInt8.lt_iff_toNat_lt.2 h))
    · have e : a = b := UInt8.toNat_inj.1 h
      subst e
      rcases bl_total x y with h | h | h
      · exact .inl (.inr ⟨rfl, h⟩)
      · exact .inr (.inl (by rw [h]))
      · exact .inr (.inr (.inr ⟨rfl, h⟩))
    · exact .inr (.inr (.inl (UInt8.lt_iff_toNat_lt.2 h)))
theorem not_le (a b : ByteArray) : (!leK b a) = ltK a b := by
  cases h : ltK a b
  · unfold leK
    unfold ltK at h
    rcases bl_total a.toList b.toList with h1 | h1 | h1
    · rw [h] at h1; cases h1
    · rw [h1]; simp
    · rw [h1]; rfl
  · rw [lt_not_le h]; rfl

/-- each but the first is above the one ahead -/
def lessK (l : List ByteArray) : Bool := (List.range (l.length - 1)).all fun j => ltK (l.getD j nothing) (l.getD (j + 1) nothing)
theorem lessK_yes {l : List ByteArray} {k : Nat} (hk : l.length ≤ k) (h : ∀ j, j + 1 < k → ltK (l.getD j nothing) (l.getD (j + 1) nothing) = true) : lessK l = true := by
  unfold lessK
  rw [List.all_eq_true]
  intro j hj
  rw [List.mem_range] at hj
  exact h j (by omega)
theorem lessK_no {l : List ByteArray} {j : Nat} (hj : j + 1 < l.length) (h : ltK (l.getD j nothing) (l.getD (j + 1) nothing) = false) : lessK l = false := by
  unfold lessK
  rw [List.all_eq_false]
  exact ⟨j, by rw [List.mem_range]; omega, by rw [h]; simp⟩
theorem getD_eq {l : List ByteArray} {j : Nat} (h : j < l.length) : l.getD j nothing = l[j] := by
  rw [List.getD_eq_getElem?_getD, List.getElem?_eq_getElem h]
  rfl
theorem rising_split (l : List ByteArray) : risingK l = (l.all mayK && lessK l) := by
  have e : ∀ j, ∀ h : j < l.length, riseAt l j = (mayK (l.getD j nothing) && (j == 0 || ltK (l.getD (j - 1) nothing) (l.getD j nothing))) := by
    intro j _
    unfold riseAt
    rw [not_le]
  rw [Bool.eq_iff_iff, Bool.and_eq_true]
  unfold risingK risesTo lessK
  simp only [List.all_eq_true, List.mem_range]
  constructor
  · intro h
    refine ⟨fun x hx => ?_, fun j hj => ?_⟩
    · obtain ⟨j, hj, rfl⟩ := List.getElem_of_mem hx
      have := h j hj
      rw [e j hj, Bool.and_eq_true, getD_eq hj] at this
      exact this.1
    · have := h (j + 1) (by omega)
      rw [e _ (by omega), Bool.and_eq_true] at this
      have h2 := this.2
      rw [show j + 1 - 1 = j from rfl, show ((j + 1) == 0) = false from rfl, Bool.false_or] at h2
      exact h2
  · rintro ⟨h1, h2⟩ j hj
    rw [e j hj, Bool.and_eq_true]
    refine ⟨h1 _ (by rw [getD_eq hj]; exact List.getElem_mem hj), ?_⟩
    rcases j with _ | j
    · rfl
    · rw [Bool.or_eq_true]
      exact .inr (h2 j (by omega))

theorem all_yes {l : List ByteArray} {k : Nat} (hk : l.length ≤ k) (h : ∀ j, j < k → j < l.length → mayK (l.getD j nothing) = true) : l.all mayK = true := by
  rw [List.all_eq_true]
  intro x hx
  obtain ⟨j, hj, rfl⟩ := List.getElem_of_mem hx
  rw [← getD_eq hj]
  exact h j (by omega) hj
theorem all_no {l : List ByteArray} {j : Nat} (hj : j < l.length) (h : mayK (l.getD j nothing) = false) : l.all mayK = false := by
  rw [List.all_eq_false]
  exact ⟨_, List.getElem_mem hj, by rw [← getD_eq hj, h]; simp⟩

set_option maxHeartbeats 400000 in
theorem EachMayB_ok (A : Option Addr) (n c : Nat) (ss : List ByteArray) (hn : n = ss.length) (w : World) (hss : Strs w A c ss) (hm : ∀ s ∈ ss, (s.size : Int) ≤ 281474976710656) (hmax : (ss.length : Int) ≤ 1000000) :
    Calls Try.prog 55 #[.slice A n c, .func (.func 56) #[] #[]] w fun e w' => e = .returned (.bool (ss.all mayK)) ∧ Gr w w' := by
  subst hn
  have hsz := hide (size_at hm)
  clear hm
  go_enter Try.func55, Try.ntmps55
  go_wp2_with fail
  go_loopw [9] (fun i wr => ∃ k : Nat, i = .int .i64 k ∧ k ≤ ss.length ∧ Hid (∀ j, j < k → j < ss.length → mayK (ss.getD j nothing) = true) ∧ Gr w wr) (fun i _ => ss.length - (intOf i).toNat)
  case atStart => exact ⟨0, rfl, by omega, fun j hj => absurd hj (by omega), Gr.refl _⟩
  case round =>
    obtain ⟨k, rfl, hk, hall, hgr⟩ := hrel
    by_cases hlt : k < ss.length
    · have hlt' : (k : Int) < (ss.length : Int) := by omega
      obtain ⟨ad, rfl, hcell⟩ := (hss.gr hgr).at_ k hlt
      have hsk := hsz.out k hlt
      have hno := hide (all_no hlt)
      obtain ⟨x, hx⟩ : ∃ x, ss.getD k nothing = x := ⟨_, rfl⟩
      rw [hx] at hcell hsk hno
      go_wp2_with fail
      refine (NameMay_ok x (by omega) _).mono ?_
      rintro e w1 ⟨rfl, hg1⟩
      have hg2 := hgr.trans hg1
      clear hg1 hgr hcell hsk
      cases hmk : mayK x
      · have hrn := hide (hno.out hmk)
        clear hmk hno hx
        go_wp2_with fail
        go_ret
        exact ⟨by rw [hrn.out]; rfl, hg2⟩
      · have hyes : Hid (∀ j, j < k + 1 → j < ss.length → mayK (ss.getD j nothing) = true) := fun j hj hl => by
          by_cases h : j < k
          · exact hall.out j h hl
          · obtain rfl : j = k := by omega
            rw [hx]; exact hmk
        clear hmk hno hx hall
        go_wp2_with fail
        go_roundw
        case rel => exact ⟨k + 1, by go_num, by omega, hyes, hg2⟩
        case measure => simp [intOf]; omega
    · obtain rfl : k = ss.length := by omega
      have hy := hide (all_yes (Nat.le_refl _) hall.out)
      clear hall
      go_wp2_with fail
      go_ret
      exact ⟨by rw [hy.out]; rfl, hgr⟩

theorem EachMay_ok (A : Option Addr) (n c : Nat) (ss : List ByteArray) (hn : n = ss.length) (w : World) (hss : Strs w A c ss) (hm : ∀ s ∈ ss, (s.size : Int) ≤ 1000000) (hmax : (ss.length : Int) ≤ 1000000) :
    Calls Try.prog 55 #[.slice A n c, .func (.func 56) #[] #[]] w fun e w' => e = .returned (.bool (ss.all mayK)) ∧ Gr w w' :=
  EachMayB_ok A n c ss hn w hss (fun s hs => Int.le_trans (hm s hs) (by decide)) hmax

set_option maxHeartbeats 400000 in
theorem EachTwoBelow_ok (A : Option Addr) (n c : Nat) (ss : List ByteArray) (hn : n = ss.length) (w : World) (hss : Strs w A c ss) (hmax : (ss.length : Int) ≤ 1000000) :
    Calls Try.prog 57 #[.slice A n c, .func (.func 58) #[] #[]] w fun e w' => e = .returned (.bool (lessK ss)) ∧ Gr w w' := by
  subst hn
  go_enter Try.func57, Try.ntmps57
  go_wp2_with fail
  go_loopw [5] (fun i wr => ∃ k : Nat, i = .int .i64 k ∧ 1 ≤ k ∧ k ≤ ss.length + 1 ∧ Hid (∀ j, j + 1 < k → ltK (ss.getD j nothing) (ss.getD (j + 1) nothing) = true) ∧ Gr w wr) (fun i _ => ss.length + 1 - (intOf i).toNat)
  case atStart => exact ⟨1, rfl, by omega, by omega, fun j hj => absurd hj (by omega), Gr.refl _⟩
  case round =>
    obtain ⟨k, rfl, hk1, hk, hall, hgr⟩ := hrel
    by_cases hlt : k < ss.length
    · have hlt' : (k : Int) < (ss.length : Int) := by omega
      obtain ⟨j, hj⟩ : ∃ j, j + 1 = k := ⟨k - 1, by omega⟩
      obtain ⟨ad, rfl, hcell⟩ := (hss.gr hgr).at_ k hlt
      obtain ⟨ad', e', hcell0⟩ := (hss.gr hgr).at_ j (by omega)
      injection e' with e'
      subst e'
      have hno := hide (lessK_no (l := ss) (j := j) (by omega))
      have hw0 : (k : Int) - 1 = (j : Int) := by omega
      have hw1 : IntKind.i64.wrap (j : Int) = (j : Int) := by rw [IntKind.wrap_i64]; omega
      have hjl : (j : Int) < (ss.length : Int) := by omega
      rw [hj] at hno
      obtain ⟨x, hx⟩ : ∃ x, ss.getD k nothing = x := ⟨_, rfl⟩
      obtain ⟨y, hy⟩ : ∃ y, ss.getD j nothing = y := ⟨_, rfl⟩
      rw [hx] at hcell
      rw [hy] at hcell0
      rw [hx, hy] at hno
      have hc := hide (fun w => NameBelow_ok y x w)
      cases hmk : ltK y x
      · have hrn := hide (hno.out hmk)
        rw [hmk] at hc
        clear hmk hno hx hy hj
        go_wp2_with fail
        go_quiet (refine Calls.quiet_of_same (hc.out _))
        go_wp2_with fail
        go_ret
        exact ⟨by rw [hrn.out]; rfl, hgr.drewN _⟩
      · have hyes : Hid (∀ i, i + 1 < k + 1 → ltK (ss.getD i nothing) (ss.getD (i + 1) nothing) = true) := fun i hi => by
          by_cases h : i + 1 < k
          · exact hall.out i h
          · obtain rfl : i = j := by omega
            rw [hj, hx, hy]; exact hmk
        rw [hmk] at hc
        clear hmk hno hx hy hall hj
        go_wp2_with fail
        go_quiet (refine Calls.quiet_of_same (hc.out _))
        go_wp2_with fail
        go_roundw
        case rel => exact ⟨k + 1, by go_num, by omega, by omega, hyes, hgr.drewN _⟩
        case measure => simp [intOf]; omega
    · have hlt' : ¬ (k : Int) < (ss.length : Int) := by omega
      have hy := hide (lessK_yes (show ss.length ≤ k by omega) hall.out)
      clear hall
      go_wp2_with fail
      go_ret
      exact ⟨by rw [hy.out]; rfl, hgr⟩

end Go.Proofs.Ytbfbghfaeejicaa

/-
  key's Rising by its contract.
-/
namespace Go.Proofs.Ytbfbghfaeejicaa
open Go.RowKit KeyMath
set_option maxRecDepth 100000

set_option maxHeartbeats 400000 in
theorem RisingB_ok (A : Option Addr) (n c : Nat) (ss : List ByteArray) (hn : n = ss.length) (w : World) (hss : Strs w A c ss) (hm : ∀ s ∈ ss, (s.size : Int) ≤ 281474976710656) (hmax : (ss.length : Int) ≤ 1000000) :
    Calls Try.prog 30 #[.slice A n c] w fun e w' => e = .returned (.bool (risingK ss)) ∧ Gr w w' := by
  subst hn
  rw [rising_split]
  have H1 := hide (EachMayB_ok A _ c ss rfl w hss hm hmax)
  cases h1 : ss.all mayK
  · rw [h1] at H1
    go_enter Try.func30, Try.ntmps30
    go_wp2_with fail
    refine H1.out.mono ?_
    rintro e w1 ⟨rfl, hg1⟩
    go_wp2_with fail
    go_ret
    exact ⟨rfl, hg1⟩
  · rw [h1] at H1
    go_enter Try.func30, Try.ntmps30
    go_wp2_with fail
    refine H1.out.mono ?_
    rintro e w1 ⟨rfl, hg1⟩
    go_wp2_with fail
    refine (EachTwoBelow_ok A _ c ss rfl _ (hss.gr hg1) hmax).mono ?_
    rintro e w2 ⟨rfl, hg2⟩
    go_wp2_with fail
    go_ret
    exact ⟨rfl, hg1.trans hg2⟩

theorem Rising_ok (A : Option Addr) (n c : Nat) (ss : List ByteArray) (hn : n = ss.length) (w : World) (hss : Strs w A c ss) (hm : ∀ s ∈ ss, (s.size : Int) ≤ 1000000) (hmax : (ss.length : Int) ≤ 1000000) :
    Calls Try.prog 30 #[.slice A n c] w fun e w' => e = .returned (.bool (risingK ss)) ∧ Gr w w' :=
  RisingB_ok A n c ss hn w hss (fun s hs => Int.le_trans (hm s hs) (by decide)) hmax

end Go.Proofs.Ytbfbghfaeejicaa
