/-
  crc.Sum by its contract: a table of sixteen, reckoned where it is used, and two looks a byte.
-/
import Derived.Test.YtkcfieoflkhdpaaDoorCrcSize
import Derived.Test.YtkcfieoflkhdpaaDoorProg
namespace Go.Proofs.YtkcfieoflkhdpaaDoor
open Go.RowKit CrcMath
set_option maxRecDepth 100000

/-- what dropping four bits makes of k -/
def tabAt (k : Nat) : BitVec 32 := halves 4 (BitVec.ofNat 32 k)
/-- the first k places of a table of sixteen are reckoned -/
def Tab (k : Nat) (cur : Array Value) : Prop := cur.size = 16 ∧ ∀ j, j < k → j < 16 → cur[j]? = some (wv (tabAt j))
theorem Tab.more {k : Nat} {cur : Array Value} (h : Tab k cur) (hk : k < 16) : Tab (k + 1) (cur.setIfInBounds k (wv (tabAt k))) := by
  obtain ⟨h1, h2⟩ := h
  refine ⟨by simpa using h1, fun j hj hjk => ?_⟩
  by_cases he : j = k
  · subst he
    simp [h1, hk]
  · rw [Array.getElem?_setIfInBounds_ne (by omega)]
    exact h2 j (by omega) hjk

theorem low1 (s : BitVec 32) : bits .and .u32 (s.toNat : Int) 1 = ((s.toNat % 2 : Nat) : Int) := by
  have h := u32_and_nat s.toNat 1 s.isLt (by decide)
  rw [show s.toNat &&& 1 = s.toNat % 2 from Nat.and_two_pow_sub_one_eq_mod s.toNat 1] at h
  exact h
theorem low1_no {s : BitVec 32} (h : (s.toNat : Int) % 2 = 0) : (bits .and .u32 (s.toNat : Int) 1 == 0) = true := by
  rw [low1, beq_iff_eq]; omega
theorem low1_yes {s : BitVec 32} (h : ¬ (s.toNat : Int) % 2 = 0) : (bits .and .u32 (s.toNat : Int) 1 == 0) = false := by
  rw [low1, beq_eq_false_iff_ne]; omega

theorem half_ok (s : BitVec 32) (w : World) : Calls Tryd.prog 50 #[wv s] w fun e w' => e = .returned (wv (half s)) ∧ w' = w := by
  unfold wv
  go_enter Tryd.func50, Tryd.ntmps50
  by_cases hb0 : (s.toNat : Int) % 2 = 0
  · have hb := low1_no hb0
    rw [half_low hb0]
    go_wp2_with fail
    go_ret
    exact ⟨by first | rfl | rw [half_w], rfl⟩
  · have hb := low1_yes hb0
    rw [half_odd hb0]
    go_wp2_with fail
    go_ret
    exact ⟨by rw [← xor_poly]; rfl, rfl⟩

/-- four bits at a time -/
theorem few_eq (s : BitVec 32) : halves 4 s = (s >>> 4) ^^^ tabAt (s.toNat % 16) := by
  rw [halves_split 4 (by omega), BitVec.xor_comm]
  rfl

theorem shr4 (s : BitVec 32) : (s.toNat : Int) / 16 = ((s >>> 4).toNat : Int) := by
  rw [BitVec.toNat_ushiftRight, Nat.shiftRight_eq_div_pow]
  omega

theorem few_ok (g : Nat) (t : TypeId) (cur : Array Value) (s : BitVec 32) (w : World) (hb : Bl w g t cur) (ht : Tab 16 cur) :
    Calls Tryd.prog 60 #[.pointer (some ⟨g, 0, none⟩), wv s] w fun e w' => e = .returned (wv (halves 4 s)) ∧ w' = w := by
  have hlt : s.toNat % 16 < 16 := Nat.mod_lt _ (by decide)
  have hc : w.cell? ⟨g, s.toNat % 16, none⟩ = some (wv (tabAt (s.toNat % 16))) := by rw [hb.cell]; exact ht.2 _ hlt hlt
  rw [few_eq]
  obtain ⟨k, hk⟩ : ∃ k, s.toNat % 16 = k := ⟨_, rfl⟩
  rw [hk] at hc hlt ⊢
  have hk' : (s.toNat : Int) % 16 = (k : Int) := by omega
  have hkl : (k : Int) < 16 := by omega
  unfold wv at hc ⊢
  go_enter Tryd.func60, Tryd.ntmps60
  go_wp2_with fail
  go_ret
  exact ⟨by rw [← xor_w, ← shr4]; rfl, rfl⟩

theorem add_ok (g : Nat) (t : TypeId) (cur : Array Value) (s : BitVec 32) (b : UInt8) (w : World) (hb : Bl w g t cur) (ht : Tab 16 cur) :
    Calls Tryd.prog 52 #[.pointer (some ⟨g, 0, none⟩), wv s, bv b] w fun e w' => e = .returned (wv (upd s b)) ∧ w' = w := by
  have HB := hide hb
  have HT := hide ht
  clear hb ht
  unfold wv bv
  go_enter Tryd.func52, Tryd.ntmps52
  go_wp2_with fail
  rw [byte_mod, xor_byte]
  refine (few_ok g t cur (s ^^^ wide b) w HB.out HT.out).mono ?_
  rintro e w' ⟨rfl, rfl⟩
  go_wp2_with fail
  refine (few_ok g t cur _ w' HB.out HT.out).mono ?_
  rintro e w'' ⟨rfl, rfl⟩
  go_wp2_with fail
  go_ret
  exact ⟨by rw [← halves_add]; rfl, rfl⟩

theorem through_ok (g : Nat) (t : TypeId) (cur : Array Value) (A : Option Addr) (n c : Nat) (l : List UInt8) (hn : n = l.length) (w : World) (hby : By w A c l) (hmax : (l.length : Int) ≤ 140737488351232) (hb : Bl w g t cur) (ht : Tab 16 cur) :
    Calls Tryd.prog 51 #[.pointer (some ⟨g, 0, none⟩), .slice A n c, wv (BitVec.allOnes 32), .func (.func 52) #[] #[]] w
      fun e w' => e = .returned (wv (fold (BitVec.allOnes 32) l)) ∧ w' = w := by
  subst hn
  have HB := hide hb
  have HT := hide ht
  clear hb ht
  go_enter Tryd.func51, Tryd.ntmps51
  go_wp2_with fail
  go_loop [2, 13] (fun c i => ∃ (k : Nat) (s : BitVec 32), i = .int .i64 k ∧ k ≤ l.length ∧ c = wv s ∧ FoldIs l k s) (fun _ i => l.length - (intOf i).toNat)
  case atStart => exact ⟨0, _, rfl, by omega, rfl, FoldIs.nil l⟩
  case round =>
    obtain ⟨k, s, rfl, hk, rfl, hf⟩ := hrel
    have HF := hide hf
    clear hf
    by_cases hlt : k < l.length
    · have hlt' : (k : Int) < (l.length : Int) := by omega
      obtain ⟨ad, hA, hcell⟩ := hby.rd k hlt
      subst hA
      have hg : l[k]? = some l[k] := List.getElem?_eq_getElem hlt
      obtain ⟨b, hbb⟩ : ∃ b, l[k] = b := ⟨_, rfl⟩
      rw [hbb] at hg hcell
      have HM := hide (HF.out.more hg)
      clear hg hbb
      go_wp2_with fail
      refine (add_ok g t cur s b w HB.out HT.out).mono ?_
      rintro e w' ⟨rfl, rfl⟩
      go_wp2_with fail
      go_round
      case rel => exact ⟨k + 1, _, by go_num, by omega, rfl, HM.out⟩
      case measure => simp [intOf]; omega
    · have e : k = l.length := by omega
      subst e
      go_wp2_with fail
      go_ret
      exact ⟨congrArg (fun z => Ending.returned (wv z)) (by have h := HF.out; unfold FoldIs at h; rwa [List.take_length] at h), rfl⟩

/-- behind j of the times of a place -/
def DropIs (k j : Nat) (s : BitVec 32) : Prop := s = halves j (BitVec.ofNat 32 k)
theorem DropIs.more {k j : Nat} {s : BitVec 32} (h : DropIs k j s) : DropIs k (j + 1) (half s) := by
  unfold DropIs at h
  subst h
  rfl

theorem reckon_ok (g : Nat) (t : TypeId) (cur : Array Value) (w : World) (hb : Bl w g t cur) (hs : cur.size = 16) :
    Calls Tryd.prog 49 #[.pointer (some ⟨g, 0, none⟩), .func (.func 50) #[] #[]] w
      fun e w' => e = .returned (.tuple #[]) ∧ ∃ cur', Bl w' g t cur' ∧ Tab 16 cur' ∧ But w w' g := by
  have h0 : Tab 0 cur := ⟨hs, fun j hj => absurd hj (by omega)⟩
  go_enter Tryd.func49, Tryd.ntmps49
  go_wp2_with fail
  go_loopw [6] (fun i wr => ∃ (k : Nat) (cur : Array Value), i = .int .i64 k ∧ k ≤ 16 ∧ Hid (Tab k cur) ∧ Bl wr g t cur ∧ But w wr g) (fun i _ => 16 - (intOf i).toNat)
  case atStart => exact ⟨0, _, rfl, by omega, h0, hb, But.refl _ _⟩
  case round =>
    clear hb hs h0 cur
    obtain ⟨k, cur, rfl, hk, HT, hbl, hbut⟩ := hrel
    by_cases hlt : k < 16
    · have hlt' : (k : Int) < 16 := by omega
      have hmod : (k : Int) % 4294967296 = (k : Int) := by omega
      go_wp2_with fail
      go_loop [5, 11] (fun c i => ∃ (j : Nat) (s : BitVec 32), i = .int .i64 j ∧ j ≤ 4 ∧ c = wv s ∧ Hid (DropIs k j s)) (fun _ i => 4 - (intOf i).toNat)
      case atStart => exact ⟨0, BitVec.ofNat 32 k, rfl, by omega, by unfold wv; rw [BitVec.toNat_ofNat, Nat.mod_eq_of_lt (by omega)], rfl⟩
      case round =>
        obtain ⟨j, s, rfl, hj, rfl, HD⟩ := hrel
        by_cases hlt2 : j < 4
        · have hlt2' : (j : Int) < 4 := by omega
          have HM := hide HD.out.more
          go_wp2_with fail
          refine (half_ok s wr).mono ?_
          rintro e w' ⟨rfl, rfl⟩
          go_wp2_with fail
          go_round
          case rel => exact ⟨j + 1, _, by go_num, by omega, rfl, HM⟩
          case measure => simp [intOf]; omega
        · have e : j = 4 := by omega
          subst e
          have hd : s = tabAt k := HD.out
          subst hd
          clear HD
          have hsz := HT.out.1
          have HM := hide (HT.out.more hlt)
          obtain ⟨u, hu⟩ : ∃ u, cur[k]? = some u := ⟨cur[k]'(by omega), by simp⟩
          have hcell : wr.cell? ⟨g, k, none⟩ = some u := by rw [hbl.cell]; exact hu
          have hfz : wr.frozen? ⟨g, k, none⟩ = false := hbl.frozen k
          have HU := hide hu
          clear hu hsz
          unfold wv
          go_wp2_with fail
          go_roundw
          case rel => exact ⟨k + 1, _, by go_num, by omega, HM, hbl.put _ _, hbut.set _ _⟩
          case measure => simp [intOf]; omega
    · have e : k = 16 := by omega
      subst e
      go_wp2_with fail
      go_end0
      exact ⟨rfl, cur, hbl, HT.out, hbut⟩

theorem ones_xor (s : BitVec 32) : bits .xor .u32 IntKind.u32.max (s.toNat : Int) = ((~~~s).toNat : Int) := by
  have h := xor_w (BitVec.allOnes 32) s
  rw [BitVec.allOnes_xor] at h
  exact h

theorem Sum_ok (A : Option Addr) (n c : Nat) (l : List UInt8) (hn : n = l.length) (w : World) (hby : By w A c l) (hmax : (l.length : Int) ≤ 140737488351232) :
    Calls Tryd.prog 37 #[.slice A n c] w (SumPost w l) := by
  subst hn
  go_enter Tryd.func37, Tryd.ntmps37
  go_wp2_with fail
  refine (reckon_ok w.heap.size _ _ _ (Bl.new w _ _) rfl).mono ?_
  rintro e w1 ⟨rfl, cur, hb, ht, hbut⟩
  have HG := hide hbut.gr
  have HY := hide (hby.gr HG.out)
  have HB := hide hb
  have HT := hide ht
  clear hb ht hbut hby
  go_wp2_with fail
  refine (through_ok w.heap.size _ cur A _ c l rfl w1 HY.out hmax HB.out HT.out).mono ?_
  rintro e w2 ⟨rfl, rfl⟩
  unfold wv
  go_wp2_with fail
  go_ret
  exact ⟨congrArg (fun z => Ending.returned (.int .u32 z)) (ones_xor _), HG.out⟩

end Go.Proofs.YtkcfieoflkhdpaaDoor
