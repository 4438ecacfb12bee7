/-
  The document's TakeNum and TakeText by their contracts.
-/
import Derived.Test.YtjpdhijhmpdbnaaGreatNumFirst
import Derived.Test.YtjpdhijhmpdbnaaGreatNumPut
import Derived.Test.YtjpdhijhmpdbnaaGreatBaseG
namespace Go.Proofs.YtjpdhijhmpdbnaaGreat
open Go.RowKit NumPlain
set_option maxRecDepth 100000

/-- the first m bytes have one behind -/
def AllHi (l : List UInt8) (m : Nat) : Prop := m ≤ l.length ∧ ∀ j (h : j < l.length), j < m → 128 ≤ l[j].toNat
theorem AllHi.more {l : List UInt8} {m : Nat} {c : UInt8} (h : AllHi l m) (hg : l[m]? = some c) (hc : 128 ≤ c.toNat) : AllHi l (m + 1) := by
  obtain ⟨hl, rfl⟩ := List.getElem?_eq_some_iff.1 hg
  refine ⟨by omega, fun j hj hjm => ?_⟩
  by_cases he : j = m
  · subst he; exact hc
  · exact h.2 j hj (by omega)

def RefPost (w : World) (l : List UInt8) (e : Ending) (w' : World) : Prop := e = .returned (.tuple #[.int .i64 (takeV l), .int .i64 (takeK l), .bool (takeB l)]) ∧ Gr w w'
theorem RefPost.no {w w' : World} {l : List UInt8} (h : takeF 9 l = none) (hg : Gr w w') : RefPost w l (.returned (.tuple #[.int .i64 0, .int .i64 0, .bool false])) w' := ⟨by simp [takeV, takeK, takeB, h], hg⟩
theorem RefPost.yes {w w' : World} {l : List UInt8} {v k : Nat} (h : takeF 9 l = some (v, k)) (hg : Gr w w') : RefPost w l (.returned (.tuple #[.int .i64 v, .int .i64 k, .bool true])) w' := ⟨by simp [takeV, takeK, takeB, h], hg⟩

theorem by_byte {w : World} {A : Option Addr} {c k : Nat} {l : List UInt8} (h : By w A c l) (hk : k < l.length) :
    ∃ ad cb, A = some ad ∧ l[k]? = some cb ∧ w.cell? (ad.add k) = some (.int .u8 (cb.toNat : Int)) := by
  obtain ⟨ad, hA, hc⟩ := h.rd k hk
  exact ⟨ad, l[k], hA, by simp [hk], hc⟩

theorem by_byte2 {w : World} {ad : Addr} {c k : Nat} {l : List UInt8} (h : By w (some ad) c l) (hk : k < l.length) :
    ∃ cb, l[k]? = some cb ∧ w.cell? (ad.add k) = some (.int .u8 (cb.toNat : Int)) := by
  obtain ⟨ad', hA, hc⟩ := h.rd k hk
  injection hA with hA
  subst hA
  exact ⟨l[k], by simp [hk], hc⟩

theorem size_u8 : ∀ w, (sizeOf (Tryz.prog.elem 22)).run Tryz.prog w = .ok 1 w := fun w => by kernel_rfl

set_option maxRecDepth 100000 in
set_option maxHeartbeats 400000 in
theorem TakeNum_ok (A : Option Addr) (n c : Nat) (l : List UInt8) (hn : n = l.length) (w : World) (hby : By w A c l) (hmax : (l.length : Int) ≤ 140737488351232) :
    Calls Tryz.prog 69 #[.slice A n c] w (RefPost w l) := by
  subst hn
  go_enter Tryz.func69, Tryz.ntmps69
  go_wp2_with fail
  go_loop [5] (fun x => ∃ m : Nat, x = .int .i64 ((m : Int) + 1) ∧ (m : Int) ≤ 9 ∧ AllHi l m) (fun x => (10 - intOf x).toNat)
  case atStart => exact ⟨0, rfl, by omega, by simp, fun j h hj => absurd hj (by omega)⟩
  case round =>
    obtain ⟨m, rfl, hm9, hall⟩ := hrel
    have hml := hall.1
    by_cases h9 : (m : Int) + 1 ≤ 9
    · have d9 : decide ((m : Int) + 1 ≤ 9) = true := by rw [decide_eq_true_eq]; omega
      by_cases hl : m < l.length
      · have dl : decide ((m : Int) + 1 ≤ (l.length : Int)) = true := by rw [decide_eq_true_eq]; omega
        have hl' : (m : Int) < (l.length : Int) := by omega
        obtain ⟨ad, cb, rfl, hg, hcell⟩ := by_byte hby hl
        have Hg := hide hg
        clear hg
        by_cases hc : (128 : Int) ≤ (cb.toNat : Int)
        · have HA := hide (hall.more Hg.out (by omega))
          go_wp2_with fail
          go_round
          case rel => exact ⟨m + 1, by go_num, by omega, HA.out⟩
          case measure => simp [intOf]; omega
        · go_wp2_with fail
          go_loop [6, 7] (fun v i => ∃ j V : Nat, i = .int .i64 ((j : Int) - 1) ∧ v = .int .i64 (V : Int) ∧ HornerInv l m j V) (fun _ i => (intOf i + 1).toNat)
          case atStart => exact ⟨m + 1, 0, by go_num, rfl, HornerInv.start l m hl⟩
          case round =>
            obtain ⟨j, V, rfl, rfl, hh⟩ := hrel
            have hj1 := hh.1
            by_cases hj : 1 ≤ j
            · obtain ⟨j, rfl⟩ : ∃ j', j = j' + 1 := ⟨j - 1, by omega⟩
              have hV := hh.bound (by omega)
              obtain ⟨cj, hgj, hcj⟩ := by_byte2 hby (show j < l.length by omega)
              have HM := hide (hh.more hl hgj)
              clear hgj
              have e1 : ((j + 1 : Nat) : Int) - 1 = (j : Int) := by omega
              rw [e1]
              clear e1
              have h256 : (cj.toNat : Int) ≤ 255 := by have := cj.toNat_lt; omega
              have hjl : (j : Int) < (l.length : Int) := by omega
              go_wp2_with fail
              go_round
              case rel => exact ⟨j, V * 128 + cj.toNat % 128, rfl, by go_num, HM.out⟩
              case measure => simp [intOf]
            · obtain rfl : j = 0 := by omega
              have HV := hide hh.last
              have hVb := hh.bound0 (by omega)
              have hat := takeF_at m (by omega) hl hall.2 (by obtain ⟨_, rfl⟩ := List.getElem?_eq_some_iff.1 Hg.out; omega)
              rw [← hh.last] at hat
              have Hat := hide hat
              clear hat hj1 hj
              go_wp2_with fail
              refine Grow.wp_region_grown 49 rfl (by kernel_rfl) (by kernel_rfl) (Grow.Ahead.more (Grow.Ahead.more (Grow.Ahead.more (Grow.Ahead.none_ _ _) 0 (Grow.Sl.stays l) ⟨some ad, c, rfl, hby.gr ((Gr.refl w).drew)⟩) 5 (Grow.Is.stays (.int .i64 ((m : Int) + 1))) rfl) 6 (Grow.Is.stays (.int .i64 (V : Int))) rfl) ?_
              refine Grow.grow_mv (.inl rfl) (.inl ⟨rfl, rfl⟩) rfl ?_
              refine Grow.grow_call1 (Φ := Grow.Sl (putN V)) rfl (.inl ⟨rfl, rfl⟩) Tryz.func34 (by kernel_rfl) (by kernel_rfl) (Ψ := Grow.Is (.int .i64 (V : Int))) rfl (Grow.Sl.stays _) (fun v u _ hv => by
                obtain rfl : v = _ := hv
                exact (putNum_any V (by omega) u).mono fun e w1 ⟨v1, he, ho1, hg1⟩ => ⟨v1, he, hg1, ho1.by_⟩) ?_
              refine Grow.grow_conv rfl (.inl ⟨rfl, rfl⟩) rfl Tryz.underlying22 Tryz.underlying5 Tryz.underlying9 ?_
              refine Grow.grow_mvs (.inl rfl) (.inl ⟨rfl, rfl⟩) rfl ?_
              refine Grow.grow_mv (.inl rfl) (.inl ⟨rfl, rfl⟩) rfl ?_
              refine Grow.grow_cut_h (m + 1) rfl Tryz.underlying22 size_u8 (.inl ⟨rfl, rfl⟩) rfl rfl (by omega) (by omega) ?_
              refine Grow.grow_conv rfl (.inl ⟨rfl, rfl⟩) rfl Tryz.underlying22 Tryz.underlying5 Tryz.underlying9 ?_
              refine Grow.grow_str_neq rfl (.inl ⟨rfl, rfl⟩) rfl rfl ?_
              intro a1 w1 hg1 hs1 hd1 hk1
              have s0 := hk1 0
              have s5 : a1.tmps.getD 5 undef = .int .i64 ((m : Int) + 1) := hk1 5
              have s6 : a1.tmps.getD 6 undef = .int .i64 (V : Int) := hk1 6
              have s46 : a1.tmps.getD 46 undef = .bool (!decide (bs (putN V) = bs (l.take (m + 1)))) := hk1 46
              clear hk1
              have hgw : Gr w w1 := Gr.trans ((Gr.refl w).drew) hg1
              rw [Grow.lay_frame a1 49 hs1, hd1]
              simp only [List.range, List.range.loop, List.map_cons, List.map_nil, s5, s6, s46]
              by_cases he : putN V = l.take (m + 1)
              · have HY : Hid (takeF 9 l = some (V, m + 1)) := by have := Hat.out; rw [if_pos he] at this; exact this
                have e : decide (bs (putN V) = bs (l.take (m + 1))) = true := by rw [he]; simp
                rw [e]
                clear e he s0 s5 s6 s46
                go_wp2_with fail
                go_ret3
                exact RefPost.yes HY.out hgw
              · have HN : Hid (takeF 9 l = none) := by have := Hat.out; rw [if_neg he] at this; exact this
                have e : decide (bs (putN V) = bs (l.take (m + 1))) = false := by rw [decide_eq_false_iff_not]; exact fun h => he (bs_inj h)
                rw [e]
                clear e he s0 s5 s6 s46
                go_wp2_with fail
                go_ret3
                exact RefPost.no HN.out hgw
      · have hN := hide (takeF_long m (Or.inr (by omega)) (by omega) hml hall.2)
        have dl : decide ((m : Int) + 1 ≤ (l.length : Int)) = false := by rw [decide_eq_false_iff_not]; omega
        go_wp2_with fail
        go_ret3
        exact RefPost.no hN.out (Gr.refl w)
    · have hN := hide (takeF_long m (Or.inl (by omega)) (by omega) hml hall.2)
      have d9 : decide ((m : Int) + 1 ≤ 9) = false := by rw [decide_eq_false_iff_not]; omega
      go_wp2_with fail
      go_ret3
      exact RefPost.no hN.out (Gr.refl w)

end Go.Proofs.YtjpdhijhmpdbnaaGreat
