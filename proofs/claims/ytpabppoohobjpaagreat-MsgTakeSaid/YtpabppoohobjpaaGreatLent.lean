/-
  'Lent' and 'Back' of the statements, by their contracts: bytes with others behind them in their room; that they are as they were.
-/
import Derived.Test.YtpabppoohobjpaaGreatBaseW
import Derived.Test.YtpabppoohobjpaaGreatProg
namespace Go.Proofs.YtpabppoohobjpaaGreat
open Go.RowKit
set_option maxRecDepth 100000

/-- the byte that stands at place j behind what is lent -/
def padV (j : Nat) : Value := .int .u8 (85 + (j : Int) % 5)
/-- the cells of what is lent -/
def LentCells (l : List UInt8) (cur : Array Value) : Prop :=
  cur.size = l.length + 6 ∧ (∀ j (h : j < l.length), cur[j]? = some (bv l[j])) ∧ ∀ j, l.length ≤ j → j < l.length + 6 → cur[j]? = some (padV j)

/-- the first k are pads -/
def Pads (N k : Nat) (cur : Array Value) : Prop := cur.size = N ∧ ∀ j, j < k → j < N → cur[j]? = some (padV j)
theorem Pads.more {N k : Nat} {cur : Array Value} (h : Pads N k cur) (hk : k < N) : Pads N (k + 1) (cur.setIfInBounds k (padV k)) := by
  refine ⟨by simpa using h.1, fun j hj hjN => ?_⟩
  have hs := h.1
  by_cases he : j = k
  · subst he; simp [hs, hk]
  · rw [Array.getElem?_setIfInBounds_ne (by omega)]; exact h.2 j (by omega) hjN
/-- the first k are the bytes, the others pads -/
def Filled (l : List UInt8) (k : Nat) (cur : Array Value) : Prop :=
  cur.size = l.length + 6 ∧ (∀ j (h : j < l.length), j < k → cur[j]? = some (bv l[j])) ∧ ∀ j, k ≤ j → j < l.length + 6 → cur[j]? = some (padV j)
theorem Pads.filled {l : List UInt8} {cur : Array Value} (h : Pads (l.length + 6) (l.length + 6) cur) : Filled l 0 cur := ⟨h.1, fun j _ hj => absurd hj (by omega), fun j _ hj => h.2 j hj hj⟩
theorem Filled.more {l : List UInt8} {k : Nat} {cur : Array Value} (h : Filled l k cur) (hk : k < l.length) : Filled l (k + 1) (cur.setIfInBounds k (bv l[k])) := by
  refine ⟨by simpa using h.1, fun j hj hjk => ?_, fun j hj hjN => ?_⟩
  · have hs := h.1
    by_cases he : j = k
    · subst he; have : j < cur.size := by omega
      simp [this]
    · rw [Array.getElem?_setIfInBounds_ne (by omega)]; exact h.2.1 j hj (by omega)
  · rw [Array.getElem?_setIfInBounds_ne (by omega)]; exact h.2.2 j (by omega) hjN
theorem Filled.lent {l : List UInt8} {cur : Array Value} (h : Filled l l.length cur) : LentCells l cur := ⟨h.1, fun j hj => h.2.1 j hj hj, h.2.2⟩

theorem cur_some {cur : Array Value} {N k : Nat} (hs : cur.size = N) (hk : k < N) : ∃ u, cur[k]? = some u := ⟨cur[k]'(by omega), by simp [show k < cur.size by omega]⟩

theorem LentCells.by_ {w : World} {g : Nat} {e : TypeId} {l : List UInt8} {cur : Array Value} (h : LentCells l cur) (hb : Bl w g e cur) (hm : (l.length : Int) ≤ 140737488351232) : By w (some ⟨g, 0, none⟩) (l.length + 6) l := by
  refine ⟨fun j hj => ⟨_, rfl, ?_⟩, by omega, by unfold maxLen; omega, fun h => by cases h⟩
  have : (⟨g, 0, none⟩ : Addr).add j = ⟨g, j, none⟩ := by unfold Addr.add; split <;> simp_all
  rw [this, hb.cell j]
  exact h.2.1 j hj

theorem info_u8' : (Tryz.prog.info? 5).map (fun i => (i.zero, i.size, i.bytes)) = some (some (.int .u8 0), 1, 1) := by kernel_rfl

/-- what Lent comes to -/
def LentPost (w : World) (l : List UInt8) (e : Ending) (w' : World) : Prop :=
  ∃ g cur, e = .returned (.slice (some ⟨g, 0, none⟩) l.length (l.length + 6)) ∧ Bl w' g 5 cur ∧ LentCells l cur ∧ Gr w w'

theorem make_bytes (w : World) (n : Nat) (hn : (n : Int) ≤ 281474976710656) :
    (Instr.makeSlice 22 (.int .i64 (n : Int)) (.int .i64 (n : Int))).run Tryz.prog w = .ok (.slice (some ⟨w.heap.size, 0, none⟩) n n) (w.alloc (.cells (madeCells #[.int .u8 0] n) 5)) := by
  obtain ⟨i0, hi, hz0, hz1, hz2⟩ := info_parts info_u8'
  have h := run_make (P := Tryz.prog) w 22 5 i0 (.int .u8 0) Tryz.underlying22 hi hz0 .i64 .i64 (n : Int) (n : Int) (by omega) (Int.le_refl _) (by rw [hz2]; omega) (by omega)
  rw [h, hz1]
  simp [Value.cells]

/-- .. in a new block -/
def LentNew (w : World) (l : List UInt8) (e : Ending) (w' : World) : Prop :=
  ∃ g cur, w.heap.size ≤ g ∧ e = .returned (.slice (some ⟨g, 0, none⟩) l.length (l.length + 6)) ∧ Bl w' g 5 cur ∧ LentCells l cur ∧ Gr w w'

set_option maxHeartbeats 400000 in
theorem Lent_new (A : Option Addr) (n c : Nat) (l : List UInt8) (hn : n = l.length) (w : World) (hby : By w A c l) (hmax : (l.length : Int) ≤ 140737488351232) :
    Calls Tryz.prog 15 #[.slice A n c] w (LentNew w l) := by
  subst hn
  have hmk := make_bytes w (l.length + 6) (by omega)
  have ec : ((l.length + 6 : Nat) : Int) = (l.length : Int) + 6 := by omega
  rw [ec] at hmk
  clear ec
  go_enter Tryz.func15, Tryz.ntmps15
  go_wp2_with fail
  obtain ⟨g, hg⟩ : ∃ g, w.heap.size = g := ⟨_, rfl⟩
  have hb0 := Bl.new w 5 (madeCells #[.int .u8 0] (l.length + 6))
  have hbut0 : But (w.alloc (.cells (madeCells #[.int .u8 0] (l.length + 6)) 5)) (w.alloc (.cells (madeCells #[.int .u8 0] (l.length + 6)) 5)) w.heap.size := But.refl _ _
  have hp0 : Pads (l.length + 6) 0 (madeCells #[.int .u8 0] (l.length + 6)) := ⟨size_madeCells _ _, fun j hj => absurd hj (by omega)⟩
  have hrd0 := (hby.gr ((Gr.refl w).alloc (.cells (madeCells #[.int .u8 0] (l.length + 6)) 5)))
  obtain ⟨W0, hW0⟩ : ∃ W0, w.alloc (.cells (madeCells #[.int .u8 0] (l.length + 6)) 5) = W0 := ⟨_, rfl⟩
  have hgrW : ∀ w', But W0 w' g → Gr w w' := fun w' h => by subst hW0; subst hg; exact h.gr
  have hoff : Off g A l := by rw [← hg]; exact hby.rd.off
  rw [hW0, hg] at hb0 hbut0
  rw [hW0] at hrd0
  have HgrW := hide hgrW
  have HG := hide (Nat.le_of_eq hg)
  rw [hW0, hg]
  clear hW0 hg hmk hgrW
  go_loopw [4] (fun i wr => ∃ (k : Nat) (cur : Array Value), i = .int .i64 k ∧ (k : Int) ≤ (l.length : Int) + 6 ∧ Pads (l.length + 6) k cur ∧ Bl wr g 5 cur ∧ But W0 wr g) (fun i _ => l.length + 6 - (intOf i).toNat)
  case atStart => exact ⟨0, _, rfl, by omega, hp0, hb0, hbut0⟩
  case round =>
    obtain ⟨k, cur, rfl, hk, hp, hbl, hbut⟩ := hrel
    by_cases hlt : k < l.length + 6
    · have hlt' : (k : Int) < (l.length : Int) + 6 := by omega
      obtain ⟨u, hu⟩ := cur_some hp.1 hlt
      have hc : wr.cell? ⟨g, k, none⟩ = some u := by rw [hbl.cell]; exact hu
      have hf : wr.frozen? ⟨g, k, none⟩ = false := hbl.frozen k
      have HU := hide hu
      clear hu
      go_wp2_with fail
      go_roundw
      case rel => exact ⟨k + 1, _, by go_num, by omega, hp.more hlt, hbl.put k _, hbut.set k _⟩
      case measure => simp [intOf]; omega
    · go_wp2_with fail
      obtain rfl : k = l.length + 6 := by omega
      have hfil := hp.filled
      go_loopw [5] (fun i wr2 => ∃ (k : Nat) (cur : Array Value), i = .int .i64 k ∧ (k : Int) ≤ (l.length : Int) ∧ Filled l k cur ∧ Bl wr2 g 5 cur ∧ But W0 wr2 g) (fun i _ => l.length - (intOf i).toNat)
      case atStart => exact ⟨0, cur, rfl, by omega, hfil, hbl, hbut⟩
      case round =>
        clear hp hbl hbut hfil
        obtain ⟨k, cur2, rfl, hk2, hp2, hbl2, hbut2⟩ := hrel
        by_cases hlt2 : k < l.length
        · have hlt2' : (k : Int) < (l.length : Int) := by omega
          obtain ⟨u, hu⟩ := cur_some (k := k) hp2.1 (by omega)
          have hc : wr.cell? ⟨g, k, none⟩ = some u := by rw [hbl2.cell]; exact hu
          have hf : wr.frozen? ⟨g, k, none⟩ = false := hbl2.frozen k
          obtain ⟨ad, hA, hcell⟩ := hrd0.rd k hlt2
          have hne := hoff (by omega) ad hA
          have hcell2 : wr.cell? (ad.add k) = some (bv l[k]) := hbut2.cell hcell (by rw [add_block]; exact hne)
          have HF := hp2.more hlt2
          obtain ⟨x, hx⟩ : ∃ x, bv l[k] = x := ⟨_, rfl⟩
          have hone : ∃ b : UInt8, x = .int .u8 (b.toNat : Int) := ⟨_, hx.symm⟩
          rw [hx] at hcell2 HF
          obtain ⟨b, rfl⟩ := hone
          subst hA
          have HU := hide hu
          clear hu hx hcell
          go_wp2_with fail
          go_roundw
          case rel => exact ⟨k + 1, _, by go_num, by omega, HF, hbl2.put k _, hbut2.set k _⟩
          case measure => simp [intOf]; omega
        · obtain rfl : k = l.length := by omega
          go_wp2_with fail
          go_ret
          exact ⟨g, cur2, HG.out, rfl, hbl2, hp2.lent, HgrW.out _ hbut2⟩
theorem Lent_ok (A : Option Addr) (n c : Nat) (l : List UInt8) (hn : n = l.length) (w : World) (hby : By w A c l) (hmax : (l.length : Int) ≤ 140737488351232) :
    Calls Tryz.prog 15 #[.slice A n c] w (LentPost w l) :=
  (Lent_new A n c l hn w hby hmax).mono fun _ _ ⟨g, cur, _, h⟩ => ⟨g, cur, h⟩

/-- what Back asks -/
theorem Back_ok (A : Option Addr) (n c : Nat) (l : List UInt8) (hn : n = l.length) (g : Nat) (cur : Array Value) (w : World) (hby : By w A c l) (hb : Bl w g 5 cur) (hcur : LentCells l cur) (hmax : (l.length : Int) ≤ 140737488351232) :
    Calls Tryz.prog 17 #[.slice (some ⟨g, 0, none⟩) n (n + 6), .slice A n c] w fun e w' => e = .returned (.bool true) ∧ w' = w := by
  subst hn
  have k1 := run_conv (P := Tryz.prog) w 22 9 5 Tryz.underlying22 Tryz.underlying5 Tryz.underlying9 _ (l.length + 6) rfl (hcur.by_ hb hmax).rd
  have k2 := run_conv (P := Tryz.prog) w 22 9 5 Tryz.underlying22 Tryz.underlying5 Tryz.underlying9 _ c rfl hby.rd
  go_enter Tryz.func17, Tryz.ntmps17
  go_wp2_with fail
  go_loop [5] (fun i => ∃ k : Nat, i = .int .i64 k ∧ l.length ≤ k ∧ (k : Int) ≤ (l.length : Int) + 6) (fun i => l.length + 6 - (intOf i).toNat)
  case atStart => exact ⟨l.length, rfl, Nat.le_refl _, by omega⟩
  case round =>
    clear k1 k2
    obtain ⟨k, rfl, hk1, hk2⟩ := hrel
    by_cases hlt : k < l.length + 6
    · have hlt' : (k : Int) < (l.length : Int) + 6 := by omega
      have hc : w.cell? ⟨g, k, none⟩ = some (padV k) := by rw [hb.cell]; exact hcur.2.2 k hk1 hlt
      unfold padV at hc
      go_wp2_with fail
      go_round
      case rel => exact ⟨k + 1, by go_num, by omega, by omega⟩
      case measure => simp [intOf]; omega
    · go_wp2_with fail
      go_ret
      exact ⟨rfl, rfl⟩

end Go.Proofs.YtpabppoohobjpaaGreat
