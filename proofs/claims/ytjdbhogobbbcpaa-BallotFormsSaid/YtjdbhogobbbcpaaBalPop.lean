/-
  The heap's Pop, by its contract.
-/
import Derived.Test.YtjdbhogobbbcpaaBalDisp
namespace Go.Proofs.Ytjdbhogobbbcpaa
open Go Go.RowKit
set_option maxRecDepth 100000

theorem OwnI.front {w : World} {B g n c k : Nat} {l : List Int} (h : OwnI w B (.slice (some ⟨g, 0, none⟩) n c) l) (hk : k ≤ l.length) : OwnI w B (.slice (some ⟨g, 0, none⟩) k c) (l.take k) := by
  unfold OwnI OwnV at *
  rw [ivs_len] at *
  refine ⟨by simp [ivs_len], ?_⟩
  rcases h.2 with ⟨h', _⟩ | ⟨g', cap', cur, h', hb, hg, hnc, hcm, hcs, htake⟩
  · simp at h'
  · simp only [Value.slice.injEq, Option.some.injEq, Addr.mk.injEq, and_true] at h'
    obtain ⟨rfl, rfl, rfl⟩ := h'
    refine .inr ⟨g, c, cur, by rw [List.length_take, Nat.min_eq_left hk], hb, hg, by rw [List.length_take]; omega, hcm, hcs, ?_⟩
    rw [List.length_take, Nat.min_eq_left hk]
    have : cur.toList.take (k * 1) = (cur.toList.take (l.length * 1)).take k := by rw [List.take_take, Nat.mul_one, Nat.mul_one, Nat.min_eq_left hk]
    rw [this, htake]
    simp [ivs]

set_option maxHeartbeats 1000000 in
theorem hPop_ok (w0 w : World) (g : Nat) (l : List Int) (k : Nat) (h : HP w0 w g l) (hk : l.length = k + 1) :
    Calls Try.prog 52 #[.pointer (some ⟨g, 0, none⟩)] w fun e w' => e = .returned (.iface 3 (iv (l[k]'(by omega)))) ∧ HP w0 w' g (l.take k) := by
  obtain ⟨v, hb, ho⟩ := h.own
  obtain ⟨b, c, rfl, hB, hbw, hc, hm, hr⟩ := ho.block_ (by omega)
  have c0 : w.cell? ⟨g, 0, none⟩ = some (.slice (some ⟨b, 0, none⟩) l.length c) := by rw [hb.cell]; rfl
  have f0 := hb.frozen 0
  have c1 : w.cell? ⟨b, k, none⟩ = some (iv (l[k]'(by omega))) := by rw [hr.cellAt k (by omega), ivs_at (by omega)]
  have HE : Hid (HP w0 (w.setCell ⟨g, 0, none⟩ (.slice (some ⟨b, 0, none⟩) k c)) g (l.take k)) := by
    have hbut : But w (w.setCell ⟨g, 0, none⟩ (.slice (some ⟨b, 0, none⟩) k c)) g := (But.refl w g).set 0 _
    have hat := h.at_
    refine ⟨⟨_, hb.put 0 _, ?_⟩, ?_, h.at_⟩
    · exact World.ownsRow.kept (ho.front (k := k) (by omega)) hbut (.inr (fun e2 => by injection e2 with e2; simp at e2; omega))
    · have hs := h.gr.size
      exact ⟨hbut.os.trans h.gr.os, hbut.tape.trans h.gr.tape, hbut.output.trans h.gr.output, Nat.le_trans h.gr.size hbut.size, fun k hk => (hbut.block k (Nat.lt_of_lt_of_le hk h.gr.size) (by simp; omega)).trans (h.gr.block k hk)⟩
  have hc' : k + 1 ≤ c := by omega
  have hm' : (c : Int) ≤ 9223372036854775807 := by simp [maxLen] at hm; omega
  rw [hk] at c0
  obtain ⟨x, hx⟩ : ∃ x, l[k]'(by omega) = x := ⟨_, rfl⟩
  rw [hx] at c1 ⊢
  clear hx hb ho hr h hc hB hk
  have hcn : ¬ c = 0 := by omega
  have e1 : ((k + 1 : Nat) : Int) - 1 = k := by omega
  have hk1 : (k : Int) ≤ (c : Int) := by omega
  have hk2 : (k : Int) < ((k + 1 : Nat) : Int) := by omega
  unfold iv at *
  go_enter Try.func52, Try.ntmps52
  go_wp2_with fail
  go_ret
  exact ⟨rfl, HE.out⟩

end Go.Proofs.Ytjdbhogobbbcpaa
