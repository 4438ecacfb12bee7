/-
  The document's At, LastOf, Add, TrimChain, SameChain, MayChain, by their contracts.
-/
import Derived.Test.YtbfbghfaeejicaaChDo
namespace Go.Proofs.Ytbfbghfaeejicaa
open Go Go.RowKit ChMath KeyMath
set_option maxRecDepth 100000

theorem RefLast_ok (v : Value) (l : List VerT) (w : World) (hv : VersX w v l) (hl : l.length ≤ 1000000000) :
    Calls Try.prog 42 #[v] w fun e w' => e = .returned (.int .i64 (lastP l)) ∧ w' = w := by
  have HV := hide hv
  obtain ⟨A, c, rfl, _⟩ := hv.is
  clear hv
  go_enter Try.func42, Try.ntmps42
  rcases hn : l.length with _ | n
  · have : l = [] := List.eq_nil_of_length_eq_zero hn
    subst this
    go_wp2_with fail
    go_ret
    exact ⟨rfl, rfl⟩
  · have hlt : n < l.length := by omega
    obtain ⟨ad, c', e1, a0, a1, a2⟩ := HV.out.at_ hlt
    simp only [Value.slice.injEq, true_and, hn] at e1
    obtain ⟨rfl, rfl⟩ := e1
    have HP := hide (show lastP l = l[n].pos by rw [lastP_at (by omega)]; congr 1; congr 1; omega)
    generalize l[n] = x at a0 a1 a2 HP
    have h0 : ¬ ((n : Int) + 1 = 0) := by omega
    have hw : (n : Int) + 1 - 1 = (n : Int) := by omega
    rw [HP.out]
    clear HV HP
    go_wp2_with fail
    go_ret
    exact ⟨rfl, rfl⟩

set_option maxHeartbeats 1000000 in
theorem RefAt_ok (v : Value) (l : List VerT) (p : Int) (w : World) (hv : VersX w v l) (hl : l.length ≤ 1000000000) :
    Calls Try.prog 65 #[v, .int .i64 p] w (AtPost p l w) := by
  have HV := hide hv
  obtain ⟨A, c, rfl, _⟩ := hv.is
  clear hv
  go_enter Try.func65, Try.ntmps65
  go_upto_region 1 with (fail)
  obtain ⟨W1, hW1⟩ : ∃ W1, w.alloc (.cells #[.int .i64 0, .string ⟨#[]⟩, .bool false] 51) = W1 := ⟨_, rfl⟩
  have hg1 : Gr w W1 := by rw [← hW1]; exact (Gr.refl _).alloc _
  have hb1 : Bl W1 w.heap.size 51 #[.int .i64 0, .string ⟨#[]⟩, .bool false] := by rw [← hW1]; exact Bl.new _ _ _
  rw [hW1]
  clear hW1
  have HG := hide hg1
  have HB := hide hb1
  have HVV := hide (HV.out.gr hg1)
  have f0 := hb1.frozen 0
  have f1 := hb1.frozen 1
  have f2 := hb1.frozen 2
  have z0 : W1.cell? ⟨w.heap.size, 0, none⟩ = some (.int .i64 0) := hb1.cell 0
  have z1 : W1.cell? ⟨w.heap.size, 1, none⟩ = some (.string ⟨#[]⟩) := hb1.cell 1
  have z2 : W1.cell? ⟨w.heap.size, 2, none⟩ = some (.bool false) := hb1.cell 2
  clear hg1 hb1 HV
  go_wp2_with fail
  go_loopw [6] (fun i wr => ∃ k : Nat, i = .int .i64 ((k : Int) - 1) ∧ k ≤ l.length ∧ Hid (lastN p l = lastN p (l.take k)) ∧ wr = W1) (fun i _ => (intOf i + 1).toNat)
  case atStart => exact ⟨l.length, by go_num, Nat.le_refl _, hide (by rw [List.take_length]), rfl⟩
  case round =>
    obtain ⟨k, rfl, hk, HE, rfl⟩ := hrel
    rcases k with _ | k
    · have HA := hide (at_none (show lastN p l = 0 from HE.out))
      clear HE
      go_wp2_with fail
      obtain ⟨W3, hW3⟩ : ∃ W3, ((wr.setCell ⟨w.heap.size, 0, none⟩ (.int .i64 0)).setCell ⟨w.heap.size, 1, none⟩ (.string ⟨#[]⟩)).setCell ⟨w.heap.size, 2, none⟩ (.bool false) = W3 := ⟨_, rfl⟩
      have hb3 : Bl W3 w.heap.size 51 #[.int .i64 0, .string ⟨#[]⟩, .bool false] := by rw [← hW3]; exact ((HB.out.put 0 _).put 1 _).put 2 _
      have hu3 : But wr W3 w.heap.size := by rw [← hW3]; exact (((But.refl _ _).set 0 _).set 1 _).set 2 _
      rw [hW3]
      refine bodyPost_ret (results_cell2 rfl _ W3 w.heap.size 51 #[.int .i64 0, .string ⟨#[]⟩, .bool false] (0, 0) _ rfl hb3 Try.underlying51 rfl (by kernel_rfl)) rfl ?_
      exact ⟨by rw [HA.out.1, HA.out.2]; rfl, HG.out.fresh_ hu3 (Nat.le_refl _)⟩
    · rw [show ((k + 1 : Nat) : Int) - 1 = (k : Int) by omega]
      have hlt : k < l.length := by omega
      have hlt' : (k : Int) < (l.length : Int) := by omega
      obtain ⟨ad, c', e1, a0, a1, a2⟩ := HVV.out.at_ hlt
      simp only [Value.slice.injEq, true_and] at e1
      obtain ⟨rfl, rfl⟩ := e1
      have HS := hide (lastN_take (p := p) hlt)
      by_cases hx : l[k].pos ≤ p
      · obtain ⟨_, he, hi⟩ := at_found (show lastN p l = k + 1 from HE.out.trans (HS.out.trans (if_pos hx)))
        have HA := hide (And.intro he hi)
        clear HS HE he hi
        generalize l[k] = x at a0 a1 a2 HA hx
        obtain ⟨xp, xt, xb⟩ := x
        simp only at a0 a1 a2 hx
        go_wp2_with fail
        obtain ⟨W3, hW3⟩ : ∃ W3, ((wr.setCell ⟨w.heap.size, 0, none⟩ (.int .i64 xp)).setCell ⟨w.heap.size, 1, none⟩ (.string xt)).setCell ⟨w.heap.size, 2, none⟩ (.bool xb) = W3 := ⟨_, rfl⟩
        have hb3 : Bl W3 w.heap.size 51 #[.int .i64 xp, .string xt, .bool xb] := by rw [← hW3]; exact ((HB.out.put 0 _).put 1 _).put 2 _
        have hu3 : But wr W3 w.heap.size := by rw [← hW3]; exact (((But.refl _ _).set 0 _).set 1 _).set 2 _
        rw [hW3]
        refine bodyPost_ret (results_cell2 rfl _ W3 w.heap.size 51 #[.int .i64 xp, .string xt, .bool xb] (0, 0) _ rfl hb3 Try.underlying51 rfl (by kernel_rfl)) rfl ?_
        exact ⟨by rw [HA.out.1, HA.out.2]; rfl, HG.out.fresh_ hu3 (Nat.le_refl _)⟩
      · have HR := hide (show lastN p l = lastN p (l.take k) from HE.out.trans (HS.out.trans (if_neg hx)))
        clear HS HE
        generalize l[k] = x at a0 a1 a2 hx
        obtain ⟨xp, xt, xb⟩ := x
        simp only at a0 a1 a2 hx
        go_wp2_with fail
        go_roundw
        case rel => exact ⟨k, by go_num, by omega, HR, trivial⟩
        case measure => simp [intOf]

theorem same_ver (v u : Value) (l : List VerT) (w : World) (hv : VersX w v l) (hu : VersX w u l) (hl : l.length ≤ 1000000000) :
    Calls Try.prog 46 #[v, u] w fun e w' => e = .returned (.bool true) ∧ Gr w w' := by
  have HV := hide hv
  have HU := hide hu
  obtain ⟨A, c, rfl, _⟩ := hv.is
  obtain ⟨B, d, rfl, _⟩ := hu.is
  clear hv hu
  go_enter Try.func46, Try.ntmps46
  go_wp2_with fail
  go_loopw [5] (fun i wr => ∃ k : Nat, i = .int .i64 k ∧ k ≤ l.length ∧ Hid (Gr w wr)) (fun i _ => l.length - (intOf i).toNat)
  case atStart => exact ⟨0, rfl, by omega, Gr.refl w⟩
  case round =>
    obtain ⟨k, rfl, hk, HR⟩ := hrel
    by_cases hlt : k < l.length
    · have hlt' : (k : Int) < (l.length : Int) := by omega
      obtain ⟨ad, c', e1, a0, a1, a2⟩ := (HV.out.gr HR.out).at_ hlt
      obtain ⟨bd, d', e2, b0, b1, b2⟩ := (HU.out.gr HR.out).at_ hlt
      simp only [Value.slice.injEq, true_and] at e1 e2
      obtain ⟨rfl, rfl⟩ := e1
      obtain ⟨rfl, rfl⟩ := e2
      generalize l[k] = x at a0 a1 a2 b0 b1 b2
      obtain ⟨xp, xt, xb⟩ := x
      simp only at a0 a1 a2 b0 b1 b2
      go_wp2_with fail
      go_quiet (fail)
      go_wp2_with fail
      go_roundw
      case rel => exact ⟨k + 1, by go_num, by omega, Gr.drewN HR.out _⟩
      case measure => simp [intOf]; omega
    · obtain rfl : k = l.length := by omega
      go_wp2_with fail
      go_ret
      exact ⟨rfl, HR.out⟩

end Go.Proofs.Ytbfbghfaeejicaa
