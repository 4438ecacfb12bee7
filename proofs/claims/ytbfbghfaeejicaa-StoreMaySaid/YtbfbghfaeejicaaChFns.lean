/-
  chain's own functions by their contracts: has, valued, last, own, At, Last, Add, Trim.
-/
import Derived.Test.YtbfbghfaeejicaaChMem
import Derived.StillTailTactics
namespace Go.Proofs.Ytbfbghfaeejicaa
open Go Go.RowKit ChMath KeyMath
set_option maxRecDepth 100000

theorem has_ok (m p : Int) (t : ByteArray) (b : Bool) (w : World) :
    Calls Try.prog 70 #[.int .i64 m, .agg #[.int .i64 p, .string t, .bool b]] w fun e w' => e = .returned (.bool (decide (p ≤ m))) ∧ Gr w w' := by
  go_enter Try.func70, Try.ntmps70
  go_wp2_with fail
  go_ret
  exact ⟨rfl, (Gr.refl _).alloc _⟩

theorem valued_ok (p : Int) (t : ByteArray) (b : Bool) (_ : (t.size : Int) ≤ 281474976710656) (w : World) :
    Calls Try.prog 75 #[.agg #[.int .i64 p, .string t, .bool b]] w fun e w' => e = .returned (.bool (valuedV ⟨p, t, b⟩)) ∧ Gr w w' := by
  go_enter Try.func75, Try.ntmps75
  cases b
  · go_wp2_with fail
    go_ret
    exact ⟨rfl, (Gr.refl _).alloc _⟩
  · go_wp2_with fail
    go_ret
    exact ⟨rfl, (Gr.refl _).alloc _⟩

set_option maxHeartbeats 1000000 in
theorem last_ok (v : Value) (l : List VerT) (m : Int) (w : World) (hv : VersX w v l) (hl : l.length ≤ 1000000000) :
    Calls Try.prog 69 #[v, .func (.func 70) #[.int .i64 m] #[]] w fun e w' => e = .returned (.int .i64 ((lastN m l : Nat) - 1 : Int)) ∧ Gr w w' := by
  have HV := hide hv
  obtain ⟨A, c, rfl, _⟩ := hv.is
  clear hv
  go_enter Try.func69, Try.ntmps69
  go_wp2_with fail
  go_loopw [5] (fun i wr => ∃ k : Nat, i = .int .i64 ((k : Int) - 1) ∧ k ≤ l.length ∧ Hid (lastN m l = lastN m (l.take k)) ∧ Hid (Gr w wr)) (fun i _ => (intOf i + 1).toNat)
  case atStart => exact ⟨l.length, by go_num, Nat.le_refl _, hide (by rw [List.take_length]), hide (Gr.refl _)⟩
  case round =>
    obtain ⟨k, rfl, hk, HE, HG⟩ := hrel
    rcases k with _ | k
    · have HZ := hide (show lastN m l = 0 from HE.out)
      clear HE
      go_wp2_with fail
      go_ret
      exact ⟨by rw [HZ.out]; rfl, HG.out⟩
    · rw [show ((k + 1 : Nat) : Int) - 1 = (k : Int) by omega]
      have hlt : k < l.length := by omega
      have hlt' : (k : Int) < (l.length : Int) := by omega
      obtain ⟨ad, c', e1, a0, a1, a2⟩ := (HV.out.gr HG.out).at_ hlt
      simp only [Value.slice.injEq, true_and] at e1
      obtain ⟨rfl, rfl⟩ := e1
      have HS := hide (lastN_take (p := m) hlt)
      generalize l[k] = x at a0 a1 a2 HS
      obtain ⟨xp, xt, xb⟩ := x
      simp only at a0 a1 a2
      by_cases hx : xp ≤ m
      · have HR := hide (show lastN m l = k + 1 from HE.out.trans (HS.out.trans (if_pos hx)))
        clear HS HE
        go_wp2_with fail
        refine (has_ok m xp xt xb _).mono ?_
        rintro e w2 ⟨rfl, hg2⟩
        rw [decide_eq_true hx]
        have HG2 := hide (HG.out.trans hg2)
        clear hg2 HG a0 a1 a2
        go_wp2_with fail
        go_ret
        exact ⟨by rw [HR.out, show (((k + 1 : Nat) : Int) - 1) = (k : Int) by omega]; rfl, HG2.out⟩
      · have HR := hide (show lastN m l = lastN m (l.take k) from HE.out.trans (HS.out.trans (if_neg hx)))
        clear HS HE
        go_wp2_with fail
        refine (has_ok m xp xt xb _).mono ?_
        rintro e w2 ⟨rfl, hg2⟩
        rw [decide_eq_false (by omega)]
        have HG2 := hide (HG.out.trans hg2)
        clear hg2 HG a0 a1 a2
        go_wp2_with fail
        go_roundw
        case rel => exact ⟨k, by go_num, by omega, HR, HG2⟩
        case measure => simp [intOf]

theorem own_ok (v : Value) (l : List VerT) (w : World) (hv : VersX w v l) (hl : l.length ≤ 100000000) :
    Calls Try.prog 68 #[v] w fun e w' => ∃ u, e = .returned u ∧ VersO w' w.heap.size u l ∧ Gr w w' := by
  have HV := hide hv
  obtain ⟨A, c, rfl, _⟩ := hv.is
  clear hv
  go_enter Try.func68, Try.ntmps68
  go_wp2_with (at_builtin; refine pause ?_)
  refine hide ?_
  refine wpList_appV rfl _ (.tmp 3) rfl (w0 := w) (v := .slice none 0 0) (ls := []) (qs := l) rfl (VersO.none_ _ _) (Gr.refl _) rfl HV.out (by simp; omega) ?_
  intro v' w' h1 h2
  rw [List.nil_append] at h1
  have HO := hide h1
  have HG := hide h2
  obtain ⟨A', c', rfl, _⟩ := h1.x.is
  clear h1 h2
  go_wp2_with fail
  go_ret
  exact ⟨_, rfl, HO.out, HG.out⟩

theorem Last_ok (v : Value) (l : List VerT) (w : World) (hv : VersX w v l) (hl : l.length ≤ 1000000000) :
    Calls Try.prog 41 #[v] w fun e w' => e = .returned (.int .i64 (lastP l)) ∧ w' = w := by
  have HV := hide hv
  obtain ⟨A, c, rfl, _⟩ := hv.is
  clear hv
  go_enter Try.func41, Try.ntmps41
  rcases hn : l.length with _ | n
  · have : l = [] := List.eq_nil_of_length_eq_zero hn
    subst this
    go_wp2_with fail
    go_ret
    exact ⟨rfl, rfl⟩
  · have hlt : n < l.length := by omega
    obtain ⟨ad, c', e1, a0, a1, a2⟩ := HV.out.at_ hlt
    simp only [Value.slice.injEq, true_and, hn] at e1
    obtain ⟨rfl, rfl⟩ := e1
    have HP := hide (show lastP l = l[n].pos by rw [lastP_at (by omega)]; congr 1; congr 1; omega)
    generalize l[n] = x at a0 a1 a2 HP
    have h0 : ¬ ((n : Int) + 1 = 0) := by omega
    have hw : (n : Int) + 1 - 1 = (n : Int) := by omega
    rw [HP.out]
    clear HV HP
    go_wp2_with fail
    go_ret
    exact ⟨rfl, rfl⟩

end Go.Proofs.Ytbfbghfaeejicaa
