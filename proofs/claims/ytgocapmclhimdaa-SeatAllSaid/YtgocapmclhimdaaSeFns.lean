/-
  seat's own functions by their contracts: own, ahead, later, first, Find, Same; the document's FindSeat and SameSeats.
-/
import Derived.Test.YtgocapmclhimdaaSeMem
import Derived.Test.YtgocapmclhimdaaRowStep
import Derived.StillTailTactics
import Derived.Deep.Cut
namespace Go.Proofs.Ytgocapmclhimdaa
open Go Go.RowKit SeMath
set_option maxRecDepth 100000

theorem own_ok (t s : SeT) (w : World) : Calls Try.prog 14 #[seA t, seA s] w fun e w' => e = .returned (.bool (ownB t.ses s)) ∧ Gr w w' := by
  unfold seA ownB
  obtain ⟨ts, tq, tp⟩ := t
  obtain ⟨ss, sq, sp⟩ := s
  go_enter Try.func14, Try.ntmps14
  go_wp2_with fail
  go_ret
  exact ⟨by simp; rfl, ((Gr.refl _).alloc _).alloc _⟩
theorem ahead_ok (t s : SeT) (w : World) : Calls Try.prog 16 #[seA t, seA s] w fun e w' => e = .returned (.bool (aheadB t.ses s)) ∧ Gr w w' := by
  unfold seA aheadB
  obtain ⟨ts, tq, tp⟩ := t
  obtain ⟨ss, sq, sp⟩ := s
  go_enter Try.func16, Try.ntmps16
  go_wp2_with fail
  go_ret
  exact ⟨by simp, ((Gr.refl _).alloc _).alloc _⟩
theorem later_ok (t s : SeT) (w : World) : Calls Try.prog 17 #[seA t, seA s] w fun e w' => e = .returned (.bool (decide (s.seq < t.seq))) ∧ Gr w w' := by
  unfold seA
  obtain ⟨ts, tq, tp⟩ := t
  obtain ⟨ss, sq, sp⟩ := s
  go_enter Try.func17, Try.ntmps17
  go_wp2_with fail
  go_ret
  exact ⟨by simp, ((Gr.refl _).alloc _).alloc _⟩

set_option maxHeartbeats 1000000 in
/-- where the first one stands that is so, 'so' a method value whose word is p -/
theorem first_ok (f : FuncId) (hen : ∀ args w, (callFunc f args).run Try.prog w = .ok (.enter f args) w) (t : Value) (p : SeT → Bool) (hp : ∀ s w, Calls Try.prog f #[t, seA s] w fun e w' => e = .returned (.bool (p s)) ∧ Gr w w')
    (v : Value) (l : List SeT) (w : World) (hv : SeX w v l) (hl : l.length ≤ 1000000000) :
    Calls Try.prog 13 #[v, .func (.func f) #[t] #[]] w fun e w' => e = .returned (.int .i64 (firstI p l : Nat)) ∧ Gr w w' := by
  have HV := hide hv
  have HP := hide hp
  obtain ⟨A, c, rfl, _⟩ := hv.is
  clear hv hp
  go_enter Try.func13, Try.ntmps13
  go_wp2_with fail
  go_loopw [9] (fun i wr => ∃ k : Nat, i = .int .i64 k ∧ k ≤ l.length ∧ Hid (firstI p l = k + firstI p (l.drop k)) ∧ Hid (Gr w wr)) (fun i _ => l.length - (intOf i).toNat)
  case atStart => exact ⟨0, rfl, by omega, hide (by simp), hide (Gr.refl _)⟩
  case round =>
    obtain ⟨k, rfl, hk, HE, HG⟩ := hrel
    by_cases hlt : k < l.length
    · have hlt' : (k : Int) < (l.length : Int) := by omega
      obtain ⟨ad, c', e1, a0, a1, a2⟩ := (HV.out.gr HG.out).at_ hlt
      simp only [Value.slice.injEq, true_and] at e1
      obtain ⟨rfl, rfl⟩ := e1
      have HS := hide (firstI_drop p hlt)
      generalize l[k] = x at a0 a1 a2 HS
      have HPX := hide (HP.out x)
      obtain ⟨xs, xq, xp⟩ := x
      simp only [seA] at HPX
      simp only at a0 a1 a2
      go_upto_region 4 with (fail)
      obtain ⟨W1, hW1⟩ : ∃ W1, wr.alloc (.cells #[.int .i64 xs, .int .i64 xq, .int .i64 xp] 30) = W1 := ⟨_, rfl⟩
      have hg1 : Gr wr W1 := by rw [← hW1]; exact (Gr.refl _).alloc _
      have hb1 : Bl W1 wr.heap.size 30 #[.int .i64 xs, .int .i64 xq, .int .i64 xp] := by rw [← hW1]; exact Bl.new _ _ _
      rw [hW1]
      clear hW1 a0 a1 a2
      have HG1 := hide (HG.out.trans hg1)
      have k0 : W1.cell? ⟨wr.heap.size, 0, none⟩ = some (.int .i64 xs) := hb1.cell 0
      have k1 : W1.cell? ⟨wr.heap.size, 1, none⟩ = some (.int .i64 xq) := hb1.cell 1
      have k2 : W1.cell? ⟨wr.heap.size, 2, none⟩ = some (.int .i64 xp) := hb1.cell 2
      clear hg1 hb1 HG
      go_wp2_with (simp only [hen])
      refine (HPX.out _).mono ?_
      rintro e w2 ⟨rfl, hg2⟩
      have HG2 := hide (HG1.out.trans hg2)
      clear hg2 k0 k1 k2 HG1 HPX
      cases hpx : p ⟨xs, xq, xp⟩
      · have HR := hide (show firstI p l = (k + 1) + firstI p (l.drop (k + 1)) by rw [HE.out, HS.out, hpx]; simp; omega)
        clear HS HE hpx
        go_wp2_with fail
        go_roundw
        case rel => exact ⟨k + 1, by go_num, by omega, HR, HG2⟩
        case measure => simp [intOf]; omega
      · have HR := hide (show firstI p l = k by rw [HE.out, HS.out, hpx]; simp)
        clear HS HE hpx
        go_wp2_with fail
        go_ret
        exact ⟨by rw [HR.out]; rfl, HG2.out⟩
    · obtain rfl : k = l.length := by omega
      have HR := hide (show firstI p l = l.length by rw [HE.out, List.drop_length]; rfl)
      clear HE
      go_wp2_with fail
      go_ret
      exact ⟨by rw [HR.out]; rfl, HG.out⟩

theorem enters_ (f : FuncId) (fn : Func) (hf : Try.prog.funcs[f]? = some fn) (hn : (fn.name == "runtime.NumGoroutine") = false) (hb : fn.body.isNone = false) : ∀ args w, (callFunc f args).run Try.prog w = .ok (.enter f args) w := fun args w => Grow.enters hf hn hb args w
theorem own_en : ∀ args w, (callFunc 14 args).run Try.prog w = .ok (.enter 14 args) w := enters_ _ _ Try.func14 (by kernel_rfl) (by kernel_rfl)
theorem ahead_en : ∀ args w, (callFunc 16 args).run Try.prog w = .ok (.enter 16 args) w := enters_ _ _ Try.func16 (by kernel_rfl) (by kernel_rfl)
/-- where a session's seat stands -/
theorem firstOwn_ok (t : SeT) (v : Value) (l : List SeT) (w : World) (hv : SeX w v l) (hl : l.length ≤ 1000000000) :
    Calls Try.prog 13 #[v, .func (.func 14) #[seA t] #[]] w fun e w' => e = .returned (.int .i64 (firstI (ownB t.ses) l : Nat)) ∧ Gr w w' :=
  first_ok _ own_en (seA t) (ownB t.ses) (fun s w => own_ok t s w) v l w hv hl
/-- where a new one belongs -/
theorem firstAhead_ok (t : SeT) (v : Value) (l : List SeT) (w : World) (hv : SeX w v l) (hl : l.length ≤ 1000000000) :
    Calls Try.prog 13 #[v, .func (.func 16) #[seA t] #[]] w fun e w' => e = .returned (.int .i64 (firstI (aheadB t.ses) l : Nat)) ∧ Gr w w' :=
  first_ok _ ahead_en (seA t) (aheadB t.ses) (fun s w => ahead_ok t s w) v l w hv hl

/-- two results, the first of them a variable that lies in memory -/
theorem results_cell2 {P : Program} {fn : Func} {p q : Tmp} {ty : TypeId} (h : fn.results = #[.cell p ty, .tmp q]) (tmps : Array Value) (w : World) (g : Nat) (t : TypeId) (cs : Array Value) (fr : Nat × Nat) (d : TypeDesc)
    (hp : tmps.getD p undef = .pointer (some ⟨g, 0, none⟩)) (hg : w.heap[g]? = some (.cells cs t fr)) (hu : P.underlying ty = some d) (hd : (match d with | .struct _ | .array _ _ => true | _ => false) = true) (hi : (P.info? ty).map (·.size) = some cs.size) :
    (results fn tmps).run P w = .ok (.tuple #[.agg cs, tmps.getD q undef]) w := by
  have hp' : tmps[p]?.getD undef = .pointer (some ⟨g, 0, none⟩) := by simpa using hp
  simp [results, h, hp', asAddr, run_loadVar_row w g t ty cs fr d hg hu hd hi]

def FindPost (y : Int) (l : List SeT) (w : World) (e : Ending) (w' : World) : Prop := e = .returned (.tuple #[seA (findS y l), .bool (hasS y l)]) ∧ Gr w w'
set_option maxHeartbeats 1000000 in
theorem Find_ok (v : Value) (l : List SeT) (y : Int) (w : World) (hv : SeX w v l) (hl : l.length ≤ 1000000000) :
    Calls Try.prog 11 #[v, .int .i64 y] w (FindPost y l w) := by
  have HV := hide hv
  have HF := hide (firstOwn_ok ⟨y, 0, 0⟩ v l)
  have HI := hide (find_first y l)
  have hle := firstI_le (ownB y) l
  obtain ⟨A, c, rfl, _⟩ := hv.is
  clear hv
  simp only [seA] at HF
  obtain ⟨i, hi⟩ : ∃ i, firstI (ownB y) l = i := ⟨_, rfl⟩
  rw [hi] at HF hle
  have HII := hide hi
  clear hi
  go_enter Try.func11, Try.ntmps11
  go_upto_region 1 with (fail)
  obtain ⟨W1, hW1⟩ : ∃ W1, w.alloc (.cells #[.int .i64 0, .int .i64 0, .int .i64 0] 30) = W1 := ⟨_, rfl⟩
  have hg1 : Gr w W1 := by rw [← hW1]; exact (Gr.refl _).alloc _
  have hb1 : Bl W1 w.heap.size 30 #[.int .i64 0, .int .i64 0, .int .i64 0] := by rw [← hW1]; exact Bl.new _ _ _
  rw [hW1]
  clear hW1
  go_wp2_with fail
  refine (HF.out _ (HV.out.gr hg1) hl).mono ?_
  rintro e w2 ⟨rfl, hg2⟩
  have hb2 := hb1.gr hg2
  have HG := hide (hg1.trans hg2)
  have hlt0 := hb2.lt
  clear hb1 hg1 hg2 HF
  have f0 := hb2.frozen 0
  have f1 := hb2.frozen 1
  have f2 := hb2.frozen 2
  have z0 : w2.cell? ⟨w.heap.size, 0, none⟩ = some (.int .i64 0) := hb2.cell 0
  have z1 : w2.cell? ⟨w.heap.size, 1, none⟩ = some (.int .i64 0) := hb2.cell 1
  have z2 : w2.cell? ⟨w.heap.size, 2, none⟩ = some (.int .i64 0) := hb2.cell 2
  have HB := hide hb2
  clear hb2
  by_cases hlt : i < l.length
  · have hne : ¬ (i : Int) = (l.length : Int) := by omega
    have hlt' : (i : Int) < (l.length : Int) := by omega
    have HA : Hid (findS y l = l[i] ∧ hasS y l = true) := hide (by
      rcases HI.out with ⟨h1, _⟩ | ⟨h1, h2⟩
      · rw [HII.out] at h1; omega
      · simpa only [HII.out] using h2)
    obtain ⟨ad, c', e1, a0, a1, a2⟩ := (HV.out.gr HG.out).at_ hlt
    simp only [Value.slice.injEq, true_and] at e1
    obtain ⟨rfl, rfl⟩ := e1
    generalize l[i] = x at a0 a1 a2 HA
    obtain ⟨xs, xq, xp⟩ := x
    simp only at a0 a1 a2
    clear HI HII
    go_wp2_with fail
    obtain ⟨W3, hW3⟩ : ∃ W3, ((w2.setCell ⟨w.heap.size, 0, none⟩ (.int .i64 xs)).setCell ⟨w.heap.size, 1, none⟩ (.int .i64 xq)).setCell ⟨w.heap.size, 2, none⟩ (.int .i64 xp) = W3 := ⟨_, rfl⟩
    have hb3 : Bl W3 w.heap.size 30 #[.int .i64 xs, .int .i64 xq, .int .i64 xp] := by rw [← hW3]; exact ((HB.out.put 0 _).put 1 _).put 2 _
    have hu3 : But w2 W3 w.heap.size := by rw [← hW3]; exact (((But.refl _ _).set 0 _).set 1 _).set 2 _
    rw [hW3]
    refine bodyPost_ret (results_cell2 rfl _ W3 w.heap.size 30 #[.int .i64 xs, .int .i64 xq, .int .i64 xp] (0, 0) _ rfl hb3 Try.underlying30 rfl (by kernel_rfl)) rfl ?_
    exact ⟨by rw [HA.out.1, HA.out.2]; rfl, HG.out.fresh_ hu3 (Nat.le_refl _)⟩
  · obtain rfl : i = l.length := by omega
    have HA : Hid (findS y l = noSe ∧ hasS y l = false) := hide (by
      rcases HI.out with ⟨_, h2⟩ | ⟨h1, _⟩
      · exact h2
      · rw [HII.out] at h1; omega)
    clear HI HII
    go_wp2_with fail
    obtain ⟨W3, hW3⟩ : ∃ W3, ((w2.setCell ⟨w.heap.size, 0, none⟩ (.int .i64 0)).setCell ⟨w.heap.size, 1, none⟩ (.int .i64 0)).setCell ⟨w.heap.size, 2, none⟩ (.int .i64 0) = W3 := ⟨_, rfl⟩
    have hb3 : Bl W3 w.heap.size 30 #[.int .i64 0, .int .i64 0, .int .i64 0] := by rw [← hW3]; exact ((HB.out.put 0 _).put 1 _).put 2 _
    have hu3 : But w2 W3 w.heap.size := by rw [← hW3]; exact (((But.refl _ _).set 0 _).set 1 _).set 2 _
    rw [hW3]
    refine bodyPost_ret (results_cell2 rfl _ W3 w.heap.size 30 #[.int .i64 0, .int .i64 0, .int .i64 0] (0, 0) _ rfl hb3 Try.underlying30 rfl (by kernel_rfl)) rfl ?_
    exact ⟨by rw [HA.out.1, HA.out.2]; rfl, HG.out.fresh_ hu3 (Nat.le_refl _)⟩

end Go.Proofs.Ytgocapmclhimdaa
