/-
  txn.Put by its contract.
-/
import Derived.Test.YtjpdhijhmpdbnaaTxWriter
import Derived.Test.YtjpdhijhmpdbnaaTxMay
namespace Go.Proofs.Ytjpdhijhmpdbnaa
open Go Go.RowKit TxnMath KeyMath NumPlain
set_option maxRecDepth 100000

theorem WrTo.gr_back {g : Nat} {w0 w w' : World} {v v' : Value} {l : List UInt8} (h : WrTo g w v w' v') (ha : WrAt w g v l) (hg : Gr w0 w) (h0 : w0.heap.size ≤ g) : Gr w0 w' := h.low ha hg h0

set_option maxHeartbeats 1000000 in
theorem putListR_ok (g : Nat) (v rv : Value) (l : List UInt8) (xs : List RdT) (w0 w : World) (h0 : w0.heap.size ≤ g) (hg0 : Gr w0 w) (h : WrAt w g v l) (hr : RowAt 4 w0 rv (xs.map rdC)) (hl : l.length ≤ 10000) (hn : xs.length ≤ 6) (hx : ∀ x ∈ xs, 0 ≤ x.ver ∧ x.ver ≤ 9223372036854775807 ∧ x.key.size ≤ 1000000 ∧ x.val.size ≤ 1000000) :
    Calls Try.prog 42 #[.pointer (some ⟨g, 0, none⟩), rv, .func (.func 43) #[.pointer (some ⟨g, 0, none⟩)] #[]] w (WrPost g w v (l ++ putN xs.length ++ xs.flatMap encR)) := by
  obtain ⟨A, c, rfl, hr⟩ := hr.is
  have HR := hide hr
  have HA := hide h
  have HX := hide hx
  have C0 := hide (wrNumber_ok g v l (xs.length : Int) (by omega) w h (by omega))
  rw [putZ_nat] at C0
  have hb3 := (putN_len xs.length).2
  obtain ⟨m, hm⟩ : ∃ m, l ++ putN xs.length = m := ⟨_, rfl⟩
  have hml : m.length ≤ 10010 := by rw [← hm, List.length_append]; omega
  rw [hm] at C0 ⊢
  clear h hr hx hm hb3
  go_enter Try.func42, Try.ntmps42
  go_wp2_with fail
  refine C0.out.mono ?_
  rintro e w1 ⟨rfl, v1, a1, t1⟩
  have hg1 := t1.low HA.out hg0 h0
  have A1 := hide a1
  have T1 := hide t1
  clear a1 t1 C0 hg0
  go_wp2_with fail
  go_loopw [14] (fun i wr => ∃ (k : Nat) (vr : Value), i = .int .i64 k ∧ k ≤ xs.length ∧ Hid (WrAt wr g vr (m ++ (xs.take k).flatMap encR)) ∧ Hid (WrTo g w v wr vr) ∧ Gr w0 wr) (fun i _ => xs.length - (intOf i).toNat)
  case atStart => exact ⟨0, v1, rfl, by omega, by simpa using A1, T1, hg1⟩
  case round =>
    obtain ⟨k, vr, rfl, hk, ha, ht, hgr⟩ := hrel
    by_cases hlt : k < xs.length
    · have hlt' : (k : Int) < (xs.length : Int) := by omega
      obtain ⟨ad, c', e1, a0, a1, b2, a3⟩ := (HR.out.gr hgr).rd hlt
      simp only [Value.slice.injEq, true_and] at e1
      obtain ⟨rfl, rfl⟩ := e1
      have hfl := hide (flat_more encR hlt)
      have hll : ((xs.take k).flatMap encR).length ≤ 541 * 6 := by
        have := flat_len encR 541 encR_len (xs.take k)
        rw [List.length_take] at this
        omega
      have hlx := HX.out _ (List.getElem_mem hlt)
      obtain ⟨x, hx⟩ : ∃ x, xs[k]'hlt = x := ⟨_, rfl⟩
      rw [hx] at a0 a1 b2 a3 hfl hlx
      have hg2 : ∀ o, Gr wr (wr.alloc o) := fun o => (Gr.refl _).alloc o
      have HG2 := hide hg2
      have CR := hide (fun o => wrRead_ok g vr _ x (wr.alloc o) (ha.out.gr (hg2 o)) (by rw [List.length_append]; omega) hlx.1 hlx.2.1 hlx.2.2.1 hlx.2.2.2)
      clear hx hlx hll hg2
      go_wp2_with fail
      refine (CR.out _).mono ?_
      rintro e w3 ⟨rfl, v3, h3, t3⟩
      have T3 := hide ((WrTo.of_gr (g := g) (v := vr) (HG2.out _)).trans t3)
      have hg3 := T3.out.low ha.out hgr h0
      have A3 : Hid (WrAt w3 g v3 (m ++ (xs.take (k + 1)).flatMap encR)) := by
        show WrAt _ _ _ _
        rw [hfl.out, ← List.append_assoc]
        exact h3
      have TT := hide (ht.out.trans T3.out)
      clear t3 h3 T3 CR hfl ha ht hgr a0 a1 b2 a3
      go_wp2_with fail
      go_roundw
      case rel => exact ⟨k + 1, v3, by go_num, by omega, A3, TT, hg3⟩
      case measure => simp [intOf]; omega
    · obtain rfl : k = xs.length := by omega
      have ha2 := ha.out
      rw [List.take_length] at ha2
      have H2 := hide ha2
      clear ha ha2
      go_wp2_with fail
      go_end0
      exact ⟨rfl, vr, H2.out, ht.out⟩

set_option maxHeartbeats 1000000 in
theorem putListW_ok (g : Nat) (v rv : Value) (l : List UInt8) (xs : List WrT) (w0 w : World) (h0 : w0.heap.size ≤ g) (hg0 : Gr w0 w) (h : WrAt w g v l) (hr : RowAt 3 w0 rv (xs.map wrC)) (hl : l.length ≤ 10000) (hn : xs.length ≤ 4) (hx : ∀ x ∈ xs, x.key.size ≤ 1000000 ∧ x.val.size ≤ 1000000) :
    Calls Try.prog 44 #[.pointer (some ⟨g, 0, none⟩), rv, .func (.func 45) #[.pointer (some ⟨g, 0, none⟩)] #[]] w (WrPost g w v (l ++ putN xs.length ++ xs.flatMap encW)) := by
  obtain ⟨A, c, rfl, hr⟩ := hr.is
  have HR := hide hr
  have HA := hide h
  have HX := hide hx
  have C0 := hide (wrNumber_ok g v l (xs.length : Int) (by omega) w h (by omega))
  rw [putZ_nat] at C0
  have hb3 := (putN_len xs.length).2
  obtain ⟨m, hm⟩ : ∃ m, l ++ putN xs.length = m := ⟨_, rfl⟩
  have hml : m.length ≤ 10010 := by rw [← hm, List.length_append]; omega
  rw [hm] at C0 ⊢
  clear h hr hx hm hb3
  go_enter Try.func44, Try.ntmps44
  go_wp2_with fail
  refine C0.out.mono ?_
  rintro e w1 ⟨rfl, v1, a1, t1⟩
  have hg1 := t1.low HA.out hg0 h0
  have A1 := hide a1
  have T1 := hide t1
  clear a1 t1 C0 hg0
  go_wp2_with fail
  go_loopw [14] (fun i wr => ∃ (k : Nat) (vr : Value), i = .int .i64 k ∧ k ≤ xs.length ∧ Hid (WrAt wr g vr (m ++ (xs.take k).flatMap encW)) ∧ Hid (WrTo g w v wr vr) ∧ Gr w0 wr) (fun i _ => xs.length - (intOf i).toNat)
  case atStart => exact ⟨0, v1, rfl, by omega, by simpa using A1, T1, hg1⟩
  case round =>
    obtain ⟨k, vr, rfl, hk, ha, ht, hgr⟩ := hrel
    by_cases hlt : k < xs.length
    · have hlt' : (k : Int) < (xs.length : Int) := by omega
      obtain ⟨ad, c', e1, a0, a1, b2⟩ := (HR.out.gr hgr).wr hlt
      simp only [Value.slice.injEq, true_and] at e1
      obtain ⟨rfl, rfl⟩ := e1
      have hfl := hide (flat_more encW hlt)
      have hll : ((xs.take k).flatMap encW).length ≤ 531 * 6 := by
        have := flat_len encW 531 encW_len (xs.take k)
        rw [List.length_take] at this
        omega
      have hlx := HX.out _ (List.getElem_mem hlt)
      obtain ⟨x, hx⟩ : ∃ x, xs[k]'hlt = x := ⟨_, rfl⟩
      rw [hx] at a0 a1 b2 hfl hlx
      have hg2 : ∀ o, Gr wr (wr.alloc o) := fun o => (Gr.refl _).alloc o
      have HG2 := hide hg2
      have CR := hide (fun o => wrWrite_ok g vr _ x (wr.alloc o) (ha.out.gr (hg2 o)) (by rw [List.length_append]; omega) hlx.1 hlx.2)
      clear hx hlx hll hg2
      go_wp2_with fail
      refine (CR.out _).mono ?_
      rintro e w3 ⟨rfl, v3, h3, t3⟩
      have T3 := hide ((WrTo.of_gr (g := g) (v := vr) (HG2.out _)).trans t3)
      have hg3 := T3.out.low ha.out hgr h0
      have A3 : Hid (WrAt w3 g v3 (m ++ (xs.take (k + 1)).flatMap encW)) := by
        show WrAt _ _ _ _
        rw [hfl.out, ← List.append_assoc]
        exact h3
      have TT := hide (ht.out.trans T3.out)
      clear t3 h3 T3 CR hfl ha ht hgr a0 a1 b2
      go_wp2_with fail
      go_roundw
      case rel => exact ⟨k + 1, v3, by go_num, by omega, A3, TT, hg3⟩
      case measure => simp [intOf]; omega
    · obtain rfl : k = xs.length := by omega
      have ha2 := ha.out
      rw [List.take_length] at ha2
      have H2 := hide ha2
      clear ha ha2
      go_wp2_with fail
      go_end0
      exact ⟨rfl, vr, H2.out, ht.out⟩

set_option maxHeartbeats 1000000 in
theorem wrTxn_ok (g : Nat) (v tv : Value) (t : TxT) (w0 w : World) (h0 : w0.heap.size ≤ g) (hg0 : Gr w0 w) (h : WrAt w g v []) (ht : TxAt w0 tv t) (hlim : TxLim 1000000 t) (hm : mayT t = true) :
    Calls Try.prog 21 #[.pointer (some ⟨g, 0, none⟩), tv] w (WrPost g w v (encT t)) := by
  have hmf : ∀ (fn : Fn) (first cap : Array Value) (w : World), (Instr.makeFunc fn first cap).run Try.prog w = .ok (.func fn first cap) w := fun _ _ _ _ => rfl
  obtain ⟨p1, p2, p3, p4, p5, p6, p7, p8, p9, p10⟩ := mayT_parts hm
  obtain ⟨rv, wv, rfl, hr, hw⟩ := ht
  obtain ⟨A, c, rfl, hr⟩ := hr.is
  obtain ⟨B, d, rfl, hw⟩ := hw.is
  have q1 := natOf_len t.ses
  have q2 := natOf_len t.seq
  have q3 := (putN_len t.reads.length).2
  have q4 : (t.reads.flatMap encR).length ≤ 541 * 6 := by
    have := flat_len encR 541 encR_len t.reads
    omega
  have C1 := hide (fun v w h => wrNumber_ok g v [] t.ses (by omega) w h (by simp))
  rw [putZ_of (by omega), List.nil_append] at C1
  have C2 := hide (fun v w h => wrNumber_ok g v (natOf t.ses) t.seq (by omega) w h (by omega))
  rw [putZ_of (by omega)] at C2
  have C3 := hide (fun v w hg h => putListR_ok g v _ (natOf t.ses ++ natOf t.seq) t.reads w0 w h0 hg h hr (by rw [List.length_append]; omega) p7 (fun x hx => ⟨(rdOk_parts (p1 x hx)).1, (hlim.rd x hx).ver.2, (hlim.rd x hx).key, (hlim.rd x hx).val⟩))
  have C4 := hide (fun v w hg h => putListW_ok g v _ (natOf t.ses ++ natOf t.seq ++ putN t.reads.length ++ t.reads.flatMap encR) t.writes w0 w h0 hg h hw (by simp only [List.length_append]; omega) p8 (fun x hx => ⟨(hlim.wr x hx).key, (hlim.wr x hx).val⟩))
  have E : Hid (natOf t.ses ++ natOf t.seq ++ putN t.reads.length ++ t.reads.flatMap encR ++ putN t.writes.length ++ t.writes.flatMap encW = encT t) := hide rfl
  rw [E.out] at C4
  generalize encT t = R at C4 ⊢
  have HA := hide h
  have hgl := h.1.lt
  have hvl : ∀ k, v.ownBlock = some k → k < w.heap.size := fun k hk => (World.ownsRow.lt h.2 k hk).2
  clear h E p1 p2 p3 p4 p5 p6 p7 p8 p9 p10 q1 q2 q3 q4 hlim hm hr hw
  go_enter Try.func21, Try.ntmps21
  go_wp2_with fail
  obtain ⟨W, hW⟩ : ∃ W, w.alloc (.cells #[.int .i64 t.ses, .int .i64 t.seq, .slice A t.reads.length c, .slice B t.writes.length d] 28) = W := ⟨_, rfl⟩
  have hg : Gr w W := by rw [← hW]; exact (Gr.refl _).alloc _
  have hbx : Bl W w.heap.size 28 #[.int .i64 t.ses, .int .i64 t.seq, .slice A t.reads.length c, .slice B t.writes.length d] := by rw [← hW]; exact Bl.new _ _ _
  rw [hW]
  clear hW
  obtain ⟨b, hb⟩ : ∃ b, w.heap.size = b := ⟨_, rfl⟩
  rw [hb] at hbx hgl hvl ⊢
  have hbg : b ≠ g := by omega
  have hbv : some b ≠ v.ownBlock := fun e => by have := hvl b e.symm; omega
  clear hb
  have T0 := hide (WrTo.of_gr (g := g) (v := v) hg)
  have B0 := hide hbx
  clear hbx hgl hvl
  refine (C1.out v W (HA.out.gr hg)).mono ?_
  rintro e w1 ⟨rfl, v1, a1, t1⟩
  have hx1 : Bl w1 b 28 #[.int .i64 t.ses, .int .i64 t.seq, .slice A t.reads.length c, .slice B t.writes.length d] := t1.bl B0.out hbg hbv
  have n1 : some b ≠ v1.ownBlock := t1.apart hbv B0.out.lt
  have c1 : w1.cell? ⟨b, 1, none⟩ = some (.int .i64 t.seq) := hx1.cell 1
  have T1 := hide (T0.out.trans t1)
  have B1 := hide hx1
  have A1 := hide a1
  clear hx1 t1 a1 C1
  go_wp2_with fail
  refine (C2.out v1 w1 A1.out).mono ?_
  rintro e w2 ⟨rfl, v2, a2, t2⟩
  have hx2 : Bl w2 b 28 #[.int .i64 t.ses, .int .i64 t.seq, .slice A t.reads.length c, .slice B t.writes.length d] := t2.bl B1.out hbg n1
  have n2 : some b ≠ v2.ownBlock := t2.apart n1 B1.out.lt
  have c2 : w2.cell? ⟨b, 2, none⟩ = some (.slice A t.reads.length c) := hx2.cell 2
  have T2 := hide (T1.out.trans t2)
  have B2 := hide hx2
  have A2 := hide a2
  have hg2 := T2.out.low HA.out hg0 h0
  clear hx2 t2 a2 C2 c1
  go_wp2_with fail
  refine (C3.out v2 w2 hg2 A2.out).mono ?_
  rintro e w3 ⟨rfl, v3, a3, t3⟩
  have hx3 : Bl w3 b 28 #[.int .i64 t.ses, .int .i64 t.seq, .slice A t.reads.length c, .slice B t.writes.length d] := t3.bl B2.out hbg n2
  have c3 : w3.cell? ⟨b, 3, none⟩ = some (.slice B t.writes.length d) := hx3.cell 3
  have T3 := hide (T2.out.trans t3)
  have A3 := hide a3
  have hg3 := T3.out.low HA.out hg0 h0
  clear hx3 t3 a3 C3 c2 hg2
  go_wp2_with fail
  refine (C4.out v3 w3 hg3 A3.out).mono ?_
  rintro e w4 ⟨rfl, v4, a4, t4⟩
  go_wp2_with fail
  go_end0
  exact ⟨rfl, v4, a4, T3.out.trans t4⟩

/-- what Put comes to -/
def PutPost (w : World) (l : List UInt8) (e : Ending) (w' : World) : Prop := ∃ A c, e = .returned (.slice A l.length c) ∧ By w' A c l ∧ Gr w w'

set_option maxHeartbeats 1000000 in
theorem TxPut_ok (v : Value) (t : TxT) (w : World) (hv : TxAt w v t) (ht : TxLim 1000000 t) :
    Calls Try.prog 10 #[v] w (PutPost w (putTx t)) := by
  have HV := hide hv
  obtain ⟨rv, wv, rfl, hr, hw⟩ := hv
  obtain ⟨A, c, rfl, hr⟩ := hr.is
  obtain ⟨B, d, rfl, hw⟩ := hw.is
  have HT := hide ht
  have hg0 : ∀ o, Gr w (w.alloc o) := fun o => (Gr.refl _).alloc o
  have HG := hide hg0
  have CM := hide (fun w' hg => TxMay_ok _ t w' (HV.out.gr hg) ht)
  obtain ⟨R, hR⟩ : ∃ R, putTx t = R := ⟨_, rfl⟩
  rw [hR]
  clear hr hw ht hg0
  cases hmay : mayT t
  · have E : Hid (R = []) := by rw [← hR]; unfold putTx; rw [hmay]; exact hide rfl
    rw [hmay] at CM
    clear hR hmay
    go_enter Try.func10, Try.ntmps10
    go_wp2_with fail
    refine (CM.out _ (HG.out _)).mono ?_
    rintro e w1 ⟨rfl, hg1⟩
    have hg := (HG.out _).trans hg1
    clear hg1
    go_wp2_with fail
    go_ret
    exact ⟨none, 0, by rw [E.out]; rfl, by rw [E.out]; exact ⟨Rd.nil _ _, by simp, by simp [maxLen], fun _ => rfl⟩, hg⟩
  · have E : Hid (encT t = R) := by rw [← hR]; unfold putTx; rw [hmay]; exact hide rfl
    have HM := hide hmay
    rw [hmay] at CM
    clear hR hmay
    go_enter Try.func10, Try.ntmps10
    go_wp2_with fail
    refine (CM.out _ (HG.out _)).mono ?_
    rintro e w1 ⟨rfl, hg1⟩
    have hb1 := box1 hg1
    have hg := (HG.out _).trans hg1
    have hgl : w.heap.size < w1.heap.size := hb1.lt
    have c0 : ∀ o, (w1.alloc o).cell? ⟨w.heap.size, 0, none⟩ = some (.int .i64 t.ses) := fun o => (hb1.gr ((Gr.refl _).alloc o)).cell 0
    have c1 : ∀ o, (w1.alloc o).cell? ⟨w.heap.size, 1, none⟩ = some (.int .i64 t.seq) := fun o => (hb1.gr ((Gr.refl _).alloc o)).cell 1
    have c2 : ∀ o, (w1.alloc o).cell? ⟨w.heap.size, 2, none⟩ = some (.slice A t.reads.length c) := fun o => (hb1.gr ((Gr.refl _).alloc o)).cell 2
    have c3 : ∀ o, (w1.alloc o).cell? ⟨w.heap.size, 3, none⟩ = some (.slice B t.writes.length d) := fun o => (hb1.gr ((Gr.refl _).alloc o)).cell 3
    have W0 := hide (show WrAt (w1.alloc (.cells #[.slice none 0 0] 57)) w1.heap.size (.slice none 0 0) [] from ⟨Bl.new _ _ _, OwnE.none_ _ _⟩)
    have C := hide (wrTxn_ok w1.heap.size (.slice none 0 0) _ t w1 _ (Nat.le_refl _) ((Gr.refl w1).alloc _) W0.out (HV.out.gr hg) HT.out HM.out)
    rw [E.out] at C
    clear hb1 hg1 CM hgl
    go_wp2_with fail
    refine C.out.mono ?_
    rintro e w2 ⟨rfl, v2, a2, t2⟩
    have hg2 := t2.low W0.out ((Gr.refl w1).alloc _) (Nat.le_refl _)
    have d0 : w2.cell? ⟨w1.heap.size, 0, none⟩ = some v2 := a2.1.cell 0
    obtain ⟨A2, c4, rfl, hby⟩ := a2.2.by_
    have HBY := hide hby
    clear a2 t2 W0 C c0 c1 c2 c3 hby
    go_wp2_with fail
    go_ret
    exact ⟨A2, c4, rfl, HBY.out, hg.trans hg2⟩

end Go.Proofs.Ytjpdhijhmpdbnaa
