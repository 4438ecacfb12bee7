/-
  wal's reader.piece by its contract: a piece's records are told, and what is no frame any more is cut.
-/
import Derived.Test.YtkcfieoflkhdpaaDoorWalHeld
import Derived.Test.YtkcfieoflkhdpaaDoorWalDo
namespace Go.Proofs.YtkcfieoflkhdpaaDoor.WalRead
open Go Go.RowKit MapS DiskMem DiskOps DiskApp WalMath WalName WalObj FrameMath
set_option maxRecDepth 100000

def codeR (F : Fs) (s : List UInt8) : Int := match getE F s with | none => 6 | some f => if fspan (all f.b) = f.b.length then 0 else 2
def recsR (F : Fs) (s : List UInt8) : List (List UInt8) := match getE F s with | none => [] | some f => all f.b
def cutR (F : Fs) (s : List UInt8) : Fs := match getE F s with | none => F | some f => if fspan (all f.b) = f.b.length then F else (cutF F s (allK f.b)).2

structure RSt (lo : Nat) (S : Nat → Prop) (w0 w : World) (d room : Nat) (F : Fs) (r : Nat) (ls : List (List UInt8)) : Prop where
  use : Use lo S w d room F
  only : Only S w0 w
  r0 : w0.heap.size ≤ r
  sr : ∀ i, S i → i < w0.heap.size
  rd : ∃ v, Bl w r 50 #[ptr d, v] ∧ HeldP (fun i => r < i) 33 w v ls
  tab : TabW w
def JSt (lo : Nat) (S : Nat → Prop) (w0 w : World) (d room : Nat) (F : Fs) (r : Nat) (ls : List (List UInt8)) : Prop :=
  ∃ S' Pd v, Use lo S' w d room F ∧ (∀ i, S' i → S i ∨ w0.heap.size ≤ i) ∧ ¬ S' r ∧ Bl w r 50 #[ptr d, v] ∧ HeldP Pd 33 w v ls ∧ (∀ i, Pd i → i < w.heap.size ∧ ¬ S' i) ∧ Only S w0 w ∧ TabW w
section
variable {lo : Nat} {S : Nat → Prop} {w0 w w' : World} {d room r : Nat} {F F' : Fs} {ls : List (List UInt8)}
theorem RSt.gr (h : RSt lo S w0 w d room F r ls) (hg : Gr w w') : RSt lo S w0 w' d room F r ls := by
  obtain ⟨v, h1, h2⟩ := h.rd
  exact ⟨h.use.gr hg, h.only.trans (Only.gr hg S) fun _ _ e => e, h.r0, h.sr, ⟨v, Bl.gr h1 hg, h2.gr hg⟩, h.tab.gr hg⟩
theorem RSt.j (h : RSt lo S w0 w d room F r ls) : JSt lo S w0 w d room F r ls := by
  obtain ⟨v, h1, h2⟩ := h.rd
  refine ⟨S, _, v, h.use, fun i hi => .inl hi, fun e => ?_, h1, h2.tight, fun i hi => ⟨hi.2, fun e => ?_⟩, h.only, h.tab⟩
  · have := h.sr _ e; have := h.r0; omega
  · have := h.sr _ e; have := h.r0; have := hi.1; omega
theorem JSt.gr (h : JSt lo S w0 w d room F r ls) (hg : Gr w w') : JSt lo S w0 w' d room F r ls := by
  obtain ⟨S', Pd, v, h1, h2, h3, h4, h5, h6, h7, h8⟩ := h
  exact ⟨S', Pd, v, h1.gr hg, h2, h3, Bl.gr h4 hg, h5.gr hg, fun i hi => ⟨Nat.lt_of_lt_of_le (h6 i hi).1 hg.size, (h6 i hi).2⟩, h7.trans (Only.gr hg S) fun _ _ e => e, h8.gr hg⟩
/-- the disk has done something -/
theorem did_ (ht : tabG < lo) (hlo : lo ≤ w0.heap.size) {S' Pd : Nat → Prop} {v : Value} (h1 : Use lo S' w d room F) (h2 : ∀ i, S' i → S i ∨ w0.heap.size ≤ i) (h3 : ¬ S' r) (h4 : Bl w r 50 #[ptr d, v]) (h5 : HeldP Pd 33 w v ls) (h6 : ∀ i, Pd i → i < w.heap.size ∧ ¬ S' i) (h7 : Only S w0 w) (h8 : TabW w) {rr : Int} {e : Ending} (hd1 : Does S' w d room rr F' e w') : JSt lo S w0 w' d room F' r ls := by
  obtain ⟨_, k2, k3⟩ := does_done h1 (Gr.refl w) hd1 (Nat.le_trans hlo h7.size)
  have hsz := h7.size
  refine ⟨ext S' w w', Pd, v, k2, fun i hi => ?_, fun e => ?_, k3.bl h4 h3, h5.only k3 (fun i hi => (h6 i hi).2), fun i hi => ⟨Nat.lt_of_lt_of_le (h6 i hi).1 k3.size, fun e => ?_⟩, h7.trans k3 fun i hi e => ?_, h8.only k3 (fun e => ?_)⟩
  · rcases hi with hi | hi
    · exact h2 i hi
    · exact .inr (by omega)
  · rcases e with e | e
    · exact h3 e
    · have := h4.lt; omega
  · rcases e with e | e
    · exact (h6 i hi).2 e
    · have := (h6 i hi).1; omega
  · rcases h2 i e with e2 | e2
    · exact e2
    · omega
  · have := h1.lo _ e; omega

theorem RSt.did (ht : tabG < lo) (hlo : lo ≤ w0.heap.size) (h : RSt lo S w0 w d room F r ls) {rr : Int} {e : Ending} (hd : Does S w d room rr F' e w') : JSt lo S w0 w' d room F' r ls := by
  obtain ⟨v, h1, h2⟩ := h.rd
  refine did_ ht hlo h.use (fun i hi => .inl hi) (fun e => ?_) h1 h2.tight (fun i hi => ⟨hi.2, fun e => ?_⟩) h.only h.tab hd
  · have := h.sr _ e; have := h.r0; omega
  · have := h.sr _ e; have := h.r0; have := hi.1; omega

set_option maxHeartbeats 2000000 in
theorem rpiece_ok (ht : tabG < lo) (hlo : lo ≤ w0.heap.size) (h : RSt lo S w0 w d room F r ls) (s : ByteArray) (hs : s.size ≤ maxLen) (hF : ∀ p ∈ F, p.2.b.length ≤ 100000000) (hls : (ls.length : Int) ≤ 1900000000000) :
    Calls Tryd.prog 16 #[.pointer (some ⟨r, 0, none⟩), .string s] w fun e w' => e = .returned (.int .i64 (codeR F s.data.toList)) ∧ (codeR F s.data.toList = 0 → RSt lo S w0 w' d room F r (ls ++ recsR F s.data.toList)) ∧ (codeR F s.data.toList ≠ 0 → JSt lo S w0 w' d room (cutR F s.data.toList) r (ls ++ recsR F s.data.toList)) := by
  obtain ⟨v, hbl, hh⟩ := h.rd
  have c0 := Bl.cell hbl 0
  simp only [List.getElem?_toArray, List.getElem?_cons_zero] at c0
  have H := hide h
  have HR := hide (Read_ok (s := s) h.use.is hs)
  cases hf : getE F s.data.toList with
  | none =>
    have e1 : Hid (codeR F s.data.toList = 6 ∧ recsR F s.data.toList = [] ∧ cutR F s.data.toList = F) := hide ⟨by unfold codeR; rw [hf], by unfold recsR; rw [hf], by unfold cutR; rw [hf]⟩
    rw [e1.out.1, e1.out.2.1, e1.out.2.2, List.append_nil]
    rw [hf] at HR
    clear e1 hf h hbl hh
    unfold ptr at *
    go_enter Tryd.func16, Tryd.ntmps16
    go_wp2_with (go_at_call 29; refine HR.out.mono ?_; rintro e w1 ⟨hg1, h1⟩; obtain rfl := h1; have HG := hide hg1; clear hg1 HR)
    go_ret
    exact ⟨rfl, (fun e => absurd e (by decide)), fun _ => (H.out.gr HG.out).j⟩
  | some f =>
    rw [hf] at HR
    obtain ⟨fb, hfb⟩ : ∃ l, f.b = l := ⟨_, rfl⟩
    have hlen : fb.length ≤ 100000000 := by
      rw [← hfb]
      exact hF _ ((mem_getE h.use.is.ris).1 hf)
    have hsp : fspan (all fb) ≤ fb.length := all_span fb
    have hcount : (all fb).length ≤ 100000000 := by have := many_span (all fb); omega
    have hcode : Hid (codeR F s.data.toList = if fspan (all fb) = fb.length then 0 else 2) := hide (by unfold codeR; rw [hf, ← hfb])
    have hrecs : Hid (recsR F s.data.toList = all fb) := hide (by unfold recsR; rw [hf, ← hfb])
    have hcut : Hid (cutR F s.data.toList = if fspan (all fb) = fb.length then F else (cutF F s.data.toList (fspan (all fb) : Nat)).2) := hide (by unfold cutR; rw [hf, ← hfb]; rfl)
    rw [hrecs.out]
    obtain ⟨N, hN⟩ : ∃ N, fspan (all fb) = N := ⟨_, rfl⟩
    obtain ⟨ks, hks⟩ : ∃ ks, all fb = ks := ⟨_, rfl⟩
    have hlr : r < w.heap.size := Bl.lt hbl
    have HV := hide hh
    have HB := hide hbl
    have hvlt := hh.lt
    have HVL := hide hvlt
    have hak : allK fb = (N : Int) := by unfold allK; rw [hN]
    have HAK := hide hak
    have HKS := hide hks
    rw [hN] at hcode hcut hsp
    rw [hks] at hcount ⊢
    obtain ⟨cd, hcd⟩ : ∃ cd, codeR F s.data.toList = cd := ⟨_, rfl⟩
    obtain ⟨ct, hct⟩ : ∃ ct, cutR F s.data.toList = ct := ⟨_, rfl⟩
    rw [hcd] at hcode ⊢
    rw [hct] at hcut ⊢
    have hcl : Hid (codeR F s.data.toList = cd) := hide hcd
    obtain ⟨i0, hi, hz0, hz1, hz2⟩ := info_parts info_slice
    have HN2 : Hid (∀ w1 w2 v2, Gr w w1 → Gr w1 w2 → HeldN 33 w1 w2 v2 ks → HeldP (fun i => r < i ∧ v.ownBlock ≠ some i) 33 w2 v2 ks) := hide (fun w1 w2 v2 hg1 hg2 hn => by
      refine hn.p.mono fun i hi => ?_
      have := hg1.size
      refine ⟨by omega, fun e => ?_⟩
      have := (hvlt i e).2
      omega)
    -- behind the append and the store
    have HST : Hid (∀ w1 w3 v3, Gr w w1 → HeldP (fun i => r < i) 33 w3 v3 (ls ++ ks) → w1.grownBy w3 v.ownBlock → Bl w3 r 50 #[ptr d, v] ∧ RSt lo S w0 (w3.setCell ⟨r, 1, none⟩ v3) d room F r (ls ++ ks)) := hide (fun w1 w3 v3 hg hh3 hgb => by
      have hs1 := hg.size
      have hr0 := h.r0
      have hne : some r ≠ v.ownBlock := fun e => by have := (hvlt r e.symm).1; omega
      have hb3 : Bl w3 r 50 #[ptr d, v] := (hgb.block r (by omega) hne).trans (Bl.gr hbl hg)
      have o3 : Only (fun i => r ≤ i) w1 w3 := ⟨hgb.os, hgb.tape, hgb.output, hgb.size, fun i hi hn => hgb.block i hi (fun e => hn (by have := (hvlt i e.symm).1; show r ≤ i; omega))⟩
      have o4 : Only (onB r) w3 (w3.setCell ⟨r, 1, none⟩ v3) := (Only.refl _ w3).set1 _ _
      have o : Only (fun i => r ≤ i) w (w3.setCell ⟨r, 1, none⟩ v3) := ((Only.gr hg _).trans o3 fun _ _ e => e).trans (o4.mono fun i _ e => by rw [show i = r from e]; exact Nat.le_refl _) fun _ _ e => e
      refine ⟨hb3, h.use.only o (fun i hi e => ?_), h.only.trans o fun i hi e => ?_, h.r0, h.sr, ⟨v3, Bl.put hb3 1 v3, hh3.only o4 fun i hi e => ?_⟩, h.tab.only o fun e => ?_⟩
      · have := h.sr i hi
        have e2 : r ≤ i := e
        omega
      · have e2 : r ≤ i := e
        omega
      · rw [show i = r from e] at hi
        exact Nat.lt_irrefl _ hi
      · have e2 : r ≤ tabG := e
        omega)
    clear hf h hbl hh hrecs hks hN hak hvlt hcd hct
    unfold ptr at *
    by_cases hfull : N = fb.length
    · have d1 : ((N : Int) == (fb.length : Int)) = true := by rw [hfull]; simp
      obtain rfl : cd = 0 := by rw [hcode.out, if_pos hfull]
      obtain rfl : ct = F := by rw [hcut.out, if_pos hfull]
      have HFU := hide hfull
      clear hfull hcut hcode hsp
      go_enter Tryd.func16, Tryd.ntmps16
      go_wp2_with (go_at_call 29; refine HR.out.mono ?_; rintro e w1 ⟨hg1, h1⟩; obtain ⟨v1, rfl, h1⟩ := h1; rw [hfb] at h1; obtain ⟨A1, c1, rfl, hb1⟩ := h1.by_; have HB1 := hide hb1; have HG := hide hg1; clear hg1 h1 hb1)
      have HAll := hide (All_ok A1 fb.length c1 fb rfl w1 HB1.out (by omega))
      rw [HAK.out, HKS.out] at HAll
      go_wp2_with (first
        | (at_builtin; refine wpList_appP rfl (.tmp 29) (.tmp 30) _ rfl 33 i0 Tryd.underlying28 hi hz0 hz1 hz2 rfl (HV.out.gr (HG.out.trans HG2.out)) rfl (HN2.out _ _ _ HG.out HG2.out HH2.out) (by have := HG.out.size; have := HG2.out.size; omega) (by omega) ?_; intro v3 w3 hh3 hgb3 _; have HS3 := hide (HST.out _ _ _ (HG.out.trans HG2.out) hh3 hgb3); obtain ⟨A3, c3, rfl, _⟩ := hh3.rws; have f3 := Bl.frozen HS3.out.1 1; have k3 := Bl.cell HS3.out.1 1; simp only [List.getElem?_toArray, List.getElem?_cons_zero, List.getElem?_cons_succ] at k3; clear hh3 hgb3)
        | (go_at_call 30; refine HAll.out.mono ?_; rintro e w2 ⟨v2, rfl, hh2, hg2⟩; have HH2 := hide hh2; have HG2 := hide hg2; have cc1 := Bl.cell (Bl.gr HB.out (HG.out.trans HG2.out)) 1; obtain ⟨A2, c2, rfl, _⟩ := hh2.held.rws; clear hg2 hh2; simp only [List.getElem?_toArray, List.getElem?_cons_zero, List.getElem?_cons_succ] at cc1))
      go_ret
      refine ⟨rfl, fun _ => ?_, fun e => absurd rfl e⟩
      have := HS3.out.2
      rw [List.length_append] at this
      exact this
    · have d1 : ((N : Int) == (fb.length : Int)) = false := by simp; omega
      obtain rfl : cd = 2 := by rw [hcode.out, if_neg hfull]
      have HCT : Hid (ct = (cutF F s.data.toList (N : Nat)).2) := hide (by rw [hcut.out, if_neg hfull])
      have HFU := hide hfull
      have hNi : (-9223372036854775808 : Int) ≤ (N : Int) ∧ (N : Int) ≤ 9223372036854775807 := by omega
      have HNI := hide hNi
      clear hfull hcut hcode hsp hNi
      go_enter Tryd.func16, Tryd.ntmps16
      go_wp2_with (go_at_call 29; refine HR.out.mono ?_; rintro e w1 ⟨hg1, h1⟩; obtain ⟨v1, rfl, h1⟩ := h1; rw [hfb] at h1; obtain ⟨A1, c1, rfl, hb1⟩ := h1.by_; have HB1 := hide hb1; have HG := hide hg1; clear hg1 h1 hb1)
      have HAll := hide (All_ok A1 fb.length c1 fb rfl w1 HB1.out (by omega))
      rw [HAK.out, HKS.out] at HAll
      go_wp2_with (first
        | (at_builtin; refine wpList_appP rfl (.tmp 29) (.tmp 30) _ rfl 33 i0 Tryd.underlying28 hi hz0 hz1 hz2 rfl (HV.out.gr (HG.out.trans HG2.out)) rfl (HN2.out _ _ _ HG.out HG2.out HH2.out) (by have := HG.out.size; have := HG2.out.size; omega) (by omega) ?_; intro v3 w3 hh3 hgb3 _; have HS3 := hide (HST.out _ _ _ (HG.out.trans HG2.out) hh3 hgb3); obtain ⟨A3, c3, rfl, _⟩ := hh3.rws; have f3 := Bl.frozen HS3.out.1 1; have k3 := Bl.cell HS3.out.1 1; simp only [List.getElem?_toArray, List.getElem?_cons_zero, List.getElem?_cons_succ] at k3; have HS4 : Hid (RSt lo S w0 (w3.setCell ⟨r, 1, none⟩ (.slice A3 (ls.length + ks.length) c3)) d room F r (ls ++ ks)) := hide (by have := HS3.out.2; rw [List.length_append] at this; exact this); have k4 := Bl.cell (Bl.put HS3.out.1 1 (.slice A3 (ls.length + ks.length) c3)) 0; simp at k4; clear hh3 hgb3)
        | (go_at_call 31; refine (Cut_ok HS4.out.use.is hs (N : Int) HNI.out).mono ?_; rintro e w5 hd; have HD := hide hd; obtain ⟨rfl, _⟩ := hd; clear k3 k4 f3)
        | (go_at_call 30; refine HAll.out.mono ?_; rintro e w2 ⟨v2, rfl, hh2, hg2⟩; have HH2 := hide hh2; have HG2 := hide hg2; have cc1 := Bl.cell (Bl.gr HB.out (HG.out.trans HG2.out)) 1; obtain ⟨A2, c2, rfl, _⟩ := hh2.held.rws; clear hg2 hh2; simp only [List.getElem?_toArray, List.getElem?_cons_zero, List.getElem?_cons_succ] at cc1))
      go_ret
      refine ⟨rfl, by intro e; simp at e, fun _ => ?_⟩
      rw [HCT.out]
      exact HS4.out.did ht hlo HD.out
end

end Go.Proofs.YtkcfieoflkhdpaaDoor.WalRead
