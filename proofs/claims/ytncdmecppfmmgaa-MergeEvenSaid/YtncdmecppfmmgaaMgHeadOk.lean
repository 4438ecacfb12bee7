/-
  merge's Head by its contract.
-/
import Derived.Test.YtncdmecppfmmgaaMgHeap
import Derived.Test.YtncdmecppfmmgaaMgMem
import Derived.Test.YtncdmecppfmmgaaMgMath
import Derived.Test.YtncdmecppfmmgaaEpSealed
namespace Go.Proofs.Ytncdmecppfmmgaa.HeadHeap
open Go Go.RowKit Go.Proofs.Ytncdmecppfmmgaa BalMath TxnMath KeyMath MsgMath EpMath MgMath
set_option maxRecDepth 100000

/-- just these numbers -/
def MemK (key : Nat → Int) (n : Nat) (l : List Int) : Prop := l.length = n ∧ ∀ x, x ∈ l ↔ ∃ p, p < n ∧ x = key p
theorem MemK.none_ (key : Nat → Int) : MemK key 0 [] := ⟨rfl, fun x => by simp⟩
theorem mem_push {l l' : List Int} {x : Int} (h : ∀ p, cnt p l' = cnt p l + one p x) : l'.length = l.length + 1 ∧ ∀ y, y ∈ l' ↔ y ∈ l ∨ y = x := by
  refine ⟨?_, fun y => ?_⟩
  · rw [len_cnt, h, ← len_cnt]; simp [one]
  · rw [cnt_mem, cnt_mem, h]
    unfold one
    by_cases e : y = x
    · subst e; simp
    · have e' : ¬ x = y := fun h => e h.symm
      simp [e, e']
theorem MemK.push {key : Nat → Int} {n : Nat} {l l' : List Int} (h : MemK key n l) (hp : ∀ p, cnt p l' = cnt p l + one p (key n)) : MemK key (n + 1) l' := by
  obtain ⟨h1, h2⟩ := mem_push hp
  refine ⟨by rw [h1, h.1], fun y => ?_⟩
  rw [h2 y, h.2 y]
  constructor
  · rintro (⟨p, hp, e⟩ | e)
    · exact ⟨p, by omega, e⟩
    · exact ⟨n, by omega, e⟩
  · rintro ⟨p, hp, e⟩
    by_cases hpn : p = n
    · subst hpn; exact .inr e
    · exact .inl ⟨p, by omega, e⟩
theorem at_mem {l : List Int} {k : Nat} (h : k < l.length) : at_ l k ∈ l := by rw [at_of h]; exact List.getElem_mem h
theorem mem_at {l : List Int} {x : Int} (h : x ∈ l) : ∃ k, k < l.length ∧ at_ l k = x := by
  obtain ⟨k, hk, e⟩ := List.getElem_of_mem h
  exact ⟨k, hk, by rw [at_of hk, e]⟩
theorem HH.toGr {S : SlM} {w w0 w' : World} {o0 : Option Nat} {g : Nat} {l : List Int} (h : HH S w0 o0 w' g l) (hg : Gr w w0) (hgs : w.heap.size ≤ g) (ho : ∀ k, o0 = some k → w.heap.size ≤ k) : Gr w w' :=
  ⟨h.os.trans hg.os, h.tape.trans hg.tape, h.output.trans hg.output, Nat.le_trans hg.size h.size, fun k hk => (h.block k (Nat.lt_of_lt_of_le hk hg.size) (by omega) (fun e => by have := ho k e.symm; omega)).trans (hg.block k hk)⟩
theorem OwnH.none_ (S : SlM) (w : World) (B : Nat) : OwnH S w B (.slice none 0 0) [] := OwnR.none_ w B
theorem heap_nil : Heap ([] : List Int).length [] := fun k h1 h2 => by simp at h2

def S0 : SlM := fun _ => (none, 0, 0)
def keyH (ls : List (List EntT)) (p : Nat) : Int := ((nb ls p - 1 : Nat) : Int) * 1000 + (p : Int)
theorem nb_seal (ls : List (List EntT)) (p : Nat) : nb ls p - 1 = sealN (shuts (lg ls p)) (lg ls p).length := by
  unfold nb ct
  rw [cut_len]
  unfold sealN shuts
  simp
theorem hd_key (ls : List (List EntT)) (p : Nat) (hp : p < 1000) : (hdC S0 (keyH ls p)).toArray = #[.int .i64 (p : Int), .int .i64 ((sealN (shuts (lg ls p)) (lg ls p).length : Nat) : Int), .slice none 0 0] := by
  rw [← nb_seal]
  unfold hdC keyH S0
  have e1 : (((nb ls p - 1 : Nat) : Int) * 1000 + (p : Int)) % 1000 = p := by omega
  have e2 : (((nb ls p - 1 : Nat) : Int) * 1000 + (p : Int)) / 1000 = ((nb ls p - 1 : Nat) : Int) := by omega
  rw [e1, e2]
/-- the least of all is where the order stops -/
theorem stop_key {ls : List (List EntT)} {l : List Int} (hn : 0 < ls.length) (hl : ls.length ≤ 1000) (hh : Heap l.length l) (hm : MemK (keyH ls) ls.length l) : at_ l 0 % 1000 = (orderL ls).2 := by
  have h0 : 0 < l.length := by rw [hm.1]; exact hn
  obtain ⟨p, hp, e⟩ := (hm.2 _).1 (at_mem h0)
  have hle : ∀ q, q < ls.length → keyH ls p ≤ keyH ls q := fun q hq => by
    obtain ⟨k, hk, ek⟩ := mem_at ((hm.2 (keyH ls q)).2 ⟨q, hq, rfl⟩)
    have := hh.least k hk
    rw [e, ek] at this
    exact this
  have hnb := nb_pos ls
  have hst : Stop ls (nb ls p - 1) p := by
    refine ⟨hp, by have := hnb p; omega, fun q hq => ?_, fun q hq => ?_⟩
    · have h1 := hle q (by omega)
      have h2 := hnb p
      have h3 := hnb q
      unfold keyH at h1
      omega
    · have h1 := hle q hq
      have h2 := hnb p
      have h3 := hnb q
      unfold keyH at h1
      omega
  rw [order_stop hst, e]
  unfold keyH
  simp only
  omega

set_option maxHeartbeats 2000000 in
theorem Head_ok (v : Value) (ls : List (List EntT)) (w : World) (hv : LogsX w v ls) (hl : ls.length ≤ 10) (hn : ∀ p, (lg ls p).length ≤ 100) :
    Calls Try.prog 14 #[v] w fun e w' => e = .returned (.int .i64 (orderL ls).2) ∧ Gr w w' := by
  have HV := hide hv
  have HN := hide hn
  obtain ⟨A, c, rfl, hc, _⟩ := hv.is
  clear hv hn
  go_enter Try.func14, Try.ntmps14
  go_upto_region 2 with (fail)
  obtain ⟨W, hW⟩ : ∃ W, w.alloc (.cells #[.slice none 0 0] 55) = W := ⟨_, rfl⟩
  have hgW : Gr w W := by rw [← hW]; exact (Gr.refl _).alloc _
  have hbN : Bl W w.heap.size 55 #[.slice none 0 0] := by rw [← hW]; exact Bl.new _ _ _
  have HG := hide (fun (W' : World) (l : List Int) (h : HH S0 W none W' w.heap.size l) => h.toGr hgW (Nat.le_refl _) (fun k e => by cases e))
  have H0 := hide (HH.start hbN (OwnH.none_ S0 W (w.heap.size + 1)))
  rw [hW]
  clear hW hbN hgW
  change Hid (HH S0 W none W w.heap.size []) at H0
  go_wp2_with fail
  go_loopw [8] (fun i wr => ∃ (k : Nat) (l : List Int), i = .int .i64 k ∧ k ≤ ls.length ∧ Hid (HH S0 W none wr w.heap.size l) ∧ Hid (Heap l.length l) ∧ Hid (MemK (keyH ls) k l)) (fun i _ => ls.length - (intOf i).toNat)
  case atStart => exact ⟨0, [], rfl, by omega, H0, heap_nil, MemK.none_ _⟩
  case round =>
    obtain ⟨k, l, rfl, hk, HH', HP, HM⟩ := hrel
    clear H0
    by_cases hlt : k < ls.length
    · have hlt' : (k : Int) < (ls.length : Int) := by omega
      obtain ⟨_, c', e1, _, hat⟩ := (HV.out.gr (HG.out _ _ HH'.out)).is
      injection e1 with e1 _ e2
      subst e1 e2
      obtain ⟨ad, A', c', rfl, a0, hx⟩ := hat k hlt
      have e0 : lg ls k = ls[k] := by unfold lg; simp [hlt]
      rw [← e0] at a0 hx
      have HX := hide hx
      have HS := hide (fun W' (h : EntsX Any W' (.slice A' (lg ls k).length c') (lg ls k)) => Sealed_ok _ (lg ls k) W' h (by have := HN.out k; omega))
      have HK := hide (hd_key ls k (by omega))
      clear hx hat e0
      generalize hq : sealN (shuts (lg ls k)) (lg ls k).length = q at HS HK
      generalize (lg ls k).length = m at a0 HX HS
      go_wp2_with fail
      refine (HS.out _ HX.out).mono ?_
      rintro e w1 ⟨rfl, hg1⟩
      have H1 := hide (HH'.out.gr hg1)
      have HC := hide (HeapPush_ok (keyH ls k) H1.out HP.out (by have := HM.out.1; omega))
      rw [HK.out] at HC
      clear hg1 HH' HX HS a0
      go_wp2_with fail
      refine HC.out.mono ?_
      rintro e w2 ⟨rfl, l2, h1, h2, h3⟩
      have H2 := hide h1
      have HP2 := hide h2
      have HM2 := hide (HM.out.push h3)
      clear h1 h2 h3 HC H1
      go_wp2_with fail
      go_roundw
      case rel => exact ⟨k + 1, l2, by go_num, by omega, H2, HP2, HM2⟩
      case measure => simp [intOf]; omega
    · obtain rfl : k = ls.length := by omega
      obtain ⟨v, hb, ho, _⟩ := HH'.out.own
      obtain ⟨A', c', rfl⟩ := ho.is
      have c0 : wr.cell? ⟨w.heap.size, 0, none⟩ = some (.slice A' l.length c') := by rw [hb.cell]; rfl
      have hll : l.length = ls.length := HM.out.1
      have HGr := hide (HG.out _ _ HH'.out)
      by_cases hz : ls.length = 0
      · have HO := hide (show (orderL ls).2 = -1 by rw [order_none hz])
        rw [hll] at c0
        have he : ((ls.length : Int) == 0) = true := by rw [hz]; rfl
        clear ho hb hll hz HH' HG HV
        go_wp2_with fail
        go_ret
        exact ⟨by rw [HO.out]; rfl, HGr.out⟩
      · have HO := hide (stop_key (by omega) (by omega) HP.out HM.out)
        obtain ⟨ad, c2, e1, _, a0, _⟩ := (OwnR.rowAt ho).cell (j := 0) (r := hdC S0 (at_ l 0)) (by rw [List.getElem?_map, at_of (by omega), List.getElem?_eq_getElem (by omega)]; rfl) (by simp [hdC])
        injection e1 with e1 _ e2
        subst e1
        replace a0 := a0 _ rfl
        rw [Nat.zero_mul, add_zero_] at a0
        have hne : ((ls.length : Int) == 0) = false := by rw [beq_eq_false_iff_ne]; omega
        rw [hll] at c0
        have hpos : 0 < ls.length := by omega
        clear ho hb HH' HG HV e2 hz
        go_wp2_with fail
        go_ret
        exact ⟨by rw [← HO.out]; rfl, HGr.out⟩

end Go.Proofs.Ytncdmecppfmmgaa.HeadHeap
