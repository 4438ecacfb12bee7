/-
  txn.Reads by its contract.
-/
import Derived.Test.YtjpdhijhmpdbnaaTxKeys
import Derived.Test.YtjpdhijhmpdbnaaSorted
import Derived.Test.YtjpdhijhmpdbnaaShelf
namespace Go.Proofs.Ytjpdhijhmpdbnaa
open Go Go.RowKit TxnMath KeyMath
set_option maxRecDepth 100000

theorem shardK_in (s : ByteArray) (n : Int) : 0 ≤ shardK s n ∧ shardK s n < max n 1 := by
  unfold shardK
  by_cases h : n < 1
  · rw [if_pos h]; omega
  · rw [if_neg h]
    have h1 := Int.emod_nonneg (sumB s.data.toList : Int) (show n ≠ 0 by omega)
    have h2 := Int.emod_lt_of_pos (sumB s.data.toList : Int) (show 0 < n by omega)
    omega
theorem reads_as (t : TxT) (n : Int) : Lib.compact ((t.reads.map (fun x => shardK x.key n)).mergeSort fun x y => decide (x ≤ y)) = (readsOf t n).map (fun j : Nat => (j : Int)) := by
  obtain ⟨h1, h2⟩ := sorted_each (t.reads.map (fun x => shardK x.key n))
  refine strict_ext _ _ h1 ?_ fun x => ?_
  · rw [List.pairwise_map]
    unfold readsOf readsTo
    refine List.Pairwise.imp (fun h => by omega) (List.Pairwise.filter _ List.pairwise_lt_range)
  · rw [h2]
    unfold readsOf readsTo readIn
    simp only [List.mem_map, List.mem_filter, List.mem_range, List.any_eq_true, beq_iff_eq]
    constructor
    · rintro ⟨y, hy, rfl⟩
      obtain ⟨h3, h4⟩ := shardK_in y.key n
      exact ⟨(shardK y.key n).toNat, ⟨by omega, y, hy, by omega⟩, by omega⟩
    · rintro ⟨j, ⟨_, y, hy, h3⟩, rfl⟩
      exact ⟨y, hy, h3⟩

/-- what Reads comes to -/
def ReadsPost (w : World) (l : List Nat) (e : Ending) (w' : World) : Prop := ∃ u, e = .returned u ∧ NatsAt w' u l ∧ Gr w w'

theorem nats_of {e : TypeId} {w : World} {B : Nat} {A : Option Addr} {n c : Nat} {zs : List Int} {l : List Nat} (h : w.ownsRow B e 1 (.slice A n c) n (zs.map (Value.int .i64))) (hl : zs = l.map (fun j : Nat => (j : Int))) : NatsAt w (.slice A n c) l := by
  have hz : zs.map (Value.int .i64) = l.map natV := by rw [hl, List.map_map]; rfl
  have hn : n = l.length := by have := h.1; rw [hz, List.length_map] at this; omega
  refine OwnV.nats (e := e) (B := B) ?_
  unfold OwnV
  rw [hz] at h
  rw [List.length_map, ← hn]
  exact h

set_option maxHeartbeats 1000000 in
theorem TxReads_ok (v : Value) (t : TxT) (n : Int) (w : World) (hv : TxAt w v t) (ht : TxLim 1000000 t) (hn : I64 n) (_ : n ≤ 1000000) :
    Calls Try.prog 16 #[v, .int .i64 n] w (ReadsPost w (readsOf t n)) := by
  obtain ⟨i0, hi, hz0, hz1, hz2⟩ := info_parts info_i64
  have HRA := hide (reads_as t n)
  obtain ⟨rv, wv, rfl, hr, hw⟩ := hv
  obtain ⟨A, c, rfl, hr⟩ := hr.is
  obtain ⟨B, d, rfl, hw⟩ := hw.is
  have C0 := hide (fun w' hg => keysR_ok _ t.reads w' (hr.gr hg) ht.rn)
  obtain ⟨L, hL⟩ : ∃ L, readsOf t n = L := ⟨_, rfl⟩
  rw [hL] at HRA ⊢
  obtain ⟨ks, hks⟩ : ∃ ks, t.reads.map (·.key) = ks := ⟨_, rfl⟩
  have hzk : t.reads.map (fun x => shardK x.key n) = ks.map (fun k => shardK k n) := by rw [← hks, List.map_map]; rfl
  rw [hzk] at HRA
  rw [hks] at C0
  have hkn : ks.length = t.reads.length := by rw [← hks, List.length_map]
  have hrn := ht.rn
  have HKS := hide (show ∀ s ∈ ks, (s.size : Int) ≤ 1000000 from fun s hs => by
    rw [← hks] at hs
    obtain ⟨x, hx, rfl⟩ := List.mem_map.1 hs
    have := (ht.rd x hx).key
    omega)
  have HN := hide hn
  clear hL hks hzk hr hw ht hn
  have hg0 : ∀ o, Gr w (w.alloc o) := fun o => (Gr.refl _).alloc o
  have HG := hide hg0
  clear hg0
  go_enter Try.func16, Try.ntmps16
  go_wp2_with fail
  refine (C0.out _ (HG.out _)).mono ?_
  rintro e w1 ⟨v1, rfl, hown1, hg1⟩
  obtain ⟨kA, kc, rfl, hst⟩ := hown1.strs (fun s hs => by have := HKS.out s hs; unfold maxLen; omega)
  have HST := hide hst
  have hg := (HG.out _).trans hg1
  clear hown1 hst hg1
  go_wp2_with fail
  go_loopw [5, 12] (fun o i wr => ∃ k : Nat, i = .int .i64 k ∧ k ≤ ks.length ∧ OwnV 3 wr w1.heap.size o (((ks.take k).map (fun s => shardK s n)).map (Value.int .i64)) ∧ Gr w1 wr) (fun _ i _ => ks.length - (intOf i).toNat)
  case atStart => exact ⟨0, rfl, by omega, OwnV.none_ _ _, Gr.refl _⟩
  case round =>
    obtain ⟨k, rfl, hk, hown, hgr⟩ := hrel
    by_cases hlt : k < ks.length
    · have hlt' : (k : Int) < (ks.length : Int) := by omega
      obtain ⟨ad, rfl, hcell⟩ := (HST.out.gr hgr).at_ k hlt
      have hmap := hide (map_take_more (fun s => shardK s n) hlt)
      have hlen : ((ks.take k).map (fun s => shardK s n)).length = k := by rw [List.length_map, List.length_take]; omega
      have hsk : ((ks.getD k nothing).size : Int) ≤ 1000000 := size_at HKS.out k hlt
      rw [List.getD_eq_getElem?_getD, List.getElem?_eq_getElem hlt] at hcell hsk
      simp only [Option.getD_some] at hcell hsk
      obtain ⟨x, hx⟩ : ∃ x, ks[k]'hlt = x := ⟨_, rfl⟩
      rw [hx] at hcell hsk hmap
      have HC := hide (Shard_ok x hsk n HN.out.1 HN.out.2)
      clear hx
      go_wp2_with fail
      refine (HC.out _).mono ?_
      rintro e w2 ⟨rfl, hg2⟩
      replace hown := hown.gr hg2
      replace hgr := hgr.trans hg2
      clear hg2 hcell hsk
      go_wp2_with (at_builtin; refine wpList_pushV rfl (.tmp 16) (.tmp 20) _ rfl 3 i0 _ 8 Try.underlying45 hi hz0 hz1 hz2 rfl rfl rfl hown hgr (congrArg (fun z => Value.slice (some ⟨z, 0, none⟩) 1 1) (by simp)) (by rw [List.length_map, hlen]; unfold maxLen; omega) (by rw [List.length_map, hlen]; omega) ?_; intro v3 w3 ho3 hg3 hp3; clear hown hgr hp3)
      go_roundw
      case rel => exact ⟨k + 1, by go_num, by omega, by rw [hmap.out, List.map_append]; exact ho3, hg3⟩
      case measure => simp [intOf]; omega
    · obtain rfl : k = ks.length := by omega
      rw [List.take_length] at hown
      obtain ⟨zs, hzs⟩ : ∃ zs, ks.map (fun s => shardK s n) = zs := ⟨_, rfl⟩
      rw [hzs] at hown HRA
      have hzl : zs.length = ks.length := by rw [← hzs, List.length_map]
      unfold OwnV at hown
      rw [List.length_map] at hown
      clear hzs hk
      rcases hown.2 with ⟨rfl, h0⟩ | hsome
      · have hz0 : zs = [] := List.eq_nil_of_length_eq_zero h0
        subst hz0
        have hL0 : L = [] := by
          have h1 := HRA.out
          rw [List.mergeSort_nil] at h1
          have h2 : Lib.compact ([] : List Int) = [] := rfl
          rw [h2] at h1
          exact List.map_eq_nil_iff.1 h1.symm
        subst hL0
        have HH := hide (OwnV.nats (l := []) (OwnV.none_ (e := 3) wr 0))
        clear hown h0 hzl
        have hgw := hg.trans hgr
        clear hg hgr
        go_wp2_with fail
        refine (Try.slices_Sort_int_none none 0 _).mono ?_
        rintro e w5 ⟨rfl, rfl⟩
        go_wp2_with fail
        refine (Try.slices_Compact_int_empty none 0 _).mono ?_
        rintro e w6 ⟨rfl, rfl⟩
        go_wp2_with fail
        go_ret
        exact ⟨_, rfl, HH.out, hgw⟩
      · have hne : u5 ≠ .slice none 0 0 := by
          obtain ⟨g, cap, cur, rfl, _⟩ := hsome
          intro h; cases h
        obtain ⟨g, cap, rfl, hbg, hgl, hnc, hcm, _, hH⟩ := Lib.holds_of_ownsRow hown hne
        obtain ⟨ys, hys⟩ : ∃ ys, zs.mergeSort (fun x y => decide (x ≤ y)) = ys := ⟨_, rfl⟩
        have hyl : ys.length = zs.length := by rw [← hys]; exact List.length_mergeSort _
        have HC1 := hide (Try.slices_Sort_int g 0 cap zs wr hH hgl (by omega))
        rw [hys] at HC1 HRA
        have HS := hide (fun q os => own_sorted (ys := ys) (q := q) (os := os) hown hyl hgr hbg)
        obtain ⟨m, hm⟩ : ∃ m, zs.length = m := ⟨_, rfl⟩
        rw [hm] at HS hnc HC1 hyl hzl ⊢
        have HYL := hide hyl
        have hmb : m ≤ 1000000 := by omega
        clear hown hsome hne hH hgr hys hm hzl hyl
        go_wp2_with fail
        refine HC1.out.mono ?_
        rintro e w5 ⟨rfl, q, os, hw5⟩
        have hyl := HYL.out
        have h5 := HS.out q os
        rw [← hw5] at h5
        obtain ⟨hown5, hgr5⟩ := h5
        have hcl := Lib.compact_length_le ys
        obtain ⟨_, _, e5, _, _, _, _, _, hH5⟩ := Lib.holds_of_ownsRow hown5 (by intro h; cases h)
        simp only [Value.slice.injEq, Option.some.injEq, Addr.mk.injEq, true_and, and_true] at e5
        obtain ⟨rfl, rfl⟩ := e5
        have HC2 := hide (Try.slices_Compact_int g 0 cap ys w5 hH5 (by omega) (by omega))
        have HS2 := hide (fun q => own_compact (ys := Lib.compact ys) (q := q) hown5 hyl (by omega) hgr5 hbg)
        rw [hyl] at HC2
        clear hw5 hown5 hgr5 hH5 HS hyl hcl
        go_wp2_with fail
        refine HC2.out.mono ?_
        rintro e w6 ⟨rfl, q6, hw6⟩
        have h6 := HS2.out q6
        rw [HYL.out] at h6
        rw [← hw6] at h6
        have HH := hide h6
        clear h6 hw6 HS2 HC2 HC1
        go_wp2_with fail
        go_ret
        exact ⟨_, rfl, nats_of HH.out.1 HRA.out, hg.trans HH.out.2⟩

end Go.Proofs.Ytjpdhijhmpdbnaa
