/-
  The law's made, by its contract.
-/
import Derived.Test.YtcghbmpajolgpaaChMem
import Derived.StillTailTactics
import Derived.Deep.Cut
namespace Go.Proofs.Ytcghbmpajolgpaa
open Go Go.RowKit ChMath KeyMath
set_option maxRecDepth 100000

theorem textOf_eq (n r : Nat) (h : n % 3 = r) : textOf n = if r = 0 then nothing else if r = 1 then ⟨#[118]⟩ else ⟨#[119]⟩ := by unfold textOf; rw [h]

set_option maxHeartbeats 2000000 in
theorem made_ok (A : Option Addr) (c : Nat) (l : List UInt8) (w : World) (hv : By w A c l) (hl : l.length ≤ 15) :
    Calls Try.prog 8 #[.slice A l.length c] w fun e w' => ∃ u, e = .returned u ∧ VersO w' w.heap.size u (madeV 0 l) ∧ Gr w w' := by
  have HV := hide hv
  clear hv
  go_enter Try.func8, Try.ntmps8
  go_wp2_with fail
  go_loopw [3, 4, 5] (fun u p i wr => ∃ k : Nat, i = .int .i64 k ∧ k ≤ l.length ∧ p = .int .i64 (posV 0 (l.take k)) ∧ Hid (VersO wr w.heap.size u (madeV 0 (l.take k))) ∧ Hid (Gr w wr)) (fun _ _ i _ => l.length - (intOf i).toNat)
  case atStart => exact ⟨0, rfl, by omega, rfl, VersO.none_ _ _, Gr.refl _⟩
  case round =>
    obtain ⟨k, rfl, hk, rfl, HO, HG⟩ := hrel
    obtain ⟨B, d, hu, _⟩ := HO.out.x.is
    generalize hq : (madeV 0 (l.take k)).length = q at hu
    subst hu
    have hqk : q = k := by rw [← hq, made_len, List.length_take]; omega
    by_cases hlt : k < l.length
    · have hlt' : (k : Int) < (l.length : Int) := by omega
      obtain ⟨ad, rfl, hcell⟩ := (HV.out.gr HG.out).cell k hlt
      rw [show l.getD k 0 = l[k] by simp [hlt]] at hcell
      unfold bv at hcell
      have HT := hide (show posV 0 (l.take (k + 1)) = posV 0 (l.take k) + 1 + (l[k].toNat % 4 : Nat) ∧ madeV 0 (l.take (k + 1)) = madeV 0 (l.take k) ++ [verOf (posV 0 (l.take (k + 1))) l[k]] by
        rw [List.take_succ_eq_append_getElem hlt]
        exact ⟨pos_snoc _ _ _, made_snoc _ _ _⟩)
      have hpb := pos_bnd (l.take k) 0
      have htl : (l.take k).length ≤ 15 := by rw [List.length_take]; omega
      generalize l[k] = b at hcell HT
      generalize hx : b.toNat = n at hcell
      have hn := b.toNat_lt
      rw [hx] at hn
      generalize posV 0 (l.take k) = p at HT hpb
      obtain ⟨r4, h4⟩ : ∃ r, n % 4 = r := ⟨_, rfl⟩
      have e4 : (n : Int).tmod 4 = (r4 : Int) := by rw [← h4]; rfl
      have hr4 : r4 < 4 := by omega
      obtain ⟨p', hp'⟩ : ∃ p' : Int, p + 1 + (r4 : Int) = p' := ⟨_, rfl⟩
      have HT2 := hide (show posV 0 (l.take (k + 1)) = p' ∧ madeV 0 (l.take (k + 1)) = madeV 0 (l.take k) ++ [verOf p' b] by
        have e := HT.out.1
        rw [hx, h4] at e
        exact ⟨e.trans hp', by rw [HT.out.2, e, hp']⟩)
      clear HT
      have hc2 : (wr.alloc (.cells #[.string ⟨#[]⟩, .string ⟨#[118]⟩, .string ⟨#[119]⟩] 9)).cell? (ad.add k) = some (.int .u8 n) := gr_cell ((Gr.refl wr).alloc _) _ _ hcell
      obtain ⟨r3, h3⟩ : ∃ r, n / 4 % 3 = r := ⟨_, rfl⟩
      have hr3 : r3 < 3 := by omega
      obtain ⟨r5, h5⟩ : ∃ r, n % 5 = r := ⟨_, rfl⟩
      have e5 : (n : Int).tmod 5 = (r5 : Int) := by rw [← h5]; rfl
      have hr5 : r5 < 5 := by omega
      have htx : textOf (b.toNat / 4) = if r3 = 0 then nothing else if r3 = 1 then ⟨#[118]⟩ else ⟨#[119]⟩ := textOf_eq _ _ (by rw [hx]; exact h3)
      obtain ⟨s, hs⟩ : ∃ s, (if r3 = 0 then nothing else if r3 = 1 then (⟨#[118]⟩ : ByteArray) else ⟨#[119]⟩) = s := ⟨_, rfl⟩
      have hcs : ((wr.alloc (.cells #[.string ⟨#[]⟩, .string ⟨#[118]⟩, .string ⟨#[119]⟩] 9)).cell? ⟨wr.heap.size, r3, none⟩) = some (.string s) := by
        rw [(Bl.new wr 9 #[.string ⟨#[]⟩, .string ⟨#[118]⟩, .string ⟨#[119]⟩]).cell r3, ← hs]
        obtain rfl | rfl | rfl : r3 = 0 ∨ r3 = 1 ∨ r3 = 2 := by omega
        all_goals rfl
      rw [← h3] at hcs
      rw [hs] at htx
      clear hs
      have HV5 := hide (show verOf p' b = if r5 = 0 then ⟨p', nothing, true⟩ else ⟨p', s, false⟩ by unfold verOf; rw [htx, hx, h5])
      clear htx h3 h4 h5 hr3
      go_upto_region 7 with (fail)
      go_upto_region 8 with (fail)
      obtain ⟨W8, hW8⟩ : ∃ W8, (wr.alloc (.cells #[.string ⟨#[]⟩, .string ⟨#[118]⟩, .string ⟨#[119]⟩] 9)).alloc (.cells #[.int .i64 p', .string s, .bool false] 25) = W8 := ⟨_, rfl⟩
      have hg8 : Gr wr W8 := by rw [← hW8]; exact ((Gr.refl _).alloc _).alloc _
      have hb8 : Bl W8 (wr.heap.size + 1) 25 #[.int .i64 p', .string s, .bool false] := by rw [← hW8]; have := Bl.new (wr.alloc (.cells #[.string ⟨#[]⟩, .string ⟨#[118]⟩, .string ⟨#[119]⟩] 9)) 25 #[.int .i64 p', .string s, .bool false]; simpa using this
      rw [hW8]
      replace hcell := gr_cell hg8 _ _ hcell
      have HO8 := hide (HO.out.gr hg8)
      have HG8 := hide (HG.out.trans hg8)
      have HB8 := hide hb8
      have HNO := hide (show some (wr.heap.size + 1) ≠ (Value.slice B q d).ownBlock from fun e => by have := (HO.out.lt _ e.symm).2; omega)
      have m0 : W8.cell? ⟨wr.heap.size + 1, 0, none⟩ = some (.int .i64 p') := hb8.cell 0
      have m1 : W8.cell? ⟨wr.heap.size + 1, 1, none⟩ = some (.string s) := hb8.cell 1
      have m2 : W8.cell? ⟨wr.heap.size + 1, 2, none⟩ = some (.bool false) := hb8.cell 2
      have f1 := hb8.frozen 1
      have f2 := hb8.frozen 2
      have hgs : w.heap.size ≤ wr.heap.size := HG.out.size
      clear hW8 hg8 hb8 hc2 hcs HO HG
      by_cases h0 : r5 = 0
      · subst h0
        have HN := hide (show madeV 0 (l.take (k + 1)) = madeV 0 (l.take k) ++ [⟨p', nothing, true⟩] by rw [HT2.out.2, HV5.out, if_pos rfl])
        clear HV5
        go_upto_region 10 with (fail)
        obtain ⟨W9, hW9⟩ : ∃ W9, (W8.setCell ⟨wr.heap.size + 1, 2, none⟩ (.bool true)).setCell ⟨wr.heap.size + 1, 1, none⟩ (.string ⟨#[]⟩) = W9 := ⟨_, rfl⟩
        have hb9 : Bl W9 (wr.heap.size + 1) 25 #[.int .i64 p', .string ⟨#[]⟩, .bool true] := by rw [← hW9]; exact (HB8.out.put 2 _).put 1 _
        have hu9 : But W8 W9 (wr.heap.size + 1) := by rw [← hW9]; exact ((But.refl _ _).set 2 _).set 1 _
        rw [hW9]
        have HO9 := hide (HO8.out.apart hu9 HNO.out)
        have HG9 := hide (HG8.out.fresh_ hu9 (by omega))
        have k0 : W9.cell? ⟨wr.heap.size + 1, 0, none⟩ = some (.int .i64 p') := hb9.cell 0
        have k1 : W9.cell? ⟨wr.heap.size + 1, 1, none⟩ = some (.string ⟨#[]⟩) := hb9.cell 1
        have k2 : W9.cell? ⟨wr.heap.size + 1, 2, none⟩ = some (.bool true) := hb9.cell 2
        clear hW9 hb9 hu9 m0 m1 m2 f1 f2 hcell
        go_wp2_with (at_builtin; refine pause ?_)
        refine hide ?_
        refine wpList_pushVer rfl (.tmp 41) (.tmp 43) rfl (w0 := w) (ls := madeV 0 (l.take k)) rfl HO9.out HG9.out rfl (by rw [hq]; omega) ?_
        intro v3 w3 h1 h2
        rw [show (⟨p', ⟨#[]⟩, true⟩ : VerT) = ⟨p', nothing, true⟩ from rfl, ← HN.out] at h1
        have HO3 := hide h1
        have HG3 := hide h2
        obtain ⟨A3, c3, hv3, _⟩ := h1.x.is
        have hq5 : (madeV 0 (l.take (k + 1))).length = k + 1 := by rw [made_len, List.length_take]; omega
        rw [hq5] at hv3
        subst hv3
        have HP := hide HT2.out.1
        clear h1 h2 k0 k1 k2
        go_wp2_with fail
        go_roundw
        case rel => exact ⟨k + 1, by go_num, by omega, by rw [HP.out], HO3, HG3⟩
        case measure => simp [intOf]; omega
      · have h0' : ¬ (r5 : Int) = 0 := by omega
        have HN := hide (show madeV 0 (l.take (k + 1)) = madeV 0 (l.take k) ++ [⟨p', s, false⟩] by rw [HT2.out.2, HV5.out, if_neg h0])
        clear HV5
        go_wp2_with (at_builtin; refine pause ?_)
        refine hide ?_
        refine wpList_pushVer rfl (.tmp 41) (.tmp 43) rfl (w0 := w) (ls := madeV 0 (l.take k)) rfl HO8.out HG8.out rfl (by rw [hq]; omega) ?_
        intro v3 w3 h1 h2
        rw [← HN.out] at h1
        have HO3 := hide h1
        have HG3 := hide h2
        obtain ⟨A3, c3, hv3, _⟩ := h1.x.is
        have hq5 : (madeV 0 (l.take (k + 1))).length = k + 1 := by rw [made_len, List.length_take]; omega
        rw [hq5] at hv3
        subst hv3
        have HP := hide HT2.out.1
        clear h1 h2 hcell m0 m1 m2 f1 f2
        go_wp2_with fail
        go_roundw
        case rel => exact ⟨k + 1, by go_num, by omega, by rw [HP.out], HO3, HG3⟩
        case measure => simp [intOf]; omega
    · obtain rfl : k = l.length := by omega
      rw [List.take_length] at HO
      go_wp2_with fail
      go_ret
      exact ⟨_, rfl, HO.out, HG.out⟩

end Go.Proofs.Ytcghbmpajolgpaa
