/-
  The walk of 'StoreTwice'.
-/
import Derived.Test.YtbfbghfaeejicaaStBegun
import Derived.Test.YtbfbghfaeejicaaStMade
import Derived.Test.YtbfbghfaeejicaaStFacts
import Derived.Test.YtbfbghfaeejicaaBaseL
namespace Go.Proofs.Ytbfbghfaeejicaa
open Go Go.RowKit ChMath KeyMath StMath TxnMath
set_option maxRecDepth 100000

/-- a store, as it comes back -/
abbrev Grow.Sv (cs : List ChT) (m : Int) : Grow.Known := fun v w => ∃ u, v = .agg #[u, .int .i64 m] ∧ ChnsX w u cs
theorem Grow.Sv.stays (cs : List ChT) (m : Int) : Grow.Stays (Grow.Sv cs m) := fun _ _ _ ⟨u, h1, h2⟩ hg => ⟨u, h1, h2.gr hg⟩

set_option maxHeartbeats 8000000 in
theorem walk_StoreTwice (w : World) (A : Option Addr) (n c : Nat) (l : List UInt8) (hn : n = l.length) (hby : By w A c l) (B : Option Addr) (m d : Nat) (r : List UInt8) (hm : m = r.length) (hbr : By w B d r) (b : Int) (hb : (Lit.int .u8 b).wf = true) :
    Calls Try.prog 7 #[.slice A n c, .slice B m d, .int .u8 b] w fun e w' => e = .returned (.bool true) ∧ Gr w w' := by
  subst hn hm
  have HBY := hide hby
  have HBR := hide hbr
  clear hby hbr
  obtain ⟨nb, rfl, hnb⟩ := u8_nat hb
  clear hb
  by_cases h1 : (150 : Int) < (l.length : Int)
  · go_enter Try.func7, Try.ntmps7
    go_wp2_with fail
    refine (stBegun_ok _).mono ?_
    rintro e w1 ⟨rfl, hg1⟩
    go_wp2_with fail
    go_ret
    exact ⟨rfl, hg1⟩
  by_cases h2 : (20 : Int) < (r.length : Int)
  · go_enter Try.func7, Try.ntmps7
    go_wp2_with fail
    refine (stBegun_ok _).mono ?_
    rintro e w1 ⟨rfl, hg1⟩
    go_wp2_with fail
    go_ret
    exact ⟨rfl, hg1⟩
  go_enter Try.func7, Try.ntmps7
  go_wp2_with fail
  refine (stBegun_ok _).mono ?_
  rintro e w1 ⟨rfl, hg1⟩
  have HG1 := hide hg1
  clear hg1
  go_wp2_with fail
  refine (stMade_ok A c l w1 (HBY.out.gr HG1.out) (by omega)).mono ?_
  rintro e w2 ⟨u, ⟨cs, mk⟩, rfl, hu, hgood, hg2⟩
  simp only at hu
  obtain ⟨uA, uc, rfl⟩ := hu.is
  have HGOOD := hide hgood
  have hmk := hgood.low
  have hmk2 := hgood.high
  obtain ⟨q, hq⟩ : ∃ q, cs.length = q := ⟨_, rfl⟩
  rw [hq] at hu ⊢
  simp only at hmk hmk2
  clear hgood
  go_upto_region 6 with (fail)
  obtain ⟨W2, hW2⟩ : ∃ W2, w2.alloc (.cells #[.slice uA q uc, .int .i64 mk] 26) = W2 := ⟨_, rfl⟩
  have hgx : Gr w2 W2 := by rw [← hW2]; exact (Gr.refl _).alloc _
  have hb2 : Bl W2 w2.heap.size 26 #[.slice uA q uc, .int .i64 mk] := by rw [← hW2]; exact Bl.new _ _ _
  rw [hW2]
  obtain ⟨g2, hg2e⟩ : ∃ g2, w2.heap.size = g2 := ⟨_, rfl⟩
  rw [hg2e] at hb2 ⊢
  have HB2 := hide hb2
  have HU2 := hide (hu.gr hgx)
  have HG2 := hide (HG1.out.trans (hg2.trans hgx))
  clear hW2 hgx hb2 hg2e hu hg2 HG1
  go_wp2_with fail
  refine (Made_ok B d r W2 (HBR.out.gr HG2.out)).mono ?_
  rintro e w3 ⟨rfl, hg3, hp3⟩
  go_wp2_with fail
  refine (Txn_ok W2.heap.size B d r 0 1 (by decide) (by omega) w3 hp3).mono ?_
  rintro e w4 ⟨tv, rfl, htx, hb4, _⟩
  obtain ⟨ta, tb, rA, rn, rc, wv, rfl, hw4⟩ := htx.txw
  have hws := tx_writes r 0 1
  generalize (txP r 0 1).1.writes = ws at hw4 hws
  have hg4 : Gr W2 w4 := hg3.fresh_ hb4 (Nat.le_refl _)
  obtain ⟨wA, wc, rfl, _⟩ := hw4.is
  obtain ⟨n4, hn4⟩ : ∃ n4, ws.length = n4 := ⟨_, rfl⟩
  rw [hn4] at hw4 ⊢
  have hfd : ∀ w, (Instr.field 31 (.agg #[.int .i64 ta, .int .i64 tb, .slice rA rn rc, .slice wA n4 wc]) 3).run Try.prog w = .ok (.slice wA n4 wc) w := fun w => by kernel_rfl
  have HN4 := hide hn4
  clear hn4
  have HW4 := hide hw4
  have HG4 := hide hg4
  have HWS := hide hws
  clear htx hb4 hw4 hg4 hp3 hg3 hws
  obtain ⟨pa, hpa⟩ : ∃ k, 40 + nb = k := ⟨_, rfl⟩
  have hpa' : (40 : Int) + (nb : Int) = (pa : Int) := by omega
  have hp1 : (1 : Int) ≤ (pa : Int) := by omega
  have hrise : Rise cs := HGOOD.out.ok.rise
  obtain ⟨ds, hds⟩ : ∃ ds, writeC pa ws cs = ds := ⟨_, rfl⟩
  have HGD := hide (HGOOD.out.write (p := pa) (by omega) HWS.out.1 HWS.out.2)
  rw [show writeR (pa : Int) ws cs = ds by rw [(write_adds (K := KeyIn) (M := pa) hp1 (by omega) (HGOOD.out.ok.wide (by omega)) HWS.out.1).2, hds]] at HGD
  have HAG := hide (show writeC pa ws ds = ds by rw [← hds]; exact write_twice hp1 hrise)
  have HLAST := hide (show ∀ k, lastP (findC k ds) = if wroteK k ws then (pa : Int) else lastP (findC k cs) from fun k => by
    rw [← hds, write_last k hrise]
    have : lastP (findC k cs) ≤ 36 := last_le HGOOD.out.ok (by omega) k
    split <;> omega)
  have HW1 := hide (Write_ok (.slice uA q uc) mk pa cs (.slice wA n4 wc) ws w4 (HU2.out.gr HG4.out) 48 HGOOD.out.bnd (by have := HWS.out.2; omega) HW4.out)
  have HW2 := hide (fun W u (hu : ChnsX W u ds) (hw : RowAt 3 W (.slice wA n4 wc) (ws.map wrC)) => Write_ok u mk pa ds (.slice wA n4 wc) ws W hu 52 HGD.out.bnd (by have := HWS.out.2; omega) hw)
  rw [hds] at HW1
  rw [HAG.out] at HW2
  have hb4 := HB2.out.gr HG4.out
  have k0 : w4.cell? ⟨g2, 0, none⟩ = some (.slice uA q uc) := hb4.cell 0
  have k1 : w4.cell? ⟨g2, 1, none⟩ = some (.int .i64 mk) := hb4.cell 1
  have hi64 : IntKind.i64.wrap ((40 : Int) + (nb : Int)) = (pa : Int) := by rw [IntWalk.i64_in _ (by omega)]; exact hpa'
  clear hds hrise hb4 hpa
  go_wp2_with fail
  refine HW1.out.mono ?_
  rintro e w5 ⟨u5, rfl, hu5, hg5⟩
  obtain ⟨tA, tc, rfl⟩ := hu5.is
  obtain ⟨z, hz⟩ : ∃ z, ds.length = z := ⟨_, rfl⟩
  rw [hz] at hu5 ⊢
  go_upto_region 9 with (fail)
  obtain ⟨W5, hW5⟩ : ∃ W5, w5.alloc (.cells #[.slice tA z tc, .int .i64 mk] 26) = W5 := ⟨_, rfl⟩
  have hgx : Gr w5 W5 := by rw [← hW5]; exact (Gr.refl _).alloc _
  have hb5 : Bl W5 w5.heap.size 26 #[.slice tA z tc, .int .i64 mk] := by rw [← hW5]; exact Bl.new _ _ _
  rw [hW5]
  obtain ⟨g5, hg5e⟩ : ∃ g5, w5.heap.size = g5 := ⟨_, rfl⟩
  rw [hg5e] at hb5 ⊢
  have HB5 := hide hb5
  have HT5 := hide (hu5.gr hgx)
  have hgy := HG4.out.trans (hg5.trans hgx)
  have HB25 := hide (HB2.out.gr hgy)
  have HU5 := hide (HU2.out.gr hgy)
  have HW5 := hide (HW4.out.gr (hg5.trans hgx))
  have HG5 := hide (HG2.out.trans hgy)
  clear hW5 hgx hb5 hg5e hu5 hg5 hgy k0 k1 HB2 HU2 HW4 HG2 HG4 HW1
  have HSAME := hide (fun W u v (h : ChnsX W u ds) (h2 : ChnsX W v ds) => StSame_ok ⟨ds, mk⟩ ⟨ds, mk⟩ u v W h h2 (HGD.out.bnd.len (by omega)))
  rw [decide_eq_true rfl] at HSAME
  have HMAY := hide (fun W u (h : ChnsX W u ds) => StMay_ok ⟨ds, mk⟩ u W h (HGD.out.bnd.len (by omega)) HGD.out.big)
  rw [HGD.out.may] at HMAY
  have HLT := hide (fun W (k : ByteArray) (h : Gr W5 W) => StLast_ok k (.slice tA z tc) mk ds W (HT5.out.gr h) (HGD.out.bnd.len (by omega)))
  have HLS := hide (fun W (k : ByteArray) (h : Gr W5 W) => StLast_ok k (.slice uA q uc) mk cs W (HU5.out.gr h) (HGOOD.out.bnd.len (by omega)))
  refine Grow.wp_region_kept 113 [38, 39, 40, 41, 42, 43, 44, 45, 46, 47, 48, 49, 50, 51, 52, 53, 54, 55, 56] rfl (by kernel_rfl) (by kernel_rfl) (by kernel_rfl) (Grow.Ahead.more (Grow.Ahead.more (Grow.Ahead.more (Grow.Ahead.more (Grow.Ahead.none_ _ _) 7 (Grow.Bx.stays g2 26 #[.slice uA q uc, .int .i64 mk]) ⟨rfl, HB25.out.drewN 1⟩) 10 (Grow.Bx.stays g5 26 #[.slice tA z tc, .int .i64 mk]) ⟨rfl, HB5.out.drewN 1⟩) 9 (Grow.Is.stays (.int .i64 (pa : Int))) rfl) 8 (Grow.Is.stays (.slice wA n4 wc)) rfl) ?_
  refine Grow.grow_row rfl (.inl ⟨rfl, rfl⟩) rfl Try.underlying26 rfl (by kernel_rfl) ?_
  refine Grow.grow_mv (.inl rfl) (.inl ⟨rfl, rfl⟩) rfl ?_
  refine Grow.grow_mv (.inl rfl) (.inl ⟨rfl, rfl⟩) rfl ?_
  refine Grow.grow_call3 (Φ := Grow.Sv ds mk) rfl (.inl ⟨rfl, rfl⟩) Try.func23 (by kernel_rfl) (by kernel_rfl) rfl rfl rfl (Grow.Sv.stays _ _) (fun v u t W hg hv hu ht => by
    subst hv hu ht
    exact (HW2.out W _ (HT5.out.gr (((Gr.refl W5).drewN 1).trans hg)) (HW5.out.gr (((Gr.refl W5).drewN 1).trans hg))).mono fun e w' ⟨x, he, hx, hgx⟩ => ⟨_, he, hgx, x, rfl, hx⟩) ?_
  refine Grow.grow_row rfl (.inl ⟨rfl, rfl⟩) rfl Try.underlying26 rfl (by kernel_rfl) ?_
  refine Grow.grow_call2 (Φ := Grow.Is (.bool true)) rfl (.inl ⟨rfl, rfl⟩) Try.func13 (by kernel_rfl) (by kernel_rfl) rfl rfl (Grow.Is.stays _) (fun v u W hg hv hu => by
    obtain ⟨x, rfl, hx⟩ := hv
    subst hu
    exact (HSAME.out W _ _ hx (HT5.out.gr (((Gr.refl W5).drewN 1).trans hg))).mono fun e w' ⟨he, hgx⟩ => ⟨_, he, hgx, rfl⟩) ?_
  refine Grow.grow_not rfl (.inl ⟨rfl, rfl⟩) rfl ?_
  refine Grow.grow_mv (.inl rfl) (.inl ⟨rfl, rfl⟩) rfl ?_
  refine Grow.grow_row rfl (.inr ⟨7, false, 45, rfl, rfl, rfl, by decide⟩) rfl Try.underlying26 rfl (by kernel_rfl) ?_
  refine Grow.grow_call1 (Φ := Grow.Is (.bool true)) rfl (.inr ⟨7, false, 45, rfl, rfl, rfl, by decide⟩) Try.func12 (by kernel_rfl) (by kernel_rfl) rfl (Grow.Is.stays _) (fun v W hg hv => by
    subst hv
    exact (HMAY.out W _ (HT5.out.gr (((Gr.refl W5).drewN 1).trans hg))).mono fun e w' ⟨he, hgx⟩ => ⟨_, he, hgx, rfl⟩) ?_
  refine Grow.grow_not rfl (.inr ⟨7, false, 45, rfl, rfl, rfl, by decide⟩) rfl ?_
  refine Grow.grow_pick_no (Φ := Grow.Is (.bool false)) rfl (.inl ⟨rfl, rfl⟩) rfl rfl (Grow.Is.stays _) ?_
  refine Grow.grow_mv (.inl rfl) (.inl ⟨rfl, rfl⟩) rfl ?_
  refine Grow.grow_field (j := 1) (u := .int .i64 mk) (Ψ := Grow.Is (.int .i64 mk)) rfl (.inr ⟨12, false, 50, rfl, rfl, rfl, by decide⟩) rfl (fun w => by kernel_rfl) rfl (Grow.Is.stays _) (fun _ _ => rfl) ?_
  refine Grow.grow_load_k (Ψ := Grow.Is (.int .i64 mk)) rfl (fun _ => by kernel_rfl) (.inr ⟨12, false, 50, rfl, rfl, rfl, by decide⟩) rfl (Grow.Is.stays _) ?_
  refine Grow.grow_field (j := 1) (u := .int .i64 mk) (Ψ := Grow.Is (.int .i64 mk)) rfl (.inr ⟨12, false, 50, rfl, rfl, rfl, by decide⟩) rfl (fun w => by kernel_rfl) rfl (Grow.Is.stays _) (fun _ _ => rfl) ?_
  refine Grow.grow_load_k (Ψ := Grow.Is (.int .i64 mk)) rfl (fun _ => by kernel_rfl) (.inr ⟨12, false, 50, rfl, rfl, rfl, by decide⟩) rfl (Grow.Is.stays _) ?_
  refine Grow.grow_int_alike rfl rfl (.inr ⟨12, false, 50, rfl, rfl, rfl, by decide⟩) rfl rfl ?_
  refine Grow.grow_pick_no (Φ := Grow.Is (.bool false)) rfl (.inl ⟨rfl, rfl⟩) rfl rfl (Grow.Is.stays _) ?_
  intro a1 w6 hg6 hs6 hd6 hu6 hk6
  have h56 : a1.tmps.getD 56 undef = .bool false := hk6 56
  obtain ⟨X, hX, hlay⟩ := Grow.lay_kept_by _ a1 113 _ hs6 hd6 hu6
  rw [hX] at h56
  clear hX hu6 hd6 hs6 hk6
  subst hlay
  simp only [List.range, List.range.loop, List.map_cons, List.map_nil, List.contains_cons, List.contains_nil, Nat.reduceBEq, Bool.or_false, Bool.or_true, cond_false, cond_true, Array.getD_eq_getD_getElem?, List.getElem?_toArray, List.getElem?_cons_zero, List.getElem?_cons_succ, Option.getD_some, h56]
  clear h56
  have HG6 := hide (((Gr.refl W5).drewN 1).trans hg6)
  clear hg6 HW2 HSAME HMAY
  go_upto_region 12 with (fail)
  obtain ⟨W6, hW6⟩ : ∃ W6, w6.alloc (.cells #[.string ⟨#[97]⟩, .string ⟨#[98]⟩, .string ⟨#[99]⟩, .string ⟨#[100]⟩, .string ⟨#[101, 101]⟩, .string ⟨#[102, 102]⟩] 9) = W6 := ⟨_, rfl⟩
  have hgx : Gr w6 W6 := by rw [← hW6]; exact (Gr.refl _).alloc _
  have hb6 : Bl W6 w6.heap.size 9 (keysL.map Value.string).toArray := by rw [← hW6]; exact Bl.new _ _ _
  rw [hW6]
  obtain ⟨g6, hg6e⟩ : ∃ g6, w6.heap.size = g6 := ⟨_, rfl⟩
  rw [hg6e] at hb6 ⊢
  have HB6 := hide hb6
  have HG7 := hide (HG6.out.trans hgx)
  clear hW6 hgx hb6 hg6e HG6
  go_wp2_with fail
  go_loopw [12] (fun i wr => ∃ k : Nat, i = .int .i64 k ∧ k ≤ 6 ∧ Hid (Gr W6 wr)) (fun i _ => 6 - (intOf i).toNat)
  case atStart => exact ⟨0, rfl, by omega, hide (Gr.refl _)⟩
  case round =>
    obtain ⟨k, rfl, hk, HR⟩ := hrel
    by_cases hlt : k < 6
    · have hlt' : (k : Int) < 6 := by omega
      go_wp2_with fail
      obtain ⟨x, hx⟩ : ∃ x, keysL.getD k ⟨#[]⟩ = x := ⟨_, rfl⟩
      have HKE := hide (show (keysL.map Value.string)[k]? = some (.string x) by rw [← hx, List.getElem?_map]; have : k < keysL.length := hlt; rw [List.getElem?_eq_getElem this]; simp [List.getD_eq_getElem?_getD, this])
      have HKX := hide (show ∀ W, Gr W6 W → W.cell? ⟨g6, k, none⟩ = some (.string x) from fun W hg => by rw [(HB6.out.gr hg).cell, List.getElem?_toArray]; exact HKE.out)
      clear hx
      go_loopw [13, 14] (fun o j wr => ∃ i : Nat, j = .int .i64 i ∧ i ≤ n4 ∧ o = .bool (wroteK x (ws.take i)) ∧ Hid (Gr W6 wr)) (fun _ j _ => n4 - (intOf j).toNat)
      case atStart => exact ⟨0, rfl, by omega, rfl, HR⟩
      case round =>
        obtain ⟨i, rfl, hi, rfl, HR2⟩ := hrel
        by_cases hlt2 : i < n4
        · have hiw : i < ws.length := by have := HN4.out; omega
          have hlt2' : (i : Int) < (n4 : Int) := by omega
          have hn44 : n4 ≤ 4 := by have := HN4.out; have := HWS.out.2; omega
          have HWT := hide (wrote_take (q := x) hiw)
          have hcx : wr.cell? ⟨g6, k, none⟩ = some (.string x) := HKX.out wr HR2.out
          obtain ⟨ad, c', e1, -, r0, -⟩ := (HW5.out.gr (HG7.out.trans HR2.out)).cell (j := i) (r := wrC ws[i]) (by rw [List.getElem?_map, List.getElem?_eq_getElem hiw]; rfl) (by simp [wrC])
          replace r0 := r0 (.string ws[i].key) rfl
          simp only [Value.slice.injEq] at e1
          obtain ⟨rfl, -, -⟩ := e1
          generalize wroteK x (ws.take i) = b0 at HWT ⊢
          cases b0
          · generalize ws[i].key = y at r0 HWT
            by_cases hyx : y = x
            · have hE : (y.toList == x.toList) = true := by rw [hyx]; simp
              rw [decide_eq_true hyx] at HWT
              clear hiw hyx
              go_wp2_with fail
              go_quiet (fail)
              go_wp2_with fail
              go_roundw
              case rel => exact ⟨i + 1, by go_num, by omega, by rw [HWT.out]; rfl, hide (HR2.out.drewN _)⟩
              case measure => simp [intOf]; omega
            · have hE : (y.toList == x.toList) = false := by rw [text_isEq, decide_eq_false hyx]
              rw [decide_eq_false hyx] at HWT
              clear hiw hyx
              go_wp2_with fail
              go_quiet (fail)
              go_wp2_with fail
              go_roundw
              case rel => exact ⟨i + 1, by go_num, by omega, by rw [HWT.out]; rfl, hide (HR2.out.drewN _)⟩
              case measure => simp [intOf]; omega
          · rw [Bool.true_or] at HWT
            clear hiw r0 hcx
            go_wp2_with fail
            go_quiet (fail)
            go_wp2_with fail
            go_roundw
            case rel => exact ⟨i + 1, by go_num, by omega, by rw [HWT.out], hide (HR2.out.drewN _)⟩
            case measure => simp [intOf]; omega
        · obtain rfl : i = n4 := by omega
          rw [show ws.take i = ws by rw [← HN4.out, List.take_length]]
          have HBA := hide (HB25.out.gr (HG7.out.trans HR2.out))
          have HBB := hide (HB5.out.gr (HG7.out.trans HR2.out))
          have HRW := hide (HG7.out.trans (HR2.out.trans ((Gr.refl wr).drewN 1)))
          have HKC := hide (show ∀ j u, (keysL.map Value.string)[j]? = some u → (wr.drewN 1).cell? ((⟨g6, 0, none⟩ : Addr).add j) = some u from fun j u hj => by
            rw [Addr.add_lit, Nat.zero_add, (HB6.out.gr (HR2.out.trans ((Gr.refl wr).drewN 1))).cell, List.getElem?_toArray]
            exact hj)
          have HL1 := HLAST.out x
          cases hwr : wroteK x ws
          · rw [if_neg (by rw [hwr]; simp)] at HL1
            have HLT1 := hide (fun W (h : Gr W5 W) => HLT.out W x h)
            have HLS1 := hide (fun W (h : Gr W5 W) => HLS.out W x h)
            rw [HL1] at HLT1
            generalize lastP (findC x cs) = y at HLT1 HLS1
            clear HL1 hwr
            go_wp2_with fail
            refine Grow.wp_region_kept 113 [83, 84, 85, 86, 87, 88, 89, 90, 91, 92, 93, 94, 95, 96, 97, 98, 99, 100, 101, 102, 103, 104, 105, 106, 107, 108, 109, 110, 111, 112] rfl (by kernel_rfl) (by kernel_rfl) (by kernel_rfl) (Grow.Ahead.more (Grow.Ahead.more (Grow.Ahead.more (Grow.Ahead.more (Grow.Ahead.more (Grow.Ahead.more (Grow.Ahead.none_ _ _) 7 (Grow.Bx.stays g2 26 #[.slice uA q uc, .int .i64 mk]) ⟨rfl, HBA.out.drewN 1⟩) 10 (Grow.Bx.stays g5 26 #[.slice tA z tc, .int .i64 mk]) ⟨rfl, HBB.out.drewN 1⟩) 9 (Grow.Is.stays (.int .i64 (pa : Int))) rfl) 11 (Grow.Cl.stays ⟨g6, 0, none⟩ 6 6 (keysL.map Value.string)) ⟨rfl, rfl, HKC.out⟩) 12 (Grow.Is.stays (.int .i64 (k : Int))) rfl) 13 (Grow.Is.stays (.bool false)) rfl) ?_
            refine Grow.grow_mv (.inl rfl) (.inl ⟨rfl, rfl⟩) rfl ?_
            refine Grow.grow_mv (.inl rfl) (.inl ⟨rfl, rfl⟩) rfl ?_
            refine Grow.grow_skip (.inr ⟨1, true, 84, rfl, rfl, rfl, by decide⟩) ?_
            refine Grow.grow_skip (.inr ⟨1, true, 84, rfl, rfl, rfl, by decide⟩) ?_
            refine Grow.grow_skip (.inr ⟨1, true, 84, rfl, rfl, rfl, by decide⟩) ?_
            refine Grow.grow_skip (.inr ⟨1, true, 84, rfl, rfl, rfl, by decide⟩) ?_
            refine Grow.grow_skip (.inr ⟨1, true, 84, rfl, rfl, rfl, by decide⟩) ?_
            refine Grow.grow_skip (.inr ⟨1, true, 84, rfl, rfl, rfl, by decide⟩) ?_
            refine Grow.grow_skip (.inr ⟨1, true, 84, rfl, rfl, rfl, by decide⟩) ?_
            refine Grow.grow_skip (.inr ⟨1, true, 84, rfl, rfl, rfl, by decide⟩) ?_
            refine Grow.grow_pick_no (Φ := Grow.Is (.bool false)) rfl (.inl ⟨rfl, rfl⟩) rfl (fun _ => rfl) (Grow.Is.stays _) ?_
            refine Grow.grow_mv (.inl rfl) (.inl ⟨rfl, rfl⟩) rfl ?_
            refine Grow.grow_mv (.inl rfl) (.inr ⟨11, false, 94, rfl, rfl, rfl, by decide⟩) rfl ?_
            refine Grow.grow_not rfl (.inr ⟨11, false, 94, rfl, rfl, rfl, by decide⟩) rfl ?_
            refine Grow.grow_mv (.inl rfl) (.inr ⟨11, false, 94, rfl, rfl, rfl, by decide⟩) rfl ?_
            refine Grow.grow_row rfl (.inr ⟨14, true, 97, rfl, rfl, rfl, by decide⟩) rfl Try.underlying26 rfl (by kernel_rfl) ?_
            refine Grow.grow_mvc (.inl rfl) (.inr ⟨14, true, 97, rfl, rfl, rfl, by decide⟩) rfl ?_
            refine Grow.grow_mv (.inl rfl) (.inr ⟨14, true, 97, rfl, rfl, rfl, by decide⟩) rfl ?_
            refine Grow.grow_index k rfl rfl (fun w => by kernel_rfl) (.inr ⟨14, true, 97, rfl, rfl, rfl, by decide⟩) rfl rfl rfl (HKE.out) ?_
            refine Grow.grow_load rfl (fun w => by kernel_rfl) (.inr ⟨14, true, 97, rfl, rfl, rfl, by decide⟩) rfl ?_
            refine Grow.grow_call2 (Φ := Grow.Is (.int .i64 y)) rfl (.inr ⟨14, true, 97, rfl, rfl, rfl, by decide⟩) Try.func16 (by kernel_rfl) (by kernel_rfl) rfl rfl (Grow.Is.stays _) (fun v u W hg hv hu => by
              subst hv hu
              exact (HLT1.out W (HRW.out.trans hg)).mono fun e w' ⟨he, hgx⟩ => ⟨_, he, hgx, rfl⟩) ?_
            refine Grow.grow_row rfl (.inr ⟨14, true, 97, rfl, rfl, rfl, by decide⟩) rfl Try.underlying26 rfl (by kernel_rfl) ?_
            refine Grow.grow_mvc (.inl rfl) (.inr ⟨14, true, 97, rfl, rfl, rfl, by decide⟩) rfl ?_
            refine Grow.grow_mv (.inl rfl) (.inr ⟨14, true, 97, rfl, rfl, rfl, by decide⟩) rfl ?_
            refine Grow.grow_index k rfl rfl (fun w => by kernel_rfl) (.inr ⟨14, true, 97, rfl, rfl, rfl, by decide⟩) rfl rfl rfl (HKE.out) ?_
            refine Grow.grow_load rfl (fun w => by kernel_rfl) (.inr ⟨14, true, 97, rfl, rfl, rfl, by decide⟩) rfl ?_
            refine Grow.grow_call2 (Φ := Grow.Is (.int .i64 y)) rfl (.inr ⟨14, true, 97, rfl, rfl, rfl, by decide⟩) Try.func16 (by kernel_rfl) (by kernel_rfl) rfl rfl (Grow.Is.stays _) (fun v u W hg hv hu => by
              subst hv hu
              exact (HLS1.out W (HRW.out.trans hg)).mono fun e w' ⟨he, hgx⟩ => ⟨_, he, hgx, rfl⟩) ?_
            refine Grow.grow_int_alike rfl rfl (.inr ⟨14, true, 97, rfl, rfl, rfl, by decide⟩) rfl rfl ?_
            refine Grow.grow_pick_yes (Φ := Grow.Is (.bool false)) rfl (.inr ⟨11, false, 94, rfl, rfl, rfl, by decide⟩) rfl rfl (Grow.Is.stays _) ?_
            refine Grow.grow_pick_no (Φ := Grow.Is (.bool false)) rfl (.inl ⟨rfl, rfl⟩) rfl rfl (Grow.Is.stays _) ?_
            intro a1 w7 hg7 hs7 hd7 hu7 hk7
            have h112 : a1.tmps.getD 112 undef = .bool false := hk7 112
            obtain ⟨Y, hY, hlay⟩ := Grow.lay_kept_by _ a1 113 _ hs7 hd7 hu7
            rw [hY] at h112
            clear hY hu7 hd7 hs7 hk7
            subst hlay
            simp only [List.range, List.range.loop, List.map_cons, List.map_nil, List.contains_cons, List.contains_nil, Nat.reduceBEq, Bool.or_false, Bool.or_true, cond_false, cond_true, Array.getD_eq_getD_getElem?, List.getElem?_toArray, List.getElem?_cons_zero, List.getElem?_cons_succ, Option.getD_some, h112]
            clear h112
            have HR3 := hide (HR2.out.trans (((Gr.refl wr).drewN 1).trans hg7))
            clear hg7
            go_wp2_with fail
            go_roundw
            case rel => exact ⟨k + 1, by go_num, by omega, HR3⟩
            case measure => simp [intOf]; omega
          · rw [if_pos hwr] at HL1
            have HLT1 := hide (fun W (h : Gr W5 W) => HLT.out W x h)
            rw [HL1] at HLT1
            clear HL1 hwr
            go_wp2_with fail
            refine Grow.wp_region_kept 113 [83, 84, 85, 86, 87, 88, 89, 90, 91, 92, 93, 94, 95, 96, 97, 98, 99, 100, 101, 102, 103, 104, 105, 106, 107, 108, 109, 110, 111, 112] rfl (by kernel_rfl) (by kernel_rfl) (by kernel_rfl) (Grow.Ahead.more (Grow.Ahead.more (Grow.Ahead.more (Grow.Ahead.more (Grow.Ahead.more (Grow.Ahead.more (Grow.Ahead.none_ _ _) 7 (Grow.Bx.stays g2 26 #[.slice uA q uc, .int .i64 mk]) ⟨rfl, HBA.out.drewN 1⟩) 10 (Grow.Bx.stays g5 26 #[.slice tA z tc, .int .i64 mk]) ⟨rfl, HBB.out.drewN 1⟩) 9 (Grow.Is.stays (.int .i64 (pa : Int))) rfl) 11 (Grow.Cl.stays ⟨g6, 0, none⟩ 6 6 (keysL.map Value.string)) ⟨rfl, rfl, HKC.out⟩) 12 (Grow.Is.stays (.int .i64 (k : Int))) rfl) 13 (Grow.Is.stays (.bool true)) rfl) ?_
            refine Grow.grow_mv (.inl rfl) (.inl ⟨rfl, rfl⟩) rfl ?_
            refine Grow.grow_mv (.inl rfl) (.inl ⟨rfl, rfl⟩) rfl ?_
            refine Grow.grow_row rfl (.inr ⟨1, true, 84, rfl, rfl, rfl, by decide⟩) rfl Try.underlying26 rfl (by kernel_rfl) ?_
            refine Grow.grow_mvc (.inl rfl) (.inr ⟨1, true, 84, rfl, rfl, rfl, by decide⟩) rfl ?_
            refine Grow.grow_mv (.inl rfl) (.inr ⟨1, true, 84, rfl, rfl, rfl, by decide⟩) rfl ?_
            refine Grow.grow_index k rfl rfl (fun w => by kernel_rfl) (.inr ⟨1, true, 84, rfl, rfl, rfl, by decide⟩) rfl rfl rfl (HKE.out) ?_
            refine Grow.grow_load rfl (fun w => by kernel_rfl) (.inr ⟨1, true, 84, rfl, rfl, rfl, by decide⟩) rfl ?_
            refine Grow.grow_call2 (Φ := Grow.Is (.int .i64 (pa : Int))) rfl (.inr ⟨1, true, 84, rfl, rfl, rfl, by decide⟩) Try.func16 (by kernel_rfl) (by kernel_rfl) rfl rfl (Grow.Is.stays _) (fun v u W hg hv hu => by
              subst hv hu
              exact (HLT1.out W (HRW.out.trans hg)).mono fun e w' ⟨he, hgx⟩ => ⟨_, he, hgx, rfl⟩) ?_
            refine Grow.grow_mv (.inl rfl) (.inr ⟨1, true, 84, rfl, rfl, rfl, by decide⟩) rfl ?_
            refine Grow.grow_int_alike rfl rfl (.inr ⟨1, true, 84, rfl, rfl, rfl, by decide⟩) rfl rfl ?_
            refine Grow.grow_pick_yes (Φ := Grow.Is (.bool false)) rfl (.inl ⟨rfl, rfl⟩) rfl rfl (Grow.Is.stays _) ?_
            refine Grow.grow_mv (.inl rfl) (.inl ⟨rfl, rfl⟩) rfl ?_
            refine Grow.grow_mv (.inl rfl) (.inr ⟨11, false, 94, rfl, rfl, rfl, by decide⟩) rfl ?_
            refine Grow.grow_not rfl (.inr ⟨11, false, 94, rfl, rfl, rfl, by decide⟩) rfl ?_
            refine Grow.grow_mv (.inl rfl) (.inr ⟨11, false, 94, rfl, rfl, rfl, by decide⟩) rfl ?_
            refine Grow.grow_skip (.inr ⟨14, true, 97, rfl, rfl, rfl, by decide⟩) ?_
            refine Grow.grow_skip (.inr ⟨14, true, 97, rfl, rfl, rfl, by decide⟩) ?_
            refine Grow.grow_skip (.inr ⟨14, true, 97, rfl, rfl, rfl, by decide⟩) ?_
            refine Grow.grow_skip (.inr ⟨14, true, 97, rfl, rfl, rfl, by decide⟩) ?_
            refine Grow.grow_skip (.inr ⟨14, true, 97, rfl, rfl, rfl, by decide⟩) ?_
            refine Grow.grow_skip (.inr ⟨14, true, 97, rfl, rfl, rfl, by decide⟩) ?_
            refine Grow.grow_skip (.inr ⟨14, true, 97, rfl, rfl, rfl, by decide⟩) ?_
            refine Grow.grow_skip (.inr ⟨14, true, 97, rfl, rfl, rfl, by decide⟩) ?_
            refine Grow.grow_skip (.inr ⟨14, true, 97, rfl, rfl, rfl, by decide⟩) ?_
            refine Grow.grow_skip (.inr ⟨14, true, 97, rfl, rfl, rfl, by decide⟩) ?_
            refine Grow.grow_skip (.inr ⟨14, true, 97, rfl, rfl, rfl, by decide⟩) ?_
            refine Grow.grow_skip (.inr ⟨14, true, 97, rfl, rfl, rfl, by decide⟩) ?_
            refine Grow.grow_skip (.inr ⟨14, true, 97, rfl, rfl, rfl, by decide⟩) ?_
            refine Grow.grow_pick_no (Φ := Grow.Is (.bool false)) rfl (.inr ⟨11, false, 94, rfl, rfl, rfl, by decide⟩) rfl (fun _ => rfl) (Grow.Is.stays _) ?_
            refine Grow.grow_pick_no (Φ := Grow.Is (.bool false)) rfl (.inl ⟨rfl, rfl⟩) rfl rfl (Grow.Is.stays _) ?_
            intro a1 w7 hg7 hs7 hd7 hu7 hk7
            have h112 : a1.tmps.getD 112 undef = .bool false := hk7 112
            obtain ⟨Y, hY, hlay⟩ := Grow.lay_kept_by _ a1 113 _ hs7 hd7 hu7
            rw [hY] at h112
            clear hY hu7 hd7 hs7 hk7
            subst hlay
            simp only [List.range, List.range.loop, List.map_cons, List.map_nil, List.contains_cons, List.contains_nil, Nat.reduceBEq, Bool.or_false, Bool.or_true, cond_false, cond_true, Array.getD_eq_getD_getElem?, List.getElem?_toArray, List.getElem?_cons_zero, List.getElem?_cons_succ, Option.getD_some, h112]
            clear h112
            have HR3 := hide (HR2.out.trans (((Gr.refl wr).drewN 1).trans hg7))
            clear hg7
            go_wp2_with fail
            go_roundw
            case rel => exact ⟨k + 1, by go_num, by omega, HR3⟩
            case measure => simp [intOf]; omega
    · have : k = 6 := by omega
      subst this
      go_wp2_with fail
      go_ret
      exact ⟨rfl, HG5.out.trans (HG7.out.trans HR.out)⟩
end Go.Proofs.Ytbfbghfaeejicaa
