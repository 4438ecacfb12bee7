/-
  store's each of names and of what may be, slices.Contains, store's May: by their contracts.
-/
import Derived.Test.YtbfbghfaeejicaaStGet
import Derived.Test.YtbfbghfaeejicaaTxnRows
import Derived.Test.YtbfbghfaeejicaaPlayKeys
import Derived.Test.YtbfbghfaeejicaaIntMem
import Derived.Deep.Cut
namespace Go.Proofs.Ytbfbghfaeejicaa
open Go Go.RowKit ChMath KeyMath StMath
set_option maxRecDepth 100000

/-- keys and values that are not too long -/
def CsBig (cs : List ChT) : Prop := ∀ c ∈ cs, (c.key.size : Int) ≤ 281474976710656 ∧ VerBnd c.l
def NamesPost (cs : List ChT) (w : World) (e : Ending) (w' : World) : Prop := ∃ A c, e = .returned (.slice A cs.length c) ∧ Strs w' A c (cs.map (·.key)) ∧ Gr w w'
set_option maxHeartbeats 1000000 in
theorem eachName_ok (v : Value) (cs : List ChT) (w : World) (hv : ChnsX w v cs) (hl : cs.length ≤ 1000000) (hb : CsBig cs) :
    Calls Try.prog 31 #[v, .func (.func 32) #[] #[]] w (NamesPost cs w) := by
  obtain ⟨i0, hi, hz0, hz1, hz2⟩ := info_parts info_str
  have HV := hide hv
  have HB := hide hb
  obtain ⟨A, c, rfl⟩ := hv.is
  clear hv hb
  go_enter Try.func31, Try.ntmps31
  go_wp2_with fail
  go_loopw [5, 10] (fun o i wr => ∃ k : Nat, i = .int .i64 k ∧ k ≤ cs.length ∧ OwnV 9 wr w.heap.size o (((cs.take k).map (·.key)).map Value.string) ∧ Gr w wr) (fun _ i _ => cs.length - (intOf i).toNat)
  case atStart => exact ⟨0, rfl, by omega, OwnV.none_ _ _, Gr.refl _⟩
  case round =>
    obtain ⟨k, rfl, hk, hown, hgr⟩ := hrel
    by_cases hlt : k < cs.length
    · have hlt' : (k : Int) < (cs.length : Int) := by omega
      obtain ⟨ad, c', p, e1, hp, a0, a1⟩ := (HV.out.gr hgr).at_ hlt
      simp only [Value.slice.injEq, true_and] at e1
      obtain ⟨rfl, rfl⟩ := e1
      have hmap := hide (map_take_more (·.key) hlt)
      have hlen : ((cs.take k).map (·.key)).length = k := by rw [List.length_map, List.length_take]; omega
      obtain ⟨x, hx⟩ : ∃ x, cs[k]'hlt = x := ⟨_, rfl⟩
      simp only [hx] at a0 a1 hmap hp
      clear hx
      obtain ⟨xk, xl⟩ := x
      simp only at a0 a1 hmap hp
      have HN := hide (name_ok xk p)
      obtain ⟨pA, pc, rfl, _⟩ := hp.is
      unfold chA at HN
      clear hp
      go_wp2_with fail
      refine (HN.out _).mono ?_
      rintro e w1 ⟨rfl, hg1⟩
      replace hg1 := ((Gr.refl wr).alloc _).trans hg1
      replace hgr := hgr.trans hg1
      replace hown := hown.gr hg1
      clear hg1 a0 a1 HN
      go_wp2_with (at_builtin; refine wpList_pushV rfl (.tmp 14) (.tmp 18) _ rfl 9 i0 _ 16 Try.underlying38 hi hz0 hz1 hz2 rfl rfl rfl hown hgr (congrArg (fun z => Value.slice (some ⟨z, 0, none⟩) 1 1) (by simp)) (by rw [List.length_map, hlen]; unfold maxLen; omega) (by rw [List.length_map, hlen]; omega) ?_; intro v3 w3 ho3 hg3 hp3; clear hown hgr hp3)
      go_roundw
      case rel => exact ⟨k + 1, by go_num, by omega, by rw [hmap.out, List.map_append]; exact ho3, hg3⟩
      case measure => simp [intOf]; omega
    · obtain rfl : k = cs.length := by omega
      rw [List.take_length] at hown
      have HS := hide (OwnV.strs hown (fun s hs => by
        obtain ⟨d, hd, rfl⟩ := List.mem_map.1 hs
        have := (HB.out d hd).1
        unfold maxLen
        omega))
      clear hown
      go_wp2_with fail
      go_ret
      obtain ⟨A', c', h1, h2⟩ := HS.out
      rw [List.length_map] at h1
      exact ⟨A', c', by rw [← h1]; rfl, h2, hgr⟩

theorem info_bool : (Try.prog.info? 4).map (fun i => (i.zero, i.size, i.bytes)) = some (some (.bool false), 1, 1) := by kernel_rfl
theorem bools_of {w : World} {B : Nat} {o : Value} {l : List Bool} (h : OwnV 4 w B o (l.map Value.bool)) : BoolsX w o l := by
  obtain ⟨A, c, rfl, _⟩ := OwnV.is h
  exact ⟨A, c, rfl, Mine.vs_own h⟩
def MaysPost (cs : List ChT) (w : World) (e : Ending) (w' : World) : Prop := ∃ u, e = .returned u ∧ BoolsX w' u (cs.map mayC) ∧ Gr w w'
set_option maxHeartbeats 1000000 in
theorem eachMay_ok (v : Value) (cs : List ChT) (w : World) (hv : ChnsX w v cs) (hl : CsLen cs) (hb : CsBig cs) :
    Calls Try.prog 34 #[v, .func (.func 35) #[] #[]] w (MaysPost cs w) := by
  obtain ⟨i0, hi, hz0, hz1, hz2⟩ := info_parts info_bool
  have HV := hide hv
  have HB := hide hb
  have HL := hide hl.2
  have hcl := hl.1
  obtain ⟨A, c, rfl⟩ := hv.is
  clear hv hb hl
  go_enter Try.func34, Try.ntmps34
  go_wp2_with fail
  go_loopw [5, 10] (fun o i wr => ∃ k : Nat, i = .int .i64 k ∧ k ≤ cs.length ∧ OwnV 4 wr w.heap.size o (((cs.take k).map mayC).map Value.bool) ∧ Gr w wr) (fun _ i _ => cs.length - (intOf i).toNat)
  case atStart => exact ⟨0, rfl, by omega, OwnV.none_ _ _, Gr.refl _⟩
  case round =>
    obtain ⟨k, rfl, hk, hown, hgr⟩ := hrel
    by_cases hlt : k < cs.length
    · have hlt' : (k : Int) < (cs.length : Int) := by omega
      obtain ⟨ad, c', p, e1, hp, a0, a1⟩ := (HV.out.gr hgr).at_ hlt
      simp only [Value.slice.injEq, true_and] at e1
      obtain ⟨rfl, rfl⟩ := e1
      have hmap := hide (map_take_more mayC hlt)
      have hlen : ((cs.take k).map mayC).length = k := by rw [List.length_map, List.length_take]; omega
      have h1 := HL.out _ (List.getElem_mem hlt)
      have h2 := (HB.out _ (List.getElem_mem hlt)).2
      obtain ⟨x, hx⟩ : ∃ x, cs[k]'hlt = x := ⟨_, rfl⟩
      simp only [hx] at a0 a1 hmap hp h1 h2
      clear hx
      obtain ⟨xk, xl⟩ := x
      simp only at a0 a1 hmap hp h1 h2
      have HN := hide (fun W (h : VersX W p xl) => hmay_ok xk p xl W h h1 h2)
      have HP := hide hp
      obtain ⟨z, hz⟩ : ∃ z, mayC ⟨xk, xl⟩ = z := ⟨_, rfl⟩
      rw [hz] at HN hmap
      obtain ⟨pA, pc, rfl, _⟩ := hp.is
      unfold chA at HN
      clear hp h1 h2 hz
      go_wp2_with fail
      refine (HN.out _ (HP.out.gr ((Gr.refl _).alloc _))).mono ?_
      rintro e w1 ⟨rfl, hg1⟩
      replace hg1 := ((Gr.refl wr).alloc _).trans hg1
      replace hgr := hgr.trans hg1
      replace hown := hown.gr hg1
      clear hg1 a0 a1 HN
      go_wp2_with (at_builtin; refine wpList_pushV rfl (.tmp 14) (.tmp 18) _ rfl 4 i0 _ 1 Try.underlying71 hi hz0 hz1 hz2 rfl rfl rfl hown hgr (congrArg (fun z => Value.slice (some ⟨z, 0, none⟩) 1 1) (by simp)) (by rw [List.length_map, hlen]; unfold maxLen; omega) (by rw [List.length_map, hlen]; omega) ?_; intro v3 w3 ho3 hg3 hp3; clear hown hgr hp3)
      go_roundw
      case rel => exact ⟨k + 1, by go_num, by omega, by rw [hmap.out, List.map_append]; exact ho3, hg3⟩
      case measure => simp [intOf]; omega
    · obtain rfl : k = cs.length := by omega
      rw [List.take_length] at hown
      have HS := hide (show BoolsX wr _ (cs.map mayC) from bools_of hown)
      clear hown
      go_wp2_with fail
      go_ret
      exact ⟨_, rfl, HS.out, hgr⟩

set_option maxHeartbeats 1000000 in
theorem IndexB_ok (v : Value) (l : List Bool) (w : World) (hv : BoolsX w v l) (hl : l.length ≤ 1000000) :
    Calls Try.prog 59 #[v, .bool false] w fun e w' => (∃ z : Int, e = .returned (.int .i64 z) ∧ decide (z ≥ 0) = !(l.all id)) ∧ w' = w := by
  have HV := hide hv
  obtain ⟨A, c, rfl, _⟩ := hv.is
  clear hv
  go_enter Try.func59, Try.ntmps59
  go_wp2_with fail
  go_loop [8] (fun i => ∃ k : Nat, i = .int .i64 k ∧ k ≤ l.length ∧ Hid (∀ j (hj : j < l.length), j < k → l[j] = true)) (fun i => l.length - (intOf i).toNat)
  case atStart => exact ⟨0, rfl, by omega, fun j _ h => absurd h (by omega)⟩
  case round =>
    obtain ⟨k, rfl, hk, HJ⟩ := hrel
    by_cases hlt : k < l.length
    · have hlt' : (k : Int) < (l.length : Int) := by omega
      obtain ⟨A', c', e1, hc⟩ := HV.out.is
      simp only [Value.slice.injEq, true_and] at e1
      obtain ⟨rfl, rfl⟩ := e1
      obtain ⟨ad, rfl, a0⟩ := hc k hlt
      clear hc
      have H1 : Hid (l[k] = true → ∀ j (hj : j < l.length), j < k + 1 → l[j] = true) := hide (fun h j hj hjk => by
        by_cases hx : j < k
        · exact HJ.out j hj hx
        · obtain rfl : j = k := by omega
          exact h)
      have H2 : Hid (l[k] = false → l.all id = false) := hide (fun h => by rw [List.all_eq_false]; exact ⟨_, List.getElem_mem hlt, by rw [h]; simp⟩)
      cases hb : l[k]
      · rw [hb] at a0
        have H3 := hide (H2.out hb)
        clear H1 H2 hb
        go_wp2_with fail
        go_ret
        exact ⟨⟨k, rfl, by rw [H3.out]; simp⟩, rfl⟩
      · rw [hb] at a0
        have H3 := hide (H1.out hb)
        clear H1 H2 hb
        go_wp2_with fail
        go_round
        case rel => exact ⟨k + 1, by go_num, by omega, H3⟩
        case measure => simp [intOf]; omega
    · obtain rfl : k = l.length := by omega
      have H3 := hide (show l.all id = true by
        rw [List.all_eq_true]
        intro x hx
        obtain ⟨j, hj, rfl⟩ := List.getElem_of_mem hx
        exact HJ.out j hj hj)
      go_wp2_with fail
      go_ret
      exact ⟨⟨-1, rfl, by rw [H3.out]; rfl⟩, rfl⟩
theorem ContainsB_ok (v : Value) (l : List Bool) (w : World) (hv : BoolsX w v l) (hl : l.length ≤ 1000000) :
    Calls Try.prog 33 #[v, .bool false] w fun e w' => e = .returned (.bool (!(l.all id))) ∧ w' = w := by
  have HI := hide (IndexB_ok v l w hv hl)
  obtain ⟨A, c, rfl, _⟩ := hv.is
  clear hv
  go_enter Try.func33, Try.ntmps33
  go_wp2_with fail
  refine HI.out.mono ?_
  rintro e w1 ⟨⟨z, rfl, hz⟩, rfl⟩
  have HZ := hide hz
  clear hz
  go_wp2_with fail
  go_ret
  exact ⟨by rw [← HZ.out]; rfl, rfl⟩

set_option maxHeartbeats 2000000 in
theorem StMay_ok (s : StT) (u : Value) (w : World) (hv : ChnsX w u s.chains) (hl : CsLen s.chains) (hb : CsBig s.chains) :
    Calls Try.prog 12 #[.agg #[u, .int .i64 s.mark]] w fun e w' => e = .returned (.bool (mayS s)) ∧ Gr w w' := by
  obtain ⟨cs, m⟩ := s
  simp only at hv hl hb ⊢
  obtain ⟨z, hz⟩ : ∃ z, mayS ⟨cs, m⟩ = z := ⟨_, rfl⟩
  rw [hz]
  have HZ := hide (show (decide (0 ≤ m) && risingK (cs.map (·.key)) && cs.all mayC) = z from hz)
  clear hz
  have HV := hide hv
  have HN := hide (fun W (h : ChnsX W u cs) => eachName_ok u cs W h hl.1 hb)
  have HM := hide (fun W (h : ChnsX W u cs) => eachMay_ok u cs W h hl hb)
  have hcl := hl.1
  have HR := hide (fun A c W (h : Strs W A c (cs.map (·.key))) => RisingB_ok A cs.length c (cs.map (·.key)) (by rw [List.length_map]) W h (fun s hs => by
    obtain ⟨d, hd, rfl⟩ := List.mem_map.1 hs
    exact (hb d hd).1) (by rw [List.length_map]; omega))
  have HC := hide (fun v W (h : BoolsX W v (cs.map mayC)) => ContainsB_ok v (cs.map mayC) W h (by rw [List.length_map]; omega))
  have hall : (cs.map mayC).all id = cs.all mayC := by rw [List.all_map]; rfl
  rw [hall] at HC
  obtain ⟨A, c, rfl⟩ := hv.is
  clear hv hl hb hall
  obtain ⟨ri, hri⟩ : ∃ ri, risingK (cs.map (·.key)) = ri := ⟨_, rfl⟩
  obtain ⟨al, hal⟩ : ∃ al, cs.all mayC = al := ⟨_, rfl⟩
  rw [hri] at HR HZ
  rw [hal] at HC HZ
  clear hri hal
  go_enter Try.func12, Try.ntmps12
  go_upto_region 1 with (fail)
  obtain ⟨W1, hW1⟩ : ∃ W1, w.alloc (.cells #[.slice A cs.length c, .int .i64 m] 26) = W1 := ⟨_, rfl⟩
  have hg1 : Gr w W1 := by rw [← hW1]; exact (Gr.refl _).alloc _
  have hb1 : Bl W1 w.heap.size 26 #[.slice A cs.length c, .int .i64 m] := by rw [← hW1]; exact Bl.new _ _ _
  rw [hW1]
  have m0 : W1.cell? ⟨w.heap.size, 0, none⟩ = some (.slice A cs.length c) := hb1.cell 0
  have m1 : W1.cell? ⟨w.heap.size, 1, none⟩ = some (.int .i64 m) := hb1.cell 1
  have HG1 := hide hg1
  have HB1 := hide hb1
  clear hW1 hg1 hb1
  by_cases hm : 0 ≤ m
  · have hm' : m ≥ 0 := hm
    rw [decide_eq_true hm] at HZ
    go_wp2_with fail
    refine (HN.out _ (HV.out.gr HG1.out)).mono ?_
    rintro e w2 ⟨A2, c2, rfl, hs2, hg2⟩
    have HG2 := hide (HG1.out.trans hg2)
    have hb2 := HB1.out.gr hg2
    have m0' : w2.cell? ⟨w.heap.size, 0, none⟩ = some (.slice A cs.length c) := hb2.cell 0
    have HB2 := hide hb2
    clear hg2 hb2 m0 m1
    go_wp2_with fail
    refine (HR.out _ _ _ hs2).mono ?_
    rintro e w3 ⟨rfl, hg3⟩
    have HG3 := hide (HG2.out.trans hg3)
    have hb3 := HB2.out.gr hg3
    have n0 : w3.cell? ⟨w.heap.size, 0, none⟩ = some (.slice A cs.length c) := hb3.cell 0
    clear hg3 hb3 hs2 m0'
    cases ri
    · have HE := hide (show z = false from HZ.out.symm)
      go_wp2_with fail
      go_ret
      exact ⟨by rw [HE.out]; rfl, HG3.out⟩
    · have HE := hide (show z = al from HZ.out.symm)
      go_wp2_with fail
      refine (HM.out _ (HV.out.gr HG3.out)).mono ?_
      rintro e w4 ⟨v4, rfl, hv4, hg4⟩
      have HG4 := hide (HG3.out.trans hg4)
      have HC4 := hide (HC.out _ _ hv4)
      obtain ⟨A4, c4, hv4e, _⟩ := hv4.is
      rw [List.length_map] at hv4e
      subst hv4e
      clear hv4 hg4 n0
      go_wp2_with fail
      refine HC4.out.mono ?_
      rintro e w5 ⟨rfl, rfl⟩
      go_wp2_with fail
      go_ret
      exact ⟨by rw [HE.out]; simp, HG4.out⟩
  · have hm' : ¬ m ≥ 0 := hm
    rw [decide_eq_false hm] at HZ
    have HE := hide (show z = false from HZ.out.symm)
    go_wp2_with fail
    go_ret
    exact ⟨by rw [HE.out]; rfl, HG1.out⟩
end Go.Proofs.Ytbfbghfaeejicaa
