/-
  txn's keys by its contract, for reads and for writes.
-/
import Derived.Test.YtpabppoohobjpaaGreatTxnWords
import Derived.Test.YtpabppoohobjpaaGreatKeyEach
namespace Go.Proofs.YtpabppoohobjpaaGreat
open Go Go.RowKit TxnMath KeyMath
set_option maxRecDepth 100000


theorem readKey_ok (x : RdT) (w : World) : Calls Tryz.prog 61 #[.agg #[.string x.key, .int .i64 x.ver, .string x.val, .bool x.there]] w fun e w' => e = .returned (.string x.key) ∧ Gr w w' := by
  go_enter Tryz.func61, Tryz.ntmps61
  go_wp2_with fail
  go_ret
  exact ⟨rfl, (Gr.refl _).alloc _⟩
theorem writeKey_ok (x : WrT) (w : World) : Calls Tryz.prog 64 #[.agg #[.string x.key, .string x.val, .bool x.gone]] w fun e w' => e = .returned (.string x.key) ∧ Gr w w' := by
  go_enter Tryz.func64, Tryz.ntmps64
  go_wp2_with fail
  go_ret
  exact ⟨rfl, (Gr.refl _).alloc _⟩

/-- what keys comes to -/
def KeysOfPost (w : World) (l : List ByteArray) (e : Ending) (w' : World) : Prop := ∃ v, e = .returned v ∧ OwnV 9 w' w.heap.size v (l.map Value.string) ∧ Gr w w'

set_option maxHeartbeats 400000 in
theorem keysR_ok (v : Value) (xs : List RdT) (w : World) (hv : RowAt 4 w v (xs.map rdC)) (hn : xs.length ≤ 1000000) :
    Calls Tryz.prog 85 #[v, .func (.func 61) #[] #[]] w (KeysOfPost w (xs.map (·.key))) := by
  obtain ⟨i0, hi, hz0, hz1, hz2⟩ := info_parts info_str
  obtain ⟨A, c, rfl, hr⟩ := hv.is
  have HR := hide hr
  clear hr hv
  go_enter Tryz.func85, Tryz.ntmps85
  go_wp2_with fail
  go_loopw [5, 10] (fun o i wr => ∃ k : Nat, i = .int .i64 k ∧ k ≤ xs.length ∧ OwnV 9 wr w.heap.size o (((xs.take k).map (·.key)).map Value.string) ∧ Gr w wr) (fun _ i _ => xs.length - (intOf i).toNat)
  case atStart => exact ⟨0, rfl, by omega, OwnV.none_ _ _, Gr.refl _⟩
  case round =>
    obtain ⟨k, rfl, hk, hown, hgr⟩ := hrel
    by_cases hlt : k < xs.length
    · have hlt' : (k : Int) < (xs.length : Int) := by omega
      obtain ⟨ad, c', e1, a0, a1, b2, a3⟩ := (HR.out.gr hgr).rd hlt
      simp only [Value.slice.injEq, true_and] at e1
      obtain ⟨rfl, rfl⟩ := e1
      have hmap := hide (map_take_more (·.key) hlt)
      have hlen : ((xs.take k).map (·.key)).length = k := by rw [List.length_map, List.length_take]; omega
      obtain ⟨x, hx⟩ : ∃ x, xs[k]'hlt = x := ⟨_, rfl⟩
      simp only [hx] at a0 a1 b2 a3 hmap
      clear hx
      go_wp2_with fail
      refine (readKey_ok x _).mono ?_
      rintro e w1 ⟨rfl, hg1⟩
      replace hg1 := ((Gr.refl wr).alloc _).trans hg1
      replace hgr := hgr.trans hg1
      replace hown := hown.gr hg1
      clear hg1 a0 a1 b2 a3
      go_wp2_with (at_builtin; refine wpList_pushV rfl (.tmp 14) (.tmp 18) _ rfl 9 i0 _ 16 Tryz.underlying28 hi hz0 hz1 hz2 rfl rfl rfl hown hgr (congrArg (fun z => Value.slice (some ⟨z, 0, none⟩) 1 1) (by simp)) (by rw [List.length_map, hlen]; unfold maxLen; omega) (by rw [List.length_map, hlen]; omega) ?_; intro v3 w3 ho3 hg3 hp3; clear hown hgr hp3)
      go_roundw
      case rel => exact ⟨k + 1, by go_num, by omega, by rw [hmap.out, List.map_append]; exact ho3, hg3⟩
      case measure => simp [intOf]; omega
    · obtain rfl : k = xs.length := by omega
      rw [List.take_length] at hown
      have H := hide hown
      clear hown
      go_wp2_with fail
      go_ret
      exact ⟨_, rfl, H.out, hgr⟩

set_option maxHeartbeats 400000 in
theorem keysW_ok (v : Value) (xs : List WrT) (w : World) (hv : RowAt 3 w v (xs.map wrC)) (hn : xs.length ≤ 1000000) :
    Calls Tryz.prog 86 #[v, .func (.func 64) #[] #[]] w (KeysOfPost w (xs.map (·.key))) := by
  obtain ⟨i0, hi, hz0, hz1, hz2⟩ := info_parts info_str
  obtain ⟨A, c, rfl, hr⟩ := hv.is
  have HR := hide hr
  clear hr hv
  go_enter Tryz.func86, Tryz.ntmps86
  go_wp2_with fail
  go_loopw [5, 10] (fun o i wr => ∃ k : Nat, i = .int .i64 k ∧ k ≤ xs.length ∧ OwnV 9 wr w.heap.size o (((xs.take k).map (·.key)).map Value.string) ∧ Gr w wr) (fun _ i _ => xs.length - (intOf i).toNat)
  case atStart => exact ⟨0, rfl, by omega, OwnV.none_ _ _, Gr.refl _⟩
  case round =>
    obtain ⟨k, rfl, hk, hown, hgr⟩ := hrel
    by_cases hlt : k < xs.length
    · have hlt' : (k : Int) < (xs.length : Int) := by omega
      obtain ⟨ad, c', e1, a0, a1, b2⟩ := (HR.out.gr hgr).wr hlt
      simp only [Value.slice.injEq, true_and] at e1
      obtain ⟨rfl, rfl⟩ := e1
      have hmap := hide (map_take_more (·.key) hlt)
      have hlen : ((xs.take k).map (·.key)).length = k := by rw [List.length_map, List.length_take]; omega
      obtain ⟨x, hx⟩ : ∃ x, xs[k]'hlt = x := ⟨_, rfl⟩
      simp only [hx] at a0 a1 b2 hmap
      clear hx
      go_wp2_with fail
      refine (writeKey_ok x _).mono ?_
      rintro e w1 ⟨rfl, hg1⟩
      replace hg1 := ((Gr.refl wr).alloc _).trans hg1
      replace hgr := hgr.trans hg1
      replace hown := hown.gr hg1
      clear hg1 a0 a1 b2
      go_wp2_with (at_builtin; refine wpList_pushV rfl (.tmp 14) (.tmp 18) _ rfl 9 i0 _ 16 Tryz.underlying28 hi hz0 hz1 hz2 rfl rfl rfl hown hgr (congrArg (fun z => Value.slice (some ⟨z, 0, none⟩) 1 1) (by simp)) (by rw [List.length_map, hlen]; unfold maxLen; omega) (by rw [List.length_map, hlen]; omega) ?_; intro v3 w3 ho3 hg3 hp3; clear hown hgr hp3)
      go_roundw
      case rel => exact ⟨k + 1, by go_num, by omega, by rw [hmap.out, List.map_append]; exact ho3, hg3⟩
      case measure => simp [intOf]; omega
    · obtain rfl : k = xs.length := by omega
      rw [List.take_length] at hown
      have H := hide hown
      clear hown
      go_wp2_with fail
      go_ret
      exact ⟨_, rfl, H.out, hgr⟩

end Go.Proofs.YtpabppoohobjpaaGreat
