/-
  Deeds that came in; 'light' of the statements on wal.
-/
import Derived.Test.YtkcfieoflkhdpaaDoorWalMath2
import Derived.SizedLaws
namespace Go.Proofs.YtkcfieoflkhdpaaDoor
open Go Go.ChangeShapes Go.WideShapes Go.ChangeAt Go.RowKit Go.Deep MapS DiskMem
set_option maxRecDepth 100000

/-- a deed: what it is, and where its rows lie -/
structure DeedW where
  kind : Int
  b : List UInt8
  B : Option Addr
  bc : Nat
  keep : List Int
  K : Option Addr
  kc : Nat
def deedW (x : DeedW) : List Value := [.int .i64 x.kind, .slice x.B x.b.length x.bc, .slice x.K x.keep.length x.kc]
structure DeedOk8 (w : World) (x : DeedW) : Prop where
  kind : -9223372036854775808 ≤ x.kind ∧ x.kind ≤ 9223372036854775807
  b : By w x.B x.bc x.b
  keep : Ints .i64 w x.K x.kc x.keep
theorem RowAt.deed8 {w : World} {v : Value} {xs : List DeedW} {k : Nat} (h : RowAt 3 w v (xs.map deedW)) (hk : k < xs.length) :
    ∃ ad c, v = .slice (some ad) xs.length c ∧ w.cell? (ad.add (k * 3)) = some (.int .i64 xs[k].kind) ∧ w.cell? ⟨(ad.add (k * 3)).block, (ad.add (k * 3)).off + 1, none⟩ = some (.slice xs[k].B xs[k].b.length xs[k].bc) ∧
      w.cell? ⟨(ad.add (k * 3)).block, (ad.add (k * 3)).off + 2, none⟩ = some (.slice xs[k].K xs[k].keep.length xs[k].kc) := by
  obtain ⟨ad, c, e, _, h0, h1⟩ := h.cell (j := k) (r := deedW xs[k]) (by rw [List.getElem?_map, List.getElem?_eq_getElem hk]; rfl) (by simp [deedW])
  rw [List.length_map] at e
  exact ⟨ad, c, e, h0 _ rfl, h1 1 _ (by decide) rfl, h1 2 _ (by decide) rfl⟩
theorem RowAt.slice8 {w : World} {v : Value} {xs : List DeedW} (h : RowAt 3 w v (xs.map deedW)) : ∃ A c, v = .slice A xs.length c ∧ xs.length ≤ c := by
  obtain ⟨A, c, rfl, h2, _⟩ := h
  rw [List.length_map] at h2
  exact ⟨A, c, by rw [List.length_map], h2⟩

section
variable {H : Type} {enc : TypeId × Value → H} {W : World} {base : Nat} {held : Bool}
theorem ints_of_trod8 {P : Program} {t e : TypeId} {k : IntKind} {fuel : Nat} {v : Value} {x : DataW H × List MemPlace} (ht : P.underlying t = some (.slice e)) (he : P.underlying e = some (.int k)) (hE : P.cellsOf e = 1)
    (hf : DataW.trod enc P W base (fun _ => true) held fuel t [v] = some x) : ∃ (zs : List Int) (A : Option Addr) (c : Nat), v = .slice A zs.length c ∧ Ints k W A c zs := by
  rcases open_ints ht he hE hf with ⟨hcs, _⟩ | ⟨a, l, c', zs, hcs, _, hl, hm, hz, _, hcell, hwz⟩
  · simp at hcs
    subst hcs
    exact ⟨[], none, 0, rfl, fun j hj => absurd hj (by simp), by simp, by simp [maxLen], by simp⟩
  · simp at hcs
    subst hcs
    have hz' : zs.length = c' := by simpa using hz
    have hlen : (zs.take l).length = l := by rw [List.length_take]; omega
    refine ⟨zs.take l, some a, c', by rw [hlen], fun j hj => ⟨a, rfl, ?_⟩, by omega, hm, fun z hz => hwz z (List.mem_of_mem_take hz)⟩
    rw [hlen] at hj
    rw [hcell j (by omega)]
    simp [show j < zs.length by omega]
theorem deed8_of (fuel : Nat) (cs : List Value) (x : DataW H × List MemPlace) (h : DataW.trod enc Tryd.prog W base (fun _ => true) held fuel 36 cs = some x) (hw : Weighs Tryd.prog reachBytes 36 x.1) : ∃ a : DeedW, cs = deedW a ∧ DeedOk8 W a := by
  obtain ⟨hl, n, hf⟩ := flat_of Tryd.underlying36 (by kernel_rfl) (by kernel_rfl) h hw
  obtain ⟨v0, y0, e0, t0, _⟩ := hf 0 _ rfl
  obtain ⟨v1, y1, e1, t1, _⟩ := hf 1 _ rfl
  obtain ⟨v2, y2, e2, t2, _⟩ := hf 2 _ rfl
  obtain ⟨a, rfl, ha⟩ := int_of Tryd.underlying3 t0
  obtain ⟨l, B, c, rfl, hby⟩ := bytes_of_trod Tryd.underlying33 Tryd.underlying5 (by kernel_rfl) t1
  obtain ⟨zs, K, d, rfl, hin⟩ := ints_of_trod8 Tryd.underlying34 Tryd.underlying3 (by kernel_rfl) t2
  refine ⟨⟨a, l, B, c, zs, K, d⟩, ?_, by simpa [Lit.wf, IntKind.min, IntKind.max, IntKind.signed, IntKind.bits] using ha, hby, hin⟩
  have hl' : cs.length = 3 := hl
  match cs, hl' with
  | [a0, a1, a2], _ =>
    simp at e0 e1 e2
    subst e0 e1 e2
    rfl
theorem arg_deeds8 {r : Reach} {b0 : Nat} {v : Value} {d : DataW H} {p : List MemPlace} (hv : Value.okWide Tryd.prog W r b0 22 v) (h : DataW.Trod enc Tryd.prog W base (fun _ => true) held 22 v d p) (hw : Weighs Tryd.prog reachBytes 22 d) :
    ∃ ds : List DeedW, RowAt 3 W v (ds.map deedW) ∧ (∀ x ∈ ds, DeedOk8 W x) ∧ ds.length ≤ reachBytes := by
  obtain ⟨A, n, c, rfl⟩ := okWide_slice Tryd.underlying22 hv
  obtain ⟨fuel, hf⟩ := h
  have hf' : DataW.trod enc Tryd.prog W base (fun _ => true) held fuel 22 [.slice A n c] = some (d, p) := by simpa [Value.cells] using hf
  exact rows_of deedW (DeedOk8 W) Tryd.underlying22 (k := 3) (by kernel_rfl) (by decide +kernel) deed8_of hf' hw
end

/-- is a deed small? -/
def smallD (x : DeedW) : Bool := decide (x.b.length ≤ 100) && decide (x.keep.length ≤ 20)
def lightB (ds : List DeedW) : Bool := ds.all smallD && decide (ds.length ≤ 30)
theorem light_no {ds : List DeedW} {k : Nat} (hk : k < ds.length) (h : smallD ds[k] = false) : lightB ds = false := by
  unfold lightB
  rw [Bool.and_eq_false_iff]
  left
  rw [List.all_eq_false]
  exact ⟨ds[k], List.getElem_mem hk, by simp [h]⟩

set_option maxHeartbeats 1000000 in
theorem light_ok (v : Value) (ds : List DeedW) (w : World) (h : RowAt 3 w v (ds.map deedW)) (hlen : (ds.length : Int) ≤ 281474976710656) : Calls Tryd.prog 5 #[v] w fun e w' => e = .returned (.bool (lightB ds)) ∧ w' = w := by
  have HR := hide h
  obtain ⟨A, c, rfl, hc⟩ := h.slice8
  clear h
  go_enter Tryd.func5, Tryd.ntmps5
  go_wp2_with fail
  go_loop [3] (fun i => ∃ k : Nat, i = .int .i64 k ∧ k ≤ ds.length ∧ Hid ((ds.take k).all smallD = true)) (fun i => ds.length - (intOf i).toNat)
  case atStart => exact ⟨0, rfl, by omega, rfl⟩
  case round =>
    obtain ⟨k, rfl, hk, hall⟩ := hrel
    by_cases hlt : k < ds.length
    · have hlt' : (k : Int) < (ds.length : Int) := by omega
      have hkc : (k : Int) < (c : Int) := by omega
      obtain ⟨ad, c', e1, _, k1, k2⟩ := HR.out.deed8 hlt
      injection e1 with e1 _ e2
      subst e1
      subst e2
      have hno := hide (light_no hlt)
      have hyes : Hid (smallD ds[k] = true → (ds.take (k + 1)).all smallD = true) := hide (fun hs => by rw [List.take_succ_eq_append_getElem hlt, List.all_append, hall.out]; simpa using hs)
      obtain ⟨x, hx⟩ : ∃ x, ds[k] = x := ⟨_, rfl⟩
      rw [hx] at k1 k2 hno hyes
      have hsm : Hid (smallD x = (decide (x.b.length ≤ 100) && decide (x.keep.length ≤ 20))) := hide rfl
      clear hx
      by_cases c1 : (100 : Int) < (x.b.length : Int)
      · have d1 : decide ((100 : Int) < (x.b.length : Int)) = true := by simpa using c1
        have hf := hide (hno.out (by rw [hsm.out]; simp; omega))
        clear hyes hno hall
        go_wp2_with fail
        go_ret
        exact ⟨by rw [hf.out]; rfl, rfl⟩
      · have d1 : decide ((100 : Int) < (x.b.length : Int)) = false := by simpa using c1
        by_cases c2 : (20 : Int) < (x.keep.length : Int)
        · have d2 : decide ((20 : Int) < (x.keep.length : Int)) = true := by simpa using c2
          have hf := hide (hno.out (by rw [hsm.out]; simp; omega))
          clear hyes hno hall
          go_wp2_with fail
          go_ret
          exact ⟨by rw [hf.out]; rfl, rfl⟩
        · have d2 : decide ((20 : Int) < (x.keep.length : Int)) = false := by simpa using c2
          have hy := hide (hyes.out (by rw [hsm.out]; simp; omega))
          clear hyes hno hall
          go_wp2_with fail
          go_round
          case rel => exact ⟨k + 1, by go_num, by omega, hy⟩
          case measure => simp [intOf]; omega
    · obtain rfl : k = ds.length := by omega
      have hy : Hid (lightB ds = decide (ds.length ≤ 30)) := hide (by have := hall.out; rw [List.take_length] at this; unfold lightB; rw [this, Bool.true_and])
      have d3 : decide ((ds.length : Int) ≤ 30) = decide (ds.length ≤ 30) := by rw [decide_eq_decide]; omega
      obtain ⟨bo, hbo⟩ : ∃ bo, decide (ds.length ≤ 30) = bo := ⟨_, rfl⟩
      rw [hbo] at d3
      have HB := hide hbo
      clear hbo
      go_wp2_with fail
      go_ret
      exact ⟨by rw [hy.out, HB.out]; rfl, rfl⟩

end Go.Proofs.YtkcfieoflkhdpaaDoor
