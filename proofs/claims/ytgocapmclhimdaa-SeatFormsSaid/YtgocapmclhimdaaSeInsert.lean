/-
  slices.Insert of one seat, into a row of the call's own: by its contract.
-/
import Derived.Test.YtgocapmclhimdaaSeMine
import Derived.Shelf.Spec.SlicesInsertGrow
namespace Go.Proofs.Ytgocapmclhimdaa
open Go Go.RowKit SeMath
set_option maxRecDepth 100000

/-- 'copy' of elements of k cells -/
theorem run_copyR {P : Program} (w : World) (dT sT ty elem : TypeId) (k n b o dLen dCap : Nat) (a : Addr) (sLen sCap : Nat) (cs : List Value)
    (hu : P.underlying dT = some (.slice elem)) (hs : (P.info? elem).map (·.size) = some k) (hm : Nat.min sLen dLen = n) (hn : cs.length = n * k)
    (hsrc : ∀ j v, cs[j]? = some v → w.cell? (a.add j) = some v) (hc : ∀ j, j < cs.length → (w.cell? ⟨b, o + j, none⟩).isSome = true) (hf : ∀ j, j < cs.length → w.frozen? ⟨b, o + j, none⟩ = false) (h1 : ∀ v ∈ cs, v.oneCell' = true) :
    (Builtin.copy_ #[dT, sT] ty #[.slice (some ⟨b, o, none⟩) dLen dCap, .slice (some a) sLen sCap]).run P w = .ok (goInt n) (w.setCells b o cs) := by
  have hl := run_loadCells_list (P := P) w a cs hsrc
  rw [hn] at hl
  have hst := run_storeCells_cells (P := P) b o cs 0 w (by simpa using hc) (by simpa using hf) h1
  cases hq : P.info? elem with
  | none => simp [hq] at hs
  | some i =>
    have hi : i.size = k := by simpa [hq] using hs
    simp [Builtin.copy_, run_underlying hu, Builtin.lenOf, Builtin.firstCells, sizeOf, typeInfo, hq, hi, hm, hl, hst]
theorem bl_setCells {g : Nat} {t : TypeId} : ∀ (vs : List Value) (o : Nat) {w : World} {cur : Array Value}, Bl w g t cur → ∃ cur', Bl (w.setCells g o vs) g t cur' ∧ cur'.size = cur.size
  | [], _, _, cur, h => ⟨cur, h, rfl⟩
  | v :: r, o, _, cur, h => by
    obtain ⟨c, h1, h2⟩ := bl_setCells r (o + 1) (h.put o v)
    exact ⟨c, h1, by rw [h2]; simp⟩
theorem but_setCells {g : Nat} : ∀ (vs : List Value) (o : Nat) {w0 w : World}, But w0 w g → But w0 (w.setCells g o vs) g
  | [], _, _, _, h => h
  | v :: r, o, _, _, h => but_setCells r (o + 1) (h.set o v)
/-- a block whose cells begin so is such a row -/
theorem ownR_of {w : World} {e : TypeId} {k B g c : Nat} {cur : Array Value} {rs : List (List Value)} (hr : ∀ r ∈ rs, r.length = k) (hB : B ≤ g) (hb : Bl w g e cur) (hs : cur.size = c * k) (hn : rs.length ≤ c) (hm : c ≤ maxLen)
    (hc : ∀ j, j < rs.length * k → w.cell? ⟨g, j, none⟩ = rs.flatten[j]?) : OwnR e k w B (.slice (some ⟨g, 0, none⟩) rs.length c) rs := by
  have hl := rows_len hr
  refine ⟨hr, hl, .inr ⟨g, c, cur, rfl, hB, hb, hn, hm, hs, ?_⟩⟩
  have hle : rs.length * k ≤ c * k := Nat.mul_le_mul_right _ hn
  refine List.ext_getElem? fun j => ?_
  by_cases hj : j < rs.length * k
  · rw [List.getElem?_take, if_pos hj, ← hc j hj, hb.cell]
    simp
  · rw [List.getElem?_take, if_neg hj, List.getElem?_eq_none (by omega)]
theorem flat_drop {k : Nat} : ∀ {rs : List (List Value)} (i : Nat), (∀ r ∈ rs, r.length = k) → rs.flatten.drop (i * k) = (rs.drop i).flatten
  | rs, 0, _ => by simp
  | [], i + 1, _ => by simp
  | r :: rs, i + 1, h => by
    have hr := h r (by simp)
    rw [List.drop_succ_cons, List.flatten_cons, Nat.succ_mul, Nat.add_comm, ← List.drop_drop, List.drop_left' hr, flat_drop i (fun r h2 => h r (by simp [h2]))]
theorem flat_take {k : Nat} : ∀ {rs : List (List Value)} (i : Nat), (∀ r ∈ rs, r.length = k) → rs.flatten.take (i * k) = (rs.take i).flatten
  | rs, 0, _ => by simp
  | [], i + 1, _ => by simp
  | r :: rs, i + 1, h => by
    have hr := h r (by simp)
    rw [List.take_succ_cons, List.flatten_cons, List.flatten_cons, Nat.succ_mul, Nat.add_comm, List.take_append, hr, List.take_of_length_le (by omega), Nat.add_sub_cancel_left, flat_take i (fun r h2 => h r (by simp [h2]))]

/-- the row with one more in its midst -/
theorem ins_cells {W : World} {g i n : Nat} {rs : List (List Value)} {r : List Value} (hr : ∀ q ∈ rs, q.length = 3) (h2 : r.length = 3) (hn : n = rs.length) (hi : i ≤ n)
    (c1 : ∀ j, j < i * 3 → W.cell? ⟨g, j, none⟩ = rs.flatten[j]?) (c2 : ∀ j, j < 3 → W.cell? ⟨g, i * 3 + j, none⟩ = r[j]?) (c3 : ∀ j, j < (n - i) * 3 → W.cell? ⟨g, (i + 1) * 3 + j, none⟩ = (rs.flatten.drop (i * 3))[j]?) :
    ∀ j, j < (n + 1) * 3 → W.cell? ⟨g, j, none⟩ = (rs.take i ++ r :: rs.drop i).flatten[j]? := by
  intro j hj
  have hfl : rs.flatten.length = n * 3 := by rw [rows_len hr, hn]
  have hlt : (rs.flatten.take (i * 3)).length = i * 3 := by rw [List.length_take, hfl]; omega
  rw [List.flatten_append, List.flatten_cons, ← flat_take i hr, ← flat_drop i hr, List.getElem?_append, hlt]
  by_cases h : j < i * 3
  · rw [if_pos h, c1 j h, List.getElem?_take, if_pos h]
  · rw [if_neg h, List.getElem?_append, h2]
    by_cases h' : j - i * 3 < 3
    · rw [if_pos h', ← c2 _ h', show i * 3 + (j - i * 3) = j by omega]
    · rw [if_neg h', ← c3 _ (by omega), show (i + 1) * 3 + (j - i * 3 - 3) = j by omega]
theorem ins_two {rs : List (List Value)} {r : List Value} {i : Nat} (hr : ∀ q ∈ rs, q.length = 3) (h2 : r.length = 3) : ∀ q ∈ rs.take i ++ r :: rs.drop i, q.length = 3 := fun q hq => by
  rcases List.mem_append.1 hq with h | h
  · exact hr q (List.mem_of_mem_take h)
  · rcases List.mem_cons.1 h with h | h
    · rw [h, h2]
    · exact hr q (List.mem_of_mem_drop h)
theorem ins_len {rs : List (List Value)} {r : List Value} {i : Nat} (hi : i ≤ rs.length) : (rs.take i ++ r :: rs.drop i).length = rs.length + 1 := by
  rw [List.length_append, List.length_cons, List.length_take, List.length_drop]; omega

/-- what comes of it -/
def InsPost (B : Nat) (v : Value) (rs : List (List Value)) (w : World) (e : Ending) (w' : World) : Prop := ∃ v', e = .returned v' ∧ OwnR 30 3 w' B v' rs ∧ Put1 w w' v v'

theorem size_se1 : (Try.prog.info? 30).map (·.size) = some 3 := by kernel_rfl
theorem under_se : Try.prog.underlying 24 = some (.slice 30) := by kernel_rfl

set_option maxHeartbeats 4000000 in
/-- there is room: in place -/
theorem Insert_shift (B g n c i vb : Nat) (rs : List (List Value)) (xs xq xp : Int) (w : World) (h1 : ∀ r ∈ rs, ∀ y ∈ r, y.oneCell' = true) (hn : n = rs.length) (hi : i < n) (hroom : n + 1 ≤ c)
    (ho : OwnR 30 3 w B (.slice (some ⟨g, 0, none⟩) n c) rs) (hv : Bl w vb 30 #[.int .i64 xs, .int .i64 xq, .int .i64 xp]) (hvb : vb ≠ g) :
    Calls Try.prog 15 #[.slice (some ⟨g, 0, none⟩) n c, .int .i64 i, .slice (some ⟨vb, 0, none⟩) 1 1] w (InsPost B (.slice (some ⟨g, 0, none⟩) n c) (rs.take i ++ [.int .i64 xs, .int .i64 xq, .int .i64 xp] :: rs.drop i) w) := by
  obtain ⟨cur, hgB, hbl, hcm, hsz, htk⟩ : ∃ cur : Array Value, B ≤ g ∧ Bl w g 30 cur ∧ c ≤ maxLen ∧ cur.size = c * 3 ∧ cur.toList.take (n * 3) = rs.flatten := by
    rcases ho.2.2 with ⟨e, _⟩ | ⟨g', cap, cur, e, h1, h2, _, h3, h4, h5⟩
    · cases e
    · simp only [Value.slice.injEq, Option.some.injEq, Addr.mk.injEq, and_true] at e
      obtain ⟨rfl, _, rfl⟩ := e
      exact ⟨cur, h1, h2, h3, h4, by rw [hn]; exact h5⟩
  have hfl : rs.flatten.length = n * 3 := by rw [rows_len ho.1, hn]
  have hcs : ∀ j u, rs.flatten[j]? = some u → w.cell? ⟨g, j, none⟩ = some u := fun j u hj => by
    have hl := (List.getElem?_eq_some_iff.1 hj).1
    rw [hbl.cell, ← Array.getElem?_toList]
    rw [← htk, List.getElem?_take, if_pos (by omega)] at hj
    exact hj
  have hsp : ∀ j, j < c * 3 → (w.cell? ⟨g, j, none⟩).isSome = true := fun j hj => by rw [hbl.cell, Array.getElem?_eq_getElem (by omega)]; rfl
  have hfz : ∀ j, w.frozen? ⟨g, j, none⟩ = false := hbl.frozen
  have hone : ∀ u ∈ rs.flatten, u.oneCell' = true := fun u hu => by obtain ⟨r, hr, hu⟩ := List.mem_flatten.1 hu; exact h1 r hr u hu
  have hdl : (rs.flatten.drop (i * 3)).length = (n - i) * 3 := by rw [List.length_drop, hfl]; omega
  have hz2 : ¬ ((i : Int) = (n : Int)) := by omega
  have hmx : (c : Int) ≤ 9223372036854775807 := by unfold maxLen at hcm; omega
  have hov : ∀ lb cb, (callFunc 19 #[.slice (some ⟨vb, 0, none⟩) 1 1, .slice (some ⟨g, (i + 1) * 3, none⟩) lb cb]).run Try.prog w = .ok (.value (.bool false)) w := fun lb cb => by
    rw [run_callFunc_extern Try.func19 (by kernel_rfl) (by kernel_rfl) (by kernel_rfl) (e := Extern.SlicesOverlaps.overlaps #[24, 24] #[4]) (by kernel_rfl),
      Lib.run_overlaps_apart w 24 4 30 under_se 3 (fun w => by kernel_rfl) ⟨vb, 0, none⟩ ⟨g, (i + 1) * 3, none⟩ 1 1 lb cb hvb 30 30 3 (c * 3) (by unfold Bl at hv; simp [World.shape?, hv]) (by unfold Bl at hbl; simp [World.shape?, hbl, hsz]) (by omega) (hv.frozen 0) (hv.frozen 3)]
    rfl
  have hcp1 : ∀ ty dc sc, (Builtin.copy_ #[24, 24] ty #[.slice (some ⟨g, (i + 1) * 3, none⟩) (n - i) dc, .slice (some ⟨g, i * 3, none⟩) (n + 1 - i) sc]).run Try.prog w.drew = .ok (goInt (n - i : Nat)) (w.drew.setCells g ((i + 1) * 3) (rs.flatten.drop (i * 3))) := fun ty dc sc =>
    run_copyR w.drew _ _ ty 30 3 (n - i) g ((i + 1) * 3) (n - i) dc ⟨g, i * 3, none⟩ (n + 1 - i) sc _ under_se size_se1 (by simp only [Nat.min_def]; split <;> omega) hdl
      (fun j v hj => by rw [Addr.add_lit]; exact hcs _ v (by rwa [List.getElem?_drop] at hj))
      (fun j hj => hsp _ (by omega)) (fun j _ => hfz _) (fun v hv => hone v (List.mem_of_mem_drop hv))
  obtain ⟨W1, hW1⟩ : ∃ W1, W1 = w.drew.setCells g ((i + 1) * 3) (rs.flatten.drop (i * 3)) := ⟨_, rfl⟩
  rw [← hW1] at hcp1
  obtain ⟨cur1, hb1, hs1⟩ : ∃ cur1, Bl W1 g 30 cur1 ∧ cur1.size = c * 3 := by
    obtain ⟨c1, h, h2⟩ := bl_setCells (rs.flatten.drop (i * 3)) ((i + 1) * 3) (hbl.drewN 1)
    exact ⟨c1, by rw [hW1]; exact h, by rw [h2, hsz]⟩
  have hu1 : But w W1 g := by rw [hW1]; exact but_setCells _ _ ((But.refl _ _).drewN 1)
  have hv1 := hv.but_ hu1 hvb
  have hcp2 : ∀ (W : World), (∀ x, W.cell? x = W1.cell? x) → (∀ x, W.frozen? x = W1.frozen? x) → ∀ ty dc, (Builtin.copy_ #[24, 24] ty #[.slice (some ⟨g, i * 3, none⟩) (n + 1 - i) dc, .slice (some ⟨vb, 0, none⟩) 1 1]).run Try.prog W = .ok (goInt (1 : Nat)) (W.setCells g (i * 3) [.int .i64 xs, .int .i64 xq, .int .i64 xp]) := fun W hWc hWf ty dc =>
    run_copyR W _ _ ty 30 3 1 g (i * 3) (n + 1 - i) dc ⟨vb, 0, none⟩ 1 1 [.int .i64 xs, .int .i64 xq, .int .i64 xp] under_se size_se1 (by simp only [Nat.min_def]; split <;> omega) rfl
      (fun j v hj => by
        rw [Addr.add_lit, hWc, Nat.zero_add, hv1.cell]
        simpa using hj)
      (fun j hj => by rw [hWc, hb1.cell, Array.getElem?_eq_getElem (by simp at hj; omega)]; rfl) (fun j _ => by rw [hWf]; exact hb1.frozen _) (fun v hv => by
        simp at hv
        rcases hv with rfl | rfl | rfl <;> rfl)
  have hfin : Hid (InsPost B (.slice (some ⟨g, 0, none⟩) n c) (rs.take i ++ [.int .i64 xs, .int .i64 xq, .int .i64 xp] :: rs.drop i) w (.returned (.slice (some ⟨g, 0, none⟩) (n + 1) c)) (W1.setCells g (i * 3) [.int .i64 xs, .int .i64 xq, .int .i64 xp])) := by
    obtain ⟨cur2, hb2, hs2⟩ : ∃ cur2, Bl (W1.setCells g (i * 3) [.int .i64 xs, .int .i64 xq, .int .i64 xp]) g 30 cur2 ∧ cur2.size = c * 3 := by
      obtain ⟨c1, h, h2⟩ := bl_setCells [.int .i64 xs, .int .i64 xq, .int .i64 xp] (i * 3) hb1
      exact ⟨c1, h, by rw [h2, hs1]⟩
    have hu2 := but_setCells [.int .i64 xs, .int .i64 xq, .int .i64 xp] (i * 3) hu1
    have hlen := ins_len (rs := rs) (r := [.int .i64 xs, .int .i64 xq, .int .i64 xp]) (i := i) (by omega)
    have hw : w.grownBy (W1.setCells g (i * 3) [.int .i64 xs, .int .i64 xq, .int .i64 xp]) (Value.slice (some ⟨g, 0, none⟩) n c).ownBlock := hu2
    have ho2 := ownR_of (rs := rs.take i ++ [.int .i64 xs, .int .i64 xq, .int .i64 xp] :: rs.drop i) (c := c) (ins_two ho.1 rfl) hgB hb2 hs2 (by omega) hcm (by
      rw [hlen, ← hn]
      refine ins_cells ho.1 rfl hn (by omega) (fun j hj => ?_) (fun j hj => ?_) (fun j hj => ?_)
      · rw [World.cell?_setCells_out _ _ _ _ _ (fun _ _ => .inl (by exact hj)), hW1, World.cell?_setCells_out _ _ _ _ _ (fun _ _ => .inl (by show j < (i + 1) * 3; omega))]
        obtain ⟨u, hu⟩ : ∃ u, rs.flatten[j]? = some u := ⟨_, List.getElem?_eq_getElem (by omega)⟩
        rw [hu]
        exact hcs j u hu
      · rw [World.cell?_setCells_in _ _ _ _ (fun t ht => by rw [hb1.cell, Array.getElem?_eq_getElem (by simp at ht; omega)]; rfl) j (by exact hj), List.getElem?_eq_getElem (by exact hj)]
      · rw [World.cell?_setCells_out _ _ _ _ _ (fun _ _ => .inr (by show i * 3 + 3 ≤ (i + 1) * 3 + j; omega)), hW1, World.cell?_setCells_in g _ _ w.drew (fun t ht => hsp _ (by rw [hdl] at ht; omega)) j (by rw [hdl]; exact hj), List.getElem?_eq_getElem (by rw [hdl]; exact hj)])
    rw [hlen, ← hn] at ho2
    exact ⟨_, rfl, ho2, hw, .inl rfl⟩
  have hw1 : IntKind.i64.wrap ((i : Int) + 1) = (i : Int) + 1 := by rw [IntKind.wrap_i64]; omega
  have hb1' : (0 : Int) ≤ (i : Int) + 1 := by omega
  have hin : i ≤ n := by omega
  have htn : ((i : Int) + 1).toNat = i + 1 := by omega
  have hb2 : ¬ (c = i + 1) := by omega
  have hb3 : (i : Int) ≤ (n : Int) + 1 := by omega
  have hb4 : ¬ (c = i) := by omega
  have mixed : Try.prog.follows .mixedOrders = true := by kernel_rfl
  clear hW1 hb1 hu1 hv1 hcs hsp hone hdl htk hsz hfl hbl hv ho h1 hn hs1 hgB hfz hcm cur cur1
  go_enter Try.func15, Try.ntmps15
  go_wp2_with (simp only [hov])
  go_region_law_o (refine step_copy_runI rfl _ _ 24 24 rfl _ _ (by simp [Act.eval, Act.put]) (by simp [Act.eval, Act.put]) (hcp1 _ _ _) ?_)
  go_wp2_with (at_builtin; refine wpList_copy_runI _ rfl _ _ 24 24 rfl _ _ rfl rfl (hcp2 _ (fun _ => rfl) (fun _ => rfl) _ _) ?_)
  go_ret
  exact hfin.out

set_option maxHeartbeats 4000000 in
/-- there is none: a new row -/
theorem Insert_grow (B g n c i vb : Nat) (rs : List (List Value)) (xs xq xp : Int) (w : World) (h1 : ∀ r ∈ rs, ∀ y ∈ r, y.oneCell' = true) (hn : n = rs.length) (hi : i < n) (hroom : c < n + 1) (hbig : n ≤ 1000000)
    (ho : OwnR 30 3 w B (.slice (some ⟨g, 0, none⟩) n c) rs) (hv : Bl w vb 30 #[.int .i64 xs, .int .i64 xq, .int .i64 xp]) (hB : B ≤ w.heap.size) :
    Calls Try.prog 15 #[.slice (some ⟨g, 0, none⟩) n c, .int .i64 i, .slice (some ⟨vb, 0, none⟩) 1 1] w (InsPost B (.slice (some ⟨g, 0, none⟩) n c) (rs.take i ++ [.int .i64 xs, .int .i64 xq, .int .i64 xp] :: rs.drop i) w) := by
  obtain ⟨cur, hbl, hnc, hsz, htk⟩ : ∃ cur : Array Value, Bl w g 30 cur ∧ n ≤ c ∧ cur.size = c * 3 ∧ cur.toList.take (n * 3) = rs.flatten := by
    rcases ho.2.2 with ⟨e, _⟩ | ⟨g', cap, cur, e, h1, h2, h0, h3, h4, h5⟩
    · cases e
    · simp only [Value.slice.injEq, Option.some.injEq, Addr.mk.injEq, and_true] at e
      obtain ⟨rfl, _, rfl⟩ := e
      exact ⟨cur, h2, by rw [hn]; exact h0, h4, by rw [hn]; exact h5⟩
  obtain ⟨i0, hi0, hz0, hzs, hzb⟩ := info_se
  have hfl : rs.flatten.length = n * 3 := by rw [rows_len ho.1, hn]
  have hcs : ∀ j u, rs.flatten[j]? = some u → w.cell? ⟨g, j, none⟩ = some u := fun j u hj => by
    have hl := (List.getElem?_eq_some_iff.1 hj).1
    rw [hbl.cell, ← Array.getElem?_toList]
    rw [← htk, List.getElem?_take, if_pos (by omega)] at hj
    exact hj
  have hone : ∀ u ∈ rs.flatten, u.oneCell' = true := fun u hu => by obtain ⟨r, hr, hu⟩ := List.mem_flatten.1 hu; exact h1 r hr u hu
  have hz2 : ¬ ((i : Int) = (n : Int)) := by omega
  have hz3 : (c : Int) < (n : Int) + 1 := by omega
  have hgw := hbl.lt
  have hvw := hv.lt
  have hkk : (n : Int) + 1 - (i : Int) = ((n + 1 - i : Nat) : Int) := by omega
  have hik : i + (n + 1 - i) = n + 1 := by omega
  have hold : (Builtin.firstCells i0.size i (.slice (some ⟨g, 0, none⟩) i c)).run Try.prog w.drew = .ok (rs.flatten.take (i * 3)).toArray w.drew := by
    rw [hzs]
    exact run_firstCells_some w.drew 3 i ⟨g, 0, none⟩ i c (rs.flatten.take (i * 3)) (by rw [List.length_take, hfl]; omega) (fun j v hj => by
      rw [Addr.add_lit, Nat.zero_add]
      rw [List.getElem?_take] at hj
      split at hj
      · exact hcs j v hj
      · cases hj)
  obtain ⟨G, hG⟩ : ∃ G, G = grownCap w (n + 1) c 30 := ⟨_, rfl⟩
  obtain ⟨ROW, hROW⟩ : ∃ ROW : Array Value, ROW = (rs.flatten.take (i * 3)).toArray ++ Builtin.zeroCells (Value.agg #[.int .i64 0, .int .i64 0, .int .i64 0]).cells (n + 1 - i) ++ Builtin.zeroCells (Value.agg #[.int .i64 0, .int .i64 0, .int .i64 0]).cells (G - (n + 1)) := ⟨_, rfl⟩
  have hrz : ∀ ty, (Builtin.append_ #[24, 3] ty #[.slice (some ⟨g, 0, none⟩) i c, .int .i64 ((n : Int) + 1 - (i : Int))]).run Try.prog w =
      .ok (.slice (some ⟨w.heap.size, 0, none⟩) (n + 1) G) (w.drew.alloc (.cells ROW 30)) := fun ty => by
    have h := Lib.run_append_grow_zeros w 24 3 ty 30 i0 _ .i64 .i64 under_se (show Try.prog.underlying 3 = some (.int .i64) by kernel_rfl) hi0 hz0 (some ⟨g, 0, none⟩) i c (rs.flatten.take (i * 3)) hold (n + 1 - i) (by omega) (by omega) (by omega) (by omega) (by rw [hzb]; omega) (by rw [hzb, hik]; exact growslice_fits hroom (by omega))
    rw [hik] at h
    rw [hkk, hROW, hG]
    exact h
  have hGn : n + 1 ≤ G := by rw [hG]; exact grownCap_ge w _ _ _
  have hGm : G ≤ maxLen := by rw [hG]; exact grownCap_le_maxLen w (n + 1) c 30 (by unfold maxLen; omega)
  have hG63 : G ≤ 9223372036854775807 := by unfold maxLen at hGm; omega
  have hRs : ROW.size = G * 3 := by
    rw [hROW]
    simp [Builtin.zeroCells, Value.cells, hfl]
    omega
  obtain ⟨W1, hW1⟩ : ∃ W1, W1 = w.drew.alloc (.cells ROW 30) := ⟨_, rfl⟩
  rw [← hW1] at hrz
  have hb1 : Bl W1 w.heap.size 30 ROW := by rw [hW1]; exact Bl.new w.drew _ _
  have hgr1 : Gr w W1 := by rw [hW1]; exact ((Gr.refl w).drewN 1).alloc _
  have hv1 := hv.gr hgr1
  have hcs1 : ∀ j u, rs.flatten[j]? = some u → W1.cell? ⟨g, j, none⟩ = some u := fun j u hj => gr_cell hgr1 _ _ (hcs j u hj)
  have hcpA : ∀ (W : World), (∀ x, W.cell? x = W1.cell? x) → (∀ x, W.frozen? x = W1.frozen? x) → ∀ ty dc, (Builtin.copy_ #[24, 24] ty #[.slice (some ⟨w.heap.size, i * 3, none⟩) (n + 1 - i) dc, .slice (some ⟨vb, 0, none⟩) 1 1]).run Try.prog W = .ok (goInt (1 : Nat)) (W.setCells w.heap.size (i * 3) [.int .i64 xs, .int .i64 xq, .int .i64 xp]) := fun W hWc hWf ty dc =>
    run_copyR W _ _ ty 30 3 1 w.heap.size (i * 3) (n + 1 - i) dc ⟨vb, 0, none⟩ 1 1 [.int .i64 xs, .int .i64 xq, .int .i64 xp] under_se size_se1 (by simp only [Nat.min_def]; split <;> omega) rfl
      (fun j v hj => by
        rw [Addr.add_lit, hWc, Nat.zero_add, hv1.cell]
        simpa using hj)
      (fun j hj => by rw [hWc, hb1.cell, Array.getElem?_eq_getElem (by simp at hj; omega)]; rfl) (fun j _ => by rw [hWf]; exact hb1.frozen _) (fun v hv => by
        simp at hv
        rcases hv with rfl | rfl | rfl <;> rfl)
  have hdl : (rs.flatten.drop (i * 3)).length = (n - i) * 3 := by rw [List.length_drop, hfl]; omega
  obtain ⟨W2, hW2⟩ : ∃ W2, W2 = W1.setCells w.heap.size (i * 3) [.int .i64 xs, .int .i64 xq, .int .i64 xp] := ⟨_, rfl⟩
  obtain ⟨cur2, hb2, hs2⟩ : ∃ cur2, Bl W2 w.heap.size 30 cur2 ∧ cur2.size = G * 3 := by
    obtain ⟨c1, h, h2⟩ := bl_setCells [.int .i64 xs, .int .i64 xq, .int .i64 xp] (i * 3) hb1
    exact ⟨c1, by rw [hW2]; exact h, by rw [h2, hRs]⟩
  have hu2 : But W1 W2 w.heap.size := by rw [hW2]; exact but_setCells _ _ (But.refl _ _)
  have hcs2 : ∀ j u, rs.flatten[j]? = some u → W2.cell? ⟨g, j, none⟩ = some u := fun j u hj => hu2.cell (hcs1 j u hj) (by show g ≠ _; omega)
  have hcpB : ∀ (W : World), (∀ x, W.cell? x = W2.cell? x) → (∀ x, W.frozen? x = W2.frozen? x) → ∀ ty dc sc, (Builtin.copy_ #[24, 24] ty #[.slice (some ⟨w.heap.size, (i + 1) * 3, none⟩) (n - i) dc, .slice (some ⟨g, i * 3, none⟩) (n - i) sc]).run Try.prog W = .ok (goInt (n - i : Nat)) (W.setCells w.heap.size ((i + 1) * 3) (rs.flatten.drop (i * 3))) := fun W hWc hWf ty dc sc =>
    run_copyR W _ _ ty 30 3 (n - i) w.heap.size ((i + 1) * 3) (n - i) dc ⟨g, i * 3, none⟩ (n - i) sc _ under_se size_se1 (by simp only [Nat.min_def]; split <;> omega) hdl
      (fun j v hj => by rw [Addr.add_lit, hWc]; exact hcs2 _ v (by rwa [List.getElem?_drop] at hj))
      (fun j hj => by rw [hWc, hb2.cell, Array.getElem?_eq_getElem (by omega)]; rfl) (fun j _ => by rw [hWf]; exact hb2.frozen _) (fun v hv => hone v (List.mem_of_mem_drop hv))
  have hfin : Hid (∀ W3 : World, W3 = (W2.drew).setCells w.heap.size ((i + 1) * 3) (rs.flatten.drop (i * 3)) → InsPost B (.slice (some ⟨g, 0, none⟩) n c) (rs.take i ++ [.int .i64 xs, .int .i64 xq, .int .i64 xp] :: rs.drop i) w (.returned (.slice (some ⟨w.heap.size, 0, none⟩) (n + 1) G)) W3) := hide fun W3 h3 => by
    obtain ⟨cur3, hb3, hs3⟩ : ∃ cur3, Bl W3 w.heap.size 30 cur3 ∧ cur3.size = G * 3 := by
      obtain ⟨c1, h, h2⟩ := bl_setCells (rs.flatten.drop (i * 3)) ((i + 1) * 3) (hb2.drewN 1)
      exact ⟨c1, by rw [h3]; exact h, by rw [h2, hs2]⟩
    have hu3 : But W2 W3 w.heap.size := by rw [h3]; exact but_setCells _ _ ((But.refl _ _).drewN 1)
    have hgr3 : Gr w W3 := (hgr1.fresh_ hu2 (Nat.le_refl _)).fresh_ hu3 (Nat.le_refl _)
    have hlen := ins_len (rs := rs) (r := [.int .i64 xs, .int .i64 xq, .int .i64 xp]) (i := i) (by omega)
    have ho2 := ownR_of (rs := rs.take i ++ [.int .i64 xs, .int .i64 xq, .int .i64 xp] :: rs.drop i) (c := G) (ins_two ho.1 rfl) hB hb3 hs3 (by omega) hGm (by
      rw [hlen, ← hn]
      refine ins_cells ho.1 rfl hn (by omega) (fun j hj => ?_) (fun j hj => ?_) (fun j hj => ?_)
      · rw [h3, World.cell?_setCells_out _ _ _ _ _ (fun _ _ => .inl (by show j < (i + 1) * 3; omega))]
        show W2.cell? _ = _
        rw [hW2, World.cell?_setCells_out _ _ _ _ _ (fun _ _ => .inl (by exact hj)), hb1.cell, hROW]
        have hlt : (rs.flatten.take (i * 3)).length = i * 3 := by rw [List.length_take, hfl]; omega
        rw [Array.append_assoc, Array.getElem?_append_left (by simp [hlt]; omega)]
        rw [List.getElem?_toArray, List.getElem?_take, if_pos hj]
      · rw [h3, World.cell?_setCells_out _ _ _ _ _ (fun _ _ => .inl (by show i * 3 + j < (i + 1) * 3; omega))]
        show W2.cell? _ = _
        rw [hW2, World.cell?_setCells_in _ _ _ _ (fun t ht => by rw [hb1.cell, Array.getElem?_eq_getElem (by simp at ht; omega)]; rfl) j (by exact hj), List.getElem?_eq_getElem (by exact hj)]
      · rw [h3, World.cell?_setCells_in _ _ _ W2.drew (fun t ht => by show (W2.cell? _).isSome = true; rw [hdl] at ht; rw [hb2.cell, Array.getElem?_eq_getElem (by omega)]; rfl) j (by rw [hdl]; exact hj), List.getElem?_eq_getElem (by rw [hdl]; exact hj)])
    rw [hlen, ← hn] at ho2
    exact ⟨_, rfl, ho2, ⟨hgr3.os, hgr3.tape, hgr3.output, hgr3.size, fun j hj _ => hgr3.block j hj⟩, .inr ⟨_, rfl, Nat.le_refl _⟩⟩
  have hw1 : IntKind.i64.wrap ((i : Int) + 1) = (i : Int) + 1 := by rw [IntKind.wrap_i64]; omega
  have hb1' : (0 : Int) ≤ (i : Int) + 1 := by omega
  have hin : i ≤ n := by omega
  have htn : ((i : Int) + 1).toNat = i + 1 := by omega
  have hb3' : (i : Int) ≤ (n : Int) := by omega
  have hic : i ≤ c := by omega
  have hGi : ¬ (G = i) := by omega
  have hGim : ¬ (G = i + 1) := by omega
  have hci : ¬ (c = i) := by omega
  have mixed : Try.prog.follows .mixedOrders = true := by kernel_rfl
  rw [hW2] at hcpB
  have HW2 := hide hW2
  clear hW2
  clear hkk hik hold hROW hG hRs hcs2 hu2 hb2 hs2 cur2 hcs1 hv1 hgr1 hb1 hbl hnc hsz htk cur hcs hone hfl ho h1 hn hv hdl hi0 hz0 hzs hzb
  subst hW1
  have hE1 : ∀ x, ((w.alloc (.cells ROW 30)).drew).cell? x = (w.drew.alloc (.cells ROW 30)).cell? x := fun x => rfl
  have hE2 : ∀ x, ((w.alloc (.cells ROW 30)).drew).frozen? x = (w.drew.alloc (.cells ROW 30)).frozen? x := fun x => rfl
  have hF1 : ∀ x, (((w.alloc (.cells ROW 30)).drew.setCells w.heap.size (i * 3) [.int .i64 xs, .int .i64 xq, .int .i64 xp]).drew).cell? x = ((w.drew.alloc (.cells ROW 30)).setCells w.heap.size (i * 3) [.int .i64 xs, .int .i64 xq, .int .i64 xp]).cell? x := fun x => rfl
  have hF2 : ∀ x, (((w.alloc (.cells ROW 30)).drew.setCells w.heap.size (i * 3) [.int .i64 xs, .int .i64 xq, .int .i64 xp]).drew).frozen? x = ((w.drew.alloc (.cells ROW 30)).setCells w.heap.size (i * 3) [.int .i64 xs, .int .i64 xq, .int .i64 xp]).frozen? x := fun x => rfl
  go_enter Try.func15, Try.ntmps15
  go_wp2_with (first
    | (at_builtin; refine Lib.wpList_append_run _ rfl _ _ _ _ rfl _ _ rfl rfl _ _ (hrz _) ?_)
    | (at_builtin; refine wpList_copy_runI _ rfl _ _ 24 24 rfl _ _ rfl rfl (hcpA _ hE1 hE2 _ _) ?_))
  go_region_law_o (refine step_copy_runI rfl _ _ 24 24 rfl (.slice (some ⟨w.heap.size, (i + 1) * 3, none⟩) (n - i) (G - (i + 1))) (.slice (some ⟨g, i * 3, none⟩) (n - i) (c - i)) (by simp [Act.eval, Act.put]) (by simp [Act.eval, Act.put]) (hcpB _ hF1 hF2 3 (G - (i + 1)) (c - i)) ?_)
  go_wp2
  go_ret
  exact hfin.out _ (by rw [HW2.out]; rfl)

set_option maxHeartbeats 1000000 in
/-- at the end: behind them all -/
theorem Insert_end (B n vb : Nat) (v : Value) (rs : List (List Value)) (xs xq xp : Int) (w : World) (hn : n = rs.length) (hbig : n ≤ 1000000)
    (ho : OwnR 30 3 w B v rs) (hv : Bl w vb 30 #[.int .i64 xs, .int .i64 xq, .int .i64 xp]) (hB : B ≤ w.heap.size) :
    Calls Try.prog 15 #[v, .int .i64 n, .slice (some ⟨vb, 0, none⟩) 1 1] w (InsPost B v (rs ++ [[.int .i64 xs, .int .i64 xq, .int .i64 xp]]) w) := by
  obtain ⟨i0, hi0, hz0, hzs, hzb⟩ := info_se
  have hr : RowAt 3 w (.slice (some ⟨vb, 0, none⟩) 1 1) [[.int .i64 xs, .int .i64 xq, .int .i64 xp]] := ⟨some ⟨vb, 0, none⟩, 1, rfl, Nat.le_refl _, fun j m r u hj hm => by
    rcases j with _ | j
    · simp only [List.getElem?_cons_zero, Option.some.injEq] at hj
      subst hj
      refine ⟨_, rfl, ?_⟩
      rw [Addr.add_lit, Nat.zero_add, Nat.zero_mul, Nat.zero_add, hv.cell]
      simpa using hm
    · simp at hj⟩
  have HR := hide hr
  have HO := hide ho
  obtain ⟨A, c, rfl, hc, _⟩ := ho.rowAt
  rw [← hn]
  have hnc : n ≤ c := by omega
  have HN := hide hn
  have hcn : c = n ∨ ¬ c = n := Classical.em _
  clear hr ho hv hc hn
  rcases hcn with rfl | hcn
  all_goals
    go_enter Try.func15, Try.ntmps15
    go_wp2_with (at_builtin; refine pause ?_)
    refine hide ?_
    refine wpList_appR rfl (.tmp 23) (.tmp 24) _ rfl 30 i0 _ 3 24 Try.underlying24 hi0 hz0 hzs hzb rfl (by decide) (B := B) (rs := rs) (qs := [[.int .i64 xs, .int .i64 xq, .int .i64 xp]]) rfl (by rw [← HN.out] at HO; exact HO.out) hB rfl HR.out (fun r hr => by rw [List.mem_singleton.1 hr]; rfl) (fun r hr y hy => by
      rw [List.mem_singleton.1 hr] at hy
      simp at hy
      rcases hy with rfl | rfl | rfl <;> rfl) (by rw [← HN.out]; simp; unfold maxLen; omega) (by rw [← HN.out]; simp; omega) (fun v' w' h3 h4 => ?_)
    obtain ⟨A', c', rfl, _⟩ := h3.rowAt
    have HP := hide (show InsPost B _ (rs ++ [[Value.int .i64 xs, .int .i64 xq, .int .i64 xp]]) w (.returned _) w' from ⟨_, rfl, h3, h4⟩)
    generalize (rs ++ [[Value.int .i64 xs, .int .i64 xq, .int .i64 xp]]).length = q at HP
    clear h3 h4
    go_wp2_with fail
    go_ret
    exact HP.out
/-- one seat more, where it belongs -/
theorem Insert_ok (B i vb : Nat) (v : Value) (l : List SeT) (x : SeT) (w : World) (hi : i ≤ l.length) (hbig : l.length ≤ 1000000)
    (ho : SeO w B v l) (hv : Bl w vb 30 #[.int .i64 x.ses, .int .i64 x.seq, .int .i64 x.pos]) (hvb : v.ownBlock ≠ some vb) (hB : B ≤ w.heap.size) :
    Calls Try.prog 15 #[v, .int .i64 i, .slice (some ⟨vb, 0, none⟩) 1 1] w fun e w' => ∃ v', e = .returned v' ∧ SeO w' B v' (l.take i ++ x :: l.drop i) ∧ Put1 w w' v v' := by
  have hone := seC_one l
  have hback : ∀ (e : Ending) (w' : World), InsPost B v ((l.map seC).take i ++ [.int .i64 x.ses, .int .i64 x.seq, .int .i64 x.pos] :: (l.map seC).drop i) w e w' → ∃ v', e = .returned v' ∧ SeO w' B v' (l.take i ++ x :: l.drop i) ∧ Put1 w w' v v' := fun e w' ⟨v', he, h3, h4⟩ => by
    refine ⟨v', he, ?_, h4⟩
    unfold SeO
    rw [List.map_append, List.map_cons, List.map_take, List.map_drop]
    exact h3
  by_cases hlt : i < l.length
  · obtain ⟨g, c, rfl, hgB, hgl, hnc, _⟩ := OwnR.block_ ho (by rw [List.length_map]; omega)
    rw [List.length_map] at ho hnc hback hvb ⊢
    have hne : vb ≠ g := fun e => hvb (by rw [e]; rfl)
    by_cases hr : l.length + 1 ≤ c
    · exact (Insert_shift B g l.length c i vb (l.map seC) x.ses x.seq x.pos w hone (by rw [List.length_map]) hlt hr ho hv hne).mono hback
    · exact (Insert_grow B g l.length c i vb (l.map seC) x.ses x.seq x.pos w hone (by rw [List.length_map]) hlt (by omega) (by omega) ho hv hB).mono hback
  · obtain rfl : i = l.length := by omega
    refine (Insert_end B l.length vb v (l.map seC) x.ses x.seq x.pos w (by rw [List.length_map]) hbig ho hv hB).mono fun e w' h => hback e w' ?_
    rw [List.take_of_length_le (by rw [List.length_map]; exact Nat.le_refl _), List.drop_of_length_le (by rw [List.length_map]; exact Nat.le_refl _)]
    exact h
end Go.Proofs.Ytgocapmclhimdaa
