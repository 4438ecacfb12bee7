/-
  A row of heads that the call owns, behind a pointer: each read as a number (its batch, then its log); its Len, Less, Swap, Push, Pop.
-/
import Derived.Test.YtncdmecppfmmgaaMgHead
import Derived.Test.YtncdmecppfmmgaaRowMine
import Derived.Test.YtncdmecppfmmgaaBalMath
import Derived.Deep.Cut
namespace Go.Proofs.Ytncdmecppfmmgaa.HeadHeap
open Go Go.RowKit Go.Proofs.Ytncdmecppfmmgaa
set_option maxRecDepth 100000

/-- where the batches of a head lie -/
abbrev SlM := Int → Option Addr × Nat × Nat
def hdC (S : SlM) (x : Int) : List Value := [.int .i64 (x % 1000), .int .i64 (x / 1000), .slice (S x).1 (S x).2.1 (S x).2.2]
theorem hdC_len (S : SlM) (x : Int) : (hdC S x).length = 3 := rfl
theorem hdC_one (S : SlM) (x : Int) : ∀ v ∈ hdC S x, v.oneCell' = true := fun v hv => by
  simp only [hdC, List.mem_cons, List.not_mem_nil, or_false] at hv
  rcases hv with rfl | rfl | rfl <;> simp [Value.oneCell']
def OwnH (S : SlM) (w : World) (B : Nat) (v : Value) (l : List Int) : Prop := OwnR 59 3 w B v (l.map (hdC S))
theorem OwnH.is {S : SlM} {w : World} {B : Nat} {v : Value} {l : List Int} (h : OwnH S w B v l) : ∃ A c, v = .slice A l.length c := by
  obtain ⟨A, c, e, _⟩ := OwnR.is h
  rw [List.length_map] at e
  exact ⟨A, c, e⟩
/-- three worlds, one behind the other -/
def at2 (a b c : World) : Nat → World
  | 0 => a
  | 1 => b
  | _ => c
theorem info_hd : ∃ i, Try.prog.info? 59 = some i ∧ i.zero = some (.agg #[.int .i64 0, .int .i64 0, .slice none 0 0]) ∧ i.size = 3 ∧ i.bytes = 40 := info_parts (by kernel_rfl)
theorem agg_hd : ∀ w, (isAgg 59).run Try.prog w = .ok true w := fun w => by kernel_rfl
theorem size_hd : ∀ w, (sizeOf (Try.prog.elem 55)).run Try.prog w = .ok 3 w := fun w => by kernel_rfl

theorem hLen (S : SlM) (w : World) (B : Nat) (v : Value) (l : List Int) (hv : OwnH S w B v l) :
    Calls Try.prog 57 #[v] w fun e w' => e = .returned (.int .i64 l.length) ∧ w' = w := by
  obtain ⟨A, c, rfl⟩ := hv.is
  go_enter Try.func57, Try.ntmps57
  go_wp2_with fail
  go_ret
  exact ⟨rfl, rfl⟩

/-- which comes ahead: the number that is less -/
theorem key_lt (x y : Int) : decide (x / 1000 = y / 1000 ∧ x % 1000 < y % 1000 ∨ x / 1000 < y / 1000) = decide (x < y) := by
  congr 1
  refine propext ⟨fun h => ?_, fun h => ?_⟩ <;> omega
theorem hLess (S : SlM) (w : World) (B : Nat) (v : Value) (l : List Int) (i j : Nat) (hv : OwnH S w B v l) (hi : i < l.length) (hj : j < l.length) :
    Calls Try.prog 58 #[v, .int .i64 i, .int .i64 j] w fun e w' => e = .returned (.bool (decide (l[i] < l[j]))) ∧ Gr w w' := by
  obtain ⟨ie, hie, _, hz, _⟩ := info_hd
  have HVD := hide (show OwnR 59 3 w.drew B v (l.map (hdC S)) from OwnR.gr hv (Gr.refl w).drew)
  have ei : (l.map (hdC S))[i]? = some (hdC S l[i]) := by rw [List.getElem?_map, List.getElem?_eq_getElem hi]; rfl
  have ej : (l.map (hdC S))[j]? = some (hdC S l[j]) := by rw [List.getElem?_map, List.getElem?_eq_getElem hj]; rfl
  obtain ⟨A, c, rfl⟩ := hv.is
  clear hv
  generalize l[i] = x at *
  generalize l[j] = y at *
  go_enter Try.func58, Try.ntmps58
  go_wp2_with fail
  refine Grow.wp_region_grown 16 rfl (by kernel_rfl) (by kernel_rfl) (Grow.Ahead.more (Grow.Ahead.more (Grow.Ahead.more (Grow.Ahead.none_ _ _) 0 (Grow.Rr.stays 59 3 B (l.map (hdC S))) HVD.out) 1 (Grow.Is.stays (.int .i64 i)) rfl) 2 (Grow.Is.stays (.int .i64 j)) rfl) ?_
  refine Grow.grow_move _ (.inl rfl) (.inl ⟨rfl, rfl⟩) rfl (Grow.Rr.stays _ _ _ _) ?_
  refine Grow.grow_mv (.inl rfl) (.inl ⟨rfl, rfl⟩) rfl ?_
  refine Grow.grow_idx_r i rfl Try.underlying55 size_hd (.inl ⟨rfl, rfl⟩) rfl rfl rfl ei ?_
  refine Grow.grow_load_r (cs := hdC S x) rfl hie agg_hd hz.symm (.inl ⟨rfl, rfl⟩) rfl ?_
  refine Grow.grow_move _ (.inl rfl) (.inl ⟨rfl, rfl⟩) rfl (Grow.Rr.stays _ _ _ _) ?_
  refine Grow.grow_mv (.inl rfl) (.inl ⟨rfl, rfl⟩) rfl ?_
  refine Grow.grow_idx_r j rfl Try.underlying55 size_hd (.inl ⟨rfl, rfl⟩) rfl rfl rfl ej ?_
  refine Grow.grow_load_r (cs := hdC S y) rfl hie agg_hd hz.symm (.inl ⟨rfl, rfl⟩) rfl ?_
  refine Grow.grow_call2 (Φ := Grow.Is (.bool (decide (x < y)))) rfl (.inl ⟨rfl, rfl⟩) Try.func60 (by kernel_rfl) (by kernel_rfl) rfl rfl (Grow.Is.stays _) (fun v u w' hg hv hu => ?_) ?_
  · obtain rfl : v = _ := hv
    obtain rfl : u = _ := hu
    refine (ahead_ok _ _ _ _ _ _ _ _ _ _ w').mono fun e w1 ⟨h1, h2⟩ => ⟨_, h1, h2, ?_⟩
    rw [key_lt]
  refine Grow.grow_mv (.inr rfl) (.inl ⟨rfl, rfl⟩) rfl ?_
  intro a1 w1 hg hsz hdf hk
  have h6 : a1.tmps.getD 6 undef = .bool (decide (x < y)) := hk 6
  clear hk
  have hgw : Gr w w1 := Gr.trans (Gr.refl w).drew hg
  rw [Grow.lay_frame a1 16 hsz, hdf]
  simp only [List.range, List.range.loop, List.map_cons, List.map_nil, h6]
  go_wp2_with fail
  go_ret
  exact ⟨rfl, hgw⟩

theorem map_set_ (S : SlM) (l : List Int) (i : Nat) (x : Int) : (l.map (hdC S)).set i (hdC S x) = (l.set i x).map (hdC S) := by rw [List.map_set]
set_option maxHeartbeats 1000000 in
theorem hSwap (S : SlM) (w : World) (B : Nat) (v : Value) (l : List Int) (i j : Nat) (hv : OwnH S w B v l) (hi : i < l.length) (hj : j < l.length) :
    Calls Try.prog 59 #[v, .int .i64 i, .int .i64 j] w fun e w' => e = .returned (.tuple #[]) ∧ OwnH S w' B v ((l.set i l[j]).set j l[i]) ∧ w.grownBy w' v.ownBlock := by
  obtain ⟨ie, hie, _, hz, _⟩ := info_hd
  have hlm : (l.map (hdC S)).length = l.length := List.length_map _
  obtain ⟨g, c, rfl, hB, hg, hc, hm⟩ := OwnR.block_ hv (by omega)
  rw [hlm] at hc
  have ei : (l.map (hdC S))[i]? = some (hdC S l[i]) := by rw [List.getElem?_map, List.getElem?_eq_getElem hi]; rfl
  have ej : (l.map (hdC S))[j]? = some (hdC S l[j]) := by rw [List.getElem?_map, List.getElem?_eq_getElem hj]; rfl
  have HV0 := hide (show OwnR 59 3 w.drew B (.slice (some ⟨g, 0, none⟩) (l.map (hdC S)).length c) (l.map (hdC S)) from OwnR.gr hv (Gr.refl w).drew)
  obtain ⟨o1, g1⟩ := HV0.out.stored3 rfl (j := i) (by rw [hlm]; exact hi) (.int .i64 (l[j] % 1000)) (.int .i64 (l[j] / 1000)) (.slice (S l[j]).1 (S l[j]).2.1 (S l[j]).2.2)
  change OwnR _ 3 _ B _ ((l.map (hdC S)).set i (hdC S l[j])) at o1
  rw [map_set_] at o1
  obtain ⟨o2, g2⟩ := o1.stored3 (by rw [List.length_map, List.length_map, List.length_set]) (j := j) (by rw [List.length_map, List.length_set]; exact hj) (.int .i64 (l[i] % 1000)) (.int .i64 (l[i] / 1000)) (.slice (S l[i]).1 (S l[i]).2.1 (S l[i]).2.2)
  change OwnR _ 3 _ B _ (((l.set i l[j]).map (hdC S)).set j (hdC S l[i])) at o2
  rw [map_set_] at o2
  have HO1 := hide o1
  have HO2 := hide o2
  have HG := hide (show w.grownBy ((w.drew.setCells g (i * 3) (hdC S l[j])).setCells g (j * 3) (hdC S l[i])) (some g) from
    ⟨g2.os.trans g1.os, g2.tape.trans g1.tape, g2.output.trans g1.output, Nat.le_trans g1.size g2.size, fun k hk hne => (g2.block k (Nat.lt_of_lt_of_le hk g1.size) hne).trans (g1.block k hk hne)⟩)
  clear o1 o2 g1 g2 hv
  rw [hlm] at *
  have hi' : i < l.length := hi
  have hj' : j < l.length := hj
  have HI := hide ei
  have HJ := hide ej
  clear ei ej hlm
  generalize hx : l[i] = x at *
  generalize hy : l[j] = y at *
  go_enter Try.func59, Try.ntmps59
  go_wp2_with fail
  refine Det.wp_region_det [13, 15] (fun m w' => w' = at2 w.drew (w.drew.setCells g (i * 3) (hdC S y)) ((w.drew.setCells g (i * 3) (hdC S y)).setCells g (j * 3) (hdC S x)) m) (by kernel_rfl) (by kernel_rfl) (by kernel_rfl) rfl ?_
  refine Det.pure rfl rfl (.slice (some ⟨g, 0, none⟩) l.length c) (fun _ => rfl) ?_
  simp only [Act.put, List.setIfInBounds_toArray, List.set_cons_zero, List.set_cons_succ]
  refine Det.pure rfl rfl (.int .i64 i) (fun _ => rfl) ?_
  simp only [Act.put, List.setIfInBounds_toArray, List.set_cons_zero, List.set_cons_succ]
  refine Det.pure rfl rfl (.slice (some ⟨g, 0, none⟩) l.length c) (fun _ => rfl) ?_
  simp only [Act.put, List.setIfInBounds_toArray, List.set_cons_zero, List.set_cons_succ]
  refine Det.pure rfl rfl (.int .i64 j) (fun _ => rfl) ?_
  simp only [Act.put, List.setIfInBounds_toArray, List.set_cons_zero, List.set_cons_succ]
  refine Det.pure rfl rfl (.slice (some ⟨g, 0, none⟩) l.length c) (fun _ => rfl) ?_
  simp only [Act.put, List.setIfInBounds_toArray, List.set_cons_zero, List.set_cons_succ]
  refine Det.pure rfl rfl (.int .i64 j) (fun _ => rfl) ?_
  simp only [Act.put, List.setIfInBounds_toArray, List.set_cons_zero, List.set_cons_succ]
  refine Det.index_k (k := .i64) (j := j) rfl rfl rfl Try.underlying55 size_hd rfl rfl hj ?_
  simp only [Act.put, List.setIfInBounds_toArray, List.set_cons_zero, List.set_cons_succ]
  refine Det.load_r (hdC S y) rfl rfl rfl 0 0 (by kernel_rfl) hie agg_hd hz.symm rfl (fun m' _ hm w1 hw k u hu => by
    obtain rfl : m' = 0 := by omega
    rw [hw]; exact HV0.out.cell_ (List.length_map _).symm HJ.out hu) ?_
  simp only [Act.put, List.setIfInBounds_toArray, List.set_cons_zero, List.set_cons_succ]
  refine Det.pure rfl rfl (.slice (some ⟨g, 0, none⟩) l.length c) (fun _ => rfl) ?_
  simp only [Act.put, List.setIfInBounds_toArray, List.set_cons_zero, List.set_cons_succ]
  refine Det.pure rfl rfl (.int .i64 i) (fun _ => rfl) ?_
  simp only [Act.put, List.setIfInBounds_toArray, List.set_cons_zero, List.set_cons_succ]
  refine Det.index_k (k := .i64) (j := i) rfl rfl rfl Try.underlying55 size_hd rfl rfl hi ?_
  simp only [Act.put, List.setIfInBounds_toArray, List.set_cons_zero, List.set_cons_succ]
  refine Det.load_r (hdC S x) rfl rfl rfl 0 0 (by kernel_rfl) hie agg_hd hz.symm rfl (fun m' _ hm w1 hw k u hu => by
    obtain rfl : m' = 0 := by omega
    rw [hw]; exact HV0.out.cell_ (List.length_map _).symm HI.out hu) ?_
  simp only [Act.put, List.setIfInBounds_toArray, List.set_cons_zero, List.set_cons_succ]
  refine Det.index_k (k := .i64) (j := i) rfl rfl rfl Try.underlying55 size_hd rfl rfl hi ?_
  simp only [Act.put, List.setIfInBounds_toArray, List.set_cons_zero, List.set_cons_succ]
  refine Det.store_r (g := g) (s := i * 3) (hdC S y) rfl rfl rfl hie hz.symm (hdC_one S y) rfl rfl (fun w1 hw => by
    subst hw
    refine ⟨fun k hk => ?_, fun k _ => HV0.out.frozen_ (List.length_map _).symm _, rfl⟩
    exact Option.isSome_iff_exists.2 ⟨_, HV0.out.cell_ (List.length_map _).symm HI.out (List.getElem?_eq_getElem (by rw [hdC_len] at hk ⊢; exact hk))⟩) ?_
  simp only [Act.put]
  refine Det.index_k (k := .i64) (j := j) rfl rfl rfl Try.underlying55 size_hd rfl rfl hj ?_
  simp only [Act.put, List.setIfInBounds_toArray, List.set_cons_zero, List.set_cons_succ]
  refine Det.store_r (g := g) (s := j * 3) (hdC S x) rfl rfl rfl hie hz.symm (hdC_one S x) rfl rfl (fun w1 hw => by
    subst hw
    have hn : l.length = ((l.set i y).map (hdC S)).length := by rw [List.length_map, List.length_set]
    have he : ((l.set i y).map (hdC S))[j]? = some (hdC S y) := by
      rw [List.getElem?_map, List.getElem?_set]
      split
      · rename_i h; subst h; simp
      · rw [List.getElem?_eq_getElem hj', hy]; rfl
    refine ⟨fun k hk => ?_, fun k _ => ?_, rfl⟩
    · exact Option.isSome_iff_exists.2 ⟨_, HO1.out.cell_ hn he (List.getElem?_eq_getElem (by rw [hdC_len] at hk ⊢; exact hk))⟩
    · exact HO1.out.frozen_ hn _) ?_
  simp only [Act.put]
  refine Det.nil ?_
  intro w' hw'
  subst hw'
  go_wp2_with fail
  go_end0
  exact ⟨rfl, HO2.out, HG.out⟩

end Go.Proofs.Ytncdmecppfmmgaa.HeadHeap

/-
  The heap of heads: its methods called through the interface, by what lies behind the pointer.
-/
namespace Go.Proofs.Ytncdmecppfmmgaa.HeadHeap
open Go Go.RowKit Go.Proofs.Ytncdmecppfmmgaa BalMath
set_option maxRecDepth 100000

abbrev hpV (g : Nat) : Value := .iface 57 (.pointer (some ⟨g, 0, none⟩))
theorem agg_h : ∀ w, (isAgg 55).run Try.prog w = .ok false w := fun w => by kernel_rfl
theorem load_h {w : World} {g : Nat} {v : Value} (hc : w.cell? ⟨g, 0, none⟩ = some v) : (loadVar 55 ⟨g, 0, none⟩).run Try.prog w = .ok v w := by
  simp [loadVar, agg_h w, hc]
theorem meth_len {w : World} {g : Nat} {v : Value} (hc : w.cell? ⟨g, 0, none⟩ = some v) (n : Nat) : (method (n + 1) 57 (.pointer (some ⟨g, 0, none⟩)) "Len").run Try.prog w = .ok (57, v) w := by
  have h : (method (n + 1) 57 (.pointer (some ⟨g, 0, none⟩)) "Len").run Try.prog w = (loadVar 55 ⟨g, 0, none⟩ >>= fun r => pure (57, r)).run Try.prog w := by kernel_rfl
  rw [h, Sem.run_bind, load_h hc]
  simp only [Result.andThen_ok, Sem.run_pure]
theorem meth_less {w : World} {g : Nat} {v : Value} (hc : w.cell? ⟨g, 0, none⟩ = some v) (n : Nat) : (method (n + 1) 57 (.pointer (some ⟨g, 0, none⟩)) "Less").run Try.prog w = .ok (58, v) w := by
  have h : (method (n + 1) 57 (.pointer (some ⟨g, 0, none⟩)) "Less").run Try.prog w = (loadVar 55 ⟨g, 0, none⟩ >>= fun r => pure (58, r)).run Try.prog w := by kernel_rfl
  rw [h, Sem.run_bind, load_h hc]
  simp only [Result.andThen_ok, Sem.run_pure]
theorem meth_swap {w : World} {g : Nat} {v : Value} (hc : w.cell? ⟨g, 0, none⟩ = some v) (n : Nat) : (method (n + 1) 57 (.pointer (some ⟨g, 0, none⟩)) "Swap").run Try.prog w = .ok (59, v) w := by
  have h : (method (n + 1) 57 (.pointer (some ⟨g, 0, none⟩)) "Swap").run Try.prog w = (loadVar 55 ⟨g, 0, none⟩ >>= fun r => pure (59, r)).run Try.prog w := by kernel_rfl
  rw [h, Sem.run_bind, load_h hc]
  simp only [Result.andThen_ok, Sem.run_pure]
theorem meth_push {w : World} {g : Nat} (n : Nat) : (method (n + 1) 57 (.pointer (some ⟨g, 0, none⟩)) "Push").run Try.prog w = .ok (62, .pointer (some ⟨g, 0, none⟩)) w := by kernel_rfl
theorem meth_pop {w : World} {g : Nat} (n : Nat) : (method (n + 1) 57 (.pointer (some ⟨g, 0, none⟩)) "Pop").run Try.prog w = .ok (61, .pointer (some ⟨g, 0, none⟩)) w := by kernel_rfl

/-- heads behind a pointer: the pointer's cell, the row; but for these nothing of w0 has changed -/
structure HH (S : SlM) (w0 : World) (o0 : Option Nat) (w : World) (g : Nat) (l : List Int) : Prop where
  own : ∃ v, Bl w g 55 #[v] ∧ OwnH S w (g + 1) v l ∧ (v.ownBlock = o0 ∨ ∃ k, v.ownBlock = some k ∧ w0.heap.size ≤ k)
  os : w.os = w0.os
  tape : w.tape = w0.tape
  output : w.output = w0.output
  size : w0.heap.size ≤ w.heap.size
  block : ∀ k, k < w0.heap.size → k ≠ g → some k ≠ o0 → w.heap[k]? = w0.heap[k]?
theorem HH.gr {S : SlM} {w0 : World} {o0 : Option Nat} {w w' : World} {g : Nat} {l : List Int} (h : HH S w0 o0 w g l) (hg : Gr w w') : HH S w0 o0 w' g l := by
  obtain ⟨v, h1, h2, h3⟩ := h.own
  exact ⟨⟨v, h1.gr hg, OwnR.gr h2 hg, h3⟩, hg.os.trans h.os, hg.tape.trans h.tape, hg.output.trans h.output, Nat.le_trans h.size hg.size, fun k hk h4 h5 => (hg.block k (Nat.lt_of_lt_of_le hk h.size)).trans (h.block k hk h4 h5)⟩
theorem HH.start {S : SlM} {w : World} {g : Nat} {v : Value} {l : List Int} (hb : Bl w g 55 #[v]) (ho : OwnH S w (g + 1) v l) : HH S w v.ownBlock w g l := ⟨⟨v, hb, ho, .inl rfl⟩, rfl, rfl, rfl, Nat.le_refl _, fun _ _ _ _ => rfl⟩
/-- the row alone is written -/
theorem HH.row {S : SlM} {w0 w w' : World} {o0 : Option Nat} {g : Nat} {l l' : List Int} {v : Value} (h : HH S w0 o0 w g l) (hb : Bl w g 55 #[v]) (hv : v.ownBlock = o0 ∨ ∃ k, v.ownBlock = some k ∧ w0.heap.size ≤ k) (hlt : ∀ k, v.ownBlock = some k → g + 1 ≤ k) (hg : w.grownBy w' v.ownBlock) (ho' : OwnH S w' (g + 1) v l') : HH S w0 o0 w' g l' := by
  have hgl := hb.lt
  refine ⟨⟨v, (hg.block g hgl (fun e => by have := hlt g e.symm; omega)).trans hb, ho', hv⟩, hg.os.trans h.os, hg.tape.trans h.tape, hg.output.trans h.output, Nat.le_trans h.size hg.size, fun k hk h4 h5 => ?_⟩
  refine (hg.block k (Nat.lt_of_lt_of_le hk h.size) fun e => ?_).trans (h.block k hk h4 h5)
  rcases hv with hv | ⟨k', hv, hk'⟩
  · exact h5 (by rw [← hv]; exact e)
  · rw [hv] at e
    injection e with e
    omega

theorem hLen_ok {S : SlM} {w0 w : World} {o0 : Option Nat} {g : Nat} {l : List Int} (h : HH S w0 o0 w g l) : ∃ v, w.cell? ⟨g, 0, none⟩ = some v ∧ Calls Try.prog 57 #[v] w fun e w' => e = .returned (.int .i64 l.length) ∧ w' = w := by
  obtain ⟨v, hb, ho, _⟩ := h.own
  exact ⟨v, by rw [hb.cell]; rfl, hLen S w _ v l ho⟩
theorem hLess_ok {S : SlM} {w0 w : World} {o0 : Option Nat} {g : Nat} {l : List Int} (i j : Nat) (h : HH S w0 o0 w g l) (hi : i < l.length) (hj : j < l.length) : ∃ v, w.cell? ⟨g, 0, none⟩ = some v ∧
    Calls Try.prog 58 #[v, .int .i64 i, .int .i64 j] w fun e w' => e = .returned (.bool (decide (at_ l i < at_ l j))) ∧ HH S w0 o0 w' g l := by
  obtain ⟨v, hb, ho, _⟩ := h.own
  rw [at_of hi, at_of hj]
  exact ⟨v, by rw [hb.cell]; rfl, (hLess S w _ v l i j ho hi hj).mono fun e w' ⟨he, hw⟩ => ⟨he, h.gr hw⟩⟩
theorem hSwap_ok {S : SlM} {w0 w : World} {o0 : Option Nat} {g : Nat} {l : List Int} (i j : Nat) (h : HH S w0 o0 w g l) (hi : i < l.length) (hj : j < l.length) : ∃ v, w.cell? ⟨g, 0, none⟩ = some v ∧
    Calls Try.prog 59 #[v, .int .i64 i, .int .i64 j] w fun e w' => e = .returned (.tuple #[]) ∧ HH S w0 o0 w' g (swapI l i j) := by
  obtain ⟨v, hb, ho, hv⟩ := h.own
  refine ⟨v, by rw [hb.cell]; rfl, (hSwap S w _ v l i j ho hi hj).mono fun e w' ⟨he, ho', hg⟩ => ⟨he, h.row hb hv (fun k hk => (OwnR.lt ho k hk).1) hg ?_⟩⟩
  unfold swapI
  rw [at_of hi, at_of hj]
  exact ho'

theorem wpList_nilc {P : Program} {ops : Array Oper} {rest : List Oper} {o : Oper} {a : Act} {w : World} {Q : Exit → Act → World → Prop} (hgd : o.guard = none) (x : Operand) (ho : o.op = .nilCheck x) {ad : Addr} (hx : a.eval x = .pointer (some ad))
    (h : wpList P ops Q rest (a.put o.dst (.pointer (some ad))) w) : wpList P ops Q (o :: rest) a w :=
  wpList_plain hgd fun _ hK => by
    unfold Oper.wp execOp
    simp only [ho, hx]
    exact hK _ _ h
theorem assert_hd {u v : Value} (hu : u = .iface 59 v) (a : Act) (w : World) (o : Oper) (ho : o.op = .typeAssert (.tmp 8) 20 59 false) (hx : a.eval (.tmp 8) = u) : (execOp a.eval o).run Try.prog w = .ok (.value v) w := by
  subst hu
  unfold execOp
  simp only [ho, hx]
  kernel_rfl

set_option maxHeartbeats 1000000 in
theorem hPush_ok {S : SlM} {w0 w : World} {o0 : Option Nat} {g : Nat} {l : List Int} (x : Int) (h : HH S w0 o0 w g l) (hl : l.length ≤ 1000000) :
    Calls Try.prog 62 #[.pointer (some ⟨g, 0, none⟩), .iface 59 (.agg (hdC S x).toArray)] w fun e w' => e = .returned (.tuple #[]) ∧ HH S w0 o0 w' g (l ++ [x]) := by
  obtain ⟨i0, hi, hz0, hz1, hz2⟩ := info_hd
  obtain ⟨v, hb, ho, hv⟩ := h.own
  have HB := hide hb
  have HO := hide (show OwnR 59 3 w.drew (g + 1) v (l.map (hdC S)) from OwnR.gr ho (Gr.refl w).drew)
  have HH_ := hide h
  have HV := hide hv
  have hlt := OwnR.lt ho
  have hne : some g ≠ v.ownBlock := fun e => by have := (hlt g e.symm).1; omega
  have hgl := hb.lt
  obtain ⟨u, hu⟩ : ∃ u, u = Value.iface 59 (.agg (hdC S x).toArray) := ⟨_, rfl⟩
  rw [← hu]
  have HU := hide hu
  clear h hb ho hv hu
  go_enter Try.func62, Try.ntmps62
  go_wp2_with fail
  refine Mine.wp_region_mine_tail 8 13 [4, 5, 6, 7, 8, 9, 10, 11, 12] rfl (by kernel_rfl) (by kernel_rfl) (by kernel_rfl) (by kernel_rfl) (ob0 := v.ownBlock) (Mine.Ahead.more (Mine.Ahead.more (Mine.Ahead.none_ _ _ _) 0 (Mine.Bx.stays g 55 #[v]) ⟨rfl, HB.out.drewN 1, hne⟩) 1 (Mine.Is.stays u) rfl) 14 (C0 := Mine.RowROf 59 3 (g + 1) v (l.map (hdC S))) (Mine.RowROf.keeps _ _ _ _ _) (fun k hk => (hlt k hk).2) ⟨HO.out, rfl⟩ ?_
  refine Mine.move _ (.inl rfl) rfl (by decide) rfl (Mine.Bx.stays _ _ _) ?_
  refine Mine.move _ (.inl rfl) rfl (by decide) rfl (Mine.Bx.stays _ _ _) ?_
  refine Mine.nil rfl rfl (by decide) rfl ?_
  refine Mine.chain_loadR rfl rfl rfl (by decide) agg_h rfl ?_
  refine Mine.move _ (.inl rfl) rfl (by decide) rfl (Mine.Is.stays _) ?_
  refine Mine.run1 (v := .agg (hdC S x).toArray) (x := .tmp 8) rfl (by decide) (by simp [Op.operands]) rfl (fun a w hx => assert_hd HU.out a w _ rfl hx) ?_
  refine Mine.lit1R (e := 59) (cs := hdC S x) rfl rfl (by decide) rfl (fun w => by kernel_rfl) ?_
  refine Mine.chain_appR (rs := l.map (hdC S)) (cs := hdC S x) rfl rfl rfl Try.underlying55 hi hz0 hz1 hz2 rfl (by decide) rfl (hdC_len S x) (hdC_one S x) (by rw [List.length_map]; omega) (by rw [List.length_map]; omega) (by have : (w.drew).heap.size = w.heap.size := rfl; omega) ?_
  intro a1 w1 ob hr hwf hsz hdf hun hk hat
  have h4 : a1.tmps.getD 4 undef = .pointer (some ⟨g, 0, none⟩) := (hk 4).1
  obtain ⟨hown, hob⟩ := hat
  change OwnR 59 3 w1 (g + 1) (a1.tmps.getD 11 undef) (l.map (hdC S) ++ [x].map (hdC S)) at hown
  obtain ⟨X, hX, hlay⟩ := Grow.lay_kept_by _ a1 13 _ hsz hdf hun
  rw [hX] at h4 hown hob
  clear hX hun hdf hsz hk hwf
  subst hlay
  simp only [List.range, List.range.loop, List.map_cons, List.map_nil, List.contains_cons, List.contains_nil, Nat.reduceBEq, Bool.or_false, Bool.or_true, cond_false, cond_true, Array.getD_eq_getD_getElem?, List.getElem?_toArray, List.getElem?_cons_zero, List.getElem?_cons_succ, Option.getD_some, h4, List.drop_succ_cons, List.drop_zero]
  generalize X 11 = row at hown hob ⊢
  subst hob
  rw [← List.map_append] at hown
  replace hr := (Mine.RS.of_gr (o := v.ownBlock) (Gr.drew (Gr.refl w))).trans hr
  have hb1 : Bl w1 g 55 #[v] := (hr.gb.block g hgl hne).trans HB.out
  have hrl := OwnR.lt hown
  have HE : Hid (HH S w0 o0 (w1.setCell ⟨g, 0, none⟩ row) g (l ++ [x])) := by
    have hbut : But w1 (w1.setCell ⟨g, 0, none⟩ row) g := (But.refl w1 g).set 0 row
    have hH := HH_.out
    refine ⟨⟨row, hb1.put 0 row, OwnR.but hown hbut (by omega), ?_⟩, hbut.os.trans (hr.gb.os.trans hH.os), hbut.tape.trans (hr.gb.tape.trans hH.tape), hbut.output.trans (hr.gb.output.trans hH.output), Nat.le_trans hH.size (Nat.le_trans hr.gb.size hbut.size), fun k hk h4 h5 => ?_⟩
    · have hs := hH.size
      rcases hr.at_ with e | ⟨m, e, hm⟩
      · rw [e]; exact HV.out
      · exact .inr ⟨m, e, by omega⟩
    · have hs := hH.size
      have hs1 := hr.gb.size
      rw [hbut.block k (by omega) (by intro e; injection e with e; exact h4 e)]
      refine (hr.gb.block k (by omega) fun e => ?_).trans (hH.block k hk h4 h5)
      rcases HV.out with hv | ⟨k', hv, hk'⟩
      · exact h5 (by rw [← hv]; exact e)
      · rw [hv] at e
        injection e with e
        omega
  obtain ⟨A, c, rfl⟩ := OwnH.is (S := S) hown
  clear hr hown hrl HH_ HO HB hlt hne HV HU
  refine wpList_nilc rfl (.tmp 4) rfl rfl ?_
  simp only [Act.put, List.setIfInBounds_toArray, List.set_cons_zero, List.set_cons_succ]
  refine wpList_store_slice rfl 55 (.tmp 12) (.tmp 11) rfl rfl (fun w => by kernel_rfl) (g := g) (i := 0) rfl rfl hb1 (by simp) ?_
  clear hb1
  generalize w1.setCell ⟨g, 0, none⟩ (.slice A (l ++ [x]).length c) = w2 at HE ⊢
  go_wp2_with fail
  go_end0
  exact ⟨rfl, HE.out⟩

end Go.Proofs.Ytncdmecppfmmgaa.HeadHeap

/-
  The heap of heads: its Pop.
-/
namespace Go.Proofs.Ytncdmecppfmmgaa.HeadHeap
open Go Go.RowKit Go.Proofs.Ytncdmecppfmmgaa BalMath
set_option maxRecDepth 100000

set_option maxHeartbeats 1000000 in
theorem hPop_ok {S : SlM} {w0 w : World} {o0 : Option Nat} {g : Nat} {l : List Int} (k : Nat) (h : HH S w0 o0 w g l) (hk : l.length = k + 1) :
    Calls Try.prog 61 #[.pointer (some ⟨g, 0, none⟩)] w fun e w' => e = .returned (.iface 59 (.agg (hdC S (at_ l k)).toArray)) ∧ HH S w0 o0 w' g (l.take k) := by
  have hkl : k < l.length := by omega
  obtain ⟨v, hb, ho, hv⟩ := h.own
  have hlm : (l.map (hdC S)).length = k + 1 := by rw [List.length_map, hk]
  obtain ⟨b, c, hvb, hB, hbw, hc, hm⟩ := OwnR.block_ ho (by omega)
  obtain ⟨ad, c', e1, _, a0, a3⟩ := (OwnR.rowAt ho).cell (j := k) (r := hdC S l[k]) (by rw [List.getElem?_map, List.getElem?_eq_getElem hkl]; rfl) (by simp [hdC])
  rw [hvb] at e1
  injection e1 with e1 _ e2
  injection e1 with e1
  subst e2
  rw [hlm] at *
  have a1 := a3 1 _ (by decide) rfl
  have a2 := a3 2 _ (by decide) rfl
  replace a0 := a0 _ rfl
  rw [at_of hkl]
  have hat : l[k] = at_ l k := (at_of hkl).symm
  generalize l[k] = x at a0 a1 a2 ⊢
  have HE : Hid (∀ W, Gr w W → HH S w0 o0 (W.setCell ⟨g, 0, none⟩ (.slice (some ad) k c)) g (l.take k)) := fun W hg => by
    have hW := h.gr hg
    have hbW := hb.gr hg
    have hbut : But W (W.setCell ⟨g, 0, none⟩ (.slice (some ad) k c)) g := (But.refl W g).set 0 _
    have hoW : OwnH S W (g + 1) v l := OwnR.gr ho hg
    have hf : OwnR 59 3 W (g + 1) (.slice (some ⟨b, 0, none⟩) k c) ((l.map (hdC S)).take k) := OwnR.front (n := k + 1) (by rw [← hvb]; exact hoW) (by rw [List.length_map]; omega)
    rw [← List.map_take, e1] at hf
    rw [e1] at hvb
    refine ⟨⟨_, hbW.put 0 _, OwnR.but hf hbut (by omega), ?_⟩, hbut.os.trans hW.os, hbut.tape.trans hW.tape, hbut.output.trans hW.output, Nat.le_trans hW.size hbut.size, fun q hq h4 h5 => ?_⟩
    · rw [hvb] at hv
      exact hv
    · have hs := hW.size
      rw [hbut.block q (by omega) (by intro e; injection e with e; exact h4 e)]
      exact hW.block q hq h4 h5
  have c0 : w.cell? ⟨g, 0, none⟩ = some (.slice (some ad) (k + 1) c) := by rw [hb.cell, hvb, e1]; rfl
  have hm' : (c : Int) ≤ 9223372036854775807 := by simp [maxLen] at hm; omega
  have HB := hide hb
  clear hb ho hv h hvb hB hbw e1 a3 hlm hat hkl hk
  have hcn : ¬ c = 0 := by omega
  have e1 : ((k + 1 : Nat) : Int) - 1 = k := by omega
  have hk1 : (k : Int) ≤ (c : Int) := by omega
  have hk2 : (k : Int) < ((k + 1 : Nat) : Int) := by omega
  go_enter Try.func61, Try.ntmps61
  go_upto_region 3 with (fail)
  obtain ⟨W, hW⟩ : ∃ W, w.alloc (.cells #[.int .i64 (x % 1000), .int .i64 (x / 1000), .slice (S x).1 (S x).2.1 (S x).2.2] 59) = W := ⟨_, rfl⟩
  have hgW : Gr w W := by rw [← hW]; exact (Gr.refl _).alloc _
  have hbN : Bl W w.heap.size 59 #[.int .i64 (x % 1000), .int .i64 (x / 1000), .slice (S x).1 (S x).2.1 (S x).2.2] := by rw [← hW]; exact Bl.new _ _ _
  rw [hW]
  have hbg := HB.out.gr hgW
  replace c0 := gr_cell hgW _ _ c0
  have f0 := hbg.frozen 0
  have hgl := HB.out.lt
  clear hW a0 a1 a2 HB
  go_upto_region 4 with (fail)
  have HE' := hide (HE.out W hgW)
  have hbut : But W (W.setCell ⟨g, 0, none⟩ (.slice (some ad) k c)) g := (But.refl W g).set 0 _
  generalize hW2 : W.setCell ⟨g, 0, none⟩ (.slice (some ad) k c) = W2 at HE' hbut ⊢
  have hbN2 := hbN.but_ hbut (by omega)
  have n0 : W2.cell? ⟨w.heap.size, 0, none⟩ = some (.int .i64 (x % 1000)) := hbN2.cell 0
  have n1 : W2.cell? ⟨w.heap.size, 1, none⟩ = some (.int .i64 (x / 1000)) := hbN2.cell 1
  have n2 : W2.cell? ⟨w.heap.size, 2, none⟩ = some (.slice (S x).1 (S x).2.1 (S x).2.2) := hbN2.cell 2
  clear hW2 HE hbN hbN2 hbut hbg c0 f0
  go_wp2_with fail
  go_ret
  exact ⟨rfl, HE'.out⟩

end Go.Proofs.Ytncdmecppfmmgaa.HeadHeap

/-
  container/heap's up over the heads, by its contract.
-/
namespace Go.Proofs.Ytncdmecppfmmgaa.HeadHeap
open Go Go.RowKit Go.Proofs.Ytncdmecppfmmgaa BalMath
set_option maxRecDepth 100000

/-- as many of each kind -/
def Alike (l l' : List Int) : Prop := ∀ p, cnt p l' = cnt p l
theorem Alike.len {l l' : List Int} (h : Alike l l') : l'.length = l.length := by rw [len_cnt, h, ← len_cnt]

def UpPost (S : SlM) (w0 : World) (o0 : Option Nat) (g : Nat) (l : List Int) (e : Ending) (w' : World) : Prop := e = .returned (.tuple #[]) ∧ ∃ l', HH S w0 o0 w' g l' ∧ Alike l l' ∧ Heap l'.length l'

set_option maxHeartbeats 1000000 in
theorem up_ok {S : SlM} {w0 w : World} {o0 : Option Nat} {g : Nat} {l : List Int} (j : Nat) (h : HH S w0 o0 w g l) (hj : j < l.length) (hu : Up l j) (hl : l.length ≤ 1000000) :
    Calls Try.prog 33 #[hpV g, .int .i64 j] w (UpPost S w0 o0 g l) := by
  have HY := hide h
  have HU := hide hu
  clear h hu
  go_enter Try.func33, Try.ntmps33
  go_wp2_with fail
  go_loopw [1] (fun v wr => ∃ (k : Nat) (l' : List Int), v = .int .i64 k ∧ k < l'.length ∧ Hid (HH S w0 o0 wr g l') ∧ Hid (Up l' k) ∧ Hid (Alike l l')) (fun v _ => (intOf v).toNat)
  case atStart => exact ⟨j, l, rfl, hj, HY, HU, fun _ => rfl⟩
  case round =>
    obtain ⟨k, l', rfl, hk, HP', HU', HA⟩ := hrel
    rcases Nat.eq_zero_or_pos k with rfl | h0
    · go_wp2_with fail
      go_end0
      exact ⟨rfl, l', HP'.out, HA.out, HU'.out.done (.inl rfl)⟩
    · obtain ⟨i, hi⟩ : ∃ i, (k - 1) / 2 = i := ⟨_, rfl⟩
      have hil : i < l'.length := by omega
      have e1 : ((k : Int) - 1).tdiv 2 = (i : Int) := by rw [Int.tdiv_eq_ediv_of_nonneg (by omega)]; omega
      have e2 : ((i : Int) == (k : Int)) = false := by rw [beq_eq_false_iff_ne]; omega
      have hk6 : (k : Int) ≤ 1000000 := by have := HA.out.len; omega
      go_wp2_with fail
      obtain ⟨v, c0, hc⟩ := hLess_ok k i HP'.out hk hil
      have HC := hide hc
      rw [meth_less c0]
      clear hc c0
      go_wp2_with fail
      refine HC.out.mono ?_
      rintro e w1 ⟨rfl, hw1⟩
      have HW := hide hw1
      clear hw1 HC HP' v
      by_cases hlt : at_ l' k < at_ l' i
      · rw [decide_eq_true hlt]
        go_wp2_with fail
        obtain ⟨v, c0, hc⟩ := hSwap_ok i k HW.out hil hk
        have HC := hide hc
        rw [meth_swap c0]
        clear hc c0
        go_wp2_with fail
        refine HC.out.mono ?_
        rintro e w2 ⟨rfl, hw2⟩
        have H2 := hide hw2
        clear hw2
        go_wp2_with fail
        go_roundw
        case rel =>
          exact ⟨i, swapI l' i k, rfl, by rw [swapI_len]; exact hil, H2, HU'.out.step hk h0 hi.symm hlt, fun p => by rw [cnt_swap p hil hk]; exact HA.out p⟩
        case measure => simp [intOf]; omega
      · rw [decide_eq_false hlt]
        go_wp2_with fail
        go_end0
        exact ⟨rfl, l', HW.out, HA.out, HU'.out.done (.inr (by rw [hi]; omega))⟩

end Go.Proofs.Ytncdmecppfmmgaa.HeadHeap

/-
  container/heap's down, Push, Pop over the heads, by their contracts.
-/
namespace Go.Proofs.Ytncdmecppfmmgaa.HeadHeap
open Go Go.RowKit Go.Proofs.Ytncdmecppfmmgaa BalMath
set_option maxRecDepth 100000

def DownPost (S : SlM) (w0 : World) (o0 : Option Nat) (g : Nat) (l : List Int) (n : Nat) (e : Ending) (w' : World) : Prop :=
  ∃ b, e = .returned (.bool b) ∧ ∃ l', HH S w0 o0 w' g l' ∧ Alike l l' ∧ Heap n l' ∧ ∀ q, n ≤ q → at_ l' q = at_ l q

set_option maxHeartbeats 2000000 in
theorem down_ok {S : SlM} {w0 w : World} {o0 : Option Nat} {g : Nat} {l : List Int} (n : Nat) (h : HH S w0 o0 w g l) (hn : n ≤ l.length) (hd : Down n l 0) (hl : l.length ≤ 1000000) :
    Calls Try.prog 36 #[hpV g, .int .i64 0, .int .i64 n] w (DownPost S w0 o0 g l n) := by
  have HY := hide h
  have HD0 := hide hd
  have hn6 : (n : Int) ≤ 1000000 := by omega
  clear h hd
  go_enter Try.func36, Try.ntmps36
  go_wp2_with fail
  go_loopw [7] (fun v wr => ∃ (k : Nat) (l' : List Int), v = .int .i64 k ∧ k ≤ 1000000 ∧ Hid (HH S w0 o0 wr g l') ∧ Hid (Down n l' k) ∧ Hid (Alike l l') ∧ Hid (∀ q, n ≤ q → at_ l' q = at_ l q)) (fun v _ => n - (intOf v).toNat)
  case atStart => exact ⟨0, l, rfl, by omega, HY, HD0, fun _ => rfl, fun _ _ => rfl⟩
  case round =>
    obtain ⟨k, l', rfl, hk6, HP', HD, HA, HT⟩ := hrel
    have hll := HA.out.len
    clear HD0
    by_cases h1 : n ≤ 2 * k + 1
    · have h1' : (n : Int) ≤ 2 * (k : Int) + 1 := by omega
      go_wp2_with fail
      go_ret
      exact ⟨_, rfl, l', HP'.out, HA.out, HD.out.none_ h1, HT.out⟩
    · have hkl : k < l'.length := by omega
      have h1' : 2 * (k : Int) + 1 < (n : Int) := by omega
      have hk0 : (0 : Int) ≤ (k : Int) := by omega
      have hj1 : 2 * k + 1 < l'.length := by omega
      by_cases h2 : n ≤ 2 * k + 2
      · have h2' : (n : Int) ≤ 2 * (k : Int) + 1 + 1 := by omega
        go_wp2_with fail
        obtain ⟨v, c0, hc⟩ := hLess_ok (2 * k + 1) k HP'.out hj1 hkl
        have HC := hide hc
        rw [meth_less c0]
        clear hc c0
        go_wp2_with fail
        refine HC.out.mono ?_
        rintro e w4 ⟨rfl, hw4⟩
        have HW := hide hw4
        clear hw4 HC v HP'
        by_cases hlt : at_ l' (2 * k + 1) < at_ l' k
        · rw [decide_eq_true hlt]
          go_wp2_with fail
          obtain ⟨v, c0, hc⟩ := hSwap_ok k (2 * k + 1) HW.out hkl hj1
          have HC := hide hc
          rw [meth_swap c0]
          clear hc c0
          go_wp2_with fail
          refine HC.out.mono ?_
          rintro e w5 ⟨rfl, hw5⟩
          have H2 := hide hw5
          clear hw5 HC v HW
          go_wp2_with fail
          go_roundw
          case rel =>
            exact ⟨(2 * k + 1), swapI l' k (2 * k + 1), by go_num, by omega, H2, HD.out.step (by omega) (by omega) (by omega) (by omega) (fun q hq hqn hqk => by rw [show q = 2 * k + 1 by omega]; exact Int.le_refl _) hlt, fun p => by rw [cnt_swap p hkl hj1]; exact HA.out p, fun q hq => by rw [swapI_o (by omega) (by omega)]; exact HT.out q hq⟩
          case measure => simp [intOf]; omega
        · rw [decide_eq_false hlt]
          go_wp2_with fail
          go_ret
          exact ⟨_, rfl, l', HW.out, HA.out, HD.out.done (fun q hq hqn hqk => by rw [show q = 2 * k + 1 by omega]; omega), HT.out⟩
      · have h2' : 2 * (k : Int) + 1 + 1 < (n : Int) := by omega
        have hj2 : 2 * k + 1 + 1 < l'.length := by omega
        go_wp2_with fail
        obtain ⟨v, c0, hc⟩ := hLess_ok (2 * k + 1 + 1) (2 * k + 1) HP'.out hj2 hj1
        have HC := hide hc
        rw [meth_less c0]
        clear hc c0
        go_wp2_with fail
        refine HC.out.mono ?_
        rintro e w3 ⟨rfl, hw3⟩
        have H3 := hide hw3
        clear hw3 HC v HP'
        by_cases hlr : at_ l' (2 * k + 1 + 1) < at_ l' (2 * k + 1)
        · rw [decide_eq_true hlr]
          go_wp2_with fail
          obtain ⟨v, c0, hc⟩ := hLess_ok (2 * k + 1 + 1) k H3.out hj2 hkl
          have HC := hide hc
          rw [meth_less c0]
          clear hc c0
          go_wp2_with fail
          refine HC.out.mono ?_
          rintro e w4 ⟨rfl, hw4⟩
          have HW := hide hw4
          clear hw4 HC v H3
          by_cases hlt : at_ l' (2 * k + 1 + 1) < at_ l' k
          · rw [decide_eq_true hlt]
            go_wp2_with fail
            obtain ⟨v, c0, hc⟩ := hSwap_ok k (2 * k + 1 + 1) HW.out hkl hj2
            have HC := hide hc
            rw [meth_swap c0]
            clear hc c0
            go_wp2_with fail
            refine HC.out.mono ?_
            rintro e w5 ⟨rfl, hw5⟩
            have H2 := hide hw5
            clear hw5 HC v HW
            go_wp2_with fail
            go_roundw
            case rel =>
              exact ⟨(2 * k + 1 + 1), swapI l' k (2 * k + 1 + 1), by go_num, by omega, H2, HD.out.step (by omega) (by omega) (by omega) (by omega) (fun q hq hqn hqk => by rcases (by omega : q = 2 * k + 1 ∨ q = 2 * k + 1 + 1) with e | e <;> rw [e] <;> omega) hlt, fun p => by rw [cnt_swap p hkl hj2]; exact HA.out p, fun q hq => by rw [swapI_o (by omega) (by omega)]; exact HT.out q hq⟩
            case measure => simp [intOf]; omega
          · rw [decide_eq_false hlt]
            go_wp2_with fail
            go_ret
            exact ⟨_, rfl, l', HW.out, HA.out, HD.out.done (fun q hq hqn hqk => by rcases (by omega : q = 2 * k + 1 ∨ q = 2 * k + 1 + 1) with e | e <;> rw [e] <;> omega), HT.out⟩
        · rw [decide_eq_false hlr]
          go_wp2_with fail
          obtain ⟨v, c0, hc⟩ := hLess_ok (2 * k + 1) k H3.out hj1 hkl
          have HC := hide hc
          rw [meth_less c0]
          clear hc c0
          go_wp2_with fail
          refine HC.out.mono ?_
          rintro e w4 ⟨rfl, hw4⟩
          have HW := hide hw4
          clear hw4 HC v H3
          by_cases hlt : at_ l' (2 * k + 1) < at_ l' k
          · rw [decide_eq_true hlt]
            go_wp2_with fail
            obtain ⟨v, c0, hc⟩ := hSwap_ok k (2 * k + 1) HW.out hkl hj1
            have HC := hide hc
            rw [meth_swap c0]
            clear hc c0
            go_wp2_with fail
            refine HC.out.mono ?_
            rintro e w5 ⟨rfl, hw5⟩
            have H2 := hide hw5
            clear hw5 HC v HW
            go_wp2_with fail
            go_roundw
            case rel =>
              exact ⟨(2 * k + 1), swapI l' k (2 * k + 1), by go_num, by omega, H2, HD.out.step (by omega) (by omega) (by omega) (by omega) (fun q hq hqn hqk => by rcases (by omega : q = 2 * k + 1 ∨ q = 2 * k + 1 + 1) with e | e <;> rw [e] <;> omega) hlt, fun p => by rw [cnt_swap p hkl hj1]; exact HA.out p, fun q hq => by rw [swapI_o (by omega) (by omega)]; exact HT.out q hq⟩
            case measure => simp [intOf]; omega
          · rw [decide_eq_false hlt]
            go_wp2_with fail
            go_ret
            exact ⟨_, rfl, l', HW.out, HA.out, HD.out.done (fun q hq hqn hqk => by rcases (by omega : q = 2 * k + 1 ∨ q = 2 * k + 1 + 1) with e | e <;> rw [e] <;> omega), HT.out⟩

def PushPost (S : SlM) (w0 : World) (o0 : Option Nat) (g : Nat) (l : List Int) (x : Int) (e : Ending) (w' : World) : Prop :=
  e = .returned (.tuple #[]) ∧ ∃ l', HH S w0 o0 w' g l' ∧ Heap l'.length l' ∧ ∀ p, cnt p l' = cnt p l + one p x

set_option maxHeartbeats 1000000 in
theorem HeapPush_ok {S : SlM} {w0 w : World} {o0 : Option Nat} {g : Nat} {l : List Int} (x : Int) (h : HH S w0 o0 w g l) (hh : Heap l.length l) (hl : l.length ≤ 900000) :
    Calls Try.prog 23 #[hpV g, .iface 59 (.agg (hdC S x).toArray)] w (PushPost S w0 o0 g l x) := by
  have HU := hide (Up.start hh x)
  have HC := hide (hPush_ok x h (by omega))
  have hlen : (l ++ [x]).length = l.length + 1 := by simp
  clear h hh
  go_enter Try.func23, Try.ntmps23
  go_wp2_with fail
  rw [meth_push]
  go_wp2_with fail
  refine HC.out.mono ?_
  rintro e w1 ⟨rfl, hw1⟩
  have H1 := hide hw1
  clear hw1 HC
  go_wp2_with fail
  obtain ⟨v, c0, hc⟩ := hLen_ok H1.out
  have HC := hide hc
  rw [meth_len c0]
  clear hc c0
  go_wp2_with fail
  refine HC.out.mono ?_
  rintro e w2 ⟨rfl, rfl⟩
  clear HC v
  have e1 : ((l.length : Int) + 1) - 1 = (l.length : Int) := by omega
  have HC2 := hide (up_ok l.length H1.out (by omega) HU.out (by omega))
  rw [hlen]
  clear H1 hlen
  go_wp2_with fail
  refine HC2.out.mono ?_
  rintro e w3 ⟨rfl, l', h1, h2, h3⟩
  have HE : Hid (PushPost S w0 o0 g l x (.returned (.tuple #[])) w3) := ⟨rfl, l', h1, h3, fun p => by rw [h2 p, cnt_push]⟩
  clear h1 h2 h3 HC2 HU
  go_wp2_with fail
  go_end0
  exact HE.out

def PopPost (S : SlM) (w0 : World) (o0 : Option Nat) (g : Nat) (l : List Int) (e : Ending) (w' : World) : Prop :=
  e = .returned (.iface 59 (.agg (hdC S (at_ l 0)).toArray)) ∧ ∃ l', HH S w0 o0 w' g l' ∧ Heap l'.length l' ∧ ∀ p, cnt p l = cnt p l' + one p (at_ l 0)

set_option maxHeartbeats 1000000 in
theorem HeapPop_ok {S : SlM} {w0 w : World} {o0 : Option Nat} {g : Nat} {l : List Int} (k : Nat) (h : HH S w0 o0 w g l) (hh : Heap l.length l) (hk : l.length = k + 1) (hl : l.length ≤ 900000) :
    Calls Try.prog 25 #[hpV g] w (PopPost S w0 o0 g l) := by
  have HD := hide (Down.start hh hk)
  have hk0 : 0 < l.length := by omega
  have hkl : k < l.length := by omega
  have H0 := hide h
  have e1 : ((k + 1 : Nat) : Int) - 1 = (k : Int) := by omega
  clear h hh
  go_enter Try.func25, Try.ntmps25
  go_wp2_with fail
  obtain ⟨v, c0, hc⟩ := hLen_ok H0.out
  rw [hk] at hc
  have HC := hide hc
  rw [meth_len c0]
  clear hc c0
  go_wp2_with fail
  refine HC.out.mono ?_
  rintro e w1 ⟨rfl, rfl⟩
  clear HC v
  go_wp2_with fail
  obtain ⟨v, c0, hc⟩ := hSwap_ok 0 k H0.out hk0 hkl
  have HC := hide hc
  rw [meth_swap c0]
  clear hc c0
  go_wp2_with fail
  refine HC.out.mono ?_
  rintro e w2 ⟨rfl, hw2⟩
  have HC2 := hide (down_ok k hw2 (by rw [swapI_len]; omega) HD.out (by rw [swapI_len]; omega))
  clear HC v hw2
  go_wp2_with fail
  refine HC2.out.mono ?_
  rintro e w3 ⟨b, rfl, l', h1, h2, h3, h4⟩
  have hl' : l'.length = k + 1 := by rw [h2.len, swapI_len, hk]
  have HC3 := hide (hPop_ok k h1 hl')
  have HR : Hid (Heap (l'.take k).length (l'.take k) ∧ ∀ p, cnt p l = cnt p (l'.take k) + one p (at_ l 0)) := by
    refine ⟨by rw [List.length_take, hl', Nat.min_eq_left (by omega)]; exact h3.front, fun p => ?_⟩
    rw [← cnt_swap p hk0 hkl, ← h2 p, cnt_front p hl', h4 k (Nat.le_refl _), swapI_r hkl]
  have hy : at_ l' k = at_ l 0 := by rw [h4 k (Nat.le_refl _), swapI_r hkl]
  rw [hy] at HC3
  obtain ⟨u, hu⟩ : ∃ u, u = Value.iface 59 (.agg (hdC S (at_ l 0)).toArray) := ⟨_, rfl⟩
  rw [← hu] at HC3
  have HU := hide hu
  clear h1 h2 h3 h4 HC2 HD hy hu
  go_wp2_with fail
  rw [meth_pop]
  go_wp2_with fail
  refine HC3.out.mono ?_
  rintro e w4 ⟨rfl, hw4⟩
  have HE : Hid (PopPost S w0 o0 g l (.returned u) w4) := ⟨by rw [HU.out], _, hw4, HR.out.1, HR.out.2⟩
  clear hw4 HC3
  go_wp2_with fail
  go_ret
  exact HE.out

end Go.Proofs.Ytncdmecppfmmgaa.HeadHeap
