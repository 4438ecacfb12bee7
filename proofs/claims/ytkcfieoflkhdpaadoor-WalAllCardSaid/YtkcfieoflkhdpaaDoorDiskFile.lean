/-
  A file's own methods, by contract.
-/
import Derived.Test.YtkcfieoflkhdpaaDoorDiskMem
import Derived.Test.YtkcfieoflkhdpaaDoorShelf
import Derived.Test.YtkcfieoflkhdpaaDoorAppTy
namespace Go.Proofs.YtkcfieoflkhdpaaDoor.DiskFile
open Go Go.RowKit MapS DiskMem
set_option maxRecDepth 100000

theorem clone_ok (A : Option Addr) (n c : Nat) (l : List UInt8) (hn : n = l.length) (w : World) (hb : By w A c l) (hl : l.length ≤ 1000000000) :
    Calls Tryd.prog 46 #[.slice A n c] w fun e w' => ∃ v, e = .returned v ∧ OwnE 5 w' w.heap.size v l ∧ Gr w w' := by
  subst hn
  rcases A with _ | ad
  · have : l = [] := by
      cases l with
      | nil => rfl
      | cons b r => obtain ⟨ad, h1, _⟩ := hb.rd 0 (by simp); cases h1
    subst this
    refine (Tryd.bytes_Clone_nil 0 c w).mono ?_
    rintro e w' ⟨rfl, rfl⟩
    exact ⟨_, rfl, OwnE.none_ _ _, Gr.refl _⟩
  · refine (Tryd.bytes_Clone_at ad l.length c (l.map fun b => (b.toNat : Int)) w (by simp) (by omega) (fun i hi => ?_)).mono ?_
    · obtain ⟨ad', h1, h2⟩ := hb.rd i hi
      injection h1 with h1
      subst h1
      rw [h2]
      simp [bv, hi]
    · rintro e w' ⟨v, rfl, h1, _, h3⟩
      refine ⟨v, rfl, ?_, h3⟩
      unfold OwnE bvs
      rw [List.map_map] at h1
      exact h1

/-- what a turn has done to a file -/
def Left (w : World) (g : Nat) (v : Value) (f : FileT) (e : Ending) (w' : World) : Prop :=
  e = .returned (.tuple #[]) ∧ ∃ v', Only (onB g) w w' ∧ FileAt w' g v' f ∧ ∀ k, v'.ownBlock = some k → v.ownBlock = some k ∨ w.heap.size ≤ k

set_option maxHeartbeats 400000 in
theorem leave_ok (g : Nat) (v : Value) (f : FileT) (n : Nat) (w : World) (h : FileAt w g v f) (hn : n ≤ f.b.length) :
    Calls Tryd.prog 36 #[.pointer (some ⟨g, 0, none⟩), .int .i64 n] w (Left w g v ⟨f.b.take n, n⟩) := by
  have H := hide h
  obtain ⟨A, c, rfl, hby⟩ := h.own.by_
  have HB := hide hby
  have hc := hby.le
  have hcm := hby.max
  unfold maxLen at hcm
  have hmax := h.max
  have c0 := h.bl.cell 0
  have c1 := h.bl.cell 1
  have f0 := h.bl.frozen 0
  have f1 := h.bl.frozen 1
  simp only [List.getElem?_toArray, List.getElem?_cons_zero, List.getElem?_cons_succ] at c0 c1
  clear h hby
  by_cases hlt : n < f.b.length
  · have hl : (f.b.take n).length = n := by rw [List.length_take]; omega
    have HL := hide hl
    clear hl
    go_enter Tryd.func36, Tryd.ntmps36
    go_wp2_with fail
    refine (clone_ok A n c (f.b.take n) HL.out.symm w (HB.out.take n) (by rw [HL.out]; omega)).mono ?_
    rintro e w1 ⟨v1, rfl, ho, hg⟩
    obtain ⟨A1, k1, hv1, hb1⟩ := ho.by_
    rw [HL.out] at hv1
    subst hv1
    have HO := hide ho
    have HG := hide hg
    have hbl := H.out.bl.gr hg
    have c0' := hbl.cell 0
    have c1' := hbl.cell 1
    have f0' := hbl.frozen 0
    have f1' := hbl.frozen 1
    have HBL := hide hbl
    simp only [List.getElem?_toArray, List.getElem?_cons_zero, List.getElem?_cons_succ] at c0' c1'
    clear ho hg hbl hb1 c0 c1 f0 f1
    go_wp2_with fail
    go_end0
    have hon : Only (onB g) w w1 := Only.gr HG.out _
    refine ⟨rfl, .slice A1 n k1, ((hon.set1 0 (.slice A1 n k1)).set1 1 (.int .i64 n)), ⟨?_, ?_, by rw [HL.out]; exact Nat.le_refl _, by rw [HL.out]; omega⟩, ?_⟩
    · exact (HBL.out.put 0 _).put 1 _
    · refine OwnE.only (S := onB g) (OwnE.base HO.out (Nat.zero_le _)) (((Only.refl _ w1).set1 _ _).set1 _ _) fun k hk => ?_
      exact own_ne HO.out hk HBL.out (by decide)
    · exact fun k hk => .inr (World.ownsRow.lt HO.out k hk).1
  · have e : n = f.b.length := by omega
    subst e
    go_enter Tryd.func36, Tryd.ntmps36
    go_wp2_with fail
    go_end0
    refine ⟨rfl, _, (Only.refl (onB g) _).set1 _ _, ⟨?_, ?_, ?_, ?_⟩, fun k hk => .inl hk⟩
    · exact H.out.bl.put 1 _
    · rw [List.take_length]
      exact OwnE.only (S := onB g) H.out.own ((Only.refl _ _).set1 _ _) fun k hk => own_ne H.out.own hk H.out.bl (by decide)
    · rw [List.take_length]; exact Nat.le_refl _
    · rw [List.take_length]; exact hmax

/-- what a turn answers, and what it has done to a file; X: what else it may change -/
def Turned (X : Nat → Prop) (w : World) (g : Nat) (v : Value) (r : Int) (f : FileT) (Q : World → Prop) (e : Ending) (w' : World) : Prop :=
  e = .returned (.int .i64 r) ∧ (∃ v', Only (fun i => i = g ∨ v.ownBlock = some i ∨ X i) w w' ∧ FileAt w' g v' f ∧ ∀ k, v'.ownBlock = some k → v.ownBlock = some k ∨ w.heap.size ≤ k) ∧ Q w'
def triv : World → Prop := fun _ => True
theorem Left.turned {X : Nat → Prop} {w w' : World} {g : Nat} {v : Value} {f : FileT} {e : Ending} (h : Left w g v f e w') : e = .returned (.tuple #[]) ∧ Turned X w g v 0 f triv (.returned (.int .i64 0)) w' := by
  obtain ⟨h0, v', h1, h2, h3⟩ := h
  exact ⟨h0, rfl, ⟨v', h1.mono fun i _ e => .inl e, h2, h3⟩, trivial⟩
theorem Turned.same {w : World} {g : Nat} {v : Value} {f : FileT} (h : FileAt w g v f) (r : Int) : Turned noB w g v r f triv (.returned (.int .i64 r)) w :=
  ⟨rfl, ⟨v, Only.refl _ _, h, fun _ hk => .inl hk⟩, trivial⟩

set_option maxHeartbeats 400000 in
theorem sync_ok (g : Nat) (v : Value) (f : FileT) (w : World) (h : FileAt w g v f) :
    Calls Tryd.prog 33 #[.pointer (some ⟨g, 0, none⟩)] w (Turned noB w g v 0 ⟨f.b, f.b.length⟩ triv) := by
  have H := hide h
  obtain ⟨A, c, rfl, hby⟩ := h.own.by_
  have hc := hby.le
  have hcm := hby.max
  unfold maxLen at hcm
  have c0 := h.bl.cell 0
  simp only [List.getElem?_toArray, List.getElem?_cons_zero] at c0
  clear h hby
  go_enter Tryd.func33, Tryd.ntmps33
  go_wp2_with fail
  refine (leave_ok g _ f f.b.length w H.out (Nat.le_refl _)).mono ?_
  intro e w1 hl
  obtain ⟨rfl, ht⟩ := hl.turned (X := noB)
  rw [List.take_length] at ht
  have HT := hide ht
  clear ht hl c0
  go_wp2_with fail
  go_ret
  exact HT.out

set_option maxHeartbeats 400000 in
theorem cut_ok (g : Nat) (v : Value) (f : FileT) (n : Int) (hn : -9223372036854775808 ≤ n ∧ n ≤ 9223372036854775807) (w : World) (h : FileAt w g v f) :
    Calls Tryd.prog 32 #[.int .i64 n, .pointer (some ⟨g, 0, none⟩)] w (if n < 0 ∨ (f.b.length : Int) < n then Turned noB w g v 1 f triv else Turned noB w g v 0 ⟨f.b.take n.toNat, n.toNat⟩ triv) := by
  have H := hide h
  obtain ⟨A, c, rfl, hby⟩ := h.own.by_
  have hc := hby.le
  have hcm := hby.max
  unfold maxLen at hcm
  have c0 := h.bl.cell 0
  simp only [List.getElem?_toArray, List.getElem?_cons_zero] at c0
  clear h hby
  by_cases h0 : n < 0
  · rw [if_pos (.inl h0)]
    have d0 : decide (n < 0) = true := decide_eq_true h0
    go_enter Tryd.func32, Tryd.ntmps32
    go_wp2_with fail
    go_ret
    exact Turned.same H.out 1
  · have d0 : decide (n < 0) = false := decide_eq_false h0
    by_cases h1 : (f.b.length : Int) < n
    · rw [if_pos (.inr h1)]
      go_enter Tryd.func32, Tryd.ntmps32
      go_wp2_with fail
      go_ret
      exact Turned.same H.out 1
    · rw [if_neg (by omega)]
      obtain ⟨k, rfl⟩ : ∃ k : Nat, n = k := ⟨n.toNat, by omega⟩
      rw [Int.toNat_natCast]
      go_enter Tryd.func32, Tryd.ntmps32
      go_wp2_with fail
      refine (leave_ok g _ f k w H.out (by omega)).mono ?_
      intro e w1 hl
      obtain ⟨rfl, ht⟩ := hl.turned (X := noB)
      have HT := hide ht
      clear ht hl c0
      go_wp2_with fail
      go_ret
      exact HT.out

theorem info_u8 : (Tryd.prog.info? 5).map (fun i => (i.zero, i.size, i.bytes)) = some (some (.int .u8 0), 1, 1) := by kernel_rfl

set_option maxHeartbeats 400000 in
theorem add_ok (g : Nat) (v : Value) (f : FileT) (A : Option Addr) (n c : Nat) (l : List UInt8) (hn : n = l.length) (w : World) (h : FileAt w g v f) (hl : By w A c l) (hlen : f.b.length + l.length ≤ 1000000000) :
    Calls Tryd.prog 41 #[.slice A n c, .pointer (some ⟨g, 0, none⟩)] w (Turned noB w g v 0 ⟨f.b ++ l, f.sure⟩ triv) := by
  obtain ⟨i0, hi, hz0, hz1, hz2⟩ := info_parts info_u8
  have H := hide h
  have HL := hide hl
  obtain ⟨A0, c00, rfl, hby⟩ := h.own.by_
  have hc := hby.le
  have hcm := hby.max
  unfold maxLen at hcm
  have c0 := h.bl.cell 0
  have f0 := h.bl.frozen 0
  simp only [List.getElem?_toArray, List.getElem?_cons_zero] at c0
  clear h hby hl
  go_enter Tryd.func41, Tryd.ntmps41
  go_wp2_with (at_builtin; go_loud (refine wpList_app_ty rfl (.tmp 9) (.tmp 10) 33 88 rfl 5 i0 (e' := 5) Tryd.underlying33 Tryd.underlying88 hi hz0 hz1 hz2 hn rfl H.out.own rfl HL.out (by omega) ?_))
  intro v1 w1 h1 h2 h3
  have HN : Hid (∀ k, (Value.slice A0 f.b.length c00).ownBlock = some k → k ≠ g) := hide fun k hk => own_ne H.out.own hk H.out.bl (by decide)
  have HO : Hid (Only (fun i => (Value.slice A0 f.b.length c00).ownBlock = some i) w w1) := hide (Only.of_row h2 fun k hk => hk)
  have hbl := HO.out.bl H.out.bl fun hk => HN.out g hk rfl
  obtain ⟨A1, k1, hv1, hb1⟩ := h1.by_
  rw [List.length_append] at hv1
  subst hv1
  have H1 := hide h1
  have H3 := hide h3
  have c0' := hbl.cell 0
  have f0' := hbl.frozen 0
  have HBL := hide hbl
  simp only [List.getElem?_toArray, List.getElem?_cons_zero] at c0'
  clear h1 h2 h3 hb1 hbl c0 f0
  go_wp2_with fail
  go_ret
  have hle := H.out.le
  refine ⟨rfl, ⟨.slice A1 (f.b.length + l.length) k1, ?_, ⟨?_, ?_, by show f.sure ≤ (f.b ++ l).length; rw [List.length_append]; omega, by show (f.b ++ l).length ≤ _; rw [List.length_append]; omega⟩, ?_⟩, trivial⟩
  · exact (HO.out.mono fun i _ hi => .inr (.inl hi)).set (fun _ => .inl rfl) 0 _
  · exact HBL.out.put 0 _
  · exact OwnE.only (S := onB g) H1.out ((Only.refl _ w1).set1 _ _) fun k hk => own_ne H1.out hk HBL.out (by decide)
  · intro k hk
    rcases H3.out with e | e
    · exact .inl (e ▸ hk)
    · rw [e] at hk
      injection hk with hk
      exact .inr (by omega)

end Go.Proofs.YtkcfieoflkhdpaaDoor.DiskFile
