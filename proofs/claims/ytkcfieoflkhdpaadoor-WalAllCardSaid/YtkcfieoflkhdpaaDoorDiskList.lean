/-
  List: the names, rising.
-/
import Derived.Test.YtkcfieoflkhdpaaDoorDiskApp
import Derived.Test.YtkcfieoflkhdpaaDoorIter
namespace Go.Proofs.YtkcfieoflkhdpaaDoor.DiskList
open Go Go.RowKit MapS DiskMem DiskFile DiskHit DiskFind DiskBegin DiskOps KeyMath
set_option maxRecDepth 100000

theorem before_lt : ∀ (a b : List UInt8), bytesBefore a b = true → a < b
  | [], [], h => by simp [bytesBefore] at h
  | [], _ :: _, _ => List.nil_lt_cons _ _
  | _ :: _, [], h => by simp [bytesBefore] at h
  | x :: a, y :: b, h => by
    simp only [bytesBefore, Bool.or_eq_true, Bool.and_eq_true, decide_eq_true_eq, beq_iff_eq] at h
    rw [List.cons_lt_cons_iff]
    rcases h with h | ⟨h1, h2⟩
    · exact .inl h
    · exact .inr ⟨h1, before_lt a b h2⟩

theorem sort_keys {α : Type} {es : KV α} (h : Ris es) {ss : List (List UInt8)} (hp : ss.Perm (es.map (·.1))) : ss.mergeSort (fun x y => decide (x ≤ y)) = es.map (·.1) := by
  rw [Go.mergeSort_of_perm hp]
  refine List.mergeSort_of_pairwise ?_
  rw [List.pairwise_map]
  exact List.Pairwise.imp (fun {a b} hb => by simpa [Go.leB] using List.le_of_lt (before_lt _ _ hb)) h

/-- the names as values -/
def nameV (F : Fs) : List Value := F.map fun p => .string (bs p.1)

theorem List_nil (w : World) : Calls Tryd.prog 14 #[.pointer none] w fun e w' => e = .returned (.slice none 0 0) ∧ w = w' := by
  go_enter Tryd.func14, Tryd.ntmps14
  go_wp2_with fail
  go_ret
  exact ⟨rfl, rfl⟩

set_option maxHeartbeats 400000 in
theorem List_ok {S : Nat → Prop} {w : World} {d room : Nat} {F : Fs} (h : DiskIs S w d room F) (hn : F.length ≤ 1000000000) :
    Calls Tryd.prog 14 #[ptr d] w fun e w' => ∃ v, e = .returned v ∧ Gr w w' ∧ OwnV 9 w' w.heap.size v (nameV F) := by
  obtain ⟨es, m, rfl, hd⟩ := h
  have c2 := hd.bl.cell 2
  simp only [List.getElem?_toArray, List.getElem?_cons_zero, List.getElem?_cons_succ] at c2
  have HK : Hid (∀ W : World, Calls Tryd.prog 27 #[.map m] W fun e w' => e = .returned (.func (.func 44) #[] #[.pointer (some ⟨W.heap.size, 0, none⟩)]) ∧ w' = W.alloc (.cells #[.map m] 45)) := hide fun W => callsIn_wide.1 (Tryd.maps_Keys_27 m W)
  have HS : Hid (Calls Tryd.prog 26 #[.func (.func 44) #[] #[.pointer (some ⟨w.heap.size, 0, none⟩)]] (w.alloc (.cells #[.map m] 45)) fun e w' => ∃ v, e = .returned v ∧ Gr w w' ∧ OwnV 9 w' w.heap.size v (nameV (es.map abs1))) := by
    have fin : ∀ {e : Ending} {w' : World} {v : Value} {ss : List (List UInt8)}, e = .returned v → ss.Perm ((es.map abs1).map (·.1)) → w'.ownsRow (w.alloc (.cells #[.map m] 45)).heap.size 9 1 v ss.length ((ss.mergeSort fun x y => decide (x ≤ y)).map encStr) → Below (w.alloc (.cells #[.map m] 45)).heap.size (w.alloc (.cells #[.map m] 45)) w' →
        ∃ v, e = .returned v ∧ Gr w w' ∧ OwnV 9 w' w.heap.size v (nameV (es.map abs1)) := by
      intro e w' v ss he hp ho hb
      rw [sort_keys hd.ris hp] at ho
      have hl : ss.length = (es.map abs1).length := by rw [hp.length_eq, List.length_map]
      refine ⟨v, he, Gr.trans ((Gr.refl w).alloc _) hb, ?_⟩
      have e2 : ((es.map abs1).map (·.1)).map encStr = nameV (es.map abs1) := by unfold nameV; rw [List.map_map]; rfl
      rw [e2, hl] at ho
      have e3 : (nameV (es.map abs1)).length = (es.map abs1).length := by simp [nameV]
      unfold OwnV
      rw [e3]
      refine ⟨ho.1, ?_⟩
      rcases ho.2 with h2 | ⟨g, cap, cur, hv, hg, r⟩
      · exact .inl h2
      · exact .inr ⟨g, cap, cur, hv, by simp at hg; omega, r⟩
    cases m with
    | none =>
      have he := hd.nil rfl
      subst he
      refine hide ((callsIn_wide.1 (Tryd.slices_Sorted_keys_nil_26_27 w)).mono ?_)
      rintro e w' ⟨v, ss, h1, h2, h3, _, h5⟩
      subst h2
      exact fin h1 (List.Perm.refl _) h3 h5
    | some b =>
      have hown := (hd.mp b rfl).2
      have hsz : Maps.size (dat (refs es)) = es.length := by rw [dat_size]; simp [refs]
      have hlen : es.length ≤ 1000000000 := by simpa using hn
      refine hide ((callsIn_wide.1 (Tryd.slices_Sorted_keys_26_27 b (refs es).length (dat (refs es)) rawE w hown.1 (by rw [hsz]; unfold maxLen; omega) (by rw [hsz]; omega))).mono ?_)
      rintro e w' ⟨v, ss, h1, h2, h3, _, h5⟩
      refine fin h1 ?_ h3 h5
      have e4 : Go.strKeys (dat (refs es)) = (es.map abs1).map (·.1) := by
        unfold dat refs Go.strKeys
        simp only [List.map_map]
        rfl
      rw [← e4]
      exact h2
  clear hd hn
  unfold ptr
  go_enter Tryd.func14, Tryd.ntmps14
  go_wp2_with fail
  refine (HK.out w).mono ?_
  rintro e w1 ⟨rfl, rfl⟩
  go_wp2_with fail
  refine HS.out.mono ?_
  rintro e w1 ⟨v, rfl, hg, ho⟩
  obtain ⟨A, c, hv, _⟩ := ho.is
  subst hv
  have HG := hide hg
  have HO := hide ho
  clear hg ho c2
  go_wp2_with fail
  go_ret
  exact ⟨_, rfl, HG.out, HO.out⟩

end Go.Proofs.YtkcfieoflkhdpaaDoor.DiskList
