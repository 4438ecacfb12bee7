/-
  'begun' of the statements on key: true.
-/
import Derived.Test.YtkibbggiepggbaaKeyDone
import Derived.Test.YtkibbggiepggbaaKeyRefWithin
namespace Go.Proofs.Ytkibbggiepggbaa
open Go.RowKit KeyMath

theorem strs_new (w : World) (e : TypeId) (ss : List ByteArray) (h : ss.length ≤ maxLen) (hs : ∀ s ∈ ss, s.size ≤ maxLen) : Strs (w.alloc (.cells (ss.map Value.string).toArray e)) (some ⟨w.heap.size, 0, none⟩) ss.length ss := by
  refine ⟨fun j hj => ⟨_, rfl, ?_⟩, Nat.le_refl _, h, hs⟩
  have hb := Bl.new w e (ss.map Value.string).toArray
  have : (⟨w.heap.size, 0, none⟩ : Addr).add j = ⟨w.heap.size, j, none⟩ := by unfold Addr.add; split <;> simp_all
  rw [this, hb.cell j]
  simp [hj]

theorem leK_eq (a b : ByteArray) : leK a b = (Op.bytesLess a.data.toList b.data.toList || a.data.toList == b.data.toList) := by unfold leK; rw [ByteArray.toList_eq, ByteArray.toList_eq]
theorem ltK_eq (a b : ByteArray) : ltK a b = Op.bytesLess a.data.toList b.data.toList := by unfold ltK; rw [ByteArray.toList_eq, ByteArray.toList_eq]
theorem withinK_eq (k f t : ByteArray) : withinK k f t = ((Op.bytesLess f.data.toList k.data.toList || f.data.toList == k.data.toList) && (t.data.toList.isEmpty || Op.bytesLess k.data.toList t.data.toList)) := by
  unfold withinK; rw [leK_eq, ltK_eq, ByteArray.toList_eq]
theorem risingK_eq (l : List ByteArray) : risingK l = (List.range l.length).all fun i => mayK (l.getD i nothing) && (i == 0 || !(Op.bytesLess (l.getD i nothing).data.toList (l.getD (i - 1) nothing).data.toList || (l.getD i nothing).data.toList == (l.getD (i - 1) nothing).data.toList)) := by
  unfold risingK risesTo riseAt
  simp only [leK_eq]

theorem k1 : mayK ⟨#[97]⟩ = true := by decide
theorem k2 : mayK ⟨#[]⟩ = false := by decide
theorem k3 : shardK ⟨#[97]⟩ 3 = 1 := by decide
theorem k4 : withinK ⟨#[98]⟩ ⟨#[97]⟩ ⟨#[99]⟩ = true := by rw [withinK_eq]; decide
theorem k5 : withinK ⟨#[99]⟩ ⟨#[97]⟩ ⟨#[99]⟩ = false := by rw [withinK_eq]; decide
theorem k6 : risingK [⟨#[97]⟩, ⟨#[98]⟩] = true := by rw [risingK_eq]; decide
theorem k7 : risingK [⟨#[98]⟩, ⟨#[97]⟩] = false := by rw [risingK_eq]; decide

set_option maxRecDepth 100000 in
set_option maxHeartbeats 400000 in
theorem begun_ok (w : World) : Calls Try.prog 7 #[] w fun e w' => e = .returned (.bool true) ∧ Gr w w' := by
  go_enter Try.func7, Try.ntmps7
  go_wp2_with fail
  refine (May_ok _ (by decide) _).mono ?_
  rintro e w1 ⟨rfl, hg1⟩
  rw [k1]
  go_wp2_with fail
  refine (May_ok _ (by decide) _).mono ?_
  rintro e w2 ⟨rfl, hg2⟩
  rw [k2]
  go_wp2_with fail
  refine (Shard_ok _ (by decide) 3 (by decide) (by decide) _).mono ?_
  rintro e w3 ⟨rfl, hg3⟩
  rw [k3]
  go_wp2_with fail
  refine (Within_ok _ _ _ _).mono ?_
  rintro e w4 ⟨rfl, hg4⟩
  rw [k4]
  go_wp2_with fail
  refine (Within_ok _ _ _ _).mono ?_
  rintro e w5 ⟨rfl, hg5⟩
  rw [k5]
  go_wp2_with fail
  refine (Rising_ok _ _ _ [⟨#[97]⟩, ⟨#[98]⟩] rfl _ (strs_new w5 9 [⟨#[97]⟩, ⟨#[98]⟩] (by decide) (by decide)) (by decide) (by decide)).mono ?_
  rintro e w6 ⟨rfl, hg6⟩
  rw [k6]
  go_wp2_with fail
  refine (Rising_ok _ _ _ [⟨#[98]⟩, ⟨#[97]⟩] rfl _ (strs_new w6 9 [⟨#[98]⟩, ⟨#[97]⟩] (by decide) (by decide)) (by decide) (by decide)).mono ?_
  rintro e w7 ⟨rfl, hg7⟩
  rw [k7]
  have hg := hg1.trans (hg2.trans (hg3.trans (hg4.trans (hg5.trans (((Gr.refl w5).alloc _).trans (hg6.trans (((Gr.refl w6).alloc _).trans hg7)))))))
  go_wp2_with fail
  go_ret
  exact ⟨rfl, hg⟩

end Go.Proofs.Ytkibbggiepggbaa
