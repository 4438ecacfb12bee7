/-
  ulog's functions and the document's, called in an open region. 
-/
import Derived.Test.YthgpeegnedocfaaUlLaw
import Derived.Test.YthgpeegnedocfaaEntGrow
namespace Go.Proofs.Ythgpeegnedocfaa.Grow
open Go Go.RowKit TxnMath KeyMath MsgMath Go.Proofs.Ythgpeegnedocfaa
/-- a log of moderate size -/
def Sm (l : List EntT) : Prop := l.length ≤ 10000 ∧ ∀ e ∈ l, EntBnd e
theorem Sm.nil : Sm [] := ⟨by simp, fun e he => by simp at he⟩
theorem Sm.take {l : List EntT} (h : Sm l) (n : Nat) : Sm (l.take n) := ⟨by rw [List.length_take]; have := h.1; omega, fun e he => h.2 e (List.mem_of_mem_take he)⟩
theorem Sm.drop {l : List EntT} (h : Sm l) (n : Nat) : Sm (l.drop n) := ⟨by rw [List.length_drop]; have := h.1; omega, fun e he => h.2 e (List.mem_of_mem_drop he)⟩
variable {l m x : List EntT} {i t z : Int} {b : Bool} {w0 : World}
theorem kTerm (hl : Sm l) (hz : termL l i = z) : ∀ v u w, Gr w0 w → En l v w → Is (.int .i64 i) u w → Calls Try.prog 11 #[v, u] w fun e w' => ∃ u, e = .returned u ∧ Gr w w' ∧ Is (.int .i64 z) u w' := fun v u w _ hv hu => by
  obtain rfl : u = _ := hu
  exact (Term_ok v l i w hv (by have := hl.1; omega)).mono fun e w1 ⟨he, hw⟩ => ⟨_, he, hw ▸ Gr.refl _, by rw [hz]⟩
theorem kHas (hl : Sm l) (hz : hasL l i t = b) : ∀ v u s w, Gr w0 w → En l v w → Is (.int .i64 i) u w → Is (.int .i64 t) s w → Calls Try.prog 13 #[v, u, s] w fun e w' => ∃ u, e = .returned u ∧ Gr w w' ∧ Is (.bool b) u w' := fun v u s w _ hv hu hs => by
  obtain rfl : u = _ := hu
  obtain rfl : s = _ := hs
  exact (Has_ok v l i t w hv (by have := hl.1; omega)).mono fun e w1 ⟨he, hw⟩ => ⟨_, he, hw ▸ Gr.refl _, by rw [hz]⟩
theorem kNewer (hl : Sm l) (hz : newerL l i t = b) : ∀ v u s w, Gr w0 w → En l v w → Is (.int .i64 i) u w → Is (.int .i64 t) s w → Calls Try.prog 18 #[v, u, s] w fun e w' => ∃ u, e = .returned u ∧ Gr w w' ∧ Is (.bool b) u w' := fun v u s w _ hv hu hs => by
  obtain rfl : u = _ := hu
  obtain rfl : s = _ := hs
  exact (Newer_ok v l i t w hv (by have := hl.1; omega)).mono fun e w1 ⟨he, hw⟩ => ⟨_, he, hw ▸ Gr.refl _, by rw [hz]⟩
theorem kJoin (hl : Sm l) (hm : Sm m) (hz : joinL l i m = x) : ∀ v u s w, Gr w0 w → En l v w → Is (.int .i64 i) u w → En m s w → Calls Try.prog 16 #[v, u, s] w fun e w' => ∃ u, e = .returned u ∧ Gr w w' ∧ En x u w' := fun v u s w _ hv hu hs => by
  obtain rfl : u = _ := hu
  exact (Join_ok v s l m i w hv hs hl.1 hm.1 hl.2 hm.2).mono fun e w1 ⟨r, he, ho, hg⟩ => ⟨r, he, hg, hz ▸ ho.entsX⟩
theorem kSame (hl : Sm l) (hm : Sm m) (hz : decide (l = m) = b) : ∀ v u w, Gr w0 w → En l v w → En m u w → Calls Try.prog 20 #[v, u] w fun e w' => ∃ u, e = .returned u ∧ Gr w w' ∧ Is (.bool b) u w' := fun v u w _ hv hu =>
  (Same_ok v u l m w hv hu (by have := hl.1; omega) (by have := hm.1; omega) hl.2 hm.2).mono fun e w1 ⟨he, hg⟩ => ⟨_, he, hg, by rw [hz]⟩
theorem kRefSame (hl : Sm l) (hm : Sm m) (hz : decide (l = m) = b) : ∀ v u w, Gr w0 w → En l v w → En m u w → Calls Try.prog 15 #[v, u] w fun e w' => ∃ u, e = .returned u ∧ Gr w w' ∧ Is (.bool b) u w' := fun v u w _ hv hu =>
  (RefSameEntries_ok v u l m w hv hu (by have := hl.1; omega) hl.2 hm.2).mono fun e w1 ⟨he, hg⟩ => ⟨_, he, hg, by rw [hz]⟩
theorem Sm.join (hl : Sm l) (hm : Sm m) (h : l.length + m.length ≤ 10000) : Sm (joinL l i m) := ⟨Nat.le_trans join_len h, fun e he => (join_mem e he).elim (hl.2 e) (hm.2 e)⟩
theorem kRefTerm (hl : Sm l) (hz : termL l i = z) : ∀ v u w, Gr w0 w → En l v w → Is (.int .i64 i) u w → Calls Try.prog 12 #[v, u] w fun e w' => ∃ u, e = .returned u ∧ Gr w w' ∧ Is (.int .i64 z) u w' := fun v u w _ hv hu => by
  obtain rfl : u = _ := hu
  exact (RefTerm_ok v l i w hv (by have := hl.1; omega)).mono fun e w1 ⟨he, hw⟩ => ⟨_, he, hw ▸ Gr.refl _, by rw [hz]⟩
theorem kRefHas (hl : Sm l) (hz : hasL l i t = b) : ∀ v u s w, Gr w0 w → En l v w → Is (.int .i64 i) u w → Is (.int .i64 t) s w → Calls Try.prog 14 #[v, u, s] w fun e w' => ∃ u, e = .returned u ∧ Gr w w' ∧ Is (.bool b) u w' := fun v u s w _ hv hu hs => by
  obtain rfl : u = _ := hu
  obtain rfl : s = _ := hs
  exact (RefHas_ok v l i t w hv (by have := hl.1; omega)).mono fun e w1 ⟨he, hw⟩ => ⟨_, he, hw ▸ Gr.refl _, by rw [hz]⟩
theorem kRefNewer (hl : Sm l) (hz : newerL l i t = b) : ∀ v u s w, Gr w0 w → En l v w → Is (.int .i64 i) u w → Is (.int .i64 t) s w → Calls Try.prog 19 #[v, u, s] w fun e w' => ∃ u, e = .returned u ∧ Gr w w' ∧ Is (.bool b) u w' := fun v u s w _ hv hu hs => by
  obtain rfl : u = _ := hu
  obtain rfl : s = _ := hs
  exact (RefNewer_ok v l i t w hv (by have := hl.1; omega)).mono fun e w1 ⟨he, hw⟩ => ⟨_, he, hw ▸ Gr.refl _, by rw [hz]⟩
theorem kRefJoin (hl : Sm l) (hm : Sm m) (hz : joinL l i m = x) : ∀ v u s w, Gr w0 w → En l v w → Is (.int .i64 i) u w → En m s w → Calls Try.prog 17 #[v, u, s] w fun e w' => ∃ u, e = .returned u ∧ Gr w w' ∧ En x u w' := fun v u s w _ hv hu hs => by
  obtain rfl : u = _ := hu
  exact (RefJoin_ok v s l m i w hv hs hl.1 hm.1).mono fun e w1 ⟨r, he, ho, hg⟩ => ⟨r, he, hg, hz ▸ ho⟩
end Go.Proofs.Ythgpeegnedocfaa.Grow
