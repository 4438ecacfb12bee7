/-
  Three files, x, y, z; what two disks have.
-/
import Derived.Test.YteflmockckmciaaDiskCutWalk
namespace Go.Proofs.Yteflmockckmciaa
open Go Go.RowKit MapS DiskMem DiskFile DiskHit DiskFind DiskBegin DiskOps DiskApp DiskList DiskCrash DiskCopy KeyMath
set_option maxRecDepth 100000

def nm (k : Nat) : List UInt8 := if k = 0 then [120] else if k = 1 then [121] else [122]
/-- the files of three that there are -/
def tri (o : Nat → Option FileT) : Fs := ((o 0).map fun f => (nm 0, f)).toList ++ (((o 1).map fun f => (nm 1, f)).toList ++ ((o 2).map fun f => (nm 2, f)).toList)
def updO (o : Nat → Option FileT) (k : Nat) (f : FileT) : Nat → Option FileT := fun j => if j = k then some f else o j
theorem lt3 {k : Nat} (h : k < 3) : k = 0 ∨ k = 1 ∨ k = 2 := by omega
theorem mem_tri {o : Nat → Option FileT} {p : List UInt8 × FileT} : p ∈ tri o ↔ ∃ k, k < 3 ∧ o k = some p.2 ∧ p.1 = nm k := by
  unfold tri
  constructor
  · intro h
    simp only [List.mem_append, Option.mem_toList, Option.map_eq_some_iff] at h
    rcases h with ⟨f, h1, rfl⟩ | ⟨f, h1, rfl⟩ | ⟨f, h1, rfl⟩
    · exact ⟨0, by omega, h1, rfl⟩
    · exact ⟨1, by omega, h1, rfl⟩
    · exact ⟨2, by omega, h1, rfl⟩
  · rintro ⟨k, hk, h1, h2⟩
    simp only [List.mem_append, Option.mem_toList, Option.map_eq_some_iff]
    rcases lt3 hk with rfl | rfl | rfl
    · exact .inl ⟨p.2, h1, by rw [← h2]⟩
    · exact .inr (.inl ⟨p.2, h1, by rw [← h2]⟩)
    · exact .inr (.inr ⟨p.2, h1, by rw [← h2]⟩)
theorem nm_inj {j k : Nat} (hj : j < 3) (hk : k < 3) (h : nm j = nm k) : j = k := by
  rcases lt3 hj with rfl | rfl | rfl <;> rcases lt3 hk with rfl | rfl | rfl <;> first | rfl | (exact absurd h (by decide))
theorem nm_lt {j k : Nat} (hjk : j < k) (hk : k < 3) : bytesBefore (nm j) (nm k) = true := by
  have hj : j < 3 := by omega
  rcases lt3 hj with rfl | rfl | rfl <;> rcases lt3 hk with rfl | rfl | rfl <;> first | decide | omega
theorem ris_tri (o : Nat → Option FileT) : Ris (tri o) := by
  unfold tri Ris
  rcases o 0 with _ | f0 <;> rcases o 1 with _ | f1 <;> rcases o 2 with _ | f2 <;> simp <;> decide
theorem get_tri {o : Nat → Option FileT} {k : Nat} (hk : k < 3) : getE (tri o) (nm k) = o k := by
  cases h : o k with
  | some f => exact (mem_getE (ris_tri o)).2 (mem_tri.2 ⟨k, hk, h, rfl⟩)
  | none =>
    refine getE_none.2 fun p hp e => ?_
    obtain ⟨j, hj, h1, h2⟩ := mem_tri.1 hp
    have := nm_inj hj hk (h2.symm.trans e)
    subst this
    rw [h] at h1
    cases h1
theorem put_tri {o : Nat → Option FileT} {k : Nat} (hk : k < 3) (f : FileT) : putE (nm k) f (tri o) = tri (updO o k f) := by
  refine ris_ext ((ris_tri o).put _ _) (ris_tri _) fun p => ?_
  rw [mem_putE, mem_tri, mem_tri]
  constructor
  · rintro (rfl | ⟨⟨j, hj, h1, h2⟩, h3⟩)
    · exact ⟨k, hk, by simp [updO], rfl⟩
    · refine ⟨j, hj, ?_, h2⟩
      unfold updO
      rw [if_neg (fun e => h3 (by rw [h2, e]))]
      exact h1
  · rintro ⟨j, hj, h1, h2⟩
    unfold updO at h1
    by_cases e : j = k
    · rw [if_pos e] at h1
      injection h1 with h1
      subst e
      exact .inl (Prod.ext h2 h1.symm)
    · rw [if_neg e] at h1
      exact .inr ⟨⟨j, hj, h1, h2⟩, fun e2 => e (nm_inj hj hk (h2.symm.trans e2))⟩
theorem len_tri (o : Nat → Option FileT) : (tri o).length ≤ 3 := by
  unfold tri
  rcases o 0 with _ | f0 <;> rcases o 1 with _ | f1 <;> rcases o 2 with _ | f2 <;> simp
theorem used_tri (o : Nat → Option FileT) : usedF (tri o) = ((o 0).elim 0 fun f => f.b.length) + ((o 1).elim 0 fun f => f.b.length) + ((o 2).elim 0 fun f => f.b.length) := by
  unfold tri
  rcases o 0 with _ | f0 <;> rcases o 1 with _ | f1 <;> rcases o 2 with _ | f2 <;> simp [usedF] <;> omega
theorem used_upd {o : Nat → Option FileT} {k : Nat} (hk : k < 3) (f : FileT) : usedF (tri (updO o k f)) + ((o k).elim 0 fun f => f.b.length) = usedF (tri o) + f.b.length := by
  rw [used_tri, used_tri]
  rcases lt3 hk with rfl | rfl | rfl <;> simp [updO] <;> omega
theorem upd_upd (o : Nat → Option FileT) (k : Nat) (f g : FileT) : updO (updO o k f) k g = updO o k g := by
  funext j
  unfold updO
  by_cases e : j = k <;> simp [e]
theorem tri_none : tri (fun _ => none) = [] := rfl

/-- crashes that say the same of each -/
theorem crash_map (z : Int) : ∀ (zs : List Int) (F : Fs), (∀ j, j < F.length → zs.getD j 0 = z) → crashF zs F = F.map fun p => (p.1, hitF p.2 z)
  | _, [], _ => by simp [crashF]
  | zs, p :: r, h => by
    have h0 := h 0 (by simp)
    have e0 : zs.headD 0 = z := by cases zs <;> simpa using h0
    have e1 := crash_map z zs.tail r fun j hj => by
      have := h (j + 1) (by simpa using hj)
      cases zs with
      | nil => simpa using this
      | cons y t => simpa using this
    simp only [crashF, List.map_cons, e0, e1]

/-- what is known of the three: what each has; what of it is sure -/
def Know3 (o : Nat → Option FileT) (al su : Nat → List UInt8) : Prop := ∀ k, k < 3 → match o k with | none => al k = [] ∧ su k = [] | some f => al k = f.b ∧ su k = f.b.take f.sure
theorem know_start : Know3 (fun _ => none) (fun _ => []) (fun _ => []) := fun _ _ => ⟨rfl, rfl⟩
def updL (al : Nat → List UInt8) (k : Nat) (l : List UInt8) : Nat → List UInt8 := fun j => if j = k then l else al j
/-- the file that is there behind an Append -/
def appO (o : Nat → Option FileT) (k : Nat) (l : List UInt8) : FileT := ⟨((o k).getD f0).b ++ l, ((o k).getD f0).sure⟩
theorem know_app {o : Nat → Option FileT} {al su : Nat → List UInt8} (h : Know3 o al su) (hs : ∀ k f, k < 3 → o k = some f → f.sure ≤ f.b.length) {k : Nat} (hk : k < 3) (l : List UInt8) : Know3 (updO o k (appO o k l)) (updL al k (al k ++ l)) su := by
  intro j hj
  unfold updO updL
  by_cases e : j = k
  · subst e
    simp only [if_true]
    have h1 := h j hj
    unfold appO
    cases ho : o j with
    | none => rw [ho] at h1; simp [h1.1, h1.2, f0]
    | some f =>
      rw [ho] at h1
      have h2 := hs j f hj ho
      simp only [Option.getD_some]
      refine ⟨by rw [h1.1], ?_⟩
      rw [h1.2, List.take_append_of_le_length h2]
  · simp only [if_neg e]
    exact h j hj
theorem know_sync {o : Nat → Option FileT} {al su : Nat → List UInt8} {k : Nat} {f : FileT} (h : Know3 (updO o k f) al su) (hk : k < 3) : Know3 (updO o k ⟨f.b, f.b.length⟩) al (updL su k (al k)) := by
  intro j hj
  have h1 := h j hj
  unfold updO updL at *
  by_cases e : j = k
  · subst e
    simp only [if_true] at h1 ⊢
    exact ⟨h1.1, by rw [List.take_length]; exact h1.1⟩
  · simp only [if_neg e] at h1 ⊢
    exact h1
theorem len_app {o : Nat → Option FileT} {k : Nat} (l : List UInt8) : (appO o k l).b.length = ((o k).elim 0 fun f => f.b.length) + l.length := by
  unfold appO
  cases o k <;> simp [f0]
theorem app_tri {o : Nat → Option FileT} {k : Nat} (hk : k < 3) {s : ByteArray} (hs : s.data.toList = nm k) (hm : mayK s = true) {room : Nat} {l : List UInt8} (hr : usedF (tri o) + l.length ≤ room) : appendF room (tri o) s l = (0, tri (updO o k (appO o k l))) := by
  unfold appendF
  rw [if_pos hm, if_neg (by omega), hs, get_tri hk, put_tri hk]
  rfl
theorem sync_tri {o : Nat → Option FileT} {k : Nat} (hk : k < 3) (f : FileT) : syncF (tri (updO o k f)) (nm k) = (0, tri (updO o k ⟨f.b, f.b.length⟩)) := by
  rw [sync_some (f := f) (by rw [get_tri hk]; simp [updO]), put_tri hk, upd_upd]

theorem sures_of {S : Nat → Prop} {w : World} {d room : Nat} {F : Fs} (h : DiskIs S w d room F) : ∀ p ∈ F, p.2.sure ≤ p.2.b.length ∧ p.2.b.length ≤ 1000000000 := by
  obtain ⟨es, m, rfl, h⟩ := h
  intro p hp
  obtain ⟨e, he, rfl⟩ := List.mem_map.1 hp
  exact ⟨(h.ent e he).file.le, (h.ent e he).file.max⟩
theorem sures_tri {S : Nat → Prop} {w : World} {d room : Nat} {o : Nat → Option FileT} (h : DiskIs S w d room (tri o)) : ∀ k f, k < 3 → o k = some f → f.sure ≤ f.b.length := fun k f hk ho => (sures_of h (nm k, f) (mem_tri.2 ⟨k, hk, ho, rfl⟩)).1
theorem used_app {o : Nat → Option FileT} {k : Nat} (hk : k < 3) (l : List UInt8) (f : FileT) (hf : f.b = (appO o k l).b) : usedF (tri (updO o k f)) = usedF (tri o) + l.length := by
  have h1 := used_upd (o := o) hk f
  have h2 := len_app (o := o) (k := k) l
  rw [hf] at h1
  omega
theorem tri_map (o : Nat → Option FileT) (g : FileT → FileT) : (tri o).map (fun p => (p.1, g p.2)) = tri (fun k => (o k).map g) := by
  unfold tri
  cases h0 : o 0 <;> cases h1 : o 1 <;> cases h2 : o 2 <;> simp [h0, h1, h2]
/-- all that a file has -/
def hasL (o : Option FileT) : List UInt8 := o.elim [] fun f => f.b
theorem hit_great {f : FileT} (h : f.sure ≤ f.b.length) (hb : f.b.length ≤ 1048576) : (hitF f 1048576).b = f.b := by
  unfold hitF
  simp only
  rw [List.take_of_length_le]
  omega
theorem hit_none {f : FileT} : (hitF f 0).b = f.b.take f.sure := by
  unfold hitF
  simp
theorem know_great {o : Nat → Option FileT} {al su : Nat → List UInt8} (h : Know3 o al su) (hs : ∀ k f, k < 3 → o k = some f → f.sure ≤ f.b.length) (hl : ∀ k, k < 3 → (al k).length ≤ 1048576) {k : Nat} (hk : k < 3) : hasL ((o k).map (hitF · 1048576)) = al k := by
  have h1 := h k hk
  cases ho : o k with
  | none => rw [ho] at h1; exact h1.1.symm
  | some f =>
    rw [ho] at h1
    have h2 := hl k hk
    rw [h1.1] at h2
    exact (hit_great (hs k f hk ho) h2).trans h1.1.symm
theorem know_none {o : Nat → Option FileT} {al su : Nat → List UInt8} (h : Know3 o al su) {k : Nat} (hk : k < 3) : hasL ((o k).map (hitF · 0)) = su k := by
  have h1 := h k hk
  cases ho : o k with
  | none => rw [ho] at h1; exact h1.2.symm
  | some f => rw [ho] at h1; exact hit_none.trans h1.2.symm
theorem crash_great (o : Nat → Option FileT) : crashF [1048576, 1048576, 1048576] (tri o) = tri (fun k => (o k).map (hitF · 1048576)) := by
  refine (crash_map 1048576 _ _ ?_).trans (tri_map o (hitF · 1048576))
  intro j hj
  have := len_tri o
  rcases lt3 (show j < 3 by omega) with rfl | rfl | rfl <;> rfl
theorem crash_none (o : Nat → Option FileT) : crashF [] (tri o) = tri (fun k => (o k).map (hitF · 0)) := by
  refine (crash_map 0 _ _ ?_).trans (tri_map o (hitF · 0))
  intro j _
  rfl

/-- what Read hands over reads as all of the file -/
theorem Read_has {S : Nat → Prop} {w : World} {d room : Nat} {F : Fs} (h : DiskIs S w d room F) {s : ByteArray} (hs : s.size ≤ maxLen) :
    Calls Try.prog 20 #[.pointer (some ⟨d, 0, none⟩), .string s] w fun e w' => Gr w w' ∧ ∃ A n c ok, e = .returned (.tuple #[.slice A n c, .bool ok]) ∧ n = (hasL (getE F s.data.toList)).length ∧ Rd w' A (hasL (getE F s.data.toList)) := by
  refine (Read_ok h hs).mono ?_
  rintro e w' ⟨hg, hr⟩
  refine ⟨hg, ?_⟩
  cases hf : getE F s.data.toList with
  | none =>
    rw [hf] at hr
    exact ⟨none, 0, 0, false, hr, rfl, Rd.nil _ _⟩
  | some f =>
    rw [hf] at hr
    obtain ⟨v, h1, h2⟩ := hr
    obtain ⟨A, c, rfl, hb⟩ := h2.by_
    exact ⟨A, _, c, true, h1, rfl, hb.rd⟩

end Go.Proofs.Yteflmockckmciaa
