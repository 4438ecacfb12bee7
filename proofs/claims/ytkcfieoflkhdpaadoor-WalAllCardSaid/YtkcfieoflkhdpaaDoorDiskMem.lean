/-
  A disk in memory: what its files have, which blocks are its own.
-/
import Derived.Test.YtkcfieoflkhdpaaDoorMapS
import Derived.Test.YtkcfieoflkhdpaaDoorChecked
namespace Go.Proofs.YtkcfieoflkhdpaaDoor.DiskMem
open Go Go.RowKit MapS

/-- what a file has; how many bytes of it are sure -/
structure FileT where
  b : List UInt8
  sure : Nat
/-- a file where it lies -/
structure DEnt where
  name : List UInt8
  g : Nat
  v : Value
  f : FileT
def ptr (g : Nat) : Value := .pointer (some ⟨g, 0, none⟩)
structure FileAt (w : World) (g : Nat) (v : Value) (f : FileT) : Prop where
  bl : Bl w g 79 #[v, .int .i64 f.sure]
  own : OwnE 5 w 0 v f.b
  le : f.sure ≤ f.b.length
  max : f.b.length ≤ 1000000000
abbrev Fs := KV FileT
def abs1 (e : DEnt) : List UInt8 × FileT := (e.name, e.f)
def refs (es : List DEnt) : KV Value := es.map fun e => (e.name, ptr e.g)
def usedF (F : Fs) : Nat := (F.map fun p => p.2.b.length).sum
/-- a name as it must be -/
def okName (s : List UInt8) : Prop := 1 ≤ s.length ∧ s.length ≤ 8 ∧ ∀ c ∈ s, 33 ≤ c.toNat ∧ c.toNat ≤ 126

structure EntAt (S : Nat → Prop) (w : World) (e : DEnt) : Prop where
  file : FileAt w e.g e.v e.f
  name : okName e.name
  g : S e.g
  v : ∀ k, e.v.ownBlock = some k → S k
structure DiskAt (S : Nat → Prop) (w : World) (d : Nat) (room : Nat) (es : List DEnt) (m : Option Nat) : Prop where
  bl : Bl w d 47 #[.int .i64 room, .int .i64 (usedF (es.map abs1)), .map m]
  dd : S d
  nil : m = Option.none → es = []
  mp : ∀ b, m = some b → S b ∧ MapAt Tryd.prog 9 w b (refs es)
  ent : ∀ e ∈ es, EntAt S w e
  apart : es.Pairwise fun e f => e.g ≠ f.g ∧ Sep e.v f.v
  ris : Ris (es.map abs1)
  hroom : (room : Int) ≤ 9223372036854775807
  hused : usedF (es.map abs1) ≤ room
/-- a disk that has just these files -/
def DiskIs (S : Nat → Prop) (w : World) (d : Nat) (room : Nat) (F : Fs) : Prop := ∃ es m, es.map abs1 = F ∧ DiskAt S w d room es m

section
variable {S T : Nat → Prop} {w w' : World} {g d room : Nat} {v : Value} {f : FileT}
theorem FileAt.only (h : FileAt w g v f) (ho : Only S w w') (hg : ¬ S g) (hv : ∀ k, v.ownBlock = some k → ¬ S k) : FileAt w' g v f := ⟨ho.bl h.bl hg, OwnE.only h.own ho hv, h.le, h.max⟩
theorem EntAt.only {e : DEnt} (h : EntAt T w e) (ho : Only S w w') (hg : ¬ S e.g) (hv : ∀ k, e.v.ownBlock = some k → ¬ S k) : EntAt T w' e := ⟨h.file.only ho hg hv, h.name, h.g, h.v⟩
theorem EntAt.mono {e : DEnt} (h : EntAt S w e) (hs : ∀ i, S i → T i) : EntAt T w e := ⟨h.file, h.name, hs _ h.g, fun k hk => hs _ (h.v k hk)⟩
theorem DiskAt.mono {es : List DEnt} {m : Option Nat} (h : DiskAt S w d room es m) (hs : ∀ i, S i → T i) : DiskAt T w d room es m :=
  ⟨h.bl, hs _ h.dd, h.nil, fun b hb => ⟨hs _ (h.mp b hb).1, (h.mp b hb).2⟩, fun e he => (h.ent e he).mono hs, h.apart, h.ris, h.hroom, h.hused⟩
theorem DiskIs.mono {F : Fs} (h : DiskIs S w d room F) (hs : ∀ i, S i → T i) : DiskIs T w d room F := by
  obtain ⟨es, m, e, h⟩ := h
  exact ⟨es, m, e, h.mono hs⟩
/-- bytes don't lie in a block of another type -/
theorem own_ne {e t : TypeId} {B k : Nat} {l : List UInt8} {cs : Array Value} (h : OwnE e w B v l) (hk : v.ownBlock = some k) (hb : Bl w g t cs) (ht : t ≠ e) : k ≠ g := by
  rintro rfl
  rcases h.2 with ⟨rfl, _⟩ | ⟨g', cap, cur, rfl, _, hg, _⟩
  · cases hk
  · injection hk with hk
    subst hk
    rw [hb] at hg
    injection hg with hg
    injection hg with _ hg
    exact ht hg
theorem bl_ne {t t' : TypeId} {k : Nat} {cs cs' : Array Value} (h : Bl w k t cs) (hb : Bl w g t' cs') (ht : t ≠ t') : k ≠ g := by
  rintro rfl
  have h2 := hb.symm.trans h
  injection h2 with h2
  injection h2 with _ h2
  exact ht h2.symm
/-- something else has changed -/
theorem DiskAt.only {es : List DEnt} {m : Option Nat} (h : DiskAt S w d room es m) (ho : Only T w w') (hs : ∀ i, i < w.heap.size → S i → ¬ T i) : DiskAt S w' d room es m := by
  have hv : ∀ e ∈ es, ∀ k, e.v.ownBlock = some k → ¬ T k := fun e he k hk => hs k ((h.ent e he).file.own.lt k hk) ((h.ent e he).v k hk)
  exact ⟨ho.bl h.bl (hs _ h.bl.lt h.dd), h.dd, h.nil, fun b hb => ⟨(h.mp b hb).1, (h.mp b hb).2.only ho (hs _ (h.mp b hb).2.lt (h.mp b hb).1)⟩,
    fun e he => (h.ent e he).only ho (hs _ (h.ent e he).file.bl.lt (h.ent e he).g) (hv e he), h.apart, h.ris, h.hroom, h.hused⟩
theorem DiskIs.only {F : Fs} (h : DiskIs S w d room F) (ho : Only T w w') (hs : ∀ i, i < w.heap.size → S i → ¬ T i) : DiskIs S w' d room F := by
  obtain ⟨es, m, e, h⟩ := h
  exact ⟨es, m, e, h.only ho hs⟩
theorem DiskIs.gr {F : Fs} (h : DiskIs S w d room F) (hg : Gr w w') : DiskIs S w' d room F := h.only (Only.of_gr hg) fun _ _ _ e => e
theorem DiskIs.ris {F : Fs} (h : DiskIs S w d room F) : Ris F := by
  obtain ⟨es, m, rfl, h⟩ := h
  exact h.ris
theorem DiskIs.facts {F : Fs} (h : DiskIs S w d room F) : ∃ m, Bl w d 47 #[.int .i64 room, .int .i64 (usedF F), .map m] ∧ (room : Int) ≤ 9223372036854775807 ∧ usedF F ≤ room ∧ S d := by
  obtain ⟨es, m, rfl, h⟩ := h
  exact ⟨m, h.bl, h.hroom, h.hused, h.dd⟩
theorem DiskIs.lt {F : Fs} (h : DiskIs S w d room F) : d < w.heap.size := by
  obtain ⟨es, m, rfl, h⟩ := h
  exact h.bl.lt

/-- a disk's own blocks are there -/
theorem DiskIs.tight {S : Nat → Prop} {w : World} {d room : Nat} {F : Fs} (h : DiskIs S w d room F) : DiskIs (fun i => S i ∧ i < w.heap.size) w d room F := by
  obtain ⟨es, m, e, h⟩ := h
  exact ⟨es, m, e, h.bl, ⟨h.dd, h.bl.lt⟩, h.nil, fun b hb => ⟨⟨(h.mp b hb).1, (h.mp b hb).2.lt⟩, (h.mp b hb).2⟩, fun e he => ⟨(h.ent e he).file, (h.ent e he).name, ⟨(h.ent e he).g, (h.ent e he).file.bl.lt⟩, fun k hk => ⟨(h.ent e he).v k hk, (h.ent e he).file.own.lt k hk⟩⟩, h.apart, h.ris, h.hroom, h.hused⟩

theorem DiskIs.names {S : Nat → Prop} {w : World} {d room : Nat} {F : Fs} (h : DiskIs S w d room F) : ∀ p ∈ F, okName p.1 := by
  obtain ⟨es, m, rfl, h⟩ := h
  intro p hp
  obtain ⟨e, he, rfl⟩ := List.mem_map.1 hp
  exact (h.ent e he).name

/-- a file of that name, among the others -/
theorem get_split {es : List DEnt} (hr : Ris (es.map abs1)) {s : List UInt8} {x : FileT} (hx : getE (es.map abs1) s = some x) : ∃ l r e, es = l ++ e :: r ∧ e.name = s ∧ e.f = x := by
  obtain ⟨e, he, h2⟩ := List.mem_map.1 ((mem_getE hr).1 hx)
  obtain ⟨l, r, rfl⟩ := List.append_of_mem he
  injection h2 with h3 h4
  exact ⟨l, r, e, rfl, h3, h4⟩
theorem refs_eq (es : List DEnt) (s : List UInt8) : getE (refs es) s = (es.find? fun e => e.name == s).map fun e => ptr e.g := by
  unfold refs getE
  rw [List.find?_map, Option.map_map]
  rfl
theorem abs_eq (es : List DEnt) (s : List UInt8) : getE (es.map abs1) s = (es.find? fun e => e.name == s).map fun e => e.f := by
  unfold getE
  rw [List.find?_map, Option.map_map]
  rfl
theorem find_split {l r : List DEnt} {e : DEnt} (hr : Ris ((l ++ e :: r).map abs1)) : (l ++ e :: r).find? (fun x => x.name == e.name) = some e := by
  rw [List.find?_append]
  have : l.find? (fun x => x.name == e.name) = none := by
    rw [List.find?_eq_none]
    intro x hx h2
    rw [beq_iff_eq] at h2
    unfold Ris at hr
    rw [List.map_append, List.pairwise_append] at hr
    have := hr.2.2 (abs1 x) (List.mem_map.2 ⟨x, hx, rfl⟩) (abs1 e) (by simp)
    simp only [abs1] at this
    rw [h2, WideAt.bytes_irrefl] at this
    cases this
  rw [this]
  simp
theorem usedF_app (a b : Fs) : usedF (a ++ b) = usedF a + usedF b := by simp [usedF]
theorem usedF_cons (p : List UInt8 × FileT) (b : Fs) : usedF (p :: b) = p.2.b.length + usedF b := by simp [usedF]
/-- a file of a rising row is put anew where it stands -/
theorem put_split {α : Type} {l r : KV α} {s : List UInt8} {x y : α} (h : Ris (l ++ (s, x) :: r)) : putE s y (l ++ (s, x) :: r) = l ++ (s, y) :: r := by
  have h2 : Ris (l ++ (s, y) :: r) := by
    unfold Ris at h ⊢
    rw [List.pairwise_append, List.pairwise_cons] at h ⊢
    obtain ⟨h1, ⟨h2, h3⟩, h4⟩ := h
    refine ⟨h1, ⟨h2, h3⟩, fun a ha b hb => ?_⟩
    rcases List.mem_cons.1 hb with rfl | hb
    · exact h4 a ha (s, x) (by simp)
    · exact h4 a ha b (by simp [hb])
  refine ris_ext (h.put _ _) h2 fun p => ?_
  rw [mem_putE]
  have hn := ris_ne h
  rw [List.pairwise_append, List.pairwise_cons] at hn
  obtain ⟨_, ⟨n2, _⟩, n4⟩ := hn
  simp only [List.mem_append, List.mem_cons]
  constructor
  · rintro (rfl | ⟨h5 | rfl | h5, h6⟩)
    · exact .inr (.inl rfl)
    · exact .inl h5
    · exact absurd rfl h6
    · exact .inr (.inr h5)
  · rintro (h5 | rfl | h5)
    · exact .inr ⟨.inl h5, n4 p h5 (s, x) (by simp)⟩
    · exact .inl rfl
    · exact .inr ⟨.inr (.inr h5), (n2 p h5).symm⟩
theorem del_split {α : Type} {l r : KV α} {s : List UInt8} {x : α} (h : Ris (l ++ (s, x) :: r)) : delE s (l ++ (s, x) :: r) = l ++ r := by
  have hn := ris_ne h
  rw [List.pairwise_append, List.pairwise_cons] at hn
  obtain ⟨_, ⟨n2, _⟩, n4⟩ := hn
  unfold delE
  rw [List.filter_append, List.filter_cons]
  simp only [beq_self_eq_true, Bool.not_true, Bool.false_eq_true, if_false]
  rw [List.filter_eq_self.2, List.filter_eq_self.2]
  · intro p hp; simpa using (n2 p hp).symm
  · intro p hp; simpa using n4 p hp (s, x) (by simp)
/-- a new one is put in between -/
theorem put_new {α : Type} {es : KV α} {s : List UInt8} {y : α} (hs : getE es s = none) : ∃ l r, es = l ++ r ∧ putE s y es = l ++ (s, y) :: r := by
  have hd : delE s es = es := by
    unfold delE
    rw [List.filter_eq_self]
    intro p hp
    simpa using getE_none.1 hs p hp
  unfold putE
  rw [hd]
  clear hd hs
  induction es with
  | nil => exact ⟨[], [], rfl, rfl⟩
  | cons z q ih =>
    simp only [insE]
    by_cases hb : bytesBefore s z.1 = true
    · rw [if_pos hb]
      exact ⟨[], z :: q, rfl, rfl⟩
    · rw [if_neg hb]
      obtain ⟨l, r, rfl, e⟩ := ih
      exact ⟨z :: l, r, rfl, by rw [e]; rfl⟩
end

end Go.Proofs.YtkcfieoflkhdpaaDoor.DiskMem
