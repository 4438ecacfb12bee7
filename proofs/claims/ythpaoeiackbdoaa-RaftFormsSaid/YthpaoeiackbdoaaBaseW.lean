/-
  Words for memory over any program: bytes, rows, blocks, what came in. No program of its own.
-/
import Derived.WalkKit
import Derived.WalkSpells
import Derived.WalkLawsBesides
import Derived.Lib.AppendStr
import Derived.Laws.AppendOwnNone
import Derived.Deep.QuietTactic
import Derived.BigQuiet
import Derived.SliceStrings
import Derived.ProofKit
import Derived.OpenShut
import Derived.Maps.AppendAt
import Derived.Deep.Slices
import Derived.SizedLaws
import Derived.Deep.Fields

/-
  Words for bytes in memory, over any program: a slice that reads as a list of bytes; what the call itself made; that a world has only grown. No program of its own.
-/
namespace Go.Proofs.Ythpaoeiackbdoaa
open Go.RowKit

/-- a byte as a value -/
def bv (b : UInt8) : Value := .int .u8 (b.toNat : Int)
def bvs (l : List UInt8) : List Value := l.map bv

theorem bvs_len (l : List UInt8) : (bvs l).length = l.length := by simp [bvs]
theorem bvs_app (l r : List UInt8) : bvs (l ++ r) = bvs l ++ bvs r := by simp [bvs]
theorem bvs_one (l : List UInt8) : ∀ u ∈ bvs l, u.oneCell' = true := by
  intro u hu
  simp only [bvs, List.mem_map] at hu
  obtain ⟨b, _, rfl⟩ := hu
  rfl

/-- the world has only grown: what was there is as it was -/
def Gr (w w' : World) : Prop := Below w.heap.size w w'
theorem Gr.refl (w : World) : Gr w w := Below.refl _ _
theorem Gr.trans {a b c : World} (h : Gr a b) (k : Gr b c) : Gr a c := Below.trans h (Below.mono k h.size)
theorem Gr.alloc {a w : World} (h : Gr a w) (o : Obj) : Gr a (w.alloc o) := Below.alloc h h.size o
theorem Gr.drew {a w : World} (h : Gr a w) : Gr a w.drew := Below.drew h
theorem Gr.below {a w : World} (h : Gr a w) : Below a.heap.size a w := h

/-- bytes that the call owns from block B on ('e': the byte's type) -/
def OwnE (e : TypeId) (w : World) (B : Nat) (v : Value) (l : List UInt8) : Prop := w.ownsRow B e 1 v l.length (bvs l)

section
variable {P : Program} {e : TypeId} {w w' : World} {B : Nat} {v : Value} {l : List UInt8}

theorem OwnE.none_ (w : World) (B : Nat) : OwnE e w B (.slice none 0 0) [] := World.ownsRow_nil _ _ _ _
theorem OwnE.alloc (h : OwnE e w B v l) (o : Obj) : OwnE e (w.alloc o) B v l := World.ownsRow.alloc h o
theorem OwnE.gr (h : OwnE e w B v l) (hg : Gr w w') : OwnE e w' B v l :=
  World.ownsRow.kept (row := none) h ⟨hg.os, hg.tape, hg.output, hg.size, fun k hk _ => hg.block k hk⟩ (by cases hv : v.ownBlock <;> simp)
theorem OwnE.base (h : OwnE e w B v l) {B' : Nat} (hB : B' ≤ B) : OwnE e w B' v l := by
  refine ⟨h.1, ?_⟩
  rcases h.2 with h2 | ⟨g, cap, cur, hv, hg, r⟩
  · exact .inl h2
  · exact .inr ⟨g, cap, cur, hv, by omega, r⟩

/-- one byte more: 'append(own, x)', x in a new block of its own -/
theorem wpList_push {ops : Array Oper} {rest : List Oper} {o : Oper} {a : Act} {Q : Exit → Act → World → Prop} (hgd : o.guard = none) (s x : Operand) (t : TypeId)
    (ho : o.op = .call { callee := .builtin .append, args := #[s, x], argTypes := #[t, t] }) (e : TypeId) (i : TypeInfo) (ht : P.underlying t = some (.slice e)) (hi : P.info? e = some i)
    (hz : i.zero = some (.int .u8 0)) (hsize : i.size = 1) (hby : i.bytes = 1) {w0 w : World} {b : UInt8} {X : Int} (hX : Hid (X = (b.toNat : Int)))
    (hs : a.eval s = v) (hown : OwnE e w w0.heap.size v l) (hgr : Gr w0 w)
    (hx : a.eval x = .slice (some ⟨w.heap.size, 0, none⟩) 1 1) (hl : l.length ≤ 1000000000)
    (h : ∀ v' w', OwnE e w' w0.heap.size v' (l ++ [b]) → Gr w0 w' → wpList P ops Q rest (a.put o.dst v') w') : wpList P ops Q (o :: rest) a (w.alloc (.cells #[.int .u8 X] e)) := by
  have hX' : X = (b.toNat : Int) := hX
  subst hX'
  refine wpList_append_own _ hgd s x t ho w0.heap.size e i _ 1 1 ht hi hz hsize hby rfl (by decide) v l.length (bvs l) hs (hown.alloc _) ⟨w.heap.size, 0, none⟩ 1 1 (bvs [b]) hx rfl ?_ (bvs_one _)
    (by unfold maxLen; omega) (by omega) (Nat.le_trans hgr.size (by simp)) ?_
  · intro j u hj
    match j, hj with
    | 0, hj => simp [bvs, bv] at hj; subst hj; simp [Addr.add]
  · intro v' w' h1 h2 _
    refine h v' w' (by unfold OwnE; rw [bvs_app, List.length_append]; exact h1) ((hgr.alloc _).below.grown h2 (Nat.le_trans hgr.size (by simp)) fun k hk => (World.ownsRow.lt hown k hk).1)
end

/-- the address A reads as the bytes l -/
def Rd (w : World) (A : Option Addr) (l : List UInt8) : Prop := ∀ j (h : j < l.length), ∃ ad, A = some ad ∧ w.cell? (ad.add j) = some (bv l[j])

theorem Rd.nil (w : World) (A : Option Addr) : Rd w A [] := fun j h => absurd h (by simp)
theorem Rd.of_cells {w w' : World} {A : Option Addr} {l : List UInt8} (h : Rd w A l) (hk : ∀ (p : Addr) v, w.cell? p = some v → w'.cell? p = some v) : Rd w' A l := fun j hj => by
  obtain ⟨ad, h1, h2⟩ := h j hj
  exact ⟨ad, h1, hk _ _ h2⟩
theorem gr_cell {w w' : World} (hg : Gr w w') (p : Addr) (v : Value) (h : w.cell? p = some v) : w'.cell? p = some v :=
  (hg.below.cell (World.block_lt_of_cell? w p h)).trans h
theorem Rd.gr {w w' : World} {A : Option Addr} {l : List UInt8} (h : Rd w A l) (hg : Gr w w') : Rd w' A l := h.of_cells (gr_cell hg)
theorem Rd.take {w : World} {A : Option Addr} {l : List UInt8} (h : Rd w A l) (k : Nat) : Rd w A (l.take k) := fun j hj => by
  have hj' : j < l.length := by rw [List.length_take] at hj; omega
  obtain ⟨ad, h1, h2⟩ := h j hj'
  exact ⟨ad, h1, by rw [List.getElem_take]; exact h2⟩
/-- what the call owns reads so -/
theorem OwnE.rd {e : TypeId} {w : World} {B : Nat} {v : Value} {l : List UInt8} (h : OwnE e w B v l) : ∃ A c, v = .slice A l.length c ∧ Rd w A l ∧ l.length ≤ c ∧ c ≤ maxLen ∧ (A = none → l = [] ∧ c = 0) := by
  rcases h.2 with ⟨rfl, hn⟩ | ⟨g, cap, cur, rfl, hb, hg, hnc, hm, hs, ht⟩
  · have : l = [] := List.eq_nil_of_length_eq_zero hn
    subst this
    exact ⟨none, 0, rfl, Rd.nil _ _, by simp, by simp [maxLen], fun _ => ⟨rfl, rfl⟩⟩
  · refine ⟨some ⟨g, 0, none⟩, cap, rfl, fun j hj => ⟨_, rfl, ?_⟩, hnc, hm, fun h => by cases h⟩
    exact World.ownsRow.cells h (g := g) rfl j _ (by simp [bvs, hj])

/-- only block g has changed, and what is new -/
def But (w w' : World) (g : Nat) : Prop := w.grownBy w' (some g)
theorem But.refl (w : World) (g : Nat) : But w w g := World.grownBy.refl w _
theorem But.drewN {a w : World} {g : Nat} (h : But a w g) (n : Nat) : But a (w.drewN n) g := ⟨h.os, h.tape, h.output, h.size, h.block⟩
theorem But.alloc {a w : World} {g : Nat} (h : But a w g) (o : Obj) : But a (w.alloc o) g :=
  ⟨h.os, h.tape, h.output, Nat.le_trans h.size (by simp), fun i hi hne => (Below.heap_alloc w o i (Nat.lt_of_lt_of_le hi h.size)).trans (h.block i hi hne)⟩
theorem But.set {a w : World} {g : Nat} (h : But a w g) (i : Nat) (u : Value) : But a (w.setCell ⟨g, i, none⟩ u) g :=
  ⟨h.os, h.tape, h.output, by simpa [World.setCell] using h.size, fun k hk hne => (Below.heap_setCell w ⟨g, i, none⟩ u k (fun e => hne (by rw [e]))).trans (h.block k hk hne)⟩
theorem But.cell {a w : World} {g : Nat} (h : But a w g) {p : Addr} {v : Value} (hc : a.cell? p = some v) (hne : p.block ≠ g) : w.cell? p = some v :=
  World.grownBy.cell h hc (by simpa using hne)

/-- block g is just these cells -/
def Bl (w : World) (g : Nat) (t : TypeId) (cs : Array Value) : Prop := w.heap[g]? = some (.cells cs t (0, 0))
theorem Bl.cell {w : World} {g : Nat} {t : TypeId} {cs : Array Value} (h : Bl w g t cs) (i : Nat) : w.cell? ⟨g, i, none⟩ = cs[i]? := cell_of_row w g i cs t (0, 0) h
theorem Bl.frozen {w : World} {g : Nat} {t : TypeId} {cs : Array Value} (h : Bl w g t cs) (i : Nat) : w.frozen? ⟨g, i, none⟩ = false := by
  unfold Bl at h
  simp [World.frozen?, h]
theorem Bl.new (w : World) (t : TypeId) (cs : Array Value) : Bl (w.alloc (.cells cs t)) w.heap.size t cs := heap_alloc_new w _
theorem Bl.drewN {w : World} {g : Nat} {t : TypeId} {cs : Array Value} (h : Bl w g t cs) (n : Nat) : Bl (w.drewN n) g t cs := h
theorem Bl.put {w : World} {g : Nat} {t : TypeId} {cs : Array Value} (h : Bl w g t cs) (i : Nat) (u : Value) : Bl (w.setCell ⟨g, i, none⟩ u) g t (cs.setIfInBounds i u) := by
  unfold Bl at h ⊢
  simp [World.setCell, Array.getElem?_modify, h]
theorem Bl.lt {w : World} {g : Nat} {t : TypeId} {cs : Array Value} (h : Bl w g t cs) : g < w.heap.size := (Array.getElem?_eq_some_iff.1 h).1
theorem Bl.gr {w w' : World} {g : Nat} {t : TypeId} {cs : Array Value} (h : Bl w g t cs) (hg : Gr w w') : Bl w' g t cs := (hg.block g h.lt).trans h

theorem add_block (a : Addr) (n : Nat) : (a.add n).block = a.block := by unfold Addr.add; split <;> rfl
theorem add_add (a : Addr) (i j : Nat) : (a.add i).add j = a.add (i + j) := by
  unfold Addr.add
  by_cases hi : i = 0 <;> by_cases hj : j = 0 <;> simp [hi, hj, Nat.add_assoc]
/-- a fact that the walk is not to see -/
theorem hide {p : Prop} (h : p) : Hid p := h

/-- bytes as a string -/
def bs (l : List UInt8) : ByteArray := ⟨l.toArray⟩
theorem bs_size (l : List UInt8) : (bs l).size = l.length := by simp [bs, ByteArray.size]
theorem bs_list (l : List UInt8) : (bs l).data.toList = l := by simp [bs]
theorem bs_of (s : ByteArray) : bs s.data.toList = s := by simp [bs]
theorem bs_inj {a b : List UInt8} (h : bs a = bs b) : a = b := by
  have := congrArg (fun s : ByteArray => s.data.toList) h
  simpa [bs] using this

/-- 'string(b)' -/
theorem run_conv {P : Program} (w : World) (src dst e : TypeId) (hs : P.underlying src = some (.slice e)) (he : P.underlying e = some (.int .u8)) (hd : P.underlying dst = some .string)
    {A : Option Addr} {l : List UInt8} (n c : Nat) (hn : l.length = n) (h : Rd w A l) : (convert src dst (.slice A n c)).run P w = .ok (.string (bs l)) w := by
  subst hn
  rcases A with _ | ad
  · have : l = [] := by
      cases l with
      | nil => rfl
      | cons b r => obtain ⟨ad, h1, _⟩ := h 0 (by simp); cases h1
    subst this
    exact run_convert_bytes_nil w src e hs he _ _ dst hd
  · have hl : (loadCells ad l.length).run P w = .ok ((l.map fun b => (b.toNat : Int)).map (Value.int .u8)).toArray w := by
      have := run_loadCells_list (P := P) w ad (bvs l) (fun j v hj => by
        simp only [bvs, List.getElem?_map, Option.map_eq_some_iff] at hj
        obtain ⟨b, hb, rfl⟩ := hj
        obtain ⟨hj', rfl⟩ := List.getElem?_eq_some_iff.1 hb
        obtain ⟨ad', h1, h2⟩ := h j hj'
        injection h1 with h1
        subst h1
        exact h2)
      rw [bvs_len] at this
      rw [this]
      simp [bvs, bv, Function.comp_def]
    rw [run_convert_bytes_string w src dst e _ l.length c hs he hd, run_bytesToString w ad l.length c _ hl, foldl_push_bytes]
    simp [bs, ByteArray.empty, ByteArray.emptyWithCapacity, Function.comp_def]
    rfl

theorem Rd.drewN {w : World} {A : Option Addr} {l : List UInt8} (h : Rd w A l) (n : Nat) : Rd (w.drewN n) A l := h
/-- bytes that do not lie in block g -/
def Off (g : Nat) (A : Option Addr) (l : List UInt8) : Prop := 0 < l.length → ∀ ad, A = some ad → ad.block ≠ g
theorem Rd.but {w w' : World} {g : Nat} {A : Option Addr} {l : List UInt8} (h : Rd w A l) (hb : But w w' g) (ho : Off g A l) : Rd w' A l := fun j hj => by
  obtain ⟨ad, h1, h2⟩ := h j hj
  exact ⟨ad, h1, hb.cell h2 (by rw [add_block]; exact ho (by omega) _ h1)⟩
theorem Rd.off {w : World} {A : Option Addr} {l : List UInt8} (h : Rd w A l) : Off w.heap.size A l := fun hl ad hA => by
  obtain ⟨ad', h1, h2⟩ := h 0 hl
  rw [hA] at h1
  injection h1 with h1
  subst h1
  have := World.block_lt_of_cell? w _ h2
  rw [add_block] at this
  omega
/-- a cut, as the model makes it -/
theorem Rd.cut {w : World} {A : Option Addr} {l : List UInt8} (h : Rd w A l) (i j cap : Nat) (hij : i ≤ j) (hj : j ≤ l.length) (hc : l.length ≤ cap) :
    Rd w (if cap = i then A else A.map (·.add i)) ((l.drop i).take (j - i)) := fun k hk => by
  rw [List.length_take, List.length_drop] at hk
  obtain ⟨ad, rfl, h2⟩ := h (i + k) (by omega)
  rw [if_neg (by omega)]
  refine ⟨ad.add i, rfl, ?_⟩
  rw [add_add, h2]
  simp

/-- one conversion in a region that is walked once -/
theorem quiet_conv {P : Program} {ops : Array Oper} {C : World → Prop} {Q : Act → Prop} {a : Act} {o : Oper} {rest : List Oper} (hg : o.guard = none) (src dst : TypeId) (x : Operand) (ho : o.op = .convert src dst x)
    {v u : Value} (hx : a.eval x = v) (hc : ∀ w, C w → (convert src dst v).run P w = .ok u w) (h : wpQuiet P ops C Q rest (a.put o.dst u)) : wpQuiet P ops C Q (o :: rest) a := by
  unfold wpQuiet
  rw [if_pos (by simp [Region.wanted, hg])]
  refine ⟨u, fun w hw => ?_, h⟩
  unfold Oper.quietAt execOp
  simp [ho, hx, hc w hw, Oper.quietUpon, Result.andThen]

theorem But.gr {w w' : World} {o : Obj} (h : But (w.alloc o) w' w.heap.size) : Gr w w' :=
  Below.trans (Gr.alloc (Gr.refl w) o) ⟨h.os, h.tape, h.output, h.size, fun k hk => h.block k (by simp; omega) (by simp; omega)⟩

section
variable {P : Program} {e : TypeId} {v : Value} {l : List UInt8}

theorem strCells_bvs (s : ByteArray) : Lib.strCells s = bvs s.data.toList := rfl

/-- 'append(own, s...)', s a string -/
theorem wpList_app_str {ops : Array Oper} {rest : List Oper} {o : Oper} {a : Act} {Q : Exit → Act → World → Prop} (hgd : o.guard = none) (sl x : Operand) (t u : TypeId)
    (ho : o.op = .call { callee := .builtin .append, args := #[sl, x], argTypes := #[t, u] }) (e : TypeId) (i : TypeInfo) (ht : P.underlying t = some (.slice e)) (hu : P.underlying u = some .string) (hi : P.info? e = some i)
    (hz : i.zero = some (.int .u8 0)) (hsize : i.size = 1) (hby : i.bytes = 1) {w0 w : World} (s : ByteArray)
    (hs : a.eval sl = v) (hown : OwnE e w w0.heap.size v l) (hgr : Gr w0 w) (hx : a.eval x = .string s) (hl : l.length + s.size ≤ 1000000000)
    (h : ∀ v' w', OwnE e w' w0.heap.size v' (l ++ s.data.toList) → Gr w0 w' → wpList P ops Q rest (a.put o.dst v') w') : wpList P ops Q (o :: rest) a w := by
  refine Lib.wpList_append_own_string w hgd sl x t u ho w0.heap.size e i ht hu hi hz hsize hby v l.length (bvs l) hs hown s hx (by unfold maxLen; omega) (by omega) hgr.size ?_
  intro v' w' h1 h2 _
  refine h v' w' ?_ (hgr.below.grown h2 hgr.size fun k hk => (World.ownsRow.lt hown k hk).1)
  unfold OwnE
  rw [bvs_app, List.length_append, ← strCells_bvs]
  have : s.data.toList.length = s.size := by rw [Array.length_toList]; rfl
  rw [this]
  exact h1

/-- 'append(own, r...)', r bytes that lie somewhere -/
theorem wpList_app {ops : Array Oper} {rest : List Oper} {o : Oper} {a : Act} {Q : Exit → Act → World → Prop} (hgd : o.guard = none) (sl x : Operand) (t : TypeId)
    (ho : o.op = .call { callee := .builtin .append, args := #[sl, x], argTypes := #[t, t] }) (e : TypeId) (i : TypeInfo) (ht : P.underlying t = some (.slice e)) (hi : P.info? e = some i)
    (hz : i.zero = some (.int .u8 0)) (hsize : i.size = 1) (hby : i.bytes = 1) {w0 w : World} {A : Option Addr} {m c : Nat} {r : List UInt8} (hm : m = r.length)
    (hs : a.eval sl = v) (hown : OwnE e w w0.heap.size v l) (hgr : Gr w0 w) (hx : a.eval x = .slice A m c) (hr : Rd w A r) (hc0 : A = none → c = 0) (hl : l.length + r.length ≤ 1000000000)
    (h : ∀ v' w', OwnE e w' w0.heap.size v' (l ++ r) → Gr w0 w' → wpList P ops Q rest (a.put o.dst v') w') : wpList P ops Q (o :: rest) a w := by
  subst hm
  have hcells : ∀ ad, A = some ad → ∀ j u, (bvs r)[j]? = some u → w.cell? (ad.add j) = some u := fun ad hA j u hj => by
    simp only [bvs, List.getElem?_map, Option.map_eq_some_iff] at hj
    obtain ⟨b, hb, rfl⟩ := hj
    obtain ⟨hj', rfl⟩ := List.getElem?_eq_some_iff.1 hb
    obtain ⟨ad', h1, h2⟩ := hr j hj'
    rw [hA] at h1
    injection h1 with h1
    subst h1
    exact h2
  rcases A with _ | ad
  · have hr0 : r = [] := by
      cases r with
      | nil => rfl
      | cons b r => obtain ⟨ad, h1, _⟩ := hr 0 (by simp); cases h1
    subst hr0
    have hc := hc0 rfl
    subst hc
    exact wpList_append_own_none hgd sl x t ho w0.heap.size e i 1 ht hi v l.length (bvs l) hs hown hx (h v w (by simpa using hown) hgr)
  · refine wpList_append_own _ hgd sl x t ho w0.heap.size e i _ 1 1 ht hi hz hsize hby rfl (by decide) v l.length (bvs l) hs hown ad r.length c (bvs r) hx (by simp [bvs]) (hcells ad rfl) (bvs_one _)
      (by unfold maxLen; omega) (by omega) hgr.size ?_
    intro v' w' h1 h2 _
    refine h v' w' (by unfold OwnE; rw [bvs_app, List.length_append]; exact h1) (hgr.below.grown h2 hgr.size fun k hk => (World.ownsRow.lt hown k hk).1)
end

/-- the slice '.slice A l.length c' reads as the bytes l -/
structure By (w : World) (A : Option Addr) (c : Nat) (l : List UInt8) : Prop where
  rd : Rd w A l
  le : l.length ≤ c
  max : c ≤ maxLen
  nil : A = none → c = 0
theorem By.gr {w w' : World} {A : Option Addr} {c : Nat} {l : List UInt8} (h : By w A c l) (hg : Gr w w') : By w' A c l := ⟨h.rd.gr hg, h.le, h.max, h.nil⟩
theorem By.drewN {w : World} {A : Option Addr} {c : Nat} {l : List UInt8} (h : By w A c l) (n : Nat) : By (w.drewN n) A c l := ⟨h.rd, h.le, h.max, h.nil⟩
theorem By.cut {w : World} {A : Option Addr} {c : Nat} {l : List UInt8} (h : By w A c l) (i j : Nat) (hij : i ≤ j) (hj : j ≤ l.length) :
    By w (if c = i then A else A.map (·.add i)) (c - i) ((l.drop i).take (j - i)) := by
  refine ⟨h.rd.cut i j c hij hj h.le, ?_, ?_, fun e => ?_⟩
  · have := h.le; rw [List.length_take, List.length_drop]; omega
  · have := h.max; omega
  · split at e
    · omega
    · rcases A with _ | a
      · have := h.nil rfl; omega
      · cases e
theorem OwnE.by_ {e : TypeId} {w : World} {B : Nat} {v : Value} {l : List UInt8} (h : OwnE e w B v l) : ∃ A c, v = .slice A l.length c ∧ By w A c l := by
  obtain ⟨A, c, rfl, h1, h2, h3, h4⟩ := h.rd
  exact ⟨A, c, rfl, h1, h2, h3, fun e => (h4 e).2⟩

/-- a conversion in a plain region -/
theorem wpList_conv {P : Program} {ops : Array Oper} {rest : List Oper} {o : Oper} {a : Act} {w : World} {Q : Exit → Act → World → Prop} (hgd : o.guard = none) (src dst : TypeId) (x : Operand) (ho : o.op = .convert src dst x)
    {v u : Value} (hx : a.eval x = v) (hc : (convert src dst v).run P w = .ok u w) (h : wpList P ops Q rest (a.put o.dst u) w) : wpList P ops Q (o :: rest) a w := by
  refine wpList_plain hgd fun K hK => ?_
  unfold Oper.wp execOp
  simp only [ho, hx]
  rw [Sem.run_bind, hc]
  exact hK _ _ h

end Go.Proofs.Ythpaoeiackbdoaa

/-
  More words for bytes in memory. No program.
-/
namespace Go.Proofs.Ythpaoeiackbdoaa
open Go.RowKit

/-- a new block of just these bytes -/
theorem by_new (w : World) (e : TypeId) (l : List UInt8) (h : l.length ≤ maxLen) : By (w.alloc (.cells (bvs l).toArray e)) (some ⟨w.heap.size, 0, none⟩) l.length l := by
  refine ⟨fun j hj => ⟨_, rfl, ?_⟩, Nat.le_refl _, h, fun h => by cases h⟩
  · have hb := Bl.new w e (bvs l).toArray
    have : (⟨w.heap.size, 0, none⟩ : Addr).add j = ⟨w.heap.size, j, none⟩ := by unfold Addr.add; split <;> simp_all
    rw [this, hb.cell j]
    simp [bvs, hj]

/-- a new block of just these bytes, marked behind its end -/
theorem by_lit (w : World) (e : TypeId) (l : List UInt8) (m : Nat × Nat) (h : l.length ≤ maxLen) : By (w.alloc (.cells (bvs l).toArray e m)) (some ⟨w.heap.size, 0, none⟩) l.length l := by
  refine ⟨fun j hj => ⟨_, rfl, ?_⟩, Nat.le_refl _, h, fun h => by cases h⟩
  have : (⟨w.heap.size, 0, none⟩ : Addr).add j = ⟨w.heap.size, j, none⟩ := by unfold Addr.add; split <;> simp_all
  rw [this, cell_of_row _ w.heap.size j _ e m (heap_alloc_new w _)]
  simp [bvs, hj]

/-- 'make([]byte, n)' -/
theorem made_zeros (n : Nat) : madeCells #[.int .u8 0] n = (bvs (List.replicate n 0)).toArray := by
  apply Array.ext_getElem?
  intro i
  by_cases h : i < n
  · simp [madeCells, bvs, bv, Nat.mod_one, h]
  · simp [madeCells, bvs, bv, Nat.mod_one, h]

/-- '[]byte{}' -/
theorem own_empty (w : World) (e : TypeId) {w0 : World} (hg : Gr w0 w) : OwnE e (w.alloc (.cells #[] e)) w0.heap.size (.slice (some ⟨w.heap.size, 0, none⟩) 0 0) [] :=
  ⟨by simp [bvs], .inr ⟨w.heap.size, 0, #[], rfl, hg.size, heap_alloc_new w _, Nat.le_refl _, by simp [maxLen], by simp, by simp [bvs]⟩⟩

/-- the block's cells begin with these bytes -/
def Front (cap : Nat) (l : List UInt8) (cur : Array Value) : Prop := cur.size = cap ∧ l.length ≤ cap ∧ ∀ j (h : j < l.length), cur[j]? = some (bv l[j])
/-- what the call owns, as a block -/
theorem OwnE.block_ {e : TypeId} {w : World} {B : Nat} {v : Value} {l : List UInt8} (h : OwnE e w B v l) (hl : 0 < l.length) : ∃ g cap cur, v = .slice (some ⟨g, 0, none⟩) l.length cap ∧ Bl w g e cur ∧ Front cap l cur ∧ B ≤ g ∧ cap ≤ maxLen := by
  have h0 := h
  rcases h.2 with ⟨rfl, hn⟩ | ⟨g, cap, cur, rfl, hb, hg, hnc, hm, hs, ht⟩
  · omega
  · have hbl : Bl w g e cur := hg
    refine ⟨g, cap, cur, rfl, hbl, ⟨by omega, hnc, fun j hj => ?_⟩, hb, hm⟩
    have := World.ownsRow.cells h0 (g := g) rfl j (bv l[j]) (by simp [bvs, hj])
    have e2 : (⟨g, 0, none⟩ : Addr).add j = ⟨g, j, none⟩ := by unfold Addr.add; split <;> simp_all
    rw [← hbl.cell j, ← e2]
    exact this

/-- the block reads as these bytes -/
theorem by_front {w : World} {g : Nat} {e : TypeId} {cap : Nat} {l : List UInt8} {cur : Array Value} (hb : Bl w g e cur) (h : Front cap l cur) (hm : cap ≤ maxLen) : By w (some ⟨g, 0, none⟩) cap l := by
  refine ⟨fun j hj => ⟨_, rfl, ?_⟩, h.2.1, hm, fun h => by cases h⟩
  have : (⟨g, 0, none⟩ : Addr).add j = ⟨g, j, none⟩ := by unfold Addr.add; split <;> simp_all
  rw [this, hb.cell j]
  exact h.2.2 j hj

/-- 'b[:j]' -/
theorem By.take {w : World} {A : Option Addr} {c : Nat} {l : List UInt8} (h : By w A c l) (j : Nat) : By w A c (l.take j) :=
  ⟨h.rd.take j, by have := h.le; rw [List.length_take]; omega, h.max, h.nil⟩

/-- the slice '.slice A zs.length c' reads as these numbers -/
structure Ints (k : IntKind) (w : World) (A : Option Addr) (c : Nat) (zs : List Int) : Prop where
  rd : ∀ j (h : j < zs.length), ∃ ad, A = some ad ∧ w.cell? (ad.add j) = some (.int k zs[j])
  le : zs.length ≤ c
  max : c ≤ maxLen
  wf : ∀ z ∈ zs, (Lit.int k z).wf = true
theorem Ints.gr {k : IntKind} {w w' : World} {A : Option Addr} {c : Nat} {zs : List Int} (h : Ints k w A c zs) (hg : Gr w w') : Ints k w' A c zs :=
  ⟨fun j hj => by obtain ⟨ad, h1, h2⟩ := h.rd j hj; exact ⟨ad, h1, gr_cell hg _ _ h2⟩, h.le, h.max, h.wf⟩
/-- the slice '.slice A ss.length c' reads as these strings -/
structure Strs (w : World) (A : Option Addr) (c : Nat) (ss : List ByteArray) : Prop where
  rd : ∀ j (h : j < ss.length), ∃ ad, A = some ad ∧ w.cell? (ad.add j) = some (.string ss[j])
  le : ss.length ≤ c
  max : c ≤ maxLen
  wf : ∀ s ∈ ss, s.size ≤ maxLen
theorem Strs.gr {w w' : World} {A : Option Addr} {c : Nat} {ss : List ByteArray} (h : Strs w A c ss) (hg : Gr w w') : Strs w' A c ss :=
  ⟨fun j hj => by obtain ⟨ad, h1, h2⟩ := h.rd j hj; exact ⟨ad, h1, gr_cell hg _ _ h2⟩, h.le, h.max, h.wf⟩

end Go.Proofs.Ythpaoeiackbdoaa

/-
  Small words for walks. No program.
-/
namespace Go.Proofs.Ythpaoeiackbdoaa
open Go.RowKit

theorem Gr.drewN {a w : World} (h : Gr a w) (n : Nat) : Gr a (w.drewN n) := ⟨h.os, h.tape, h.output, h.size, h.block⟩
theorem add_zero_ (a : Addr) : a.add 0 = a := by unfold Addr.add; split <;> simp_all
theorem By.cell {w : World} {A : Option Addr} {c : Nat} {l : List UInt8} (h : By w A c l) (j : Nat) (hj : j < l.length) : ∃ ad, A = some ad ∧ w.cell? (ad.add j) = some (bv (l.getD j 0)) := by
  obtain ⟨ad, h1, h2⟩ := h.rd j hj
  refine ⟨ad, h1, ?_⟩
  rw [h2, List.getD_eq_getElem?_getD, List.getElem?_eq_getElem hj]
  rfl

end Go.Proofs.Ythpaoeiackbdoaa

/-
  What a row's arguments are to a walk: a slice of bytes that came in reads as a list of bytes. No program.
-/
namespace Go.Proofs.Ythpaoeiackbdoaa
open Go.ChangeShapes Go.WideShapes Go.ChangeAt Go.RowKit

theorem u8_of_wf {n : Int} (h : (Lit.int .u8 n).wf = true) : ((UInt8.ofNat n.toNat).toNat : Int) = n := by
  have hx : 0 ≤ n ∧ n ≤ 255 := by simpa [Lit.wf, IntKind.min, IntKind.max, IntKind.signed, IntKind.bits] using h
  have : (UInt8.ofNat n.toNat).toNat = n.toNat := by simp [UInt8.toNat_ofNat']; omega
  omega

section
variable {H : Type} {enc : TypeId × Value → H} {P : Program} {W : World} {base : Nat} {spare : Nat → Bool} {held : Bool}

/-- numbers that came in, as bytes -/
theorem by_of_ints {x : Addr} {len cap : Nat} {zs : List Int} (hl : len ≤ cap) (hm : cap ≤ maxLen) (hz : len ≤ zs.length) (hcell : ∀ i, i < zs.length → W.cell? (x.add i) = some (.int .u8 (zs.getD i 0))) (hwf : ∀ n ∈ zs, (Lit.int .u8 n).wf = true) :
    By W (some x) cap ((zs.take len).map fun n => UInt8.ofNat n.toNat) := by
  have hlen : ((zs.take len).map fun n => UInt8.ofNat n.toNat).length = len := by simp; omega
  refine ⟨fun j hj => ⟨x, rfl, ?_⟩, by omega, hm, fun h => by cases h⟩
  have hj' : j < zs.length := by omega
  rw [hcell j hj']
  have e : zs.getD j 0 = zs[j] := by simp [hj']
  simp only [bv, List.getElem_map, List.getElem_take]
  rw [u8_of_wf (hwf _ (List.getElem_mem hj')), e]

theorem arg_bytes {t e : TypeId} {r : Reach} {b0 : Nat} {v : Value} {d : DataW H} {p : List MemPlace} (ht : P.underlying t = some (.slice e)) (he : P.underlying e = some (.int .u8)) (hE : P.cellsOf e = 1)
    (hv : Value.okWide P W r b0 t v) (h : DataW.Trod enc P W base (fun _ => true) held t v d p) : ∃ (A : Option Addr) (n c : Nat) (l : List UInt8), v = .slice A n c ∧ n = l.length ∧ By W A c l := by
  obtain ⟨A, n, c, rfl⟩ := okWide_slice ht hv
  obtain ⟨fuel, hf⟩ := h
  rcases open_ints ht he hE hf with ⟨hcs, _⟩ | ⟨x, l, c', zs, hcs, _, hl, hm, hz, _, hcell, hwz⟩
  · simp [Value.cells] at hcs
    obtain ⟨rfl, rfl, rfl⟩ := hcs
    exact ⟨none, 0, 0, [], rfl, rfl, Rd.nil _ _, by simp, by simp [maxLen], fun _ => rfl⟩
  · simp [Value.cells] at hcs
    obtain ⟨rfl, rfl, rfl⟩ := hcs
    have hz' : zs.length = c := by simpa using hz
    exact ⟨some x, n, c, _, rfl, by simp; omega, by_of_ints hl hm (by omega) hcell hwz⟩

/-- the byte that a value is -/
def byteOf : Value → UInt8
  | .int _ n => UInt8.ofNat n.toNat
  | _ => 0
theorem arg_array8 {t e : TypeId} {n : Nat} {r : Reach} {b0 : Nat} {v : Value} {d : DataW H} {p : List MemPlace} (ht : P.underlying t = some (.array n e)) (he : P.underlying e = some (.int .u8)) (hE : P.cellsOf e = 1) (hT : P.cellsOf t = n)
    (hv : Value.okWide P W r b0 t v) (h : DataW.Trod enc P W base (fun _ => true) held t v d p) : ∃ l : List UInt8, l.length = n ∧ v = .agg (bvs l).toArray := by
  simp only [Value.okWide, ht] at hv
  obtain ⟨cs, rfl, hcs, _⟩ := hv
  obtain ⟨fuel, hf⟩ := h
  rw [hT] at hcs
  obtain ⟨xs, m, _, _, _, hxl, hx⟩ := DataW.trod_array ht hf
  have hone : ∀ i (hi : i < n), cs[i]'(by omega) = bv (byteOf (cs[i]'(by omega))) := fun i hi => by
    have h1 := hx i hi
    rw [hE, List.getElem?_eq_getElem (by omega)] at h1
    obtain ⟨a, ea, _, wa⟩ := DataW.trod_int he h1
    have e2 : cs[i]'(by omega) = .int .u8 a := by
      have e3 : (List.take 1 (List.drop (i * 1) (Value.agg cs).cells.toList))[0]? = [Value.int .u8 a][0]? := by rw [ea]
      simp [Value.cells, hcs ▸ hi] at e3
      simpa using e3
    rw [e2]
    unfold byteOf bv
    rw [u8_of_wf wa]
  refine ⟨cs.toList.map byteOf, by simp [hcs], ?_⟩
  congr 1
  apply Array.ext
  · simp [bvs]
  · intro i h1 h2
    simp only [bvs, List.getElem_toArray, List.getElem_map, Array.getElem_toList]
    exact hone i (by omega)

theorem arg_ints {t e : TypeId} {k : IntKind} {r : Reach} {b0 : Nat} {v : Value} {d : DataW H} {p : List MemPlace} (ht : P.underlying t = some (.slice e)) (he : P.underlying e = some (.int k)) (hE : P.cellsOf e = 1)
    (hv : Value.okWide P W r b0 t v) (h : DataW.Trod enc P W base (fun _ => true) held t v d p) : ∃ (A : Option Addr) (n c : Nat) (zs : List Int), v = .slice A n c ∧ n = zs.length ∧ Ints k W A c zs := by
  obtain ⟨A, n, c, rfl⟩ := okWide_slice ht hv
  obtain ⟨fuel, hf⟩ := h
  rcases open_ints ht he hE hf with ⟨hcs, _⟩ | ⟨x, l, c', zs, hcs, _, hl, hm, hz, _, hcell, hwz⟩
  · simp [Value.cells] at hcs
    obtain ⟨rfl, rfl, rfl⟩ := hcs
    exact ⟨none, 0, 0, [], rfl, rfl, fun j hj => absurd hj (by simp), by simp, by simp [maxLen], by simp⟩
  · simp [Value.cells] at hcs
    obtain ⟨rfl, rfl, rfl⟩ := hcs
    have hz' : zs.length = c := by simpa using hz
    refine ⟨some x, n, c, zs.take n, rfl, by rw [List.length_take]; omega, fun j hj => ⟨x, rfl, ?_⟩, by rw [List.length_take]; omega, hm, fun z hz => hwz z (List.mem_of_mem_take hz)⟩
    rw [List.length_take] at hj
    rw [hcell j (by omega)]
    simp [show j < zs.length by omega]

theorem arg_strs {t e : TypeId} {r : Reach} {b0 : Nat} {v : Value} {d : DataW H} {p : List MemPlace} (ht : P.underlying t = some (.slice e)) (he : P.underlying e = some .string) (hE : P.cellsOf e = 1)
    (hv : Value.okWide P W r b0 t v) (h : DataW.Trod enc P W base (fun _ => true) held t v d p) : ∃ (A : Option Addr) (n c : Nat) (ss : List ByteArray), v = .slice A n c ∧ n = ss.length ∧ Strs W A c ss := by
  obtain ⟨A, n, c, rfl⟩ := okWide_slice ht hv
  obtain ⟨fuel, hf⟩ := h
  rcases open_strings ht he hE hf with ⟨hcs, _⟩ | ⟨x, l, c', ss, hcs, _, hl, hm, hz, _, hcell, hws⟩
  · simp [Value.cells] at hcs
    obtain ⟨rfl, rfl, rfl⟩ := hcs
    exact ⟨none, 0, 0, [], rfl, rfl, fun j hj => absurd hj (by simp), by simp, by simp [maxLen], by simp⟩
  · simp [Value.cells] at hcs
    obtain ⟨rfl, rfl, rfl⟩ := hcs
    have hz' : ss.length = c := by simpa using hz
    refine ⟨some x, n, c, ss.take n, rfl, by rw [List.length_take]; omega, fun j hj => ⟨x, rfl, ?_⟩, by rw [List.length_take]; omega, hm, fun s hs => hws s (List.mem_of_mem_take hs)⟩
    rw [List.length_take] at hj
    rw [hcell j (by omega)]
    simp [show j < ss.length by omega]
end

end Go.Proofs.Ythpaoeiackbdoaa

/-
  Two rows of the call's own, side by side: what is put behind one leaves the other as it is. No program.
-/
namespace Go.Proofs.Ythpaoeiackbdoaa
open Go.RowKit

/-- values that the call owns, one cell each -/
def OwnV (e : TypeId) (w : World) (B : Nat) (v : Value) (xs : List Value) : Prop := w.ownsRow B e 1 v xs.length xs
/-- not in one block -/
def Sep (v u : Value) : Prop := ∀ k, v.ownBlock = some k → u.ownBlock ≠ some k
theorem Sep.symm {v u : Value} (h : Sep v u) : Sep u v := fun k hu hv => h k hv hu
theorem Sep.none_ (v : Value) (n c : Nat) : Sep v (.slice none n c) := fun k _ h => by cases h
/-- what append has done: nothing but this row has changed, and it stands where it stood, or is new -/
def Put1 (w w' : World) (v v' : Value) : Prop := w.grownBy w' v.ownBlock ∧ (v'.ownBlock = v.ownBlock ∨ ∃ k, v'.ownBlock = some k ∧ w.heap.size ≤ k)
theorem Put1.sep {w w' : World} {v v' u : Value} (h : Put1 w w' v v') (hs : Sep v u) (hu : ∀ k, u.ownBlock = some k → k < w.heap.size) : Sep v' u := by
  rcases h.2 with h2 | ⟨k, h2, hk⟩
  · intro j hj; rw [h2] at hj; exact hs j hj
  · intro j hj hu'
    rw [h2] at hj
    injection hj with hj
    have := hu j hu'
    omega

section
variable {P : Program} {e : TypeId} {w w' : World} {B : Nat} {v : Value} {xs : List Value} {l : List UInt8}

theorem OwnV.none_ (w : World) (B : Nat) : OwnV e w B (.slice none 0 0) [] := World.ownsRow_nil _ _ _ _
theorem OwnV.gr (h : OwnV e w B v xs) (hg : Gr w w') : OwnV e w' B v xs :=
  World.ownsRow.kept (row := none) h ⟨hg.os, hg.tape, hg.output, hg.size, fun k hk _ => hg.block k hk⟩ (by cases hv : v.ownBlock <;> simp)
theorem OwnV.lt (h : OwnV e w B v xs) : ∀ k, v.ownBlock = some k → k < w.heap.size := fun k hk => (World.ownsRow.lt h k hk).2
theorem OwnE.lt (h : OwnE e w B v l) : ∀ k, v.ownBlock = some k → k < w.heap.size := fun k hk => (World.ownsRow.lt h k hk).2
theorem ne_of_sep {u v : Value} (hs : Sep v u) : u.ownBlock = none ∨ u.ownBlock ≠ v.ownBlock := by
  cases hv : u.ownBlock with
  | none => exact .inl rfl
  | some k => exact .inr fun h => hs k h.symm hv
theorem OwnV.beside {u : Value} (h : OwnV e w B u xs) {v' : Value} (hp : Put1 w w' v v') (hs : Sep v u) : OwnV e w' B u xs := World.ownsRow.kept h hp.1 (ne_of_sep hs)
theorem OwnE.beside {u : Value} (h : OwnE e w B u l) {v' : Value} (hp : Put1 w w' v v') (hs : Sep v u) : OwnE e w' B u l := World.ownsRow.kept h hp.1 (ne_of_sep hs)
/-- the row's value -/
theorem OwnV.is (h : OwnV e w B v xs) : ∃ A c, v = .slice A xs.length c ∧ xs.length ≤ c ∧ ∀ j (hj : j < xs.length), ∃ ad, A = some ad ∧ w.cell? (ad.add j) = some xs[j] := by
  have h0 := h
  rcases h.2 with ⟨rfl, hn⟩ | ⟨g, cap, cur, rfl, _, _, hnc, _, _, _⟩
  · exact ⟨none, 0, by rw [hn], by omega, fun j hj => by omega⟩
  · exact ⟨_, cap, rfl, hnc, fun j hj => ⟨_, rfl, World.ownsRow.cells h0 (g := g) rfl j _ (by simp [hj])⟩⟩

/-- one value more: 'append(own, x)', x in a new block of its own -/
theorem wpList_pushV {ops : Array Oper} {rest : List Oper} {o : Oper} {a : Act} {Q : Exit → Act → World → Prop} (hgd : o.guard = none) (s x : Operand) (t : TypeId)
    (ho : o.op = .call { callee := .builtin .append, args := #[s, x], argTypes := #[t, t] }) (e : TypeId) (i : TypeInfo) (z : Value) (nb : Nat) (ht : P.underlying t = some (.slice e)) (hi : P.info? e = some i)
    (hz : i.zero = some z) (hsize : i.size = 1) (hby : i.bytes = nb) (hzs : z.cells.size = 1) {w0 w : World} {u : Value} (hu : u.oneCell' = true)
    (hs : a.eval s = v) (hown : OwnV e w w0.heap.size v xs) (hgr : Gr w0 w)
    (hx : a.eval x = .slice (some ⟨w.heap.size, 0, none⟩) 1 1) (hl : xs.length + 1 ≤ maxLen) (hb : (xs.length + 1) * nb ≤ 140737488355328)
    (h : ∀ v' w', OwnV e w' w0.heap.size v' (xs ++ [u]) → Gr w0 w' → Put1 w w' v v' → wpList P ops Q rest (a.put o.dst v') w') : wpList P ops Q (o :: rest) a (w.alloc (.cells #[u] e)) := by
  have hlt := hown.lt
  refine wpList_append_own_at _ hgd s x t ho w0.heap.size e i z 1 nb ht hi hz hsize hby hzs (by decide) v xs.length xs hs (World.ownsRow.alloc hown _) ⟨w.heap.size, 0, none⟩ 1 1 [u] hx rfl (cell_one_new _ _ _)
    (by intro y hy; simp at hy; subst hy; exact hu) hl hb (Nat.le_trans hgr.size (by simp)) ?_
  intro v' w' g1 g2 _ g4
  refine h v' w' (by unfold OwnV; rw [List.length_append]; exact g1) ((hgr.alloc _).below.grown g2 (Nat.le_trans hgr.size (by simp)) fun k hk => (World.ownsRow.lt hown k hk).1) ⟨?_, ?_⟩
  · refine ⟨g2.os, g2.tape, g2.output, Nat.le_trans (by simp) g2.size, fun k hk hne => ?_⟩
    rw [g2.block k (by simp; omega) hne]
    exact heap_alloc_old w _ hk
  · rcases g4 with g4 | g4
    · exact .inl g4
    · exact .inr ⟨_, g4, by simp⟩

/-- 'append(own, r...)', r bytes that lie somewhere, and what stays -/
theorem wpList_app_at {ops : Array Oper} {rest : List Oper} {o : Oper} {a : Act} {Q : Exit → Act → World → Prop} (hgd : o.guard = none) (sl x : Operand) (t : TypeId)
    (ho : o.op = .call { callee := .builtin .append, args := #[sl, x], argTypes := #[t, t] }) (e : TypeId) (i : TypeInfo) (ht : P.underlying t = some (.slice e)) (hi : P.info? e = some i)
    (hz : i.zero = some (.int .u8 0)) (hsize : i.size = 1) (hby : i.bytes = 1) {w0 w : World} {A : Option Addr} {m c : Nat} {r : List UInt8} (hm : m = r.length)
    (hs : a.eval sl = v) (hown : OwnE e w w0.heap.size v l) (hgr : Gr w0 w) (hx : a.eval x = .slice A m c) (hr : Rd w A r) (hc0 : A = none → c = 0) (hl : l.length + r.length ≤ 1000000000)
    (h : ∀ v' w', OwnE e w' w0.heap.size v' (l ++ r) → Gr w0 w' → Put1 w w' v v' → wpList P ops Q rest (a.put o.dst v') w') : wpList P ops Q (o :: rest) a w := by
  subst hm
  have hcells : ∀ ad, A = some ad → ∀ j u, (bvs r)[j]? = some u → w.cell? (ad.add j) = some u := fun ad hA j u hj => by
    simp only [bvs, List.getElem?_map, Option.map_eq_some_iff] at hj
    obtain ⟨b, hb, rfl⟩ := hj
    obtain ⟨hj', rfl⟩ := List.getElem?_eq_some_iff.1 hb
    obtain ⟨ad', h1, h2⟩ := hr j hj'
    rw [hA] at h1
    injection h1 with h1
    subst h1
    exact h2
  rcases A with _ | ad
  · have hr0 : r = [] := by
      cases r with
      | nil => rfl
      | cons b r => obtain ⟨ad, h1, _⟩ := hr 0 (by simp); cases h1
    subst hr0
    have hc := hc0 rfl
    subst hc
    exact wpList_append_own_none hgd sl x t ho w0.heap.size e i 1 ht hi v l.length (bvs l) hs hown hx (h v w (by simpa using hown) hgr ⟨World.grownBy.refl w _, .inl rfl⟩)
  · refine wpList_append_own_at _ hgd sl x t ho w0.heap.size e i _ 1 1 ht hi hz hsize hby rfl (by decide) v l.length (bvs l) hs hown ad r.length c (bvs r) hx (by simp [bvs]) (hcells ad rfl) (bvs_one _)
      (by unfold maxLen; omega) (by omega) hgr.size ?_
    intro v' w' h1 h2 _ h4
    refine h v' w' (by unfold OwnE; rw [bvs_app, List.length_append]; exact h1) (hgr.below.grown h2 hgr.size fun k hk => (World.ownsRow.lt hown k hk).1) ⟨h2, ?_⟩
    rcases h4 with h4 | h4
    · exact .inl h4
    · exact .inr ⟨_, h4, Nat.le_refl _⟩
end

end Go.Proofs.Ythpaoeiackbdoaa

/-
  Rows of the call's own whose elements have several cells. No program.
-/
namespace Go.Proofs.Ythpaoeiackbdoaa
open Go Go.RowKit

/-- elements of k cells each, that the call owns -/
def OwnR (e : TypeId) (k : Nat) (w : World) (B : Nat) (v : Value) (rs : List (List Value)) : Prop := (∀ r ∈ rs, r.length = k) ∧ w.ownsRow B e k v rs.length rs.flatten

section
variable {P : Program} {e : TypeId} {k : Nat} {w w' : World} {B : Nat} {v : Value} {rs : List (List Value)}
theorem OwnR.none_ (w : World) (B : Nat) : OwnR e k w B (.slice none 0 0) [] := ⟨fun _ h => absurd h (by simp), World.ownsRow_nil _ _ _ _⟩
theorem OwnR.gr (h : OwnR e k w B v rs) (hg : Gr w w') : OwnR e k w' B v rs :=
  ⟨h.1, World.ownsRow.kept (row := none) h.2 ⟨hg.os, hg.tape, hg.output, hg.size, fun k hk _ => hg.block k hk⟩ (by cases hv : v.ownBlock <;> simp)⟩
theorem OwnR.lt (h : OwnR e k w B v rs) : ∀ g, v.ownBlock = some g → B ≤ g ∧ g < w.heap.size := fun g hg => World.ownsRow.lt h.2 g hg
theorem OwnR.base {B' : Nat} (h : OwnR e k w B v rs) (hB : B' ≤ B) : OwnR e k w B' v rs := by
  refine ⟨h.1, h.2.1, ?_⟩
  rcases h.2.2 with h2 | ⟨g, cap, cur, hv, hg, r⟩
  · exact .inl h2
  · exact .inr ⟨g, cap, cur, hv, by omega, r⟩
/-- another block has changed -/
theorem OwnR.but {g : Nat} (h : OwnR e k w B v rs) (hb : But w w' g) (hg : g < B) : OwnR e k w' B v rs :=
  ⟨h.1, World.ownsRow.kept h.2 hb (by
    cases hv : v.ownBlock with
    | none => exact .inl rfl
    | some j => exact .inr fun e2 => by injection e2 with e2; have := (h.lt j hv).1; omega)⟩
/-- another row has been built on -/
theorem OwnR.beside {u u' : Value} (h : OwnR e k w B v rs) (hp : Put1 w w' u u') (hs : Sep u v) : OwnR e k w' B v rs := ⟨h.1, World.ownsRow.kept h.2 hp.1 (ne_of_sep hs)⟩
theorem OwnR.is (h : OwnR e k w B v rs) : ∃ A c, v = .slice A rs.length c ∧ rs.length ≤ c := by
  rcases h.2.2 with ⟨rfl, hn⟩ | ⟨g, cap, cur, rfl, _, _, hnc, _, _, _⟩
  · exact ⟨none, 0, by rw [hn], by omega⟩
  · exact ⟨_, cap, rfl, hnc⟩
theorem Put1.of_gr {u u' : Value} (hg : Gr w w') (h : u'.ownBlock = u.ownBlock) : Put1 w w' u u' := ⟨⟨hg.os, hg.tape, hg.output, hg.size, fun k hk _ => hg.block k hk⟩, .inl h⟩

/-- one element more: 'append(own, x)', x in a new block of its own -/
theorem wpList_pushR {ops : Array Oper} {rest : List Oper} {o : Oper} {a : Act} {Q : Exit → Act → World → Prop} (hgd : o.guard = none) (s x : Operand) (t : TypeId)
    (ho : o.op = .call { callee := .builtin .append, args := #[s, x], argTypes := #[t, t] }) (e : TypeId) (i : TypeInfo) (z : Value) (k nb : Nat) (ht : P.underlying t = some (.slice e)) (hi : P.info? e = some i)
    (hz : i.zero = some z) (hsize : i.size = k) (hby : i.bytes = nb) (hzs : z.cells.size = k) (hk : 0 < k) {w : World} {cs : Array Value} (hcs : cs.size = k) (hu : ∀ u ∈ cs.toList, u.oneCell' = true)
    (hs : a.eval s = v) (hown : OwnR e k w B v rs) (hB : B ≤ w.heap.size)
    (hx : a.eval x = .slice (some ⟨w.heap.size, 0, none⟩) 1 1) (hl : rs.length + 1 ≤ maxLen) (hb : (rs.length + 1) * nb ≤ 140737488355328)
    (h : ∀ v' w', OwnR e k w' B v' (rs ++ [cs.toList]) → Put1 w w' v v' → wpList P ops Q rest (a.put o.dst v') w') : wpList P ops Q (o :: rest) a (w.alloc (.cells cs e)) := by
  refine wpList_append_own_at _ hgd s x t ho B e i z k nb ht hi hz hsize hby hzs hk v rs.length rs.flatten hs (World.ownsRow.alloc hown.2 _) ⟨w.heap.size, 0, none⟩ 1 1 cs.toList hx (by simp [hcs]) (fun j u hj => ?_)
    hu hl hb (Nat.le_trans hB (by simp)) ?_
  · have h1 := (Bl.new w e cs).cell j
    rw [show (⟨w.heap.size, 0, none⟩ : Addr).add j = ⟨w.heap.size, j, none⟩ from by unfold Addr.add; split <;> simp_all]
    rw [h1]
    simpa using hj
  · intro v' w' g1 g2 _ g4
    refine h v' w' ⟨fun r hr => ?_, ?_⟩ ⟨?_, ?_⟩
    · rcases List.mem_append.1 hr with h1 | h1
      · exact hown.1 r h1
      · simp at h1
        rw [h1, Array.length_toList, hcs]
    · rw [List.length_append, List.length_singleton, List.flatten_append, List.flatten_singleton]
      exact g1
    · refine ⟨g2.os, g2.tape, g2.output, Nat.le_trans (by simp) g2.size, fun k hk hne => ?_⟩
      rw [g2.block k (by simp; omega) hne]
      exact heap_alloc_old w _ hk
    · rcases g4 with g4 | g4
      · exact .inl g4
      · exact .inr ⟨_, g4, by simp⟩
end

/-! What a row reads as, whoever owns it. -/
theorem flatten_at {α : Type} {k : Nat} : ∀ {rs : List (List α)}, (∀ r ∈ rs, r.length = k) → ∀ {j i : Nat} {r : List α} {u : α}, rs[j]? = some r → r[i]? = some u → rs.flatten[j * k + i]? = some u
  | [], _, _, _, _, _, hj, _ => by simp at hj
  | r0 :: rs, hk, 0, i, r, u, hj, hi => by
    obtain rfl : r0 = r := by simpa using hj
    have hl : i < r0.length := (List.getElem?_eq_some_iff.1 hi).1
    rw [List.flatten_cons, Nat.zero_mul, Nat.zero_add, List.getElem?_append_left hl, hi]
  | r0 :: rs, hk, j + 1, i, r, u, hj, hi => by
    have h0 : r0.length = k := hk r0 (by simp)
    have hj' : rs[j]? = some r := by simpa using hj
    rw [List.flatten_cons, List.getElem?_append_right (by rw [h0, Nat.succ_mul]; omega), show (j + 1) * k + i - r0.length = j * k + i from by rw [h0, Nat.succ_mul]; omega]
    exact flatten_at (fun r hr => hk r (by simp [hr])) hj' hi
/-- a slice whose elements, of k cells each, are these -/
def RowAt (k : Nat) (w : World) (v : Value) (rs : List (List Value)) : Prop :=
  ∃ A c, v = .slice A rs.length c ∧ rs.length ≤ c ∧ ∀ j i r u, rs[j]? = some r → r[i]? = some u → ∃ ad, A = some ad ∧ w.cell? (ad.add (j * k + i)) = some u
theorem RowAt.gr {k : Nat} {w w' : World} {v : Value} {rs : List (List Value)} (h : RowAt k w v rs) (hg : Gr w w') : RowAt k w' v rs := by
  obtain ⟨A, c, h1, h2, h3⟩ := h
  refine ⟨A, c, h1, h2, fun j i r u hj hi => ?_⟩
  obtain ⟨ad, h4, h5⟩ := h3 j i r u hj hi
  exact ⟨ad, h4, gr_cell hg _ _ h5⟩
theorem OwnR.rowAt {e : TypeId} {k : Nat} {w : World} {B : Nat} {v : Value} {rs : List (List Value)} (h : OwnR e k w B v rs) : RowAt k w v rs := by
  have h0 := h.2
  rcases h.2.2 with ⟨rfl, hn⟩ | ⟨g, cap, cur, rfl, _, _, hnc, _, _, _⟩
  · have : rs = [] := List.eq_nil_of_length_eq_zero hn
    subst this
    exact ⟨none, 0, rfl, Nat.le_refl _, fun j i r u hj _ => by simp at hj⟩
  · exact ⟨_, cap, rfl, hnc, fun j i r u hj hi => ⟨_, rfl, World.ownsRow.cells h0 (g := g) rfl _ _ (flatten_at h.1 hj hi)⟩⟩

end Go.Proofs.Ythpaoeiackbdoaa

/-
  The cells of an element of several cells, as a walk names them. No program.
-/
namespace Go.Proofs.Ythpaoeiackbdoaa
open Go Go.RowKit

theorem RowAt.cell {k : Nat} {w : World} {v : Value} {rs : List (List Value)} (h : RowAt k w v rs) {j : Nat} {r : List Value} (hj : rs[j]? = some r) (hr : 0 < r.length) :
    ∃ ad c, v = .slice (some ad) rs.length c ∧ rs.length ≤ c ∧ (∀ u, r[0]? = some u → w.cell? (ad.add (j * k)) = some u) ∧ ∀ i u, 0 < i → r[i]? = some u → w.cell? ⟨(ad.add (j * k)).block, (ad.add (j * k)).off + i, none⟩ = some u := by
  obtain ⟨A, c, h1, h2, h3⟩ := h
  obtain ⟨ad, rfl, _⟩ := h3 j 0 r r[0] hj (List.getElem?_eq_getElem hr)
  refine ⟨ad, c, h1, h2, fun u hu => ?_, fun i u hi hu => ?_⟩
  · obtain ⟨ad', e, hc⟩ := h3 j 0 r u hj hu
    injection e with e
    subst e
    exact hc
  · obtain ⟨ad', e, hc⟩ := h3 j i r u hj hu
    injection e with e
    subst e
    rw [← hc]
    congr 1
    unfold Addr.add
    by_cases h0 : j * k = 0
    · simp [h0, show i ≠ 0 by omega]
    · simp [h0]
      omega

end Go.Proofs.Ythpaoeiackbdoaa

/-
  Rows of byte slices in memory: that came in, or that the call owns. No program.
-/
namespace Go.Proofs.Ythpaoeiackbdoaa
open Go.RowKit

/-- the slice '.slice A ls.length c' reads as these texts, one slice of bytes each -/
structure Rws (w : World) (A : Option Addr) (c : Nat) (ls : List (List UInt8)) : Prop where
  rd : ∀ j (h : j < ls.length), ∃ ad, A = some ad ∧ ∃ B d, w.cell? (ad.add j) = some (.slice B ls[j].length d) ∧ By w B d ls[j]
  le : ls.length ≤ c
  max : c ≤ maxLen
  nil : A = none → c = 0
theorem Rws.gr {w w' : World} {A : Option Addr} {c : Nat} {ls : List (List UInt8)} (h : Rws w A c ls) (hg : Gr w w') : Rws w' A c ls :=
  ⟨fun j hj => by obtain ⟨ad, h1, B, d, h2, h3⟩ := h.rd j hj; exact ⟨ad, h1, B, d, gr_cell hg _ _ h2, h3.gr hg⟩, h.le, h.max, h.nil⟩
theorem Rws.drewN {w : World} {A : Option Addr} {c : Nat} {ls : List (List UInt8)} (h : Rws w A c ls) (n : Nat) : Rws (w.drewN n) A c ls :=
  ⟨fun j hj => by obtain ⟨ad, h1, B, d, h2, h3⟩ := h.rd j hj; exact ⟨ad, h1, B, d, h2, h3.drewN n⟩, h.le, h.max, h.nil⟩

/-- these bytes don't stand in that block -/
def Apart (o : Option Nat) (A : Option Addr) (l : List UInt8) : Prop := 0 < l.length → ∀ ad, A = some ad → some ad.block ≠ o
theorem Rd.but_row {w w' : World} {o : Option Nat} {A : Option Addr} {l : List UInt8} (h : Rd w A l) (hb : w.grownBy w' o) (ho : Apart o A l) : Rd w' A l := fun j hj => by
  obtain ⟨ad, hA, hc⟩ := h j hj
  refine ⟨ad, hA, ?_⟩
  have hne := ho (by omega) ad hA
  have hlt : (ad.add j).block < w.heap.size := World.block_lt_of_cell? w _ hc
  rw [World.cell?_of_block (hb.block _ hlt (by rw [add_block]; exact hne))]
  exact hc
theorem By.but_row {w w' : World} {o : Option Nat} {A : Option Addr} {c : Nat} {l : List UInt8} (h : By w A c l) (hb : w.grownBy w' o) (ho : Apart o A l) : By w' A c l := ⟨h.rd.but_row hb ho, h.le, h.max, h.nil⟩
theorem Rd.lt {w : World} {A : Option Addr} {l : List UInt8} (h : Rd w A l) (hl : 0 < l.length) {ad : Addr} (hA : A = some ad) : ad.block < w.heap.size := by
  obtain ⟨ad', h1, h2⟩ := h 0 hl
  rw [hA] at h1
  injection h1 with h1
  subst h1
  have := World.block_lt_of_cell? w _ h2
  rwa [add_block] at this
/-- what stands below a block of the call's own stands apart from it -/
theorem Apart.below {w0 : World} {A : Option Addr} {c : Nat} {l : List UInt8} (h : By w0 A c l) {o : Option Nat} (ho : ∀ k, o = some k → w0.heap.size ≤ k) : Apart o A l := fun hl ad hA e => by
  have h1 := h.rd.lt hl hA
  have h2 := ho _ e.symm
  omega

/-- texts that the call owns as a row, from block B on ('e': the type of a slice of bytes) -/
def Held (e : TypeId) (w : World) (B : Nat) (v : Value) (ls : List (List UInt8)) : Prop :=
  ∃ vals, w.ownsRow B e 1 v ls.length vals ∧ ∀ j (h : j < ls.length), ∃ A c, vals[j]? = some (.slice A ls[j].length c) ∧ By w A c ls[j] ∧ Apart v.ownBlock A ls[j]

section
variable {P : Program} {e : TypeId} {w w' : World} {B : Nat} {v : Value} {ls : List (List UInt8)}

theorem Held.none_ (w : World) (B : Nat) : Held e w B (.slice none 0 0) [] := ⟨[], World.ownsRow_nil _ _ _ _, fun j h => absurd h (by simp)⟩
theorem Held.gr (h : Held e w B v ls) (hg : Gr w w') : Held e w' B v ls := by
  obtain ⟨vals, h1, h2⟩ := h
  refine ⟨vals, World.ownsRow.kept (row := none) h1 ⟨hg.os, hg.tape, hg.output, hg.size, fun k hk _ => hg.block k hk⟩ (by cases hv : v.ownBlock <;> simp), fun j hj => ?_⟩
  obtain ⟨A, c, h3, h4, h5⟩ := h2 j hj
  exact ⟨A, c, h3, h4.gr hg, h5⟩
theorem Held.alloc (h : Held e w B v ls) (o : Obj) : Held e (w.alloc o) B v ls := h.gr ((Gr.refl w).alloc o)
theorem Held.lt (h : Held e w B v ls) : ∀ k, v.ownBlock = some k → B ≤ k ∧ k < w.heap.size := by
  obtain ⟨vals, h1, _⟩ := h
  exact World.ownsRow.lt h1
theorem Held.rws (h : Held e w B v ls) : ∃ A c, v = .slice A ls.length c ∧ Rws w A c ls := by
  obtain ⟨vals, h1, h2⟩ := h
  have hr := h1
  rcases h1.2 with ⟨rfl, hn⟩ | ⟨g, cap, cur, rfl, _, _, hnc, hm, _, _⟩
  · have : ls = [] := List.eq_nil_of_length_eq_zero hn
    subst this
    exact ⟨none, 0, rfl, fun j h => absurd h (by simp), by simp, by simp [maxLen], fun _ => rfl⟩
  · refine ⟨_, cap, rfl, fun j hj => ?_, hnc, hm, fun h => by cases h⟩
    obtain ⟨A, c, h3, h4, _⟩ := h2 j hj
    exact ⟨_, rfl, A, c, World.ownsRow.cells hr (g := g) rfl j _ h3, h4⟩

/-- one text more: 'append(own, x)', x a slice of bytes, in a new block of its own -/
theorem wpList_pushS {ops : Array Oper} {rest : List Oper} {o : Oper} {a : Act} {Q : Exit → Act → World → Prop} (hgd : o.guard = none) (s x : Operand) (t : TypeId)
    (ho : o.op = .call { callee := .builtin .append, args := #[s, x], argTypes := #[t, t] }) (e : TypeId) (i : TypeInfo) (ht : P.underlying t = some (.slice e)) (hi : P.info? e = some i)
    (hz : i.zero = some (.slice none 0 0)) (hsize : i.size = 1) (hby : i.bytes = 24) {w0 w : World} {A : Option Addr} {c : Nat} {l : List UInt8} {m : Nat} (hm : m = l.length) (hb : By w A c l)
    (hs : a.eval s = v) (hown : Held e w w0.heap.size v ls) (hgr : Gr w0 w) (hap : Apart v.ownBlock A l)
    (hx : a.eval x = .slice (some ⟨w.heap.size, 0, none⟩) 1 1) (hl : ls.length ≤ 1000000000)
    (h : ∀ v' w', Held e w' w0.heap.size v' (ls ++ [l]) → Gr w0 w' → wpList P ops Q rest (a.put o.dst v') w') : wpList P ops Q (o :: rest) a (w.alloc (.cells #[.slice A m c] e)) := by
  subst hm
  obtain ⟨vals, h1, h2⟩ := hown
  have hlen : vals.length = ls.length := by rw [h1.1]; omega
  refine wpList_append_own_at _ hgd s x t ho w0.heap.size e i _ 1 24 ht hi hz hsize hby rfl (by decide) v ls.length vals hs (h1.alloc _) ⟨w.heap.size, 0, none⟩ 1 1 [.slice A l.length c] hx rfl (cell_one_new _ _ _)
    (by intro u hu; simp at hu; subst hu; rfl) (by unfold maxLen; omega) (by omega) (Nat.le_trans hgr.size (by simp)) ?_
  intro v' w' g1 g2 _ g4
  refine h v' w' ⟨vals ++ [.slice A l.length c], by rw [List.length_append]; exact g1, fun j hj => ?_⟩ ((hgr.alloc _).below.grown g2 (Nat.le_trans hgr.size (by simp)) fun k hk => (World.ownsRow.lt h1 k hk).1)
  have hnew : ∀ {A' : Option Addr} {c' : Nat} {l' : List UInt8}, By w A' c' l' → Apart v.ownBlock A' l' → By w' A' c' l' ∧ Apart v'.ownBlock A' l' := by
    intro A' c' l' hb' hap'
    refine ⟨(hb'.gr ((Gr.refl w).alloc _)).but_row g2 hap', ?_⟩
    rcases g4 with g4 | g4
    · rw [g4]; exact hap'
    · rw [g4]
      intro hl' ad hA e
      have := hb'.rd.lt hl' hA
      injection e with e
      simp at e
      omega
  by_cases hjl : j < ls.length
  · obtain ⟨A', c', h3, h4, h5⟩ := h2 j hjl
    have e1 : (ls ++ [l])[j] = ls[j] := List.getElem_append_left hjl
    rw [e1]
    obtain ⟨k1, k2⟩ := hnew h4 h5
    exact ⟨A', c', by rw [List.getElem?_append_left (by omega)]; exact h3, k1, k2⟩
  · have e0 : j = ls.length := by rw [List.length_append, List.length_singleton] at hj; omega
    subst e0
    have e1 : (ls ++ [l])[ls.length]'hj = l := by simp
    rw [e1]
    obtain ⟨k1, k2⟩ := hnew hb hap
    exact ⟨A, c, by rw [← hlen]; simp, k1, k2⟩
end

end Go.Proofs.Ythpaoeiackbdoaa

/-
  A slice of slices of bytes that came in reads as a list of texts. No program.
-/
namespace Go.Proofs.Ythpaoeiackbdoaa
open Go.ChangeShapes Go.WideShapes Go.ChangeAt Go.RowKit Go.Deep

section
variable {H : Type} {enc : TypeId × Value → H} {P : Program} {W : World} {base : Nat} {spare : Nat → Bool} {held : Bool}

/-- a slice of bytes, by its reading alone -/
theorem bytes_of_trod {t e : TypeId} {fuel : Nat} {v : Value} {x : DataW H × List MemPlace} (ht : P.underlying t = some (.slice e)) (he : P.underlying e = some (.int .u8)) (hE : P.cellsOf e = 1)
    (hf : DataW.trod enc P W base (fun _ => true) held fuel t [v] = some x) : ∃ (l : List UInt8) (A : Option Addr) (c : Nat), v = .slice A l.length c ∧ By W A c l := by
  rcases open_ints ht he hE hf with ⟨hcs, _⟩ | ⟨a, l, c', zs, hcs, _, hl, hm, hz, _, hcell, hwz⟩
  · simp at hcs
    subst hcs
    exact ⟨[], none, 0, rfl, Rd.nil _ _, by simp, by simp [maxLen], fun _ => rfl⟩
  · simp at hcs
    subst hcs
    have hz' : zs.length = c' := by simpa using hz
    have hb := by_of_ints (W := W) hl hm (by omega) hcell hwz
    refine ⟨_, some a, c', ?_, hb⟩
    simp
    omega

theorem arg_rows {t s e : TypeId} {r : Reach} {b0 : Nat} {v : Value} {d : DataW H} {p : List MemPlace} (ht : P.underlying t = some (.slice s)) (hs : P.underlying s = some (.slice e)) (he : P.underlying e = some (.int .u8)) (hS : P.cellsOf s = 1) (hE : P.cellsOf e = 1)
    (hv : Value.okWide P W r b0 t v) (h : DataW.Trod enc P W base (fun _ => true) held t v d p) : ∃ (A : Option Addr) (n c : Nat) (ls : List (List UInt8)), v = .slice A n c ∧ n = ls.length ∧ Rws W A c ls := by
  obtain ⟨A, n, c, rfl⟩ := okWide_slice ht hv
  obtain ⟨fuel, hf⟩ := h
  rcases open_slice1 ht hS hf with ⟨hcs, _⟩ | ⟨a, len, cap, m, k, V, D, Pl, hcs, _, hl, hm, hmm, _, hx⟩
  · simp [Value.cells] at hcs
    obtain ⟨rfl, rfl, rfl⟩ := hcs
    exact ⟨none, 0, 0, [], rfl, rfl, fun j hj => absurd hj (by simp), by simp, by simp [maxLen], fun _ => rfl⟩
  · simp [Value.cells] at hcs
    obtain ⟨rfl, rfl, rfl⟩ := hcs
    have hmc : m = c := by simpa using hmm
    obtain ⟨f, hfl⟩ := choose_lt (α := List UInt8) (n := n) (p := fun i l => ∃ (B : Option Addr) (d : Nat), V i = .slice B l.length d ∧ By W B d l) (fun i hi => bytes_of_trod hs he hE (hx i (by omega)).2)
    refine ⟨some a, n, c, (List.range n).map f, rfl, by simp, fun j hj => ?_, by simpa using hl, hm, fun h => by cases h⟩
    rw [List.length_map, List.length_range] at hj
    obtain ⟨B, d2, h1, h2⟩ := hfl j hj
    refine ⟨a, rfl, B, d2, ?_, ?_⟩
    · rw [(hx j (by omega)).1, h1]
      simp
    · simpa using h2
end

end Go.Proofs.Ythpaoeiackbdoaa

/-
  What a row's arguments are to a walk, by their reading and its weights: a struct of one cell a field; a slice of structs. No program.
-/
namespace Go.Proofs.Ythpaoeiackbdoaa
open Go.ChangeShapes Go.WideShapes Go.ChangeAt Go.RowKit Go.Deep
set_option maxRecDepth 100000

section
variable {H : Type} {enc : TypeId × Value → H} {P : Program} {W : World} {base M : Nat} {spare : Nat → Bool} {held : Bool}

/-- all that a reading holds is of this weight at most -/
def Weighs (P : Program) (M : Nat) (t : TypeId) (d : DataW H) : Prop := ∀ n ∈ d.weights P t, n ≤ M

theorem str_of {t : TypeId} {fuel : Nat} {v : Value} {x : DataW H × List MemPlace} (ht : P.underlying t = some .string) (h : DataW.trod enc P W base spare held fuel t [v] = some x) (hw : Weighs P M t x.1) : ∃ s : ByteArray, v = .string s ∧ s.size ≤ M := by
  obtain ⟨s, h1, rfl, _⟩ := DataW.trod_string ht h
  refine ⟨s, by simpa using h1, ?_⟩
  have := hw s.data.toList.length (by simp [DataW.weights])
  rwa [Array.length_toList] at this
theorem int_of {t : TypeId} {k : IntKind} {fuel : Nat} {v : Value} {x : DataW H × List MemPlace} (ht : P.underlying t = some (.int k)) (h : DataW.trod enc P W base spare held fuel t [v] = some x) : ∃ n, v = .int k n ∧ (Lit.int k n).wf = true := by
  obtain ⟨n, h1, _, h2⟩ := DataW.trod_int ht h
  exact ⟨n, by simpa using h1, h2⟩
theorem bool_of {t : TypeId} {fuel : Nat} {v : Value} {x : DataW H × List MemPlace} (ht : P.underlying t = some .bool) (h : DataW.trod enc P W base spare held fuel t [v] = some x) : ∃ b, v = .bool b := by
  obtain ⟨b, h1, _⟩ := DataW.trod_bool ht h
  exact ⟨b, by simpa using h1⟩

/-- a struct of one cell a field -/
theorem flat_of {t : TypeId} {fs : Array Field} {fuel : Nat} {cs : List Value} {x : DataW H × List MemPlace} (ht : P.underlying t = some (.struct fs)) (hone : oneCellFields P fs = true) (hC : P.cellsOf t = fs.size)
    (h : DataW.trod enc P W base spare held fuel t cs = some x) (hw : Weighs P M t x.1) :
    cs.length = fs.size ∧ ∃ n, ∀ (i : Nat) (f : Field), fs[i]? = some f → ∃ (v : Value) (y : DataW H × List MemPlace), cs[i]? = some v ∧ DataW.trod enc P W base spare held n f.type [v] = some y ∧ Weighs P M f.type y.1 := by
  obtain ⟨xs, n, _, rfl, hl, hxl, hf⟩ := DataW.trod_struct ht h
  refine ⟨by rw [hl, hC], n, fun i f hi => ?_⟩
  have hlt : i < fs.size := (Array.getElem?_eq_some_iff.1 hi).1
  obtain ⟨ho, hc1⟩ := hone_of hone i f hi
  have g := hf i f hi
  rw [ho, hc1, take1_drop cs i undef (by omega), List.getElem?_eq_getElem (show i < xs.length by omega)] at g
  refine ⟨cs.getD i undef, xs[i]'(by omega), ?_, g, fun m hm => ?_⟩
  · rw [List.getD_eq_getElem?_getD, List.getElem?_eq_getElem (show i < cs.length by omega)]
    rfl
  · refine hw m ?_
    simp only [DataW.weights, ht]
    refine DataW.weights_mem_each (j := i) (t := f.type) (d := (xs[i]'(by omega)).1) ?_ ?_ m hm
    · rw [List.getElem?_map, ← Array.getElem?_toList] at *
      rw [hi]
      rfl
    · rw [List.getElem?_map, List.getElem?_eq_getElem (show i < xs.length by omega)]
      rfl

/-- what each element of a slice is -/
theorem rows_of {t e : TypeId} {k : Nat} {α : Type} (C : α → List Value) (ok : α → Prop) (ht : P.underlying t = some (.slice e)) (hk : P.cellsOf e = k) (hbytes : 1 ≤ P.bytesOf e)
    (one : ∀ (fuel : Nat) (cs : List Value) (x : DataW H × List MemPlace), DataW.trod enc P W base (fun _ => true) held fuel e cs = some x → Weighs P M e x.1 → ∃ a, cs = C a ∧ ok a)
    {fuel : Nat} {v : Value} {x : DataW H × List MemPlace} (h : DataW.trod enc P W base (fun _ => true) held fuel t [v] = some x) (hw : Weighs P M t x.1) :
    ∃ l : List α, RowAt k W v (l.map C) ∧ (∀ a ∈ l, ok a) ∧ l.length ≤ M := by
  rcases open_slice ht h with ⟨hcs, _⟩ | ⟨a, len, cap, m, n, D, Pl, hcs, _, hl, _, hmm, rfl, hx⟩
  · simp at hcs
    subst hcs
    exact ⟨[], ⟨none, 0, rfl, Nat.le_refl _, fun j i r u hj _ => by simp at hj⟩, fun a ha => absurd ha (by simp), by simp⟩
  · simp at hcs
    subst hcs
    have hmc : m = cap := by simpa using hmm
    have hsl : ((List.range len).map D).length * P.bytesOf e ≤ M := by
      refine Nat.le_trans (Nat.mul_le_mul_right _ (Nat.le_add_right _ ((List.range (m - len)).map fun j => D (len + j)).length)) (hw _ ?_)
      simp only [DataW.weights, ht]
      exact List.mem_cons_self ..
    rw [List.length_map, List.length_range] at hsl
    have hlM : len ≤ M := by
      refine Nat.le_trans ?_ hsl
      exact Nat.le_mul_of_pos_right _ hbytes
    have hD : ∀ i, i < len → Weighs P M e (D i) := fun i hi y hy => by
      refine hw y ?_
      simp only [DataW.weights, ht]
      refine List.mem_cons_of_mem _ (List.mem_append_left _ ?_)
      have hall : ∀ (ds : List (DataW H)) (d : DataW H), d ∈ ds → ∀ y ∈ d.weights P e, y ∈ DataW.weightsAll P e ds := by
        intro ds
        induction ds with
        | nil => intro d hd; simp at hd
        | cons d0 ds ih =>
          intro d hd y hy
          simp only [DataW.weightsAll, List.mem_append]
          rcases List.mem_cons.1 hd with rfl | hd
          · exact .inl hy
          · exact .inr (ih d hd y hy)
      exact hall _ _ (List.mem_map.2 ⟨i, List.mem_range.2 hi, rfl⟩) y hy
    have hex : ∀ i, i < len → ∃ b : α, W.cells? base (a.add (i * k)) k = some (C b) ∧ ok b := fun i hi => by
      obtain ⟨cs', h1, h2⟩ := hx i (by omega)
      rw [hk] at h1
      obtain ⟨b, rfl, hb⟩ := one _ _ _ h2 (hD i hi)
      exact ⟨b, h1, hb⟩
    by_cases h0 : len = 0
    · subst h0
      exact ⟨[], ⟨some a, cap, rfl, by simp, fun j i r u hj _ => by simp at hj⟩, fun a ha => absurd ha (by simp), by simp⟩
    obtain ⟨b0, _, _⟩ := hex 0 (by omega)
    obtain ⟨f, hf⟩ := @choose_lt α ⟨b0⟩ len (fun i b => W.cells? base (a.add (i * k)) k = some (C b) ∧ ok b) hex
    refine ⟨(List.range len).map f, ⟨some a, cap, by simp, by simpa using hl, fun j i r u hj hi => ⟨a, rfl, ?_⟩⟩, fun b hb => ?_, by simpa using hlM⟩
    · rw [List.map_map, List.getElem?_map] at hj
      by_cases hjl : j < len
      · rw [List.getElem?_range hjl] at hj
        simp only [Option.map_some, Function.comp, Option.some.injEq] at hj
        subst hj
        obtain ⟨_, hlen, hcell⟩ := World.cells?_some (hf j hjl).1
        have hik : i < k := by rw [← hlen]; exact (List.getElem?_eq_some_iff.1 hi).1
        have := hcell i hik
        rw [hi, Deep.add_add] at this
        exact this
      · rw [List.getElem?_eq_none (by simpa using hjl)] at hj
        cases hj
    · obtain ⟨i, hi, rfl⟩ := List.mem_map.1 hb
      exact (hf i (List.mem_range.1 hi)).2
end

end Go.Proofs.Ythpaoeiackbdoaa
