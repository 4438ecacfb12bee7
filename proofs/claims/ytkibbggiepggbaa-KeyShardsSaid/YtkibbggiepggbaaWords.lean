/-
  Words for bytes in memory, over any program: a slice that reads as a list of bytes; what the call itself made; that a world has only grown. No program of its own.
-/
import Derived.WalkKit
import Derived.WalkSpells
import Derived.WalkLawsBesides
import Derived.Lib.AppendStr
import Derived.Laws.AppendOwnNone
import Derived.Deep.QuietTactic
import Derived.BigQuiet
namespace Go.Proofs.Ytkibbggiepggbaa
open Go.RowKit

/-- a byte as a value -/
def bv (b : UInt8) : Value := .int .u8 (b.toNat : Int)
def bvs (l : List UInt8) : List Value := l.map bv

theorem bvs_len (l : List UInt8) : (bvs l).length = l.length := by simp [bvs]
theorem bvs_app (l r : List UInt8) : bvs (l ++ r) = bvs l ++ bvs r := by simp [bvs]
theorem bvs_one (l : List UInt8) : ∀ u ∈ bvs l, u.oneCell' = true := by
  intro u hu
  simp only [bvs, List.mem_map] at hu
  obtain ⟨b, _, rfl⟩ := hu
  rfl

/-- the world has only grown: what was there is as it was -/
def Gr (w w' : World) : Prop := Below w.heap.size w w'
theorem Gr.refl (w : World) : Gr w w := Below.refl _ _
theorem Gr.trans {a b c : World} (h : Gr a b) (k : Gr b c) : Gr a c := Below.trans h (Below.mono k h.size)
theorem Gr.alloc {a w : World} (h : Gr a w) (o : Obj) : Gr a (w.alloc o) := Below.alloc h h.size o
theorem Gr.drew {a w : World} (h : Gr a w) : Gr a w.drew := Below.drew h
theorem Gr.below {a w : World} (h : Gr a w) : Below a.heap.size a w := h

/-- bytes that the call owns from block B on ('e': the byte's type) -/
def OwnE (e : TypeId) (w : World) (B : Nat) (v : Value) (l : List UInt8) : Prop := w.ownsRow B e 1 v l.length (bvs l)

section
variable {P : Program} {e : TypeId} {w w' : World} {B : Nat} {v : Value} {l : List UInt8}

theorem OwnE.none_ (w : World) (B : Nat) : OwnE e w B (.slice none 0 0) [] := World.ownsRow_nil _ _ _ _
theorem OwnE.alloc (h : OwnE e w B v l) (o : Obj) : OwnE e (w.alloc o) B v l := World.ownsRow.alloc h o
theorem OwnE.gr (h : OwnE e w B v l) (hg : Gr w w') : OwnE e w' B v l :=
  World.ownsRow.kept (row := none) h ⟨hg.os, hg.tape, hg.output, hg.size, fun k hk _ => hg.block k hk⟩ (by cases hv : v.ownBlock <;> simp)
theorem OwnE.base (h : OwnE e w B v l) {B' : Nat} (hB : B' ≤ B) : OwnE e w B' v l := by
  refine ⟨h.1, ?_⟩
  rcases h.2 with h2 | ⟨g, cap, cur, hv, hg, r⟩
  · exact .inl h2
  · exact .inr ⟨g, cap, cur, hv, by omega, r⟩

/-- one byte more: 'append(own, x)', x in a new block of its own -/
theorem wpList_push {ops : Array Oper} {rest : List Oper} {o : Oper} {a : Act} {Q : Exit → Act → World → Prop} (hgd : o.guard = none) (s x : Operand) (t : TypeId)
    (ho : o.op = .call { callee := .builtin .append, args := #[s, x], argTypes := #[t, t] }) (e : TypeId) (i : TypeInfo) (ht : P.underlying t = some (.slice e)) (hi : P.info? e = some i)
    (hz : i.zero = some (.int .u8 0)) (hsize : i.size = 1) (hby : i.bytes = 1) {w0 w : World} {b : UInt8} {X : Int} (hX : Hid (X = (b.toNat : Int)))
    (hs : a.eval s = v) (hown : OwnE e w w0.heap.size v l) (hgr : Gr w0 w)
    (hx : a.eval x = .slice (some ⟨w.heap.size, 0, none⟩) 1 1) (hl : l.length ≤ 1000000000)
    (h : ∀ v' w', OwnE e w' w0.heap.size v' (l ++ [b]) → Gr w0 w' → wpList P ops Q rest (a.put o.dst v') w') : wpList P ops Q (o :: rest) a (w.alloc (.cells #[.int .u8 X] e)) := by
  have hX' : X = (b.toNat : Int) := hX
  subst hX'
  refine wpList_append_own _ hgd s x t ho w0.heap.size e i _ 1 1 ht hi hz hsize hby rfl (by decide) v l.length (bvs l) hs (hown.alloc _) ⟨w.heap.size, 0, none⟩ 1 1 (bvs [b]) hx rfl ?_ (bvs_one _)
    (by unfold maxLen; omega) (by omega) (Nat.le_trans hgr.size (by simp)) ?_
  · intro j u hj
    match j, hj with
    | 0, hj => simp [bvs, bv] at hj; subst hj; simp [Addr.add]
  · intro v' w' h1 h2 _
    refine h v' w' (by unfold OwnE; rw [bvs_app, List.length_append]; exact h1) ((hgr.alloc _).below.grown h2 (Nat.le_trans hgr.size (by simp)) fun k hk => (World.ownsRow.lt hown k hk).1)
end

/-- the address A reads as the bytes l -/
def Rd (w : World) (A : Option Addr) (l : List UInt8) : Prop := ∀ j (h : j < l.length), ∃ ad, A = some ad ∧ w.cell? (ad.add j) = some (bv l[j])

theorem Rd.nil (w : World) (A : Option Addr) : Rd w A [] := fun j h => absurd h (by simp)
theorem Rd.of_cells {w w' : World} {A : Option Addr} {l : List UInt8} (h : Rd w A l) (hk : ∀ (p : Addr) v, w.cell? p = some v → w'.cell? p = some v) : Rd w' A l := fun j hj => by
  obtain ⟨ad, h1, h2⟩ := h j hj
  exact ⟨ad, h1, hk _ _ h2⟩
theorem gr_cell {w w' : World} (hg : Gr w w') (p : Addr) (v : Value) (h : w.cell? p = some v) : w'.cell? p = some v :=
  (hg.below.cell (World.block_lt_of_cell? w p h)).trans h
theorem Rd.gr {w w' : World} {A : Option Addr} {l : List UInt8} (h : Rd w A l) (hg : Gr w w') : Rd w' A l := h.of_cells (gr_cell hg)
theorem Rd.take {w : World} {A : Option Addr} {l : List UInt8} (h : Rd w A l) (k : Nat) : Rd w A (l.take k) := fun j hj => by
  have hj' : j < l.length := by rw [List.length_take] at hj; omega
  obtain ⟨ad, h1, h2⟩ := h j hj'
  exact ⟨ad, h1, by rw [List.getElem_take]; exact h2⟩
/-- what the call owns reads so -/
theorem OwnE.rd {e : TypeId} {w : World} {B : Nat} {v : Value} {l : List UInt8} (h : OwnE e w B v l) : ∃ A c, v = .slice A l.length c ∧ Rd w A l ∧ l.length ≤ c ∧ c ≤ maxLen ∧ (A = none → l = [] ∧ c = 0) := by
  rcases h.2 with ⟨rfl, hn⟩ | ⟨g, cap, cur, rfl, hb, hg, hnc, hm, hs, ht⟩
  · have : l = [] := List.eq_nil_of_length_eq_zero hn
    subst this
    exact ⟨none, 0, rfl, Rd.nil _ _, by simp, by simp [maxLen], fun _ => ⟨rfl, rfl⟩⟩
  · refine ⟨some ⟨g, 0, none⟩, cap, rfl, fun j hj => ⟨_, rfl, ?_⟩, hnc, hm, fun h => by cases h⟩
    exact World.ownsRow.cells h (g := g) rfl j _ (by simp [bvs, hj])

/-- only block g has changed, and what is new -/
def But (w w' : World) (g : Nat) : Prop := w.grownBy w' (some g)
theorem But.refl (w : World) (g : Nat) : But w w g := World.grownBy.refl w _
theorem But.drewN {a w : World} {g : Nat} (h : But a w g) (n : Nat) : But a (w.drewN n) g := ⟨h.os, h.tape, h.output, h.size, h.block⟩
theorem But.alloc {a w : World} {g : Nat} (h : But a w g) (o : Obj) : But a (w.alloc o) g :=
  ⟨h.os, h.tape, h.output, Nat.le_trans h.size (by simp), fun i hi hne => (Below.heap_alloc w o i (Nat.lt_of_lt_of_le hi h.size)).trans (h.block i hi hne)⟩
theorem But.set {a w : World} {g : Nat} (h : But a w g) (i : Nat) (u : Value) : But a (w.setCell ⟨g, i, none⟩ u) g :=
  ⟨h.os, h.tape, h.output, by simpa [World.setCell] using h.size, fun k hk hne => (Below.heap_setCell w ⟨g, i, none⟩ u k (fun e => hne (by rw [e]))).trans (h.block k hk hne)⟩
theorem But.cell {a w : World} {g : Nat} (h : But a w g) {p : Addr} {v : Value} (hc : a.cell? p = some v) (hne : p.block ≠ g) : w.cell? p = some v :=
  World.grownBy.cell h hc (by simpa using hne)

/-- block g is just these cells -/
def Bl (w : World) (g : Nat) (t : TypeId) (cs : Array Value) : Prop := w.heap[g]? = some (.cells cs t (0, 0))
theorem Bl.cell {w : World} {g : Nat} {t : TypeId} {cs : Array Value} (h : Bl w g t cs) (i : Nat) : w.cell? ⟨g, i, none⟩ = cs[i]? := cell_of_row w g i cs t (0, 0) h
theorem Bl.frozen {w : World} {g : Nat} {t : TypeId} {cs : Array Value} (h : Bl w g t cs) (i : Nat) : w.frozen? ⟨g, i, none⟩ = false := by
  unfold Bl at h
  simp [World.frozen?, h]
theorem Bl.new (w : World) (t : TypeId) (cs : Array Value) : Bl (w.alloc (.cells cs t)) w.heap.size t cs := heap_alloc_new w _
theorem Bl.drewN {w : World} {g : Nat} {t : TypeId} {cs : Array Value} (h : Bl w g t cs) (n : Nat) : Bl (w.drewN n) g t cs := h
theorem Bl.put {w : World} {g : Nat} {t : TypeId} {cs : Array Value} (h : Bl w g t cs) (i : Nat) (u : Value) : Bl (w.setCell ⟨g, i, none⟩ u) g t (cs.setIfInBounds i u) := by
  unfold Bl at h ⊢
  simp [World.setCell, Array.getElem?_modify, h]
theorem Bl.lt {w : World} {g : Nat} {t : TypeId} {cs : Array Value} (h : Bl w g t cs) : g < w.heap.size := (Array.getElem?_eq_some_iff.1 h).1
theorem Bl.gr {w w' : World} {g : Nat} {t : TypeId} {cs : Array Value} (h : Bl w g t cs) (hg : Gr w w') : Bl w' g t cs := (hg.block g h.lt).trans h

theorem add_block (a : Addr) (n : Nat) : (a.add n).block = a.block := by unfold Addr.add; split <;> rfl
theorem add_add (a : Addr) (i j : Nat) : (a.add i).add j = a.add (i + j) := by
  unfold Addr.add
  by_cases hi : i = 0 <;> by_cases hj : j = 0 <;> simp [hi, hj, Nat.add_assoc]
/-- a fact that the walk is not to see -/
theorem hide {p : Prop} (h : p) : Hid p := h

/-- bytes as a string -/
def bs (l : List UInt8) : ByteArray := ⟨l.toArray⟩
theorem bs_size (l : List UInt8) : (bs l).size = l.length := by simp [bs, ByteArray.size]
theorem bs_list (l : List UInt8) : (bs l).data.toList = l := by simp [bs]
theorem bs_of (s : ByteArray) : bs s.data.toList = s := by simp [bs]
theorem bs_inj {a b : List UInt8} (h : bs a = bs b) : a = b := by
  have := congrArg (fun s : ByteArray => s.data.toList) h
  simpa [bs] using this

/-- 'string(b)' -/
theorem run_conv {P : Program} (w : World) (src dst e : TypeId) (hs : P.underlying src = some (.slice e)) (he : P.underlying e = some (.int .u8)) (hd : P.underlying dst = some .string)
    {A : Option Addr} {l : List UInt8} (n c : Nat) (hn : l.length = n) (h : Rd w A l) : (convert src dst (.slice A n c)).run P w = .ok (.string (bs l)) w := by
  subst hn
  rcases A with _ | ad
  · have : l = [] := by
      cases l with
      | nil => rfl
      | cons b r => obtain ⟨ad, h1, _⟩ := h 0 (by simp); cases h1
    subst this
    exact run_convert_bytes_nil w src e hs he _ _ dst hd
  · have hl : (loadCells ad l.length).run P w = .ok ((l.map fun b => (b.toNat : Int)).map (Value.int .u8)).toArray w := by
      have := run_loadCells_list (P := P) w ad (bvs l) (fun j v hj => by
        simp only [bvs, List.getElem?_map, Option.map_eq_some_iff] at hj
        obtain ⟨b, hb, rfl⟩ := hj
        obtain ⟨hj', rfl⟩ := List.getElem?_eq_some_iff.1 hb
        obtain ⟨ad', h1, h2⟩ := h j hj'
        injection h1 with h1
        subst h1
        exact h2)
      rw [bvs_len] at this
      rw [this]
      simp [bvs, bv, Function.comp_def]
    rw [run_convert_bytes_string w src dst e _ l.length c hs he hd, run_bytesToString w ad l.length c _ hl, foldl_push_bytes]
    simp [bs, ByteArray.empty, ByteArray.emptyWithCapacity, Function.comp_def]
    rfl

theorem Rd.drewN {w : World} {A : Option Addr} {l : List UInt8} (h : Rd w A l) (n : Nat) : Rd (w.drewN n) A l := h
/-- bytes that do not lie in block g -/
def Off (g : Nat) (A : Option Addr) (l : List UInt8) : Prop := 0 < l.length → ∀ ad, A = some ad → ad.block ≠ g
theorem Rd.but {w w' : World} {g : Nat} {A : Option Addr} {l : List UInt8} (h : Rd w A l) (hb : But w w' g) (ho : Off g A l) : Rd w' A l := fun j hj => by
  obtain ⟨ad, h1, h2⟩ := h j hj
  exact ⟨ad, h1, hb.cell h2 (by rw [add_block]; exact ho (by omega) _ h1)⟩
theorem Rd.off {w : World} {A : Option Addr} {l : List UInt8} (h : Rd w A l) : Off w.heap.size A l := fun hl ad hA => by
  obtain ⟨ad', h1, h2⟩ := h 0 hl
  rw [hA] at h1
  injection h1 with h1
  subst h1
  have := World.block_lt_of_cell? w _ h2
  rw [add_block] at this
  omega
/-- a cut, as the model makes it -/
theorem Rd.cut {w : World} {A : Option Addr} {l : List UInt8} (h : Rd w A l) (i j cap : Nat) (hij : i ≤ j) (hj : j ≤ l.length) (hc : l.length ≤ cap) :
    Rd w (if cap = i then A else A.map (·.add i)) ((l.drop i).take (j - i)) := fun k hk => by
  rw [List.length_take, List.length_drop] at hk
  obtain ⟨ad, rfl, h2⟩ := h (i + k) (by omega)
  rw [if_neg (by omega)]
  refine ⟨ad.add i, rfl, ?_⟩
  rw [add_add, h2]
  simp

/-- one conversion in a region that is walked once -/
theorem quiet_conv {P : Program} {ops : Array Oper} {C : World → Prop} {Q : Act → Prop} {a : Act} {o : Oper} {rest : List Oper} (hg : o.guard = none) (src dst : TypeId) (x : Operand) (ho : o.op = .convert src dst x)
    {v u : Value} (hx : a.eval x = v) (hc : ∀ w, C w → (convert src dst v).run P w = .ok u w) (h : wpQuiet P ops C Q rest (a.put o.dst u)) : wpQuiet P ops C Q (o :: rest) a := by
  unfold wpQuiet
  rw [if_pos (by simp [Region.wanted, hg])]
  refine ⟨u, fun w hw => ?_, h⟩
  unfold Oper.quietAt execOp
  simp [ho, hx, hc w hw, Oper.quietUpon, Result.andThen]

theorem But.gr {w w' : World} {o : Obj} (h : But (w.alloc o) w' w.heap.size) : Gr w w' :=
  Below.trans (Gr.alloc (Gr.refl w) o) ⟨h.os, h.tape, h.output, h.size, fun k hk => h.block k (by simp; omega) (by simp; omega)⟩

section
variable {P : Program} {e : TypeId} {v : Value} {l : List UInt8}

theorem strCells_bvs (s : ByteArray) : Lib.strCells s = bvs s.data.toList := rfl

/-- 'append(own, s...)', s a string -/
theorem wpList_app_str {ops : Array Oper} {rest : List Oper} {o : Oper} {a : Act} {Q : Exit → Act → World → Prop} (hgd : o.guard = none) (sl x : Operand) (t u : TypeId)
    (ho : o.op = .call { callee := .builtin .append, args := #[sl, x], argTypes := #[t, u] }) (e : TypeId) (i : TypeInfo) (ht : P.underlying t = some (.slice e)) (hu : P.underlying u = some .string) (hi : P.info? e = some i)
    (hz : i.zero = some (.int .u8 0)) (hsize : i.size = 1) (hby : i.bytes = 1) {w0 w : World} (s : ByteArray)
    (hs : a.eval sl = v) (hown : OwnE e w w0.heap.size v l) (hgr : Gr w0 w) (hx : a.eval x = .string s) (hl : l.length + s.size ≤ 1000000000)
    (h : ∀ v' w', OwnE e w' w0.heap.size v' (l ++ s.data.toList) → Gr w0 w' → wpList P ops Q rest (a.put o.dst v') w') : wpList P ops Q (o :: rest) a w := by
  refine Lib.wpList_append_own_string w hgd sl x t u ho w0.heap.size e i ht hu hi hz hsize hby v l.length (bvs l) hs hown s hx (by unfold maxLen; omega) (by omega) hgr.size ?_
  intro v' w' h1 h2 _
  refine h v' w' ?_ (hgr.below.grown h2 hgr.size fun k hk => (World.ownsRow.lt hown k hk).1)
  unfold OwnE
  rw [bvs_app, List.length_append, ← strCells_bvs]
  have : s.data.toList.length = s.size := by rw [Array.length_toList]; rfl
  rw [this]
  exact h1

/-- 'append(own, r...)', r bytes that lie somewhere -/
theorem wpList_app {ops : Array Oper} {rest : List Oper} {o : Oper} {a : Act} {Q : Exit → Act → World → Prop} (hgd : o.guard = none) (sl x : Operand) (t : TypeId)
    (ho : o.op = .call { callee := .builtin .append, args := #[sl, x], argTypes := #[t, t] }) (e : TypeId) (i : TypeInfo) (ht : P.underlying t = some (.slice e)) (hi : P.info? e = some i)
    (hz : i.zero = some (.int .u8 0)) (hsize : i.size = 1) (hby : i.bytes = 1) {w0 w : World} {A : Option Addr} {m c : Nat} {r : List UInt8} (hm : m = r.length)
    (hs : a.eval sl = v) (hown : OwnE e w w0.heap.size v l) (hgr : Gr w0 w) (hx : a.eval x = .slice A m c) (hr : Rd w A r) (hc0 : A = none → c = 0) (hl : l.length + r.length ≤ 1000000000)
    (h : ∀ v' w', OwnE e w' w0.heap.size v' (l ++ r) → Gr w0 w' → wpList P ops Q rest (a.put o.dst v') w') : wpList P ops Q (o :: rest) a w := by
  subst hm
  have hcells : ∀ ad, A = some ad → ∀ j u, (bvs r)[j]? = some u → w.cell? (ad.add j) = some u := fun ad hA j u hj => by
    simp only [bvs, List.getElem?_map, Option.map_eq_some_iff] at hj
    obtain ⟨b, hb, rfl⟩ := hj
    obtain ⟨hj', rfl⟩ := List.getElem?_eq_some_iff.1 hb
    obtain ⟨ad', h1, h2⟩ := hr j hj'
    rw [hA] at h1
    injection h1 with h1
    subst h1
    exact h2
  rcases A with _ | ad
  · have hr0 : r = [] := by
      cases r with
      | nil => rfl
      | cons b r => obtain ⟨ad, h1, _⟩ := hr 0 (by simp); cases h1
    subst hr0
    have hc := hc0 rfl
    subst hc
    exact wpList_append_own_none hgd sl x t ho w0.heap.size e i 1 ht hi v l.length (bvs l) hs hown hx (h v w (by simpa using hown) hgr)
  · refine wpList_append_own _ hgd sl x t ho w0.heap.size e i _ 1 1 ht hi hz hsize hby rfl (by decide) v l.length (bvs l) hs hown ad r.length c (bvs r) hx (by simp [bvs]) (hcells ad rfl) (bvs_one _)
      (by unfold maxLen; omega) (by omega) hgr.size ?_
    intro v' w' h1 h2 _
    refine h v' w' (by unfold OwnE; rw [bvs_app, List.length_append]; exact h1) (hgr.below.grown h2 hgr.size fun k hk => (World.ownsRow.lt hown k hk).1)
end

/-- the slice '.slice A l.length c' reads as the bytes l -/
structure By (w : World) (A : Option Addr) (c : Nat) (l : List UInt8) : Prop where
  rd : Rd w A l
  le : l.length ≤ c
  max : c ≤ maxLen
  nil : A = none → c = 0
theorem By.gr {w w' : World} {A : Option Addr} {c : Nat} {l : List UInt8} (h : By w A c l) (hg : Gr w w') : By w' A c l := ⟨h.rd.gr hg, h.le, h.max, h.nil⟩
theorem By.drewN {w : World} {A : Option Addr} {c : Nat} {l : List UInt8} (h : By w A c l) (n : Nat) : By (w.drewN n) A c l := ⟨h.rd, h.le, h.max, h.nil⟩
theorem By.cut {w : World} {A : Option Addr} {c : Nat} {l : List UInt8} (h : By w A c l) (i j : Nat) (hij : i ≤ j) (hj : j ≤ l.length) :
    By w (if c = i then A else A.map (·.add i)) (c - i) ((l.drop i).take (j - i)) := by
  refine ⟨h.rd.cut i j c hij hj h.le, ?_, ?_, fun e => ?_⟩
  · have := h.le; rw [List.length_take, List.length_drop]; omega
  · have := h.max; omega
  · split at e
    · omega
    · rcases A with _ | a
      · have := h.nil rfl; omega
      · cases e
theorem OwnE.by_ {e : TypeId} {w : World} {B : Nat} {v : Value} {l : List UInt8} (h : OwnE e w B v l) : ∃ A c, v = .slice A l.length c ∧ By w A c l := by
  obtain ⟨A, c, rfl, h1, h2, h3, h4⟩ := h.rd
  exact ⟨A, c, rfl, h1, h2, h3, fun e => (h4 e).2⟩

/-- a conversion in a plain region -/
theorem wpList_conv {P : Program} {ops : Array Oper} {rest : List Oper} {o : Oper} {a : Act} {w : World} {Q : Exit → Act → World → Prop} (hgd : o.guard = none) (src dst : TypeId) (x : Operand) (ho : o.op = .convert src dst x)
    {v u : Value} (hx : a.eval x = v) (hc : (convert src dst v).run P w = .ok u w) (h : wpList P ops Q rest (a.put o.dst u) w) : wpList P ops Q (o :: rest) a w := by
  refine wpList_plain hgd fun K hK => ?_
  unfold Oper.wp execOp
  simp only [ho, hx]
  rw [Sem.run_bind, hc]
  exact hK _ _ h

end Go.Proofs.Ytkibbggiepggbaa
