/-
  Seats in memory: rows that read so, rows of the call's own.
-/
import Derived.Test.YtgocapmclhimdaaProg
import Derived.Test.YtgocapmclhimdaaSeMath
import Derived.Test.YtgocapmclhimdaaRowMine
import Derived.Test.YtgocapmclhimdaaRowCut
namespace Go.Proofs.Ytgocapmclhimdaa
open Go Go.RowKit SeMath
set_option maxRecDepth 100000

def seC (s : SeT) : List Value := [.int .i64 s.ses, .int .i64 s.seq, .int .i64 s.pos]
/-- a seat as a value -/
def seA (s : SeT) : Value := .agg #[.int .i64 s.ses, .int .i64 s.seq, .int .i64 s.pos]
/-- a slice of seats that reads so -/
def SeX (w : World) (v : Value) (l : List SeT) : Prop := RowAt 3 w v (l.map seC)
/-- one of the call's own -/
def SeO (w : World) (B : Nat) (v : Value) (l : List SeT) : Prop := OwnR 30 3 w B v (l.map seC)
theorem SeO.none_ (w : World) (B : Nat) : SeO w B (.slice none 0 0) [] := OwnR.none_ w B
theorem SeX.gr {w w' : World} {v : Value} {l : List SeT} (h : SeX w v l) (hg : Gr w w') : SeX w' v l := RowAt.gr h hg
theorem SeO.gr {w w' : World} {B : Nat} {v : Value} {l : List SeT} (h : SeO w B v l) (hg : Gr w w') : SeO w' B v l := OwnR.gr h hg
theorem SeO.base {w : World} {B B' : Nat} {v : Value} {l : List SeT} (h : SeO w B v l) (hB : B' ≤ B) : SeO w B' v l := OwnR.base h hB
theorem SeO.lt {w : World} {B : Nat} {v : Value} {l : List SeT} (h : SeO w B v l) : ∀ g, v.ownBlock = some g → B ≤ g ∧ g < w.heap.size := OwnR.lt h
theorem SeO.x {w : World} {B : Nat} {v : Value} {l : List SeT} (h : SeO w B v l) : SeX w v l := OwnR.rowAt h
theorem SeX.is {w : World} {v : Value} {l : List SeT} (h : SeX w v l) : ∃ A c, v = .slice A l.length c ∧ l.length ≤ c := by
  obtain ⟨A, c, h1, h2, _⟩ := h
  rw [List.length_map] at h1 h2
  exact ⟨A, c, h1, h2⟩
theorem SeX.at_ {w : World} {v : Value} {l : List SeT} (h : SeX w v l) {k : Nat} (hk : k < l.length) :
    ∃ ad c, v = .slice (some ad) l.length c ∧ w.cell? (ad.add (k * 3)) = some (.int .i64 l[k].ses) ∧ w.cell? ⟨(ad.add (k * 3)).block, (ad.add (k * 3)).off + 1, none⟩ = some (.int .i64 l[k].seq) ∧ w.cell? ⟨(ad.add (k * 3)).block, (ad.add (k * 3)).off + 2, none⟩ = some (.int .i64 l[k].pos) := by
  obtain ⟨ad, c, h1, _, h3, h4⟩ := RowAt.cell h (j := k) (r := seC l[k]) (by rw [List.getElem?_map, List.getElem?_eq_getElem hk]; rfl) (by simp [seC])
  rw [List.length_map] at h1
  exact ⟨ad, c, h1, h3 _ rfl, h4 1 _ (by decide) rfl, h4 2 _ (by decide) rfl⟩
theorem SeX.nil (w : World) (A : Option Addr) (c : Nat) : SeX w (.slice A 0 c) [] := ⟨A, c, rfl, Nat.zero_le _, fun j i r u hj _ => by simp at hj⟩
theorem seC_three (l : List SeT) : ∀ r ∈ l.map seC, r.length = 3 := fun r hr => by obtain ⟨x, _, rfl⟩ := List.mem_map.1 hr; rfl
theorem seC_one (l : List SeT) : ∀ r ∈ l.map seC, ∀ y ∈ r, y.oneCell' = true := fun r hr y hy => by
  obtain ⟨x, _, rfl⟩ := List.mem_map.1 hr
  simp only [seC, List.mem_cons, List.not_mem_nil, or_false] at hy
  rcases hy with rfl | rfl | rfl <;> simp [Value.oneCell']
theorem info_se : ∃ i, Try.prog.info? 30 = some i ∧ i.zero = some (.agg #[.int .i64 0, .int .i64 0, .int .i64 0]) ∧ i.size = 3 ∧ i.bytes = 24 := info_parts (by kernel_rfl)
theorem size_se : ∀ w, (sizeOf (Try.prog.elem 24)).run Try.prog w = .ok 3 w := fun w => by kernel_rfl
/-- what begins a row is new -/
theorem Put1.below {w0 w w' : World} {e : TypeId} {k : Nat} {v v' : Value} {rs : List (List Value)} (h : Put1 w w' v v') (ho : OwnR e k w w0.heap.size v rs) (hg : Gr w0 w) : Gr w0 w' := by
  refine ⟨h.1.os.trans hg.os, h.1.tape.trans hg.tape, h.1.output.trans hg.output, Nat.le_trans hg.size h.1.size, fun j hj => ?_⟩
  rw [h.1.block j (Nat.lt_of_lt_of_le hj hg.size) (fun e => by have := (ho.lt j e.symm).1; omega)]
  exact hg.block j hj

/-- 'append(own, l...)' -/
theorem wpList_appSe {ops : Array Oper} {rest : List Oper} {o : Oper} {a : Act} {Q : Exit → Act → World → Prop} (hgd : o.guard = none) (s x : Operand)
    (ho : o.op = .call { callee := .builtin .append, args := #[s, x], argTypes := #[24, 24] }) {w0 w : World} {v u : Value} {ls qs : List SeT}
    (hs : a.eval s = v) (hown : SeO w w0.heap.size v ls) (hgr : Gr w0 w) (hx : a.eval x = u) (hu : SeX w u qs) (hl : ls.length + qs.length ≤ 1000000000)
    (h : ∀ v' w', SeO w' w0.heap.size v' (ls ++ qs) → Gr w0 w' → wpList Try.prog ops Q rest (a.put o.dst v') w') : wpList Try.prog ops Q (o :: rest) a w := by
  obtain ⟨i0, hi, hz0, hz1, hz2⟩ := info_se
  refine wpList_appR hgd s x _ ho 30 i0 _ 3 24 Try.underlying24 hi hz0 hz1 hz2 rfl (by decide) hs hown hgr.size hx hu (seC_three _) (seC_one _) (by simp only [List.length_map]; unfold maxLen; omega) (by simp only [List.length_map]; omega) ?_
  intro v' w' h1 h2
  refine h v' w' ?_ (h2.below hown hgr)
  unfold SeO
  rw [List.map_append]
  exact h1
/-- one seat is another now -/
theorem SeO.stored {w : World} {B g n c : Nat} {l : List SeT} (h : SeO w B (.slice (some ⟨g, 0, none⟩) n c) l) {k : Nat} (hk : k < l.length) (x : SeT) :
    SeO (((w.setCell ⟨g, k * 3, none⟩ (.int .i64 x.ses)).setCell ⟨g, k * 3 + 1, none⟩ (.int .i64 x.seq)).setCell ⟨g, k * 3 + 2, none⟩ (.int .i64 x.pos)) B (.slice (some ⟨g, 0, none⟩) n c) (l.set k x) ∧ But w (((w.setCell ⟨g, k * 3, none⟩ (.int .i64 x.ses)).setCell ⟨g, k * 3 + 1, none⟩ (.int .i64 x.seq)).setCell ⟨g, k * 3 + 2, none⟩ (.int .i64 x.pos)) g := by
  have hn : n = l.length := by obtain ⟨A, d, e, _⟩ := h.x.is; injection e
  subst hn
  have h1 := h.2
  rw [List.length_map] at h1
  obtain ⟨o1, g1⟩ := h1.stored (k * 3) (.int .i64 x.ses)
  obtain ⟨o2, g2⟩ := o1.stored (k * 3 + 1) (.int .i64 x.seq)
  obtain ⟨o3, g3⟩ := o2.stored (k * 3 + 2) (.int .i64 x.pos)
  rw [ins_set (seC_three l) (by rw [List.length_map]; exact hk)] at o3
  refine ⟨⟨seC_three _, ?_⟩, g1.trans (g2.trans g3)⟩
  rw [List.length_map, List.length_set, List.map_set]
  exact o3
theorem SeO.cells {w : World} {B : Nat} {v : Value} {l : List SeT} (h : SeO w B v l) {k : Nat} (hk : k < l.length) :
    ∃ g c, v = .slice (some ⟨g, 0, none⟩) l.length c ∧ B ≤ g ∧ g < w.heap.size ∧ l.length ≤ c ∧ w.cell? ⟨g, k * 3, none⟩ = some (.int .i64 l[k].ses) ∧ w.cell? ⟨g, k * 3 + 1, none⟩ = some (.int .i64 l[k].seq) ∧ w.cell? ⟨g, k * 3 + 2, none⟩ = some (.int .i64 l[k].pos) ∧ ∀ j, w.frozen? ⟨g, j, none⟩ = false := by
  obtain ⟨g, c, e, hB, hg, hc, _⟩ := OwnR.block_ h (by rw [List.length_map]; omega)
  rw [List.length_map] at e hc
  subst e
  have hj : (l.map seC)[k]? = some (seC l[k]) := by rw [List.getElem?_map, List.getElem?_eq_getElem hk]; rfl
  exact ⟨g, c, rfl, hB, hg, hc, OwnR.cell_ h (by rw [List.length_map]) (i := 0) hj rfl, OwnR.cell_ h (by rw [List.length_map]) (i := 1) hj rfl, OwnR.cell_ h (by rw [List.length_map]) (i := 2) hj rfl, OwnR.frozen_ h (by rw [List.length_map])⟩

end Go.Proofs.Ytgocapmclhimdaa

namespace Go.Proofs.Ytgocapmclhimdaa.Grow
open Go Go.RowKit Go.Proofs.Ytgocapmclhimdaa SeMath
/-- this slice, and it reads as these seats -/
abbrev Sx (u : Value) (l : List SeT) : Known := fun v w => v = u ∧ SeX w u l
theorem Sx.stays (u : Value) (l : List SeT) : Stays (Sx u l) := fun _ _ _ ⟨h1, h2⟩ hg => ⟨h1, h2.gr hg⟩
end Go.Proofs.Ytgocapmclhimdaa.Grow
