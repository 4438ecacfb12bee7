/-
  Versions in memory: rows that read so, rows of the call's own.
-/
import Derived.Test.YtbfbghfaeejicaaProg
import Derived.Test.YtbfbghfaeejicaaChMath
import Derived.Test.YtbfbghfaeejicaaRowMine
import Derived.Test.YtbfbghfaeejicaaRowCut
namespace Go.Proofs.Ytbfbghfaeejicaa
open Go Go.RowKit ChMath KeyMath
set_option maxRecDepth 100000

def verC (v : VerT) : List Value := [.int .i64 v.pos, .string v.val, .bool v.gone]
/-- a version as a value -/
def verA (v : VerT) : Value := .agg #[.int .i64 v.pos, .string v.val, .bool v.gone]
/-- a slice of versions that reads so -/
def VersX (w : World) (v : Value) (l : List VerT) : Prop := RowAt 3 w v (l.map verC)
/-- one of the call's own -/
def VersO (w : World) (B : Nat) (v : Value) (l : List VerT) : Prop := OwnR 51 3 w B v (l.map verC)
theorem VersO.none_ (w : World) (B : Nat) : VersO w B (.slice none 0 0) [] := OwnR.none_ w B
theorem VersX.gr {w w' : World} {v : Value} {l : List VerT} (h : VersX w v l) (hg : Gr w w') : VersX w' v l := RowAt.gr h hg
theorem VersO.gr {w w' : World} {B : Nat} {v : Value} {l : List VerT} (h : VersO w B v l) (hg : Gr w w') : VersO w' B v l := OwnR.gr h hg
theorem VersO.base {w : World} {B B' : Nat} {v : Value} {l : List VerT} (h : VersO w B v l) (hB : B' ≤ B) : VersO w B' v l := OwnR.base h hB
theorem VersO.apart {w w' : World} {B g : Nat} {v : Value} {rs : List VerT} (h : VersO w B v rs) (hb : But w w' g) (hg : some g ≠ v.ownBlock) : VersO w' B v rs :=
  ⟨h.1, World.ownsRow.kept h.2 hb (.inr fun e2 => hg e2.symm)⟩
theorem VersO.lt {w : World} {B : Nat} {v : Value} {l : List VerT} (h : VersO w B v l) : ∀ g, v.ownBlock = some g → B ≤ g ∧ g < w.heap.size := OwnR.lt h
theorem VersO.x {w : World} {B : Nat} {v : Value} {l : List VerT} (h : VersO w B v l) : VersX w v l := OwnR.rowAt h
theorem VersX.is {w : World} {v : Value} {l : List VerT} (h : VersX w v l) : ∃ A c, v = .slice A l.length c ∧ l.length ≤ c := by
  obtain ⟨A, c, h1, h2, _⟩ := h
  rw [List.length_map] at h1 h2
  exact ⟨A, c, h1, h2⟩
theorem VersX.at_ {w : World} {v : Value} {l : List VerT} (h : VersX w v l) {k : Nat} (hk : k < l.length) :
    ∃ ad c, v = .slice (some ad) l.length c ∧ w.cell? (ad.add (k * 3)) = some (.int .i64 l[k].pos) ∧ w.cell? ⟨(ad.add (k * 3)).block, (ad.add (k * 3)).off + 1, none⟩ = some (.string l[k].val) ∧ w.cell? ⟨(ad.add (k * 3)).block, (ad.add (k * 3)).off + 2, none⟩ = some (.bool l[k].gone) := by
  obtain ⟨ad, c, h1, _, h3, h4⟩ := RowAt.cell h (j := k) (r := verC l[k]) (by rw [List.getElem?_map, List.getElem?_eq_getElem hk]; rfl) (by simp [verC])
  rw [List.length_map] at h1
  exact ⟨ad, c, h1, h3 _ rfl, h4 1 _ (by decide) rfl, h4 2 _ (by decide) rfl⟩
theorem VersX.nil (w : World) (A : Option Addr) (c : Nat) : VersX w (.slice A 0 c) [] := ⟨A, c, rfl, Nat.zero_le _, fun j i r u hj _ => by simp at hj⟩
theorem verC_three (l : List VerT) : ∀ r ∈ l.map verC, r.length = 3 := fun r hr => by obtain ⟨x, _, rfl⟩ := List.mem_map.1 hr; rfl
theorem verC_one (l : List VerT) : ∀ r ∈ l.map verC, ∀ y ∈ r, y.oneCell' = true := fun r hr y hy => by
  obtain ⟨x, _, rfl⟩ := List.mem_map.1 hr
  simp only [verC, List.mem_cons, List.not_mem_nil, or_false] at hy
  rcases hy with rfl | rfl | rfl <;> simp [Value.oneCell']
theorem info_ver : ∃ i, Try.prog.info? 51 = some i ∧ i.zero = some (.agg #[.int .i64 0, .string ⟨#[]⟩, .bool false]) ∧ i.size = 3 ∧ i.bytes = 32 := info_parts (by kernel_rfl)
theorem size_ver : ∀ w, (sizeOf (Try.prog.elem 52)).run Try.prog w = .ok 3 w := fun w => by kernel_rfl
/-- what begins a row is new -/
theorem Put1.fresh0 {w w' : World} {n c : Nat} {v' : Value} (h : Put1 w w' (.slice none n c) v') : Gr w w' := ⟨h.1.os, h.1.tape, h.1.output, h.1.size, fun k hk => h.1.block k hk (by simp [Value.ownBlock])⟩
theorem Put1.below {w0 w w' : World} {e : TypeId} {k : Nat} {v v' : Value} {rs : List (List Value)} (h : Put1 w w' v v') (ho : OwnR e k w w0.heap.size v rs) (hg : Gr w0 w) : Gr w0 w' := by
  refine ⟨h.1.os.trans hg.os, h.1.tape.trans hg.tape, h.1.output.trans hg.output, Nat.le_trans hg.size h.1.size, fun j hj => ?_⟩
  rw [h.1.block j (Nat.lt_of_lt_of_le hj hg.size) (fun e => by have := (ho.lt j e.symm).1; omega)]
  exact hg.block j hj

theorem Gr.fresh_ {w wr wz : World} {k : Nat} (h : Gr w wr) (hb : But wr wz k) (hk : w.heap.size ≤ k) : Gr w wz := by
  refine ⟨hb.os.trans h.os, hb.tape.trans h.tape, hb.output.trans h.output, Nat.le_trans h.size hb.size, fun j hj => ?_⟩
  rw [hb.block j (Nat.lt_of_lt_of_le hj h.size) (fun e => by injection e with e; omega)]
  exact h.block j hj

/-- 'append(own, l...)' -/
theorem wpList_appV {ops : Array Oper} {rest : List Oper} {o : Oper} {a : Act} {Q : Exit → Act → World → Prop} (hgd : o.guard = none) (s x : Operand)
    (ho : o.op = .call { callee := .builtin .append, args := #[s, x], argTypes := #[52, 52] }) {w0 w : World} {v u : Value} {ls qs : List VerT}
    (hs : a.eval s = v) (hown : VersO w w0.heap.size v ls) (hgr : Gr w0 w) (hx : a.eval x = u) (hu : VersX w u qs) (hl : ls.length + qs.length ≤ 1000000000)
    (h : ∀ v' w', VersO w' w0.heap.size v' (ls ++ qs) → Gr w0 w' → wpList Try.prog ops Q rest (a.put o.dst v') w') : wpList Try.prog ops Q (o :: rest) a w := by
  obtain ⟨i0, hi, hz0, hz1, hz2⟩ := info_ver
  refine wpList_appR hgd s x _ ho 51 i0 _ 3 32 Try.underlying52 hi hz0 hz1 hz2 rfl (by decide) hs hown hgr.size hx hu (verC_three _) (verC_one _) (by simp only [List.length_map]; unfold maxLen; omega) (by simp only [List.length_map]; omega) ?_
  intro v' w' h1 h2
  refine h v' w' ?_ (h2.below hown hgr)
  unfold VersO
  rw [List.map_append]
  exact h1
/-- 'append(own, v)' -/
theorem wpList_pushVer {ops : Array Oper} {rest : List Oper} {o : Oper} {a : Act} {Q : Exit → Act → World → Prop} (hgd : o.guard = none) (s x : Operand)
    (ho : o.op = .call { callee := .builtin .append, args := #[s, x], argTypes := #[52, 52] }) {w0 w : World} {v : Value} {ls : List VerT} {p : Int} {t : ByteArray} {b : Bool}
    (hs : a.eval s = v) (hown : VersO w w0.heap.size v ls) (hgr : Gr w0 w) (hx : a.eval x = .slice (some ⟨w.heap.size, 0, none⟩) 1 1) (hl : ls.length ≤ 100000000)
    (h : ∀ v' w', VersO w' w0.heap.size v' (ls ++ [⟨p, t, b⟩]) → Gr w0 w' → wpList Try.prog ops Q rest (a.put o.dst v') w') : wpList Try.prog ops Q (o :: rest) a (w.alloc (.cells #[.int .i64 p, .string t, .bool b] 51)) := by
  obtain ⟨i0, hi, hz0, hz1, hz2⟩ := info_ver
  refine wpList_pushR hgd s x 52 ho 51 i0 _ 3 32 Try.underlying52 hi hz0 hz1 hz2 rfl (by decide) (cs := #[.int .i64 p, .string t, .bool b]) rfl (fun u hu => ?_) hs hown hgr.size hx (by rw [List.length_map]; unfold maxLen; omega) (by rw [List.length_map]; omega) (fun v' w' g1 g2 => ?_)
  · simp at hu
    rcases hu with rfl | rfl | rfl <;> rfl
  · refine h v' w' ?_ (g2.below hown hgr)
    unfold VersO
    rw [List.map_append]
    exact g1

end Go.Proofs.Ytbfbghfaeejicaa

namespace Go.Proofs.Ytbfbghfaeejicaa.Grow
open Go Go.RowKit Go.Proofs.Ytbfbghfaeejicaa ChMath
/-- this slice, and it reads as these versions -/
abbrev Vx (u : Value) (l : List VerT) : Known := fun v w => v = u ∧ VersX w u l
theorem Vx.stays (u : Value) (l : List VerT) : Stays (Vx u l) := fun _ _ _ ⟨h1, h2⟩ hg => ⟨h1, h2.gr hg⟩
end Go.Proofs.Ytbfbghfaeejicaa.Grow
