/-
  Rows of logs, and places, in memory. No function of the program.
-/
import Derived.Test.YtncdmecppfmmgaaMgMath
import Derived.Test.YtncdmecppfmmgaaIntRows
import Derived.Test.YtncdmecppfmmgaaEntOwn
namespace Go.Proofs.Ytncdmecppfmmgaa
open Go Go.RowKit TxnMath KeyMath MsgMath EpMath MgMath
set_option maxRecDepth 100000

/-- logs that read so -/
def LogsX (w : World) (v : Value) (ls : List (List EntT)) : Prop := ∃ xs : List Value, xs.length = ls.length ∧ ValX w v xs ∧ ∀ j (h : j < xs.length) (h2 : j < ls.length), EntsX Any w xs[j] ls[j]
theorem LogsX.gr {w w' : World} {v : Value} {ls : List (List EntT)} (h : LogsX w v ls) (hg : Gr w w') : LogsX w' v ls := by
  obtain ⟨xs, h1, h2, h3⟩ := h
  exact ⟨xs, h1, h2.gr hg, fun j hj hj2 => (h3 j hj hj2).gr hg⟩
theorem LogsX.nil (w : World) : LogsX w (.slice none 0 0) [] := ⟨[], rfl, ⟨none, 0, rfl, ⟨fun j hj => absurd hj (by simp), Nat.le_refl _, by unfold maxLen; omega, fun _ => rfl⟩⟩, fun j h => absurd h (by simp)⟩
theorem LogsX.is {w : World} {v : Value} {ls : List (List EntT)} (h : LogsX w v ls) : ∃ A c, v = .slice A ls.length c ∧ (ls.length : Int) ≤ (c : Int) ∧ ∀ j (hj : j < ls.length), ∃ ad A' c', A = some ad ∧ w.cell? (ad.add j) = some (.slice A' ls[j].length c') ∧ EntsX Any w (.slice A' ls[j].length c') ls[j] := by
  obtain ⟨xs, h1, ⟨A, c, rfl, h2⟩, h3⟩ := h
  refine ⟨A, c, by rw [h1], by have := h2.le; omega, fun j hj => ?_⟩
  obtain ⟨ad, h4, h5⟩ := h2.rd j (by omega)
  have h6 := h3 j (by omega) hj
  obtain ⟨A', c', e⟩ := h6.is
  exact ⟨ad, A', c', h4, by rw [h5, e], e ▸ h6⟩

/-- a place's cells -/
def plcC (p : PlaceT) (q : Value × Value) : List Value := [.int .i64 (p.part : Int), .int .i64 p.index, .int .i64 p.t.ses, .int .i64 p.t.seq, q.1, q.2]
theorem plcC_all6 (ps : List PlaceT) (f : Nat → Value × Value) : ∀ r ∈ ps.mapIdx fun j p => plcC p (f j), r.length = 6 := fun r hr => by
  obtain ⟨j, h, rfl⟩ := List.mem_mapIdx.1 hr
  rfl
/-- places that read so -/
def PlX (w : World) (v : Value) (ps : List PlaceT) : Prop := ∃ f : Nat → Value × Value, RowAt 6 w v (ps.mapIdx fun j p => plcC p (f j)) ∧ ∀ j p, ps[j]? = some p → RowsX Any w p.t (f j)
theorem PlX.gr {w w' : World} {v : Value} {ps : List PlaceT} (h : PlX w v ps) (hg : Gr w w') : PlX w' v ps := by
  obtain ⟨f, h1, h2⟩ := h
  exact ⟨f, h1.gr hg, fun j p hj => (h2 j p hj).gr hg⟩
theorem PlX.nil (w : World) : PlX w (.slice none 0 0) [] := ⟨fun _ => (undef, undef), ⟨none, 0, rfl, Nat.le_refl _, fun j i r u hj _ => by simp at hj⟩, fun j p hj => by simp at hj⟩
theorem PlX.is {w : World} {v : Value} {ps : List PlaceT} (h : PlX w v ps) : ∃ A c, v = .slice A ps.length c ∧ ps.length ≤ c := by
  obtain ⟨f, ⟨A, c, e, hc, _⟩, _⟩ := h
  rw [List.length_mapIdx] at e hc
  exact ⟨A, c, e, hc⟩
theorem PlX.at_ {w : World} {v : Value} {ps : List PlaceT} {k : Nat} (h : PlX w v ps) (hk : k < ps.length) :
    ∃ ad c q, v = .slice (some ad) ps.length c ∧ RowsX Any w ps[k].t q ∧ w.cell? (ad.add (k * 6)) = some (.int .i64 (ps[k].part : Int)) ∧ w.cell? ⟨(ad.add (k * 6)).block, (ad.add (k * 6)).off + 1, none⟩ = some (.int .i64 ps[k].index) ∧
      w.cell? ⟨(ad.add (k * 6)).block, (ad.add (k * 6)).off + 2, none⟩ = some (.int .i64 ps[k].t.ses) ∧ w.cell? ⟨(ad.add (k * 6)).block, (ad.add (k * 6)).off + 3, none⟩ = some (.int .i64 ps[k].t.seq) ∧
      w.cell? ⟨(ad.add (k * 6)).block, (ad.add (k * 6)).off + 4, none⟩ = some q.1 ∧ w.cell? ⟨(ad.add (k * 6)).block, (ad.add (k * 6)).off + 5, none⟩ = some q.2 := by
  obtain ⟨F, h1, h2⟩ := h
  obtain ⟨ad, c, e, _, h0, h3⟩ := h1.cell (j := k) (r := plcC ps[k] (F k)) (by rw [List.getElem?_mapIdx, List.getElem?_eq_getElem hk]; rfl) (by simp [plcC])
  rw [List.length_mapIdx] at e
  exact ⟨ad, c, F k, e, h2 k ps[k] (List.getElem?_eq_getElem hk), h0 _ rfl, h3 1 _ (by decide) rfl, h3 2 _ (by decide) rfl, h3 3 _ (by decide) rfl, h3 4 _ (by decide) rfl, h3 5 _ (by decide) rfl⟩
theorem PlX.take {w : World} {A : Option Addr} {n c : Nat} {ps : List PlaceT} (h : PlX w (.slice A n c) ps) (i : Nat) (hi : i ≤ n) : PlX w (.slice A i c) (ps.take i) := by
  obtain ⟨f, h1, h2⟩ := h
  refine ⟨f, by rw [← mapIdx_take]; exact h1.take i hi, fun j x hj => ?_⟩
  rw [List.getElem?_take] at hj
  split at hj
  · exact h2 j x hj
  · cases hj

/-- places that a call builds: a row of its own; what they point to was there ahead of it -/
def PlO (w0 w : World) (B : Nat) (v : Value) (ps : List PlaceT) : Prop := ∃ f : Nat → Value × Value, OwnR 41 6 w B v (ps.mapIdx fun j p => plcC p (f j)) ∧ ∀ j p, ps[j]? = some p → RowsX Any w0 p.t (f j)
theorem PlO.none_ (w0 w : World) (B : Nat) : PlO w0 w B (.slice none 0 0) [] := ⟨fun _ => (undef, undef), OwnR.none_ _ _, fun j e hj => by simp at hj⟩
theorem PlO.gr {w0 w w' : World} {B : Nat} {v : Value} {ps : List PlaceT} (h : PlO w0 w B v ps) (hg : Gr w w') : PlO w0 w' B v ps := by
  obtain ⟨f, h1, h2⟩ := h
  exact ⟨f, h1.gr hg, h2⟩
theorem PlO.pl {w0 w : World} {B : Nat} {v : Value} {ps : List PlaceT} (h : PlO w0 w B v ps) (hg : Gr w0 w) : PlX w v ps := by
  obtain ⟨f, h1, h2⟩ := h
  exact ⟨f, h1.rowAt, fun j p hj => (h2 j p hj).gr hg⟩
theorem PlO.is {w0 w : World} {B : Nat} {v : Value} {ps : List PlaceT} (h : PlO w0 w B v ps) : ∃ A c, v = .slice A ps.length c := by
  obtain ⟨f, h1, h2⟩ := h
  obtain ⟨A, c, e, _⟩ := h1.is
  rw [List.length_mapIdx] at e
  exact ⟨A, c, e⟩
theorem info_plc : ∃ i, Try.prog.info? 41 = some i ∧ i.zero = some (.agg #[.int .i64 0, .int .i64 0, .int .i64 0, .int .i64 0, .slice none 0 0, .slice none 0 0]) ∧ i.size = 6 ∧ i.bytes = 80 := info_parts (by kernel_rfl)

/-- 'append(places, Place{p, i, t})' -/
theorem wpList_pushPl {ops : Array Oper} {rest : List Oper} {o : Oper} {a : Act} {Q : Exit → Act → World → Prop} (hgd : o.guard = none) (s x : Operand)
    (ho : o.op = .call { callee := .builtin .append, args := #[s, x], argTypes := #[26, 26] }) {w0 w1 w : World} {v : Value} {ps : List PlaceT} (p : PlaceT) {q : Value × Value} (hq : RowsX Any w0 p.t q) {part index ses seq : Int} {rv wv : Value}
    (e1 : part = (p.part : Int)) (e2 : index = p.index) (e3 : ses = p.t.ses) (e4 : seq = p.t.seq) (e5 : rv = q.1) (e6 : wv = q.2)
    (hs : a.eval s = v) (hown : PlO w0 w w1.heap.size v ps) (hgr : Gr w1 w) (hx : a.eval x = .slice (some ⟨w.heap.size, 0, none⟩) 1 1) (hl : ps.length ≤ 1000000)
    (h : ∀ v' w', PlO w0 w' w1.heap.size v' (ps ++ [p]) → Gr w1 w' → wpList Try.prog ops Q rest (a.put o.dst v') w') : wpList Try.prog ops Q (o :: rest) a (w.alloc (.cells #[.int .i64 part, .int .i64 index, .int .i64 ses, .int .i64 seq, rv, wv] 41)) := by
  subst e1 e2 e3 e4 e5 e6
  obtain ⟨i0, hi, hz0, hz1, hz2⟩ := info_plc
  obtain ⟨f, h1, h2⟩ := hown
  have o1 : q.1.oneCell' = true := by
    obtain ⟨⟨A, c, e, _⟩, _⟩ := hq.rd
    rw [e]; rfl
  have o2 : q.2.oneCell' = true := by
    obtain ⟨⟨A, c, e, _⟩, _⟩ := hq.wr
    rw [e]; rfl
  refine wpList_pushR hgd s x 26 ho 41 i0 _ 6 80 Try.underlying26 hi hz0 hz1 hz2 rfl (by decide) (cs := #[.int .i64 (p.part : Int), .int .i64 p.index, .int .i64 p.t.ses, .int .i64 p.t.seq, q.1, q.2]) rfl (fun u hu => ?_) hs h1 hgr.size hx (by rw [List.length_mapIdx]; unfold maxLen; omega) (by rw [List.length_mapIdx]; omega) (fun v' w' g1 g2 => ?_)
  · simp at hu
    rcases hu with rfl | rfl | rfl | rfl | rfl | rfl <;> first | rfl | exact o1 | exact o2
  · refine h v' w' ⟨fun j => if j < ps.length then f j else q, ?_, fun j y hj => ?_⟩ ?_
    · have e : (ps.mapIdx fun j p => plcC p (f j)) ++ [plcC p q] = (ps ++ [p]).mapIdx fun j p => plcC p (if j < ps.length then f j else q) := by
        have := mapIdx_app ps [p] (fun j p => plcC p (f j)) (fun _ p => plcC p q)
        rw [show ([p].mapIdx fun _ p => plcC p q) = [plcC p q] from rfl] at this
        rw [this]
        congr 1
        funext j y
        split <;> rfl
      rw [← e]
      exact g1
    · rw [List.getElem?_append] at hj
      show RowsX Any w0 y.t (if j < ps.length then f j else q)
      by_cases hjl : j < ps.length
      · rw [if_pos hjl] at hj
        rw [if_pos hjl]
        exact h2 j y hj
      · rw [if_neg hjl] at hj
        rw [if_neg hjl]
        have : y = p := by
          rcases hz : j - ps.length with _ | z
          · rw [hz] at hj; simpa using hj.symm
          · rw [hz] at hj; simp at hj
        rw [this]
        exact hq
    · refine ⟨g2.1.os.trans hgr.os, g2.1.tape.trans hgr.tape, g2.1.output.trans hgr.output, Nat.le_trans hgr.size g2.1.size, fun k hk => ?_⟩
      rw [g2.1.block k (Nat.lt_of_lt_of_le hk hgr.size) (fun e => by have := (h1.lt k e.symm).1; omega)]
      exact hgr.block k hk

/-- batches of all logs: a row of the call's own of rows of rows of numbers -/
def CutsI (w : World) (B : Nat) (v : Value) (css : List (List (List Int))) : Prop :=
  ∃ xs : List Value, xs.length = css.length ∧ OwnV 46 w B v xs ∧ ∀ j (h : j < xs.length) (h2 : j < css.length), ∃ B', B ≤ B' ∧ RowsI w B' xs[j] css[j]
theorem CutsI.none_ (w : World) (B : Nat) : CutsI w B (.slice none 0 0) [] := ⟨[], rfl, OwnV.none_ w B, fun j h => absurd h (by simp)⟩
theorem CutsI.gr {w w' : World} {B : Nat} {v : Value} {css : List (List (List Int))} (h : CutsI w B v css) (hg : Gr w w') : CutsI w' B v css := by
  obtain ⟨xs, h1, h2, h3⟩ := h
  exact ⟨xs, h1, h2.gr hg, fun j hj hj2 => by obtain ⟨B', h4, h5⟩ := h3 j hj hj2; exact ⟨B', h4, h5.gr hg⟩⟩
theorem CutsI.is {w : World} {B : Nat} {v : Value} {css : List (List (List Int))} (h : CutsI w B v css) : ∃ A c, v = .slice A css.length c := by
  obtain ⟨xs, h1, h2, _⟩ := h
  obtain ⟨A, c, h5, _⟩ := h2.is
  exact ⟨A, c, by rw [← h1]; exact h5⟩
theorem CutsI.at_ {w : World} {B : Nat} {v : Value} {css : List (List (List Int))} (h : CutsI w B v css) (hl : 0 < css.length) : ∃ g c, v = .slice (some ⟨g, 0, none⟩) css.length c ∧ ∀ j (hj : j < css.length), ∃ x B', w.cell? ⟨g, j, none⟩ = some x ∧ RowsI w B' x css[j] := by
  obtain ⟨xs, h1, h2, h3⟩ := h
  have h2' := h2
  rcases h2.2 with ⟨_, hn⟩ | ⟨g, c, cur, rfl, hB, hg, hrest⟩
  · omega
  refine ⟨g, c, by rw [h1], fun j hj => ?_⟩
  have hjx : j < xs.length := by omega
  obtain ⟨B', _, h5⟩ := h3 j hjx hj
  refine ⟨xs[j], B', ?_, h5⟩
  rw [World.ownsRow.cellAt h2' j (by omega)]
  exact List.getElem?_eq_getElem hjx

theorem info_iss : ∃ i, Try.prog.info? 46 = some i ∧ i.zero = some (.slice none 0 0) ∧ i.size = 1 ∧ i.bytes = 24 := info_parts (by kernel_rfl)
/-- a row of another kind is built on -/
theorem RowsI.beside {w w' : World} {B B0 : Nat} {v v' u : Value} {ls : List (List Int)} {xs : List Value} (h : RowsI w B u ls) (ho : OwnV 46 w B0 v xs) (hp : Put1 w w' v v') : RowsI w' B u ls := by
  obtain ⟨ys, h1, h2, h3, h4⟩ := h
  exact ⟨ys, h1, OwnV.beside h2 hp (sep_ty ho h2 (by decide)), fun j hj hj2 => OwnV.beside (h3 j hj hj2) hp (sep_ty ho (h3 j hj hj2) (by decide)), h4⟩
/-- 'append(cuts, cut)' -/
theorem wpList_pushCut {ops : Array Oper} {rest : List Oper} {o : Oper} {a : Act} {Q : Exit → Act → World → Prop} (hgd : o.guard = none) (s x : Operand)
    (ho : o.op = .call { callee := .builtin .append, args := #[s, x], argTypes := #[83, 83] }) {w0 w : World} {v u : Value} {css : List (List (List Int))} {cs : List (List Int)} {B' : Nat}
    (hs : a.eval s = v) (hown : CutsI w w0.heap.size v css) (hrow : RowsI w B' u cs) (hB' : w0.heap.size ≤ B') (hgr : Gr w0 w) (hx : a.eval x = .slice (some ⟨w.heap.size, 0, none⟩) 1 1) (hl : css.length ≤ 100000)
    (h : ∀ v' w', CutsI w' w0.heap.size v' (css ++ [cs]) → Gr w0 w' → wpList Try.prog ops Q rest (a.put o.dst v') w') : wpList Try.prog ops Q (o :: rest) a (w.alloc (.cells #[u] 46)) := by
  obtain ⟨i0, hi, hz0, hz1, hz2⟩ := info_iss
  obtain ⟨xs, h1, h2, h3⟩ := hown
  have hu1 : u.oneCell' = true := by
    obtain ⟨A, c, rfl⟩ := hrow.is
    rfl
  refine wpList_pushV hgd s x 83 ho 46 i0 _ 24 Try.underlying83 hi hz0 hz1 hz2 rfl (u := u) hu1 hs h2 hgr hx (by unfold maxLen; omega) (by omega) ?_
  intro v' w' g1 g2 g3
  refine h v' w' ⟨xs ++ [u], by simp [h1], g1, fun j hj hj2 => ?_⟩ g2
  by_cases hjx : j < xs.length
  · rw [List.getElem_append_left hjx, List.getElem_append_left (by omega)]
    obtain ⟨B2, h5, h6⟩ := h3 j hjx (by omega)
    exact ⟨B2, h5, h6.beside h2 g3⟩
  · have : j = xs.length := by simp at hj; omega
    subst this
    rw [List.getElem_append_right (Nat.le_refl _), List.getElem_append_right (by omega)]
    simp only [Nat.sub_self, List.getElem_cons_zero, h1]
    exact ⟨B', hB', hrow.beside h2 g3⟩

end Go.Proofs.Ytncdmecppfmmgaa
