/-
  'append(own, x...)', x of another named type than own. No program.
-/
import Derived.Test.YtkcfieoflkhdpaaDoorBaseW
namespace Go.Proofs.YtkcfieoflkhdpaaDoor
open Go Go.RowKit

theorem append_types {P : Program} {t u e e' : TypeId} (ht : P.underlying t = some (.slice e)) (hu : P.underlying u = some (.slice e')) (ty : TypeId) (args : Array Value) (w : World) :
    (Builtin.append_ #[t, u] ty args).run P w = (Builtin.append_ #[t, t] ty args).run P w := by
  rcases args with ⟨l⟩
  match l with
  | [] => rfl
  | [s] => rfl
  | s :: x :: r =>
    cases s with
    | slice base n c =>
      unfold Builtin.append_
      simp only [List.getElem?_toArray, List.getElem?_cons_zero, List.getElem?_cons_succ, Sem.run_bind, run_underlying ht, Result.andThen_ok]
      congr 1
      funext sz w1
      simp only [run_underlying hu, Result.andThen_ok]
    | _ =>
      unfold Builtin.append_
      simp only [List.getElem?_toArray, List.getElem?_cons_zero, List.getElem?_cons_succ, Sem.run_bind, run_underlying ht, Result.andThen_ok]

/-- 'append(own, r...)', r bytes that lie somewhere, and what stays -/
theorem wpList_app_ty {P : Program} {v : Value} {l : List UInt8} {ops : Array Oper} {rest : List Oper} {o : Oper} {a : Act} {Q : Exit → Act → World → Prop} (hgd : o.guard = none) (sl x : Operand) (t u : TypeId)
    (ho : o.op = .call { callee := .builtin .append, args := #[sl, x], argTypes := #[t, u] }) (e : TypeId) (i : TypeInfo) {e' : TypeId} (ht : P.underlying t = some (.slice e)) (hu : P.underlying u = some (.slice e')) (hi : P.info? e = some i)
    (hz : i.zero = some (.int .u8 0)) (hsize : i.size = 1) (hby : i.bytes = 1) {w : World} {A : Option Addr} {m c : Nat} {r : List UInt8} (hm : m = r.length)
    (hs : a.eval sl = v) (hown : OwnE e w 0 v l) (hx : a.eval x = .slice A m c) (hr : By w A c r) (hl : l.length + r.length ≤ 2000000000)
    (h : ∀ v' w', OwnE e w' 0 v' (l ++ r) → w.grownBy w' v.ownBlock → (v'.ownBlock = v.ownBlock ∨ v'.ownBlock = some w.heap.size) → wpList P ops Q rest (a.put o.dst v') w') : wpList P ops Q (o :: rest) a w := by
  subst hm
  have key : ∃ v' w', (Builtin.append_ #[t, t] o.type #[v, .slice A r.length c]).run P w = .ok v' w' ∧ OwnE e w' 0 v' (l ++ r) ∧ w.grownBy w' v.ownBlock ∧ (v'.ownBlock = v.ownBlock ∨ v'.ownBlock = some w.heap.size) := by
    have hcells : ∀ ad, A = some ad → ∀ j u, (bvs r)[j]? = some u → w.cell? (ad.add j) = some u := fun ad hA j u hj => by
      simp only [bvs, List.getElem?_map, Option.map_eq_some_iff] at hj
      obtain ⟨b, hb, rfl⟩ := hj
      obtain ⟨hj', rfl⟩ := List.getElem?_eq_some_iff.1 hb
      obtain ⟨ad', h1, h2⟩ := hr.rd j hj'
      rw [hA] at h1
      injection h1 with h1
      subst h1
      exact h2
    rcases A with _ | ad
    · have hr0 : r = [] := by
        cases r with
        | nil => rfl
        | cons b r => obtain ⟨ad, h1, _⟩ := hr.rd 0 (by simp); cases h1
      subst hr0
      have hc := hr.nil rfl
      subst hc
      exact ⟨v, w, run_append_owned_none (P := P) (w := w) 0 t o.type e i 1 ht hi v l.length (bvs l) hown, by simpa using hown, World.grownBy.refl w _, .inl rfl⟩
    · obtain ⟨v', w', h1, h2, h3, _, h5⟩ := run_append_own_at (P := P) w 0 t o.type e i _ 1 1 ht hi hz hsize hby rfl (by decide) v l.length (bvs l) hown ad r.length c (bvs r) (by simp [bvs]) (hcells ad rfl) (bvs_one _)
        (by unfold maxLen; omega) (by omega) (Nat.zero_le _)
      exact ⟨v', w', h1, by unfold OwnE; rw [bvs_app, List.length_append]; exact h2, h3, h5⟩
  obtain ⟨v', w', h1, h2, h3, h4⟩ := key
  rw [← append_types ht hu] at h1
  refine wpList_plain hgd fun K hK => ?_
  unfold Oper.wp execOp
  simp only [ho, resolve, invoke, builtin, Sem.run_bind, Sem.run_pure, Result.andThen_ok, List.map_toArray, List.map_cons, List.map_nil, hs, hx, h1]
  exact hK _ _ (h v' w' h2 h3 h4)

end Go.Proofs.YtkcfieoflkhdpaaDoor
