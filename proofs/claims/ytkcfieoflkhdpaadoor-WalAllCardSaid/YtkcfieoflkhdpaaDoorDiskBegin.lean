/-
  A disk of no files; a file that begins: New, begin.
-/
import Derived.Test.YtkcfieoflkhdpaaDoorDiskFind
import Derived.Test.YtkcfieoflkhdpaaDoorDiskName
namespace Go.Proofs.YtkcfieoflkhdpaaDoor.Mine
open Go Go.RowKit Go.Proofs.YtkcfieoflkhdpaaDoor
section
variable {P : Program} {ops : Array Oper} {w0 : World} {n0 : Nat} {Q : (Tmp → Known) → Tmp → Known → Prop} {o : Oper} {rest : List Oper} {K : Tmp → Known} {Φ : Known} {c : Tmp} {C : Known}
/-- a plain value out of none -/
theorem is0 (z : Value) (hg : o.guard = none) (hd : o.dst ≠ some c) (hr : ∀ (a : Act) (w : World), (execOp a.eval o).run P w = .ok (.value z) w) (h : wpMine P ops w0 n0 Q rest (upd K o.dst (Is z)) c C) : wpMine P ops w0 n0 Q (o :: rest) K c C := by
  refine step hg hd (Is.stays z) (fun a w ob _ _ => ?_) h
  unfold does
  rw [hr a w]
  exact ⟨Gr.refl w, rfl⟩
/-- '&T{..}' -/
theorem box {e : TypeId} {x : Operand} {u : Value} (cs : Array Value) (ho : o.op = .box e x) (hg : o.guard = none) (hd : o.dst ≠ some c) (hx : Kn K x (Is u)) (hr : ∀ (w : World), (Instr.box e u).run P w = .ok (.pointer (some ⟨w.heap.size, 0, none⟩)) (w.alloc (.cells cs e)))
    (h : wpMine P ops w0 n0 Q rest (upd K o.dst (Nw w0.heap.size e cs)) c C) : wpMine P ops w0 n0 Q (o :: rest) K c C :=
  .inl ⟨Nw w0.heap.size e cs, fun _ => Nw.stays _ _ _, hd, fun a w ob ob0 hrs hwf _ hl => by
    have hw : Region.wanted o (yielded ops a.tmps) = true := by simp [Region.wanted, hg]
    rw [if_pos hw]
    have h1 : a.eval x = u := looks_op (Ψ := Is u) (by simp [ho, Op.operands]) hx hl
    unfold does execOp
    simp only [ho, h1]
    rw [Sem.run_bind, hr w]
    refine ⟨(Gr.refl w).alloc _, w.heap.size, rfl, hrs.gb.size, Bl.new w e cs, fun e2 => ?_⟩
    have := hwf _ e2.symm
    omega, h⟩
end
end Go.Proofs.YtkcfieoflkhdpaaDoor.Mine

namespace Go.Proofs.YtkcfieoflkhdpaaDoor.DiskBegin
open Go Go.RowKit MapS DiskMem DiskFile DiskHit DiskFind KeyMath
set_option maxRecDepth 100000

theorem new_ok (n : Int) (w : World) : Calls Tryd.prog 6 #[.int .i64 n] w fun e w' => e = .returned (ptr w.heap.size) ∧ Gr w w' ∧ Bl w' w.heap.size 47 #[.int .i64 (max n 0), .int .i64 0, .map none] ∧ w'.heap.size = w.heap.size + 1 := by
  go_enter Tryd.func6, Tryd.ntmps6
  go_wp2_with fail
  go_ret
  have e : (if (0 : Int) > n then (0 : Int) else n) = max n 0 := by omega
  refine ⟨rfl, (Gr.refl w).alloc _, ?_, by simp⟩
  first | exact Bl.new w _ _ | (rw [← e]; exact Bl.new w _ _)

theorem sclone_ok (s : ByteArray) (hs : s.size ≤ 281474976710656) (w : World) : Calls Tryd.prog 54 #[.string s] w fun e w' => e = .returned (.string s) ∧ Gr w w' := by
  go_enter Tryd.func54, Tryd.ntmps54
  go_wp2_with (go_at_call 61; refine (Tryd.stringslite_Clone s _ hs).mono ?_; rintro e w1 ⟨rfl, hg⟩)
  go_ret
  exact ⟨rfl, hg⟩

/-- a map was made for the files -/
theorem made_end {S : Nat → Prop} {w : World} {d room : Nat} {es : List DEnt} (h : DiskAt S w d room es none) {w1 : World} (hw : w1 = (w.setCell ⟨d, 2, none⟩ (.map (some w.heap.size))).alloc (.map #[] 0)) :
    Only S w w1 ∧ DiskAt (ext S w w1) w1 d room es (some w.heap.size) ∧ w1.heap.size = w.heap.size + 1 := by
  have he := h.nil rfl
  subst he
  have hs0 : (w.setCell ⟨d, 2, none⟩ (.map (some w.heap.size))).heap.size = w.heap.size := by simp [World.setCell]
  have hsz : w1.heap.size = w.heap.size + 1 := by rw [hw]; simp [World.setCell]
  have hb : Bl w1 d 47 #[.int .i64 room, .int .i64 0, .map (some w.heap.size)] := by rw [hw]; exact (h.bl.put 2 _).gr ((Gr.refl _).alloc _)
  have hm : MapAt Tryd.prog 9 w1 w.heap.size [] := by
    have := MapAt.made (P := Tryd.prog) (k := 9) (w.setCell ⟨d, 2, none⟩ (.map (some w.heap.size)))
    rw [hs0] at this
    rw [hw]
    exact this
  have o2 : Only S w w1 := by rw [hw]; exact ((Only.refl S w).set (fun _ => h.dd) 2 _).alloc _
  refine ⟨o2, ⟨hb, .inl h.dd, fun hh => (by cases hh), fun b hb2 => ?_, fun e hh => absurd hh (by simp), List.Pairwise.nil, ris_nil, h.hroom, h.hused⟩, hsz⟩
  injection hb2 with hb2
  subst hb2
  exact ⟨.inr ⟨Nat.le_refl _, by omega⟩, hm⟩

def f0 : FileT := ⟨[], 0⟩
theorem ent_snd {es : List DEnt} : (es.map fun e => (e.name, e)).map (·.2) = es := by
  rw [List.map_map]
  simp [Function.comp_def]

/-- a file has begun -/
theorem new_end {S : Nat → Prop} {w w1 w2 : World} {d room b g : Nat} {es : List DEnt} {s : List UInt8} (h : DiskAt S w d room es (some b)) (hf : getE (es.map abs1) s = none) (hs : okName s) (hg : Gr w w1) (hb : Bl w1 g 79 #[.slice none 0 0, .int .i64 0])
    (hgw : w.heap.size ≤ g) (hm : MapAt Tryd.prog 9 w2 b (putE s (ptr g) (refs es))) (ht : w1.mapTurned w2 b) :
    Only S w w2 ∧ ∃ es', es'.map abs1 = putE s f0 (es.map abs1) ∧ DiskAt (ext S w w2) w2 d room es' (some b) := by
  obtain ⟨hSb, hmb⟩ := h.mp b rfl
  have o2 : Only (onB b) w1 w2 := turned_only ht
  have ow : Only S w w2 := (Only.gr hg S).trans o2 fun i _ hi => by rw [show i = b from hi]; exact hSb
  have hsz := o2.size
  have hm1 : MapAt Tryd.prog 9 w1 b (refs es) := hmb.gr hg
  obtain ⟨l', r', e1, e2⟩ := put_new (es := es.map fun e => (e.name, e)) (s := s) (y := (⟨s, g, .slice none 0 0, f0⟩ : DEnt)) (by
    rw [getE_none] at hf ⊢
    intro p hp
    obtain ⟨e, he, rfl⟩ := List.mem_map.1 hp
    exact hf _ (List.mem_map.2 ⟨e, he, rfl⟩))
  have hes : es = l'.map (·.2) ++ r'.map (·.2) := by rw [← List.map_append, ← e1, ent_snd]
  have hfst : ∀ p ∈ l' ++ r', p.1 = p.2.name := fun p hp => by
    rw [← e1] at hp
    obtain ⟨e, _, rfl⟩ := List.mem_map.1 hp
    rfl
  have hl : ∀ p ∈ l', p.1 = p.2.name := fun p hp => hfst p (by simp [hp])
  have hr : ∀ p ∈ r', p.1 = p.2.name := fun p hp => hfst p (by simp [hp])
  have conv : ∀ {α : Type} (φ : DEnt → α), (l'.map (·.2) ++ (⟨s, g, .slice none 0 0, f0⟩ : DEnt) :: r'.map (·.2)).map (fun e => (e.name, φ e)) = putE s (φ ⟨s, g, .slice none 0 0, f0⟩) (es.map fun e => (e.name, φ e)) := by
    intro α φ
    have e3 := putE_map φ s (⟨s, g, .slice none 0 0, f0⟩ : DEnt) (es.map fun e => (e.name, e))
    rw [e2, List.map_map] at e3
    rw [show (es.map fun e => (e.name, φ e)) = es.map ((fun p => (p.1, φ p.2)) ∘ fun e => (e.name, e)) from rfl, ← e3]
    simp only [List.map_append, List.map_cons, List.map_map]
    congr 1
    · exact List.map_congr_left fun p hp => by simp [hl p hp]
    · congr 1
      exact List.map_congr_left fun p hp => by simp [hr p hp]
  have hab := conv (fun e => e.f)
  have hre := conv (fun e => ptr e.g)
  generalize l'.map (·.2) = l at hes hab hre
  generalize r'.map (·.2) = r at hes hab hre
  clear conv hl hr hfst e1 e2
  have habs : (l ++ (⟨s, g, .slice none 0 0, f0⟩ : DEnt) :: r).map abs1 = putE s f0 (es.map abs1) := hab
  have hrefs : refs (l ++ (⟨s, g, .slice none 0 0, f0⟩ : DEnt) :: r) = putE s (ptr g) (refs es) := hre
  have hgl := hb.lt
  have hd1 := h.bl.gr hg
  have hused : usedF ((l ++ (⟨s, g, .slice none 0 0, f0⟩ : DEnt) :: r).map abs1) = usedF (es.map abs1) := by
    rw [used_swap, hes]
    simp [f0]
  refine ⟨ow, _, habs, ⟨?_, .inl h.dd, fun hh => (by cases hh), fun b2 hb2 => ?_, fun e he => ?_, ?_, ?_, h.hroom, by rw [hused]; exact h.hused⟩⟩
  · rw [hused]
    exact o2.bl hd1 (fun hi => hm1.ne hd1 (show d = b from hi).symm)
  · injection hb2 with hb2
    subst hb2
    rw [hrefs]
    exact ⟨.inl hSb, hm⟩
  · have hcase : e ∈ es ∨ e = ⟨s, g, .slice none 0 0, f0⟩ := by
      rw [hes]
      simp only [List.mem_append, List.mem_cons] at he ⊢
      rcases he with he | he | he
      · exact .inl (.inl he)
      · exact .inr he
      · exact .inl (.inr he)
    rcases hcase with he | rfl
    · have k1 := (h.ent e he).only (Only.of_gr hg) (fun hh => hh) (fun _ _ hh => hh)
      exact (k1.only o2 (fun hi => hm1.ne k1.file.bl (show e.g = b from hi).symm) (fun k hk hi => map_ne_own hm1 k1.file.own hk (show k = b from hi).symm)).mono fun i hi => .inl hi
    · refine ⟨⟨o2.bl hb (fun hi => hm1.ne hb (show g = b from hi).symm), OwnE.none_ _ _, Nat.le_refl _, by simp [f0]⟩, hs, .inr ⟨hgw, by simp only; omega⟩, fun k hk => (by cases hk)⟩
  · have hap := h.apart
    rw [hes] at hap
    rw [List.pairwise_append] at hap ⊢
    have hnew : ∀ e ∈ es, e.g ≠ g := fun e he e2 => by
      have := (h.ent e he).file.bl.lt
      omega
    rw [hes] at hnew
    refine ⟨hap.1, List.pairwise_cons.2 ⟨fun x hx => ⟨fun e2 => hnew x (by simp [hx]) e2.symm, fun k hk => by cases hk⟩, hap.2.1⟩, fun x hx y hy => ?_⟩
    rcases List.mem_cons.1 hy with rfl | hy
    · exact ⟨hnew x (by simp [hx]), fun k hk hk2 => by cases hk2⟩
    · exact hap.2.2 x hx y hy
  · rw [habs]
    exact h.ris.put _ _

theorem agg_map (w : World) : (isAgg 45).run Tryd.prog w = .ok false w := by kernel_rfl

set_option maxHeartbeats 1000000 in
theorem begin_has {S : Nat → Prop} {w : World} {d room : Nat} {es : List DEnt} {m : Option Nat} (h : DiskAt S w d room es m) {s : ByteArray} (hs : s.size ≤ maxLen) {en : DEnt} (hf : found es s = some en) :
    Calls Tryd.prog 40 #[ptr d, .string s] w fun e w' => e = .returned (.tuple #[]) ∧ w = w' := by
  have c2 := h.bl.cell 2
  simp only [List.getElem?_toArray, List.getElem?_cons_zero, List.getElem?_cons_succ] at c2
  have hl := look_files h hs
  rw [hf] at hl
  simp only [Option.map_some, Option.getD_some] at hl
  have he := fun (w : World) (r : Option Nat) => run_eql_map_nil (P := Tryd.prog) w 45 _ _ r Tryd.underlying45
  unfold ptr at *
  cases m with
  | none =>
    have := h.nil rfl
    subst this
    cases hf
  | some b =>
    clear h hf
    go_enter Tryd.func40, Tryd.ntmps40
    go_wp2_with fail
    go_end0
    exact ⟨rfl, rfl⟩

theorem mayK_ok {s : ByteArray} (h : mayK s = true) : okName s.data.toList ∧ s.size ≤ 8 := by
  unfold mayK at h
  simp only [Bool.and_eq_true, decide_eq_true_eq, List.all_eq_true] at h
  obtain ⟨⟨h1, h2⟩, h3⟩ := h
  have hl := list_size s
  refine ⟨⟨by omega, by omega, fun c hc => ?_⟩, h2⟩
  have := h3 c hc
  unfold okB at this
  simpa using this
theorem found_none {es : List DEnt} {s : ByteArray} (h : found es s = none) : getE (es.map abs1) s.data.toList = none := by
  rw [abs_eq]
  show (found es s).map _ = none
  rw [h]
  rfl
def zeroFile : Value := .agg #[.slice none 0 0, .int .i64 0]

set_option maxHeartbeats 1000000 in
theorem begin_new {S : Nat → Prop} {w : World} {d room : Nat} {es : List DEnt} {m : Option Nat} (h : DiskAt S w d room es m) {s : ByteArray} (hk : mayK s = true) (hf : found es s = none) (hn : es.length ≤ 1000000000) :
    Calls Tryd.prog 40 #[ptr d, .string s] w fun e w' => e = .returned (.tuple #[]) ∧ Only S w w' ∧ ∃ m' es', es'.map abs1 = putE s.data.toList f0 (es.map abs1) ∧ DiskAt (ext S w w') w' d room es' m' := by
  obtain ⟨hok, hs8⟩ := mayK_ok hk
  have hs : s.size ≤ maxLen := by unfold maxLen; omega
  have he := fun (w : World) (r : Option Nat) => run_eql_map_nil (P := Tryd.prog) w 45 _ _ r Tryd.underlying45
  have c2 := h.bl.cell 2
  simp only [List.getElem?_toArray, List.getElem?_cons_zero, List.getElem?_cons_succ] at c2
  cases m with
  | some b =>
    have hl := look_files h hs
    rw [hf] at hl
    simp only [Option.map_none, Option.getD_none] at hl
    have H := hide h
    have HF := hide (found_none hf)
    have HOK := hide hok
    clear h hf hok hk
    unfold ptr
    go_enter Tryd.func40, Tryd.ntmps40
    go_wp2_with fail
    refine Mine.wp_region_mine_tail 8 28 [20, 21, 22, 23, 24, 25, 26, 27] rfl (by kernel_rfl) (by kernel_rfl) (by kernel_rfl) (by kernel_rfl) (ob0 := none)
      (Mine.Ahead.more (Mine.Ahead.more (Mine.Ahead.none_ _ _ _) 0 (Mine.Bx.stays d 47 #[.int .i64 room, .int .i64 (usedF (es.map abs1)), .map (some b)]) ⟨rfl, H.out.bl.drewN 1, fun e => by cases e⟩) 1 (Mine.Is.stays (.string s)) rfl)
      28 (C0 := Mine.top) Mine.top_keeps (fun j hj => by cases hj) trivial ?_
    refine Mine.move (.tmp 0) (.inl rfl) rfl (by decide) rfl (Mine.Bx.stays _ _ _) ?_
    refine Mine.nil rfl rfl (by decide) rfl ?_
    refine Mine.field (j := 2) rfl rfl (by decide) rfl (fun _ => rfl) rfl ?_
    refine Mine.load rfl rfl (by decide) agg_map rfl ?_
    refine Mine.move (.tmp 1) (.inl rfl) rfl (by decide) rfl (Mine.Is.stays _) ?_
    refine Mine.call_is (z := .string s) rfl rfl (by decide) Tryd.func54 (by kernel_rfl) (by kernel_rfl) rfl (fun w => sclone_ok s (by omega) w) ?_
    refine Mine.is0 zeroFile rfl (by decide) (fun a w => ?_) ?_
    · kernel_rfl
    refine Mine.box #[.slice none 0 0, .int .i64 0] rfl rfl (by decide) rfl (fun w => ?_) ?_
    · kernel_rfl
    intro a1 w1 ob1 hr1 hwf1 hsz1 hdf1 hun1 hkn1 _
    have h23 : a1.tmps.getD 23 undef = .map (some b) := hkn1 23
    have h25 : a1.tmps.getD 25 undef = .string s := hkn1 25
    obtain ⟨g, h27, hgw, hbl, _⟩ := hkn1 27
    obtain ⟨X, hX, hlay⟩ := Grow.lay_kept_by _ a1 28 _ hsz1 hdf1 hun1
    rw [hX] at h23 h25 h27
    clear hX hun1 hdf1 hsz1 hkn1
    subst hlay
    simp only [List.range, List.range.loop, List.map_cons, List.map_nil, List.contains_cons, List.contains_nil, Nat.reduceBEq, Bool.or_false, Bool.or_true, cond_false, cond_true, Array.getD_eq_getD_getElem?, List.getElem?_toArray, List.getElem?_cons_zero, List.getElem?_cons_succ, Option.getD_some, h23, h25, h27, List.drop_succ_cons, List.drop_zero]
    have hgr : Gr w w1 := ⟨hr1.gb.os, hr1.gb.tape, hr1.gb.output, hr1.gb.size, fun k hk2 => hr1.gb.block k hk2 (by simp)⟩
    refine wpList_put_map rfl (.tmp 23) (.tmp 25) (.tmp 27) 45 rfl 9 68 Tryd.underlying9 Tryd.underlying45 rfl ((H.out.mp b rfl).2.gr hgr) (by unfold refs maxLen; rw [List.length_map]; omega) s (ptr g) rfl rfl hs ?_
    intro w2 hm2 ht2
    have hend := new_end H.out HF.out HOK.out hgr hbl hgw hm2 ht2
    have HE := hide hend
    clear hm2 ht2 hend hr1 hwf1 h23 h25 h27 hbl hgw hgr
    go_wp2_with fail
    go_end0
    obtain ⟨k1, es', k2, k3⟩ := HE.out
    exact ⟨rfl, k1, _, es', k2, k3⟩
  | none =>
    have hmm := @run_makeMap Tryd.prog
    have f2 := h.bl.frozen 2
    obtain ⟨o1, h1, hsz1⟩ := made_end h rfl
    have hl := look_files h1 hs
    rw [hf] at hl
    simp only [Option.map_none, Option.getD_none] at hl
    have H1 := hide h1
    have O1 := hide o1
    have HF := hide (found_none hf)
    have HOK := hide hok
    have hlt := h.bl.lt
    clear h hf hok hk o1 h1
    unfold ptr
    go_enter Tryd.func40, Tryd.ntmps40
    go_wp2_with fail
    generalize (w.setCell ⟨d, 2, none⟩ (.map (some w.heap.size))).alloc (.map #[] 0) = W at H1 O1 ⊢
    generalize w.heap.size = b at H1 ⊢
    refine Mine.wp_region_mine_tail 8 28 [20, 21, 22, 23, 24, 25, 26, 27] rfl (by kernel_rfl) (by kernel_rfl) (by kernel_rfl) (by kernel_rfl) (ob0 := none)
      (Mine.Ahead.more (Mine.Ahead.more (Mine.Ahead.none_ _ _ _) 0 (Mine.Bx.stays d 47 #[.int .i64 room, .int .i64 (usedF (es.map abs1)), .map (some b)]) ⟨rfl, H1.out.bl.drewN 1, fun e => by cases e⟩) 1 (Mine.Is.stays (.string s)) rfl)
      28 (C0 := Mine.top) Mine.top_keeps (fun j hj => by cases hj) trivial ?_
    refine Mine.move (.tmp 0) (.inl rfl) rfl (by decide) rfl (Mine.Bx.stays _ _ _) ?_
    refine Mine.nil rfl rfl (by decide) rfl ?_
    refine Mine.field (j := 2) rfl rfl (by decide) rfl (fun _ => rfl) rfl ?_
    refine Mine.load rfl rfl (by decide) agg_map rfl ?_
    refine Mine.move (.tmp 1) (.inl rfl) rfl (by decide) rfl (Mine.Is.stays _) ?_
    refine Mine.call_is (z := .string s) rfl rfl (by decide) Tryd.func54 (by kernel_rfl) (by kernel_rfl) rfl (fun w => sclone_ok s (by omega) w) ?_
    refine Mine.is0 zeroFile rfl (by decide) (fun a w => ?_) ?_
    · kernel_rfl
    refine Mine.box #[.slice none 0 0, .int .i64 0] rfl rfl (by decide) rfl (fun w => ?_) ?_
    · kernel_rfl
    intro a1 w3 ob1 hr1 hwf1 hsz3 hdf1 hun1 hkn1 _
    have h23 : a1.tmps.getD 23 undef = .map (some b) := hkn1 23
    have h25 : a1.tmps.getD 25 undef = .string s := hkn1 25
    obtain ⟨g, h27, hgw, hbl, _⟩ := hkn1 27
    obtain ⟨X, hX, hlay⟩ := Grow.lay_kept_by _ a1 28 _ hsz3 hdf1 hun1
    rw [hX] at h23 h25 h27
    clear hX hun1 hdf1 hsz3 hkn1
    subst hlay
    simp only [List.range, List.range.loop, List.map_cons, List.map_nil, List.contains_cons, List.contains_nil, Nat.reduceBEq, Bool.or_false, Bool.or_true, cond_false, cond_true, Array.getD_eq_getD_getElem?, List.getElem?_toArray, List.getElem?_cons_zero, List.getElem?_cons_succ, Option.getD_some, h23, h25, h27, List.drop_succ_cons, List.drop_zero]
    have hgr : Gr W w3 := ⟨hr1.gb.os, hr1.gb.tape, hr1.gb.output, hr1.gb.size, fun k hk2 => hr1.gb.block k hk2 (by simp)⟩
    refine wpList_put_map rfl (.tmp 23) (.tmp 25) (.tmp 27) 45 rfl 9 68 Tryd.underlying9 Tryd.underlying45 rfl ((H1.out.mp b rfl).2.gr hgr) (by unfold refs maxLen; rw [List.length_map]; omega) s (ptr g) rfl rfl hs ?_
    intro w2 hm2 ht2
    have hend := new_end H1.out HF.out HOK.out hgr hbl hgw hm2 ht2
    have HE := hide hend
    clear hm2 ht2 hend hr1 hwf1 h23 h25 h27 hbl hgw hgr
    go_wp2_with fail
    go_end0
    obtain ⟨k1, es', k2, k3⟩ := HE.out
    exact ⟨rfl, (O1.out).then_ext k1, _, es', k2, k3.mono fun i hi => ext_ext O1.out k1 hi⟩

end Go.Proofs.YtkcfieoflkhdpaaDoor.DiskBegin
