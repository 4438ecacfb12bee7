/-
  The logs that the statements on merge make out of numbers, as rows of the call's own that lie apart.
-/
import Derived.Test.YtncdmecppfmmgaaMergeLogs
namespace Go.Proofs.Ytncdmecppfmmgaa
open Go Go.RowKit TxnMath KeyMath MsgMath EpMath MgMath
set_option maxRecDepth 100000

theorem OwnEnt.moved {X X' : Nat → Prop} {w w' : World} {B : Nat} {v : Value} {es : List EntT} (h : OwnEnt X w B v es) (hk : ∀ g, v.ownBlock = some g → w'.heap[g]? = w.heap[g]?) (hm : ∀ j, j < w.heap.size → X j → v.ownBlock ≠ some j → w'.heap[j]? = w.heap[j]? ∧ X' j) : OwnEnt X' w' B v es := by
  obtain ⟨f, h1, h2⟩ := h
  exact ⟨f, h1.keep hk, fun j e hj => (h2 j e hj).move fun k hlt hx => ⟨(hm k hlt hx.1 hx.2).1, (hm k hlt hx.1 hx.2).2, hx.2⟩⟩
/-- none of the rows' own blocks -/
def Sx (B : Nat) (xs : List Value) (v : Value) : Nat → Prop := fun k => B ≤ k ∧ (∀ x ∈ xs, x.ownBlock ≠ some k) ∧ v.ownBlock ≠ some k
/-- rows of logs, all of the call's own, apart -/
structure LgO (w wr : World) (v : Value) (ls : List (List EntT)) (xs : List Value) : Prop where
  gr : Gr w wr
  len : xs.length = ls.length
  own : OwnV 33 wr (w.heap.size + 1) v xs
  each : ∀ j (h : j < xs.length) (h2 : j < ls.length), OwnEnt (Sx (w.heap.size + 1) xs v) wr (w.heap.size + 1) xs[j] ls[j]
  sep : ∀ i j (hi : i < xs.length) (hj : j < xs.length), i < j → Sep xs[i] xs[j]
theorem LgO.but {w wr w' : World} {v : Value} {ls : List (List EntT)} {xs : List Value} (h : LgO w wr v ls xs) (hb : But wr w' w.heap.size) : LgO w w' v ls xs := by
  refine ⟨⟨hb.os.trans h.gr.os, hb.tape.trans h.gr.tape, hb.output.trans h.gr.output, Nat.le_trans h.gr.size hb.size, fun k hk => ?_⟩, h.len, ?_, fun j hj hj2 => (h.each j hj hj2).but hb (by omega) fun k hk => by have := hk.1; omega, h.sep⟩
  · rw [hb.block k (Nat.lt_of_lt_of_le hk h.gr.size) (fun e => by injection e with e; omega)]
    exact h.gr.block k hk
  · refine World.ownsRow.kept h.own hb ?_
    cases hv : v.ownBlock with
    | none => exact .inl rfl
    | some k => exact .inr fun e => by injection e with e; have := (World.ownsRow.lt h.own k hv).1; omega
theorem LgO.more {w wr w' : World} {v : Value} {ls : List (List EntT)} {xs : List Value} (h : LgO w wr v ls xs) (hg : Gr wr w') : LgO w w' v ls xs :=
  ⟨h.gr.trans hg, h.len, h.own.gr hg, fun j hj hj2 => (h.each j hj hj2).gr hg, h.sep⟩
theorem LgO.base {w0 w wr : World} {v : Value} {ls : List (List EntT)} {xs : List Value} (h : LgO w wr v ls xs) (hg : Gr w0 w) : LgO w0 wr v ls xs := by
  have hs := hg.size
  refine ⟨hg.trans h.gr, h.len, OwnV.base_ h.own (by omega), fun j hj hj2 => ((h.each j hj hj2).base (by omega)).wide fun k hk => ⟨by have := hk.1; omega, hk.2⟩, h.sep⟩
theorem LgO.logs {w wr : World} {v : Value} {ls : List (List EntT)} {xs : List Value} (h : LgO w wr v ls xs) : LogsX wr v ls := by
  have ho := h.own
  obtain ⟨A, c, rfl, _⟩ := OwnV.is ho
  exact ⟨xs, h.len, ⟨A, c, rfl, Mine.vs_own ho⟩, fun j hj hj2 => (h.each j hj hj2).entsX⟩
theorem ents_ne : (33 : TypeId) ≠ 43 := by decide
/-- the row of logs lies apart from each log -/
theorem LgO.off {w wr : World} {v : Value} {ls : List (List EntT)} {xs : List Value} (h : LgO w wr v ls xs) {j : Nat} (hj : j < xs.length) (hj2 : j < ls.length) : Sep v xs[j] := by
  obtain ⟨f, h1, _⟩ := h.each j hj hj2
  intro k hv hu
  rcases h.own.2 with ⟨rfl, _⟩ | ⟨g, _, _, rfl, _, hg, _⟩
  · cases hv
  · rcases h1.2.2 with ⟨e, _⟩ | ⟨g', _, _, e, _, hg', _⟩
    · rw [e] at hu; cases hu
    · rw [e] at hu
      simp only [Value.ownBlock, Option.some.injEq] at hv hu
      subst hv
      subst hu
      rw [hg] at hg'
      injection hg' with hg'
      injection hg' with _ hg' _
      exact ents_ne hg'
/-- one log more: it was made behind the others -/
theorem wpList_pushLogO {ops : Array Oper} {rest : List Oper} {o : Oper} {a : Act} {Q : Exit → Act → World → Prop} (hgd : o.guard = none) (s x : Operand)
    (ho : o.op = .call { callee := .builtin .append, args := #[s, x], argTypes := #[24, 24] }) {w0 w3 w : World} {v u : Value} {ls : List (List EntT)} {xs : List Value} {L : List EntT}
    (hs : a.eval s = v) (hm : LgO w0 w3 v ls xs) (hb : But w3 w w0.heap.size) (hu : OwnEnt (fun k => w3.heap.size ≤ k) w w3.heap.size u L) (hsz : w0.heap.size + 1 ≤ w3.heap.size) (hx : a.eval x = .slice (some ⟨w.heap.size, 0, none⟩) 1 1) (hl : ls.length ≤ 100000)
    (h : ∀ v' w', LgO w0 w' v' (ls ++ [L]) (xs ++ [u]) → Put1 w w' v v' → wpList Try.prog ops Q rest (a.put o.dst v') w') : wpList Try.prog ops Q (o :: rest) a (w.alloc (.cells #[u] 33)) := by
  obtain ⟨i0, hi, hz0, hz1, hz2⟩ := info_ents
  have hu1 : u.oneCell' = true := by
    obtain ⟨A, c, rfl⟩ := hu.is
    rfl
  have hlen := hm.len
  have hsw := hb.size
  have hmw := hm.but hb
  refine wpList_append_own_at _ hgd s x 24 ho (w0.heap.size + 1) 33 i0 _ 1 24 Try.underlying24 hi hz0 hz1 hz2 rfl (by decide) v xs.length xs hs (World.ownsRow.alloc hmw.own _) ⟨w.heap.size, 0, none⟩ 1 1 [u] hx rfl (cell_one_new _ _ _)
    (by intro y hy; simp at hy; subst hy; exact hu1) (by unfold maxLen; omega) (by omega) (by simp; omega) ?_
  intro v' w' g1 g2 _ g4
  have hput : Put1 w w' v v' := by
    refine ⟨⟨g2.os, g2.tape, g2.output, Nat.le_trans (by simp) g2.size, fun k hk hne => ?_⟩, ?_⟩
    · rw [g2.block k (by simp; omega) hne]
      exact heap_alloc_old w _ hk
    · rcases g4 with g4 | g4
      · exact .inl g4
      · exact .inr ⟨_, g4, by simp⟩
  have hvl : ∀ k, v.ownBlock = some k → w0.heap.size + 1 ≤ k ∧ k < w3.heap.size := World.ownsRow.lt hm.own
  have hvn : ∀ k, v'.ownBlock = some k → v.ownBlock = some k ∨ w.heap.size ≤ k := fun k hk => by
    rcases hput.2 with e | ⟨k', e, hk'⟩
    · exact .inl (by rw [← e]; exact hk)
    · rw [e] at hk; injection hk with hk; exact .inr (by omega)
  have hgr' : Gr w0 w' := by
    refine ⟨hput.1.os.trans hmw.gr.os, hput.1.tape.trans hmw.gr.tape, hput.1.output.trans hmw.gr.output, Nat.le_trans hmw.gr.size hput.1.size, fun k hk => ?_⟩
    rw [hput.1.block k (Nat.lt_of_lt_of_le hk hmw.gr.size) (fun e => by have := (hvl k e.symm).1; omega)]
    exact hmw.gr.block k hk
  have hxl : ∀ y ∈ xs, ∀ k, y.ownBlock = some k → w0.heap.size + 1 ≤ k ∧ k < w3.heap.size := fun y hy => by
    obtain ⟨j, hj, rfl⟩ := List.getElem_of_mem hy
    exact (hm.each j hj (by omega)).lt
  refine h v' w' ⟨hgr', by simp [hlen], by unfold OwnV; rw [List.length_append]; exact g1, fun j hj hj2 => ?_, fun i j hi hj hij => ?_⟩ hput
  · by_cases hjx : j < xs.length
    · rw [List.getElem_append_left hjx, List.getElem_append_left (by omega)]
      refine (hm.each j hjx (by omega)).moved (fun g hg => ?_) (fun k hk hX _ => ?_)
      · have h1 := (hm.each j hjx (by omega)).lt g hg
        rw [hput.1.block g (by omega) (fun e => hm.off hjx (by omega) g e.symm hg), hb.block g h1.2 (fun e => by injection e with e; omega)]
      · obtain ⟨k1, k2, k3⟩ := hX
        refine ⟨?_, k1, fun y hy => ?_, fun e => ?_⟩
        · rw [hput.1.block k (by omega) (fun e => k3 e.symm), hb.block k hk (fun e => by injection e with e; omega)]
        · rcases List.mem_append.1 hy with hy | hy
          · exact k2 y hy
          · rw [List.mem_singleton.1 hy]
            intro e
            have := (hu.lt k e).1
            omega
        · rcases hvn k e with e | e
          · exact k3 e
          · omega
    · have : j = xs.length := by simp at hj; omega
      subst this
      rw [List.getElem_append_right (Nat.le_refl _), List.getElem_append_right (by omega)]
      simp only [Nat.sub_self, List.getElem_cons_zero, hlen]
      refine (hu.base hsz).moved (fun g hg => ?_) (fun k hk hX hne => ?_)
      · have h1 := hu.lt g hg
        rw [hput.1.block g h1.2 (fun e => by have := (hvl g e.symm).2; omega)]
      · refine ⟨?_, by omega, fun y hy => ?_, fun e => ?_⟩
        · rw [hput.1.block k hk (fun e => by have := (hvl k e.symm).2; omega)]
        · rcases List.mem_append.1 hy with hy | hy
          · intro e
            have := (hxl y hy k e).2
            omega
          · rw [List.mem_singleton.1 hy]
            exact hne
        · rcases hvn k e with e | e
          · have := (hvl k e).2; omega
          · omega
  · have hi' : i < xs.length := by simp at hj; omega
    rw [List.getElem_append_left hi']
    by_cases hjx : j < xs.length
    · rw [List.getElem_append_left hjx]
      exact hm.sep i j hi' hjx hij
    · have : j = xs.length := by simp at hj; omega
      subst this
      rw [List.getElem_append_right (Nat.le_refl _)]
      simp only [Nat.sub_self, List.getElem_cons_zero]
      intro k hk hk2
      have h1 := (hxl _ (List.getElem_mem hi') k hk).2
      have h2 := (hu.lt k hk2).1
      omega

set_option maxHeartbeats 4000000 in
theorem logs_own (A : Option Addr) (c : Nat) (l : List UInt8) (w : World) (hby : By w A c l) (hlen : (l.length : Int) ≤ 250) :
    Calls Try.prog 10 #[.slice A l.length c] w fun e w' => ∃ v xs, e = .returned v ∧ LgO w w' v (logsL l) xs := by
  have HBY := hide hby
  clear hby
  obtain ⟨T, hT⟩ : ∃ T, pickV l 0 4 = T := ⟨_, rfl⟩
  have hT4 : T < 4 := by rw [← hT]; exact pickV_lt l 0 4 (by decide)
  have HL := hide (show logsL l = (logsP l (pickN l 0) T).1 from by unfold logsL; rw [hT])
  obtain ⟨n0, hn0⟩ : ∃ n0, pickN l 0 = n0 := ⟨_, rfl⟩
  rw [hn0] at HL
  have HN0 := hide hn0
  clear hn0
  go_enter Try.func10, Try.ntmps10
  go_wp2_with fail
  refine (Made_ok A c l w HBY.out).mono ?_
  rintro e w1 ⟨rfl, hg1, hpk⟩
  have HPK := hide hpk
  have HG1 := hide hg1
  clear hpk hg1
  go_wp2_with fail
  refine (Num_ok w.heap.size A c l 0 4 (by decide) (by decide) (by omega) w1 HPK.out).mono ?_
  rintro e w2 ⟨rfl, hb2, hpk2⟩
  have HM0 := hide (LgO.but (show LgO w w1 (.slice none 0 0) (logsP l n0 0).1 [] from ⟨HG1.out, rfl, OwnV.none_ _ _, fun j h => absurd h (by simp), fun i j h => absurd h (by simp)⟩) hb2)
  have HS2 := hide (show w.heap.size + 1 ≤ w2.heap.size from Nat.le_trans HPK.out.bl.lt hb2.size)
  have HPK2 := hide (show Pk w2 w.heap.size A c l (logsP l n0 0).2 from HN0.out ▸ hpk2)
  rw [hT]
  clear hb2 hpk2
  go_wp2_with fail
  go_loopw [4, 5] (fun v i wr => ∃ (k j : Nat) (xs : List Value), i = .int .i64 (j : Int) ∧ k + j = T ∧ Hid (LgO w wr v (logsP l n0 k).1 xs) ∧ Hid (Pk wr w.heap.size A c l (logsP l n0 k).2) ∧ Hid (w.heap.size + 1 ≤ wr.heap.size)) (fun _ i _ => (intOf i).toNat)
  case atStart => exact ⟨0, T, [], rfl, by omega, HM0, HPK2, HS2⟩
  case round =>
    obtain ⟨k, j, xs, rfl, hk, HM, HP, HS⟩ := hrel
    obtain ⟨vA, vc, hv, _⟩ := OwnV.is HM.out.own
    generalize hxl : xs.length = xn at hv
    have hxk : k = xn := by rw [← hxl, HM.out.len, logsP_len]
    subst hxk hv
    by_cases hj : 0 < j
    · have hj' : (0 : Int) < (j : Int) := by omega
      obtain ⟨m, hm⟩ : ∃ m, pickV l (logsP l n0 k).2 16 = m := ⟨_, rfl⟩
      have hm16 : m < 16 := by rw [← hm]; exact pickV_lt l _ 16 (by decide)
      have HNX := hide (show logsP l n0 (k + 1) = ((logsP l n0 k).1 ++ [(logP l (pickN l (logsP l n0 k).2) m).1], (logP l (pickN l (logsP l n0 k).2) m).2.2) from by rw [logsP, hm])
      obtain ⟨ls, hls⟩ : ∃ ls, (logsP l n0 k).1 = ls := ⟨_, rfl⟩
      obtain ⟨n1, hn1⟩ : ∃ n1, (logsP l n0 k).2 = n1 := ⟨_, rfl⟩
      have hlk : ls.length = k := by rw [← hls]; exact logsP_len l n0 k
      rw [hls] at HM HNX
      rw [hn1] at HP HNX hm
      obtain ⟨n2, hn2⟩ : ∃ n2, pickN l n1 = n2 := ⟨_, rfl⟩
      rw [hn2] at HNX
      clear hls hn1
      go_wp2_with fail
      refine (Num_ok w.heap.size A c l n1 16 (by decide) (by decide) (by omega) wr HP.out).mono ?_
      rintro e w3 ⟨rfl, hb3, hp3⟩
      rw [hm]
      have HM3 := hide (HM.out.but hb3)
      have HP3 := hide (show Pk w3 w.heap.size A c l n2 from hn2 ▸ hp3)
      have HS3 := hide (Nat.le_trans HS.out hb3.size)
      clear hb3 hp3 HM HP HS
      go_wp2_with fail
      refine (Log_ok w.heap.size A c l n2 m (by omega) (by omega) w3 HP3.out).mono ?_
      rintro e w4 ⟨u, rfl, hu, hb4, hp4⟩
      have hux := hu.entsX
      obtain ⟨uA, uc, hue⟩ := hux.is
      generalize hul : (logP l n2 m).1.length = un at hue
      subst hue
      have HU := hide hu
      have HB4 := hide hb4
      have HP4 := hide hp4
      have HS4 := hide (Nat.le_trans HS3.out hb4.size)
      clear hux hu hb4 hp4 HP3 hul
      go_wp2_with (at_builtin; refine pause ?_)
      refine hide ?_
      refine wpList_pushLogO rfl (.tmp 14) (.tmp 19) rfl rfl HM3.out HB4.out HU.out HS3.out (congrArg (fun z => Value.slice (some ⟨z, 0, none⟩) 1 1) (by simp)) (show ls.length ≤ 100000 by omega) ?_
      intro v5 w5 hm5 hp5
      obtain ⟨vA5, vc5, hv5, _⟩ := OwnV.is hm5.own
      generalize List.length (_ ++ _) = xn5 at hv5
      subst hv5
      have HM5 := hide hm5
      have HP5 := hide (show Pk w5 w.heap.size A c l (logP l n2 m).2.2 from HP4.out.high ⟨Nat.lt_succ_self _, fun hl ad hA => Nat.lt_succ_of_lt (HBY.out.rd.lt hl hA)⟩ fun j hj => hp5.1.block j (by have := HS4.out; omega) (fun e => by have := (World.ownsRow.lt HM3.out.own j e.symm).1; omega))
      have HS5 := hide (show w.heap.size + 1 ≤ w5.heap.size from Nat.le_trans HS4.out hp5.1.size)
      clear hm5 hp5
      go_wp2_with fail
      go_roundw
      case rel => exact ⟨k + 1, j - 1, _, by go_num, by omega, by rw [HNX.out]; exact HM5, by rw [HNX.out]; exact HP5, HS5⟩
      case measure => simp [intOf]; omega
    · obtain rfl : j = 0 := by omega
      obtain rfl : k = T := by omega
      go_wp2_with fail
      go_ret
      exact ⟨_, _, rfl, by rw [HL.out]; exact HM.out⟩


/-- one log goes on by an entry, and its row is stored -/
theorem LgO.put {w0 w w' : World} {gv n c i : Nat} {ls : List (List EntT)} {xs : List Value} {y : Value} {L : List EntT} (h : LgO w0 w (.slice (some ⟨gv, 0, none⟩) n c) ls xs) (hi : i < xs.length)
    (hy : OwnEnt (Sx (w0.heap.size + 1) xs (.slice (some ⟨gv, 0, none⟩) n c)) w' (w0.heap.size + 1) y L) (hp : Put1 w w' xs[i] y) :
    w'.cell? ⟨gv, i, none⟩ = some xs[i] ∧ w'.frozen? ⟨gv, i, none⟩ = false ∧ LgO w0 (w'.setCell ⟨gv, i, none⟩ y) (.slice (some ⟨gv, 0, none⟩) n c) (ls.set i L) (xs.set i y) := by
  have hlen := h.len
  have hi2 : i < ls.length := by omega
  have hoff := h.off hi hi2
  have hn : n = xs.length := by
    obtain ⟨_, _, e, _⟩ := OwnV.is h.own
    injection e
  subst hn
  have o1 : OwnV 33 w' (w0.heap.size + 1) (.slice (some ⟨gv, 0, none⟩) xs.length c) xs := OwnV.beside h.own hp hoff.symm
  have hgv : w0.heap.size + 1 ≤ gv ∧ gv < w.heap.size := World.ownsRow.lt h.own gv rfl
  obtain ⟨o2, g2⟩ := World.ownsRow.stored o1 i y
  have hyb : ∀ k, y.ownBlock = some k → xs[i].ownBlock = some k ∨ w.heap.size ≤ k := fun k hk => by
    rcases hp.2 with e | ⟨k', e, hk'⟩
    · exact .inl (by rw [← e]; exact hk)
    · rw [e] at hk; injection hk with hk; exact .inr (by omega)
  have hxi := (h.each i hi hi2).lt
  have hyv : y.ownBlock ≠ some gv := fun e => by
    rcases hyb gv e with e | e
    · exact hoff gv rfl e
    · omega
  refine ⟨?_, World.ownsRow.frozenAt o1 i, ⟨?_, by simp [hlen], by unfold OwnV; rw [List.length_set]; exact o2, fun j hj hj2 => ?_, fun j1 j2 h1 h2 hlt => ?_⟩⟩
  · rw [World.ownsRow.cellAt o1 i (by omega)]
    exact List.getElem?_eq_getElem hi
  · have hg' : Gr w0 w' := ⟨hp.1.os.trans h.gr.os, hp.1.tape.trans h.gr.tape, hp.1.output.trans h.gr.output, Nat.le_trans h.gr.size hp.1.size, fun k hk => (hp.1.block k (Nat.lt_of_lt_of_le hk h.gr.size) (fun e => by have := (hxi k e.symm).1; omega)).trans (h.gr.block k hk)⟩
    exact hg'.fresh g2 (by omega)
  · have hsx : ∀ k, k < w.heap.size → Sx (w0.heap.size + 1) xs (.slice (some ⟨gv, 0, none⟩) xs.length c) k → Sx (w0.heap.size + 1) (xs.set i y) (.slice (some ⟨gv, 0, none⟩) xs.length c) k := fun k hk hX => by
      obtain ⟨k1, k2, k3⟩ := hX
      refine ⟨k1, fun z hz => ?_, k3⟩
      rcases List.mem_or_eq_of_mem_set hz with hz | hz
      · exact k2 z hz
      · rw [hz]
        intro e
        rcases hyb k e with e | e
        · exact k2 _ (List.getElem_mem hi) e
        · omega
    by_cases hji : j = i
    · subst hji
      rw [List.getElem_set_self, List.getElem_set_self]
      refine hy.moved (fun g hg => g2.block g (hy.lt g hg).2 (fun e => by injection e with e; exact hyv (by rw [← e]; exact hg))) (fun k hk hX hne => ⟨g2.block k hk (fun e => hX.2.2 e.symm), hX.1, fun z hz => ?_, hX.2.2⟩)
      rcases List.mem_or_eq_of_mem_set hz with hz | hz
      · exact hX.2.1 z hz
      · rw [hz]; exact hne
    · have hj' : j < xs.length := by simpa using hj
      rw [List.getElem_set_ne (fun e => hji e.symm), List.getElem_set_ne (fun e => hji e.symm)]
      have hsep : Sep xs[i] xs[j] := by
        rcases Nat.lt_or_ge i j with hlt | hge
        · exact h.sep i j hi hj' hlt
        · exact (h.sep j i hj' hi (by omega)).symm
      have hjl := (h.each j hj' (by omega)).lt
      have hjo := h.off hj' (by omega : j < ls.length)
      refine (h.each j hj' (by omega)).moved (fun g hg => ?_) (fun k hk hX _ => ⟨?_, hsx k hk hX⟩)
      · rw [g2.block g (Nat.lt_of_lt_of_le (hjl g hg).2 hp.1.size) (fun e => by injection e with e; subst e; exact hjo g rfl hg), hp.1.block g (hjl g hg).2 (fun e => hsep g e.symm hg)]
      · rw [g2.block k (Nat.lt_of_lt_of_le hk hp.1.size) (fun e => hX.2.2 e.symm), hp.1.block k hk (fun e => hX.2.1 _ (List.getElem_mem hi) e.symm)]
  · have h1' : j1 < xs.length := by simpa using h1
    have h2' : j2 < xs.length := by simpa using h2
    have hnew : ∀ j (hj : j < xs.length), j ≠ i → Sep y xs[j] := fun j hj hne => by
      have hsep : Sep xs[i] xs[j] := by
        rcases Nat.lt_or_ge i j with hlt | hge
        · exact h.sep i j hi hj hlt
        · exact (h.sep j i hj hi (by omega)).symm
      exact hp.sep hsep fun k hk => ((h.each j hj (by omega)).lt k hk).2
    by_cases e1 : j1 = i
    · subst e1
      rw [List.getElem_set_self, List.getElem_set_ne (by omega)]
      exact hnew j2 h2' (by omega)
    · rw [List.getElem_set_ne (fun e => e1 e.symm)]
      by_cases e2 : j2 = i
      · subst e2
        rw [List.getElem_set_self]
        exact (hnew j1 h1' e1).symm
      · rw [List.getElem_set_ne (fun e => e2 e.symm)]
        exact h.sep j1 j2 h1' h2' hlt

/-- where a log's slice lies, and how it goes on -/
theorem LgO.at_ {w0 w : World} {vA : Option Addr} {n c i : Nat} {ls : List (List EntT)} {xs : List Value} (h : LgO w0 w (.slice vA n c) ls xs) (hi : i < xs.length) : ∃ ad, vA = some ad ∧ w.cell? (ad.add i) = some xs[i] ∧
    ∀ w' y L, OwnEnt (Sx (w0.heap.size + 1) xs (.slice (some ad) n c)) w' (w0.heap.size + 1) y L → Put1 w w' xs[i] y → w'.cell? (ad.add i) = some xs[i] ∧ w'.frozen? (ad.add i) = false ∧ LgO w0 (w'.setCell (ad.add i) y) (.slice (some ad) n c) (ls.set i L) (xs.set i y) := by
  have ho := h.own
  rcases h.own.2 with ⟨_, h0⟩ | ⟨g, c', _, e, _⟩
  · omega
  injection e with e1 e2 e3
  subst e1
  refine ⟨_, rfl, ?_, fun w' y L hy hp => ?_⟩
  · rw [addr_at]
    subst e2
    rw [World.ownsRow.cellAt ho i (by omega)]
    exact List.getElem?_eq_getElem hi
  · rw [addr_at]
    exact h.put hi hy hp

end Go.Proofs.Ytncdmecppfmmgaa
