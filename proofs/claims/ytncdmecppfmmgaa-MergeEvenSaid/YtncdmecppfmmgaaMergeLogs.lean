/-
  The logs that the statements on merge make out of numbers.
-/
import Derived.Test.YtncdmecppfmmgaaMgMem
import Derived.Test.YtncdmecppfmmgaaPlayLog
import Derived.Test.YtncdmecppfmmgaaPlayMade
import Derived.Test.YtncdmecppfmmgaaPlayMay
namespace Go.Proofs.Ytncdmecppfmmgaa
open Go Go.RowKit TxnMath KeyMath MsgMath EpMath MgMath
set_option maxRecDepth 100000

/-- so many logs out of numbers, and how many numbers are read behind them -/
def logsP (l : List UInt8) (n : Nat) : Nat → List (List EntT) × Nat
  | 0 => ([], n)
  | k + 1 => ((logsP l n k).1 ++ [(logP l (pickN l (logsP l n k).2) (pickV l (logsP l n k).2 16)).1], (logP l (pickN l (logsP l n k).2) (pickV l (logsP l n k).2 16)).2.2)
/-- the statements' logs -/
def logsL (l : List UInt8) : List (List EntT) := (logsP l (pickN l 0) (pickV l 0 4)).1
theorem logsP_len (l : List UInt8) (n : Nat) : ∀ k, (logsP l n k).1.length = k
  | 0 => rfl
  | k + 1 => by rw [logsP]; simp [logsP_len l n k]
theorem logsP_mem (l : List UInt8) (n : Nat) : ∀ k, ∀ L ∈ (logsP l n k).1, ∃ i j, j < 16 ∧ L = (logP l i j).1
  | 0, L, h => by simp [logsP] at h
  | k + 1, L, h => by
    rw [logsP] at h
    rcases List.mem_append.1 h with h | h
    · exact logsP_mem l n k L h
    · rw [List.mem_singleton] at h
      exact ⟨_, _, pickV_lt l _ 16 (by decide), h⟩
theorem logsL_len (l : List UInt8) : (logsL l).length ≤ 3 := by
  unfold logsL
  rw [logsP_len]
  have := pickV_lt l 0 4 (by decide)
  omega
theorem logsL_mem {l : List UInt8} {L : List EntT} (h : L ∈ logsL l) : ∃ i j, j < 16 ∧ L = (logP l i j).1 := logsP_mem _ _ _ _ h
theorem lg_mem {ls : List (List EntT)} {p : Nat} : lg ls p = [] ∨ lg ls p ∈ ls := by
  unfold lg
  by_cases h : p < ls.length
  · right
    simp [h]
  · left
    simp [h]
theorem logsL_each (l : List UInt8) (p : Nat) : (lg (logsL l) p).length ≤ 15 := by
  rcases lg_mem (ls := logsL l) (p := p) with h | h
  · rw [h]; simp
  · obtain ⟨i, j, h1, h2⟩ := logsL_mem h
    rw [h2, logP_len]
    omega

/-- what the logs lie in while they are made: from block B on, and not in the row's block -/
def Hm (B : Nat) (v : Value) : Nat → Prop := fun k => B ≤ k ∧ v.ownBlock ≠ some k
theorem EntsX.but_hm {w w' : World} {B g : Nat} {v u : Value} {es : List EntT} (h : EntsX (Hm B v) w u es) (hb : But w w' g) (hg : g < B) : EntsX (Hm B v) w' u es :=
  h.move fun j hj hx => ⟨hb.block j hj (fun e => by injection e with e; have := hx.1; omega), hx⟩
theorem EntsX.put_hm {w w' : World} {B : Nat} {v v' u : Value} {es : List EntT} (h : EntsX (Hm B v) w u es) (hp : Put1 w w' v v') : EntsX (Hm B v') w' u es :=
  h.move fun j hj hx => ⟨hp.1.block j hj (fun e => hx.2 e.symm), hx.1, by
    rcases hp.2 with e | ⟨k', e, hk'⟩
    · rw [e]; exact hx.2
    · rw [e]; intro e2; injection e2 with e2; omega⟩
/-- what the call owns lies from its base on -/
theorem OwnEnt.high_ents {w : World} {B : Nat} {u : Value} {es : List EntT} (h : OwnEnt (fun k => B ≤ k) w B u es) : EntsX (fun k => B ≤ k) w u es := by
  obtain ⟨f, h1, h2⟩ := h
  exact ⟨f, h1.rowX.wide fun j hj => hj.1, fun j e hj => (h2 j e hj).wide fun k hk => hk.1⟩

/-- the row of logs while it is made -/
structure LgM (w wr : World) (v : Value) (ls : List (List EntT)) (xs : List Value) : Prop where
  gr : Gr w wr
  len : xs.length = ls.length
  own : OwnV 33 wr (w.heap.size + 1) v xs
  each : ∀ j (h : j < xs.length) (h2 : j < ls.length), EntsX (Hm (w.heap.size + 1) v) wr xs[j] ls[j]
theorem LgM.but {w wr w' : World} {v : Value} {ls : List (List EntT)} {xs : List Value} (h : LgM w wr v ls xs) (hb : But wr w' w.heap.size) : LgM w w' v ls xs := by
  refine ⟨⟨hb.os.trans h.gr.os, hb.tape.trans h.gr.tape, hb.output.trans h.gr.output, Nat.le_trans h.gr.size hb.size, fun k hk => ?_⟩, h.len, ?_, fun j hj hj2 => (h.each j hj hj2).but_hm hb (by omega)⟩
  · rw [hb.block k (Nat.lt_of_lt_of_le hk h.gr.size) (fun e => by injection e with e; omega)]
    exact h.gr.block k hk
  · refine World.ownsRow.kept h.own hb ?_
    cases hv : v.ownBlock with
    | none => exact .inl rfl
    | some k => exact .inr fun e => by injection e with e; have := (World.ownsRow.lt h.own k hv).1; omega
theorem info_ents : ∃ i, Try.prog.info? 33 = some i ∧ i.zero = some (.slice none 0 0) ∧ i.size = 1 ∧ i.bytes = 24 := info_parts (by kernel_rfl)
/-- one log more -/
theorem wpList_pushLog {ops : Array Oper} {rest : List Oper} {o : Oper} {a : Act} {Q : Exit → Act → World → Prop} (hgd : o.guard = none) (s x : Operand)
    (ho : o.op = .call { callee := .builtin .append, args := #[s, x], argTypes := #[24, 24] }) {w0 w : World} {v u : Value} {ls : List (List EntT)} {xs : List Value} {L : List EntT}
    (hs : a.eval s = v) (hm : LgM w0 w v ls xs) (hu : EntsX (Hm (w0.heap.size + 1) v) w u L) (hsz : w0.heap.size + 1 ≤ w.heap.size) (hx : a.eval x = .slice (some ⟨w.heap.size, 0, none⟩) 1 1) (hl : ls.length ≤ 100000)
    (h : ∀ v' w', LgM w0 w' v' (ls ++ [L]) (xs ++ [u]) → Put1 w w' v v' → wpList Try.prog ops Q rest (a.put o.dst v') w') : wpList Try.prog ops Q (o :: rest) a (w.alloc (.cells #[u] 33)) := by
  obtain ⟨i0, hi, hz0, hz1, hz2⟩ := info_ents
  have hu1 : u.oneCell' = true := by
    obtain ⟨A, c, rfl⟩ := hu.is
    rfl
  have hlen := hm.len
  refine wpList_append_own_at _ hgd s x 24 ho (w0.heap.size + 1) 33 i0 _ 1 24 Try.underlying24 hi hz0 hz1 hz2 rfl (by decide) v xs.length xs hs (World.ownsRow.alloc hm.own _) ⟨w.heap.size, 0, none⟩ 1 1 [u] hx rfl (cell_one_new _ _ _)
    (by intro y hy; simp at hy; subst hy; exact hu1) (by unfold maxLen; omega) (by omega) (by simp; omega) ?_
  intro v' w' g1 g2 _ g4
  have hput : Put1 w w' v v' := by
    refine ⟨⟨g2.os, g2.tape, g2.output, Nat.le_trans (by simp) g2.size, fun k hk hne => ?_⟩, ?_⟩
    · rw [g2.block k (by simp; omega) hne]
      exact heap_alloc_old w _ hk
    · rcases g4 with g4 | g4
      · exact .inl g4
      · exact .inr ⟨_, g4, by simp⟩
  have hgr' : Gr w0 w' := by
    refine ⟨hput.1.os.trans hm.gr.os, hput.1.tape.trans hm.gr.tape, hput.1.output.trans hm.gr.output, Nat.le_trans hm.gr.size hput.1.size, fun k hk => ?_⟩
    rw [hput.1.block k (Nat.lt_of_lt_of_le hk hm.gr.size) (fun e => by have := (World.ownsRow.lt hm.own k e.symm).1; omega)]
    exact hm.gr.block k hk
  refine h v' w' ⟨hgr', by simp [hlen], by unfold OwnV; rw [List.length_append]; exact g1, fun j hj hj2 => ?_⟩ hput
  by_cases hjx : j < xs.length
  · rw [List.getElem_append_left hjx, List.getElem_append_left (by omega)]
    exact (hm.each j hjx (by omega)).put_hm hput
  · have : j = xs.length := by simp at hj; omega
    subst this
    rw [List.getElem_append_right (Nat.le_refl _), List.getElem_append_right (by omega)]
    simp only [Nat.sub_self, List.getElem_cons_zero, hlen]
    exact hu.put_hm hput
theorem LgM.logs {w wr : World} {v : Value} {ls : List (List EntT)} {xs : List Value} (h : LgM w wr v ls xs) : LogsX wr v ls := by
  have ho := h.own
  obtain ⟨A, c, rfl, _⟩ := OwnV.is ho
  exact ⟨xs, h.len, ⟨A, c, rfl, Mine.vs_own ho⟩, fun j hj hj2 => (h.each j hj hj2).wide fun _ _ => trivial⟩

set_option maxHeartbeats 4000000 in
theorem logs_ok (A : Option Addr) (c : Nat) (l : List UInt8) (w : World) (hby : By w A c l) (hlen : (l.length : Int) ≤ 250) :
    Calls Try.prog 10 #[.slice A l.length c] w fun e w' => ∃ v, e = .returned v ∧ LogsX w' v (logsL l) ∧ Gr w w' := by
  have HBY := hide hby
  clear hby
  obtain ⟨T, hT⟩ : ∃ T, pickV l 0 4 = T := ⟨_, rfl⟩
  have hT4 : T < 4 := by rw [← hT]; exact pickV_lt l 0 4 (by decide)
  have HL := hide (show logsL l = (logsP l (pickN l 0) T).1 from by unfold logsL; rw [hT])
  obtain ⟨n0, hn0⟩ : ∃ n0, pickN l 0 = n0 := ⟨_, rfl⟩
  rw [hn0] at HL
  have HN0 := hide hn0
  clear hn0
  go_enter Try.func10, Try.ntmps10
  go_wp2_with fail
  refine (Made_ok A c l w HBY.out).mono ?_
  rintro e w1 ⟨rfl, hg1, hpk⟩
  have HPK := hide hpk
  have HG1 := hide hg1
  clear hpk hg1
  go_wp2_with fail
  refine (Num_ok w.heap.size A c l 0 4 (by decide) (by decide) (by omega) w1 HPK.out).mono ?_
  rintro e w2 ⟨rfl, hb2, hpk2⟩
  have HM0 := hide (LgM.but (show LgM w w1 (.slice none 0 0) (logsP l n0 0).1 [] from ⟨HG1.out, rfl, OwnV.none_ _ _, fun j h => absurd h (by simp)⟩) hb2)
  have HS2 := hide (show w.heap.size + 1 ≤ w2.heap.size from Nat.le_trans HPK.out.bl.lt hb2.size)
  have HPK2 := hide (show Pk w2 w.heap.size A c l (logsP l n0 0).2 from HN0.out ▸ hpk2)
  rw [hT]
  clear hb2 hpk2
  go_wp2_with fail
  go_loopw [4, 5] (fun v i wr => ∃ (k j : Nat) (xs : List Value), i = .int .i64 (j : Int) ∧ k + j = T ∧ Hid (LgM w wr v (logsP l n0 k).1 xs) ∧ Hid (Pk wr w.heap.size A c l (logsP l n0 k).2) ∧ Hid (w.heap.size + 1 ≤ wr.heap.size)) (fun _ i _ => (intOf i).toNat)
  case atStart => exact ⟨0, T, [], rfl, by omega, HM0, HPK2, HS2⟩
  case round =>
    obtain ⟨k, j, xs, rfl, hk, HM, HP, HS⟩ := hrel
    obtain ⟨vA, vc, hv, _⟩ := OwnV.is HM.out.own
    generalize hxl : xs.length = xn at hv
    have hxk : k = xn := by rw [← hxl, HM.out.len, logsP_len]
    subst hxk hv
    by_cases hj : 0 < j
    · have hj' : (0 : Int) < (j : Int) := by omega
      obtain ⟨m, hm⟩ : ∃ m, pickV l (logsP l n0 k).2 16 = m := ⟨_, rfl⟩
      have hm16 : m < 16 := by rw [← hm]; exact pickV_lt l _ 16 (by decide)
      have HNX := hide (show logsP l n0 (k + 1) = ((logsP l n0 k).1 ++ [(logP l (pickN l (logsP l n0 k).2) m).1], (logP l (pickN l (logsP l n0 k).2) m).2.2) from by rw [logsP, hm])
      obtain ⟨ls, hls⟩ : ∃ ls, (logsP l n0 k).1 = ls := ⟨_, rfl⟩
      obtain ⟨n1, hn1⟩ : ∃ n1, (logsP l n0 k).2 = n1 := ⟨_, rfl⟩
      have hlk : ls.length = k := by rw [← hls]; exact logsP_len l n0 k
      rw [hls] at HM HNX
      rw [hn1] at HP HNX hm
      obtain ⟨n2, hn2⟩ : ∃ n2, pickN l n1 = n2 := ⟨_, rfl⟩
      rw [hn2] at HNX
      clear hls hn1
      go_wp2_with fail
      refine (Num_ok w.heap.size A c l n1 16 (by decide) (by decide) (by omega) wr HP.out).mono ?_
      rintro e w3 ⟨rfl, hb3, hp3⟩
      rw [hm]
      have HM3 := hide (HM.out.but hb3)
      have HP3 := hide (show Pk w3 w.heap.size A c l n2 from hn2 ▸ hp3)
      have HS3 := hide (Nat.le_trans HS.out hb3.size)
      clear hb3 hp3 HM HP HS
      go_wp2_with fail
      refine (Log_ok w.heap.size A c l n2 m (by omega) (by omega) w3 HP3.out).mono ?_
      rintro e w4 ⟨u, rfl, hu, hb4, hp4⟩
      have hux : EntsX (Hm (w.heap.size + 1) (.slice vA k vc)) w4 u (logP l n2 m).1 := hu.high_ents.wide fun j hj => ⟨Nat.le_trans HS3.out hj, fun e => by have := (World.ownsRow.lt HM3.out.own j e).2; omega⟩
      obtain ⟨uA, uc, hue⟩ := hux.is
      generalize hul : (logP l n2 m).1.length = un at hue
      subst hue
      have HU := hide hux
      have HM4 := hide (HM3.out.but hb4)
      have HP4 := hide hp4
      have HS4 := hide (Nat.le_trans HS3.out hb4.size)
      clear hux hu hb4 hp4 HM3 HP3 HS3 hul
      go_wp2_with (at_builtin; refine pause ?_)
      refine hide ?_
      refine wpList_pushLog rfl (.tmp 14) (.tmp 19) rfl rfl HM4.out HU.out HS4.out (congrArg (fun z => Value.slice (some ⟨z, 0, none⟩) 1 1) (by simp)) (show ls.length ≤ 100000 by omega) ?_
      intro v5 w5 hm5 hp5
      obtain ⟨vA5, vc5, hv5, _⟩ := OwnV.is hm5.own
      generalize List.length (_ ++ _) = xn5 at hv5
      subst hv5
      have HM5 := hide hm5
      have HP5 := hide (show Pk w5 w.heap.size A c l (logP l n2 m).2.2 from HP4.out.high ⟨Nat.lt_succ_self _, fun hl ad hA => Nat.lt_succ_of_lt (HBY.out.rd.lt hl hA)⟩ fun j hj => hp5.1.block j (by have := HS4.out; omega) (fun e => by have := (World.ownsRow.lt HM4.out.own j e.symm).1; omega))
      have HS5 := hide (show w.heap.size + 1 ≤ w5.heap.size from Nat.le_trans HS4.out hp5.1.size)
      clear hm5 hp5
      go_wp2_with fail
      go_roundw
      case rel => exact ⟨k + 1, j - 1, _, by go_num, by omega, by rw [HNX.out]; exact HM5, by rw [HNX.out]; exact HP5, HS5⟩
      case measure => simp [intOf]; omega
    · obtain rfl : j = 0 := by omega
      obtain rfl : k = T := by omega
      go_wp2_with fail
      go_ret
      exact ⟨_, rfl, by rw [HL.out]; exact HM.out.logs, HM.out.gr⟩

end Go.Proofs.Ytncdmecppfmmgaa
