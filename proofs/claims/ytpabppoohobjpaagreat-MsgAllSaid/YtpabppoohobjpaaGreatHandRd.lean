/-
  msg's reader: next, by contract.
-/
import Derived.Test.YtpabppoohobjpaaGreatHandEr
import Derived.Test.YtpabppoohobjpaaGreatTxTake1
import Derived.Test.YtpabppoohobjpaaGreatKeyRef
namespace Go.Proofs.YtpabppoohobjpaaGreat
open Go Go.RowKit TxnMath KeyMath MsgMath NumPlain TakeMath
set_option maxRecDepth 100000

/-- the reader in block g; what it reads lies in the world wb, which nothing has changed since -/
def mrS (wb : World) (g : Nat) (l : List UInt8) (w : World) : Prop := ∃ A c, Bl w g 72 #[.slice A l.length c] ∧ By wb A c l ∧ Gr wb w ∧ wb.heap.size ≤ g ∧ l.length ≤ 1000000000
def mrO (wb : World) (g : Nat) (_ : World) (j : Nat) : Prop := j = g ∨ j < wb.heap.size
abbrev mrV (g : Nat) : Value := .iface 73 (.pointer (some ⟨g, 0, none⟩))

theorem mr_lt {wb : World} {g : Nat} {l : List UInt8} {w : World} {j : Nat} (h : mrS wb g l w) (ho : mrO wb g w j) : j < w.heap.size := by
  obtain ⟨A, c, h1, h2, h3, _⟩ := h
  rcases ho with rfl | h
  · exact h1.lt
  · exact Nat.lt_of_lt_of_le h h3.size
theorem mr_gr {wb : World} {g : Nat} {l : List UInt8} {w w' : World} (h : mrS wb g l w) (hg : Gr w w') : mrS wb g l w' ∧ ∀ j, mrO wb g w' j ↔ mrO wb g w j := by
  obtain ⟨A, c, h1, h2, h3, h4⟩ := h
  exact ⟨⟨A, c, h1.gr hg, h2, h3.trans hg, h4⟩, fun j => Iff.rfl⟩
theorem mr_but {wb : World} {g : Nat} {l : List UInt8} {w w' : World} {k : Nat} (h : mrS wb g l w) (ho : ¬ mrO wb g w k) (hb : But w w' k) : mrS wb g l w' ∧ ∀ j, mrO wb g w' j ↔ mrO wb g w j := by
  obtain ⟨A, c, h1, h2, h3, h4⟩ := h
  have hk : g ≠ k := fun e => ho (.inl e.symm)
  have hk2 : wb.heap.size ≤ k := Nat.le_of_not_lt fun h => ho (.inr h)
  exact ⟨⟨A, c, (hb.block g h1.lt (by simpa using hk)).trans h1, h2, h3.fresh hb hk2, h4⟩, fun j => Iff.rfl⟩

/-- the reader has gone on by k -/
theorem mr_on {wb : World} {g c k : Nat} {l : List UInt8} {w w1 : World} {A : Option Addr} (h1 : Bl w g 72 #[.slice A l.length c]) (h2 : By wb A c l) (hgw : Gr wb w) (hle : wb.heap.size ≤ g) (hl : l.length ≤ 1000000000) (hk : k ≤ l.length) (hg : Gr w w1) :
    mrS wb g (l.drop k) (w1.setCell ⟨g, 0, none⟩ (.slice (if c = k then A else A.map (·.add k)) (l.length - k) (c - k))) ∧
      Hr (mrO wb g) False (fun _ => False) w (w1.setCell ⟨g, 0, none⟩ (.slice (if c = k then A else A.map (·.add k)) (l.length - k) (c - k))) ∧
      ∀ j, mrO wb g (w1.setCell ⟨g, 0, none⟩ (.slice (if c = k then A else A.map (·.add k)) (l.length - k) (c - k))) j → mrO wb g w j := by
  have hb1 := h1.gr hg
  have hbut : But w1 (w1.setCell ⟨g, 0, none⟩ (.slice (if c = k then A else A.map (·.add k)) (l.length - k) (c - k))) g := (But.refl w1 g).set 0 _
  have hb2 : Bl (w1.setCell ⟨g, 0, none⟩ (.slice (if c = k then A else A.map (·.add k)) (l.length - k) (c - k))) g 72 #[.slice (if c = k then A else A.map (·.add k)) (l.length - k) (c - k)] := hb1.put 0 _
  have hcut := h2.cut k l.length hk (Nat.le_refl _)
  rw [List.take_of_length_le (by simp)] at hcut
  have hlen : (l.drop k).length = l.length - k := by simp
  refine ⟨⟨_, c - k, by rw [hlen]; exact hb2, hcut, (hgw.trans hg).fresh hbut hle, hle, by omega⟩, ⟨hbut.os.trans hg.os, hbut.tape.trans hg.tape, hbut.output.trans hg.output, Nat.le_trans hg.size hbut.size, fun j hj ho _ => ?_, fun j _ ho => ho⟩, fun j h => h⟩
  have hjg : j ≠ g := fun e => ho (.inl e)
  rw [hbut.block j (Nat.lt_of_lt_of_le hj hg.size) (by simpa using hjg)]
  exact hg.block j hj

theorem next_num (l : List UInt8) : ∃ k, k ≤ l.length ∧ takeK l = (k : Int) ∧ nextN l = (takeV l, l.drop k) := by
  unfold nextN numOf takeK takeV
  cases ht : takeF 9 l with
  | none => exact ⟨0, Nat.zero_le _, rfl, rfl⟩
  | some vk =>
    obtain ⟨v, k⟩ := vk
    exact ⟨k, (takeF_some9 l v k ht).2.1, rfl, rfl⟩
theorem next_text (l : List UInt8) : ∃ k, k ≤ l.length ∧ textK l = (k : Int) ∧ takeOr nothing l (textOf l) = (textV l, l.drop k) := by
  unfold textOf textK textV
  cases ht : takeT l with
  | none => exact ⟨0, Nat.zero_le _, rfl, rfl⟩
  | some tk =>
    obtain ⟨t, k⟩ := tk
    refine ⟨k, ?_, rfl, rfl⟩
    unfold takeT at ht
    cases hf : takeF 9 l with
    | none => rw [hf] at ht; cases ht
    | some vk =>
      obtain ⟨v, k0⟩ := vk
      rw [hf] at ht
      have := (takeF_some9 l v k0 hf).2.1
      simp only [] at ht
      split at ht
      · cases ht
      · simp only [Option.some.injEq, Prod.mk.injEq] at ht
        omega
theorem next_txn (l : List UInt8) : takenK l ≤ l.length ∧ takeOr noTxn l (txOf l) = (takenT l, l.drop (takenK l)) := by
  unfold takenK takenT
  cases ht : txOf l with
  | none => exact ⟨Nat.zero_le _, rfl⟩
  | some tr =>
    obtain ⟨t, r⟩ := tr
    have h := (txOf_some ht).1
    refine ⟨by rw [h, List.length_append]; simp, ?_⟩
    show (t, r) = _
    congr 1
    rw [h]
    simp

def NextPost (wb : World) (g : Nat) (v : Value) (l : List UInt8) (w : World) (e : Ending) (w' : World) : Prop := e = .returned v ∧ mrS wb g l w' ∧ Hr (mrO wb g) False (fun _ => False) w w'

set_option maxHeartbeats 1000000 in
theorem next_int (wb : World) (g : Nat) (l : List UInt8) (w : World) (hS : mrS wb g l w) : Calls Tryz.prog 133 #[.pointer (some ⟨g, 0, none⟩), .func (.func 134) #[] #[]] w (NextPost wb g (.int .i64 (nextN l).1) (nextN l).2 w) := by
  obtain ⟨A, c, h1, h0, hgw, hle, h3⟩ := hS
  have h2 := h0.gr hgw
  obtain ⟨k, hk, e1, e2⟩ := next_num l
  have HC := hide (take_by A l.length c l rfl w h2 (by omega))
  have HO := hide (fun w1 (hg : Gr w w1) => mr_on h1 h0 hgw hle h3 hk hg)
  have c0 : w.cell? ⟨g, 0, none⟩ = some (.slice A l.length c) := h1.cell 0
  have hgl := h1.lt
  have HF := hide (fun w1 (hg : Gr w w1) => (show w1.frozen? ⟨g, 0, none⟩ = false ∧ w1.cell? ⟨g, 0, none⟩ = some (.slice A l.length c) from ⟨(h1.gr hg).frozen 0, (h1.gr hg).cell 0⟩))
  have hlc := h2.le
  have hmx := h2.max
  rw [e1] at HC
  rw [e2]
  clear h1 h2 h0 hgw hle e1 e2
  obtain ⟨n, hn⟩ : ∃ n, l.length = n := ⟨_, rfl⟩
  rw [hn] at hk HC HO HF c0 hlc h3
  clear hn
  unfold maxLen at hmx
  go_enter Tryz.func133, Tryz.ntmps133
  go_wp2_with fail
  refine HC.out.mono ?_
  rintro e w1 ⟨rfl, hg1⟩
  obtain ⟨f1, c1⟩ := HF.out w1 hg1
  have hr := HO.out w1 hg1
  clear HC HO HF hg1 c0
  by_cases hck : c = k
  · subst hck
    rw [if_pos rfl, Nat.sub_self, show n - c = 0 by omega] at hr
    have HR := hide hr
    clear hr
    go_wp2_with fail
    go_ret
    exact ⟨rfl, HR.out.1, HR.out.2.1⟩
  · rw [if_neg hck] at hr
    have HR := hide hr
    clear hr
    go_wp2_with fail
    go_ret
    exact ⟨rfl, HR.out.1, HR.out.2.1⟩

set_option maxHeartbeats 1000000 in
theorem next_string (wb : World) (g : Nat) (l : List UInt8) (w : World) (hS : mrS wb g l w) : Calls Tryz.prog 135 #[.pointer (some ⟨g, 0, none⟩), .func (.func 136) #[] #[]] w (NextPost wb g (.string (takeOr nothing l (textOf l)).1) (takeOr nothing l (textOf l)).2 w) := by
  obtain ⟨A, c, h1, h0, hgw, hle, h3⟩ := hS
  have h2 := h0.gr hgw
  obtain ⟨k, hk, e1, e2⟩ := next_text l
  have HC := hide (takeText_by A l.length c l rfl w h2 (by omega))
  have HO := hide (fun w1 (hg : Gr w w1) => mr_on h1 h0 hgw hle h3 hk hg)
  have c0 : w.cell? ⟨g, 0, none⟩ = some (.slice A l.length c) := h1.cell 0
  have hgl := h1.lt
  have HF := hide (fun w1 (hg : Gr w w1) => (show w1.frozen? ⟨g, 0, none⟩ = false ∧ w1.cell? ⟨g, 0, none⟩ = some (.slice A l.length c) from ⟨(h1.gr hg).frozen 0, (h1.gr hg).cell 0⟩))
  have hlc := h2.le
  have hmx := h2.max
  rw [e1] at HC
  rw [e2]
  clear h1 h2 h0 hgw hle e1 e2
  obtain ⟨n, hn⟩ : ∃ n, l.length = n := ⟨_, rfl⟩
  rw [hn] at hk HC HO HF c0 hlc h3
  clear hn
  unfold maxLen at hmx
  go_enter Tryz.func135, Tryz.ntmps135
  go_wp2_with fail
  refine HC.out.mono ?_
  rintro e w1 ⟨rfl, hg1⟩
  obtain ⟨f1, c1⟩ := HF.out w1 hg1
  have hr := HO.out w1 hg1
  clear HC HO HF hg1 c0
  by_cases hck : c = k
  · subst hck
    rw [if_pos rfl, Nat.sub_self, show n - c = 0 by omega] at hr
    have HR := hide hr
    clear hr
    go_wp2_with fail
    go_ret
    exact ⟨rfl, HR.out.1, HR.out.2.1⟩
  · rw [if_neg hck] at hr
    have HR := hide hr
    clear hr
    go_wp2_with fail
    go_ret
    exact ⟨rfl, HR.out.1, HR.out.2.1⟩

/-- what the next transaction comes to -/
def NextTx (wb : World) (g : Nat) (t : TxT) (l : List UInt8) (w : World) (e : Ending) (w' : World) : Prop :=
  ∃ rv wv, e = .returned (.agg #[.int .i64 t.ses, .int .i64 t.seq, rv, wv]) ∧ mrS wb g l w' ∧ Hr (mrO wb g) False (fun _ => False) w w' ∧ OwnR 47 4 w' w.heap.size rv (t.reads.map rdC) ∧ OwnR 78 3 w' w.heap.size wv (t.writes.map wrC) ∧ ∀ j, mrO wb g w' j → mrO wb g w j

theorem tx_done {wb : World} {g b B : Nat} {l : List UInt8} {w w1 : World} {v0 rv wv : Value} {t : TxT} (hS : mrS wb g l (w1.setCell ⟨g, 0, none⟩ v0)) (hr : Hr (mrO wb g) False (fun _ => False) w (w1.setCell ⟨g, 0, none⟩ v0)) (hown : ∀ j, mrO wb g (w1.setCell ⟨g, 0, none⟩ v0) j → mrO wb g w j) (hO : ¬ mrO wb g (w1.setCell ⟨g, 0, none⟩ v0) b) (hwb : w.heap.size ≤ b) (hbg : b ≠ g)
    (hb : Bl w1 b 27 #[.int .i64 0, .int .i64 0, .slice none 0 0, .slice none 0 0]) (hgB : g < B) (hbB : b < B) (h1 : OwnR 47 4 w1 B rv (t.reads.map rdC)) (h2 : OwnR 78 3 w1 B wv (t.writes.map wrC)) :
    Bl ((((((w1.setCell ⟨g, 0, none⟩ v0).setCell ⟨b, 0, none⟩ (.int .i64 t.ses)).setCell ⟨b, 1, none⟩ (.int .i64 t.seq)).setCell ⟨b, 2, none⟩ rv).setCell ⟨b, 3, none⟩ wv).alloc (.cells #[.int .i64 t.ses, .int .i64 t.seq, rv, wv] 27)) b 27 #[.int .i64 t.ses, .int .i64 t.seq, rv, wv] ∧
      NextTx wb g t l w (.returned (.agg #[.int .i64 t.ses, .int .i64 t.seq, rv, wv])) ((((((w1.setCell ⟨g, 0, none⟩ v0).setCell ⟨b, 0, none⟩ (.int .i64 t.ses)).setCell ⟨b, 1, none⟩ (.int .i64 t.seq)).setCell ⟨b, 2, none⟩ rv).setCell ⟨b, 3, none⟩ wv).alloc (.cells #[.int .i64 t.ses, .int .i64 t.seq, rv, wv] 27)) := by
  have hbut0 : But w1 (w1.setCell ⟨g, 0, none⟩ v0) g := (But.refl w1 g).set 0 v0
  have hbl0 : Bl (w1.setCell ⟨g, 0, none⟩ v0) b 27 #[.int .i64 0, .int .i64 0, .slice none 0 0, .slice none 0 0] := (hbut0.block b hb.lt (by simpa using hbg)).trans hb
  have h10 := h1.but hbut0 hgB
  have h20 := h2.but hbut0 hgB
  generalize w1.setCell ⟨g, 0, none⟩ v0 = V at *
  have hbut1 : But V ((((V.setCell ⟨b, 0, none⟩ (.int .i64 t.ses)).setCell ⟨b, 1, none⟩ (.int .i64 t.seq)).setCell ⟨b, 2, none⟩ rv).setCell ⟨b, 3, none⟩ wv) b := ((((But.refl V b).set 0 _).set 1 _).set 2 _).set 3 _
  have hbl1 : Bl ((((V.setCell ⟨b, 0, none⟩ (.int .i64 t.ses)).setCell ⟨b, 1, none⟩ (.int .i64 t.seq)).setCell ⟨b, 2, none⟩ rv).setCell ⟨b, 3, none⟩ wv) b 27 #[.int .i64 t.ses, .int .i64 t.seq, rv, wv] := (((hbl0.put 0 _).put 1 _).put 2 _).put 3 _
  have h11 := h10.but hbut1 hbB
  have h21 := h20.but hbut1 hbB
  obtain ⟨hS1, hO1⟩ := mr_but hS hO hbut1
  generalize (((V.setCell ⟨b, 0, none⟩ (.int .i64 t.ses)).setCell ⟨b, 1, none⟩ (.int .i64 t.seq)).setCell ⟨b, 2, none⟩ rv).setCell ⟨b, 3, none⟩ wv = U at *
  have hg := (Gr.refl U).alloc (.cells #[.int .i64 t.ses, .int .i64 t.seq, rv, wv] 27)
  obtain ⟨hS2, hO2⟩ := mr_gr hS1 hg
  have hVU : Hr (mrO wb g) False (· = b) V U := ⟨hbut1.os, hbut1.tape, hbut1.output, hbut1.size, fun j hj _ hx => hbut1.block j hj (by rcases hx with hx | hx; exact hx.elim; simpa using hx), fun j _ h3 h4 => h3 ((hO1 j).1 h4)⟩
  refine ⟨hbl1.gr hg, rv, wv, rfl, hS2, (hr.after hVU (fun j hj h => by omega)).trans (Hr.of_gr hg hO2), (h11.gr hg).base (by omega), (h21.gr hg).base (by omega), fun j h => hown j ((hO1 j).1 ((hO2 j).1 h))⟩

set_option maxHeartbeats 1000000 in
theorem next_tx (wb : World) (g : Nat) (l : List UInt8) (w : World) (hS : mrS wb g l w) : Calls Tryz.prog 137 #[.pointer (some ⟨g, 0, none⟩), .func (.func 138) #[] #[]] w (NextTx wb g (takeOr noTxn l (txOf l)).1 (takeOr noTxn l (txOf l)).2 w) := by
  obtain ⟨A, c, h1, h0, hgw, hle, h3⟩ := hS
  have h2 := h0.gr hgw
  obtain ⟨hk, e2⟩ := next_txn l
  obtain ⟨W, hW⟩ : ∃ W, w.alloc (.cells #[.int .i64 0, .int .i64 0, .slice none 0 0, .slice none 0 0] 27) = W := ⟨_, rfl⟩
  have hg : Gr w W := by rw [← hW]; exact (Gr.refl _).alloc _
  have hbx : Bl W w.heap.size 27 #[.int .i64 0, .int .i64 0, .slice none 0 0, .slice none 0 0] := by rw [← hW]; exact Bl.new _ _ _
  have HC := hide (TxTakeOwn_ok A l.length c l rfl W (h2.gr hg) (by omega))
  have c0 : w.cell? ⟨g, 0, none⟩ = some (.slice A l.length c) := h1.cell 0
  have hgl := h1.lt
  have HO := hide (fun w1 (hg : Gr w w1) => mr_on h1 h0 hgw hle h3 hk hg)
  have HF := hide (fun w1 (hg : Gr w w1) => (show w1.frozen? ⟨g, 0, none⟩ = false ∧ w1.cell? ⟨g, 0, none⟩ = some (.slice A l.length c) from ⟨(h1.gr hg).frozen 0, (h1.gr hg).cell 0⟩))
  have hlc := h2.le
  have hmx := h2.max
  have HLT := hide (fun j h => mr_lt ⟨A, c, h1, h0, hgw, hle, h3⟩ (j := j) h)
  have HG := hide hg
  have HB := hide hbx
  have HW := hide hW
  rw [e2]
  clear h1 h2 h0 hgw hle e2 hg hbx hW
  obtain ⟨n, hn⟩ : ∃ n, l.length = n := ⟨_, rfl⟩
  obtain ⟨k, hkk⟩ : ∃ k, takenK l = k := ⟨_, rfl⟩
  rw [hn, hkk] at hk HO
  rw [hn] at HC HF c0 hlc h3
  have HK := hide hkk
  rw [hkk]
  clear hn hkk
  unfold maxLen at hmx
  go_enter Tryz.func137, Tryz.ntmps137
  go_wp2_with fail
  rw [HW.out]
  refine HC.out.mono ?_
  rintro e w1 ⟨rv, wv, rfl, hor, how, hg1⟩
  obtain ⟨rA, rc, rfl, _⟩ := hor.is
  obtain ⟨sA, sc, rfl, _⟩ := how.is
  rw [List.length_map] at hor how ⊢
  obtain ⟨f1, c1⟩ := HF.out w1 (HG.out.trans hg1)
  have hr := HO.out w1 (HG.out.trans hg1)
  have hb1 := HB.out.gr hg1
  obtain ⟨t, htt⟩ : ∃ t, takenT l = t := ⟨_, rfl⟩
  rw [htt] at hor how ⊢
  have HTT := hide htt
  clear htt
  have hlt : ∀ j, mrO wb g w j → j < w.heap.size := fun j h => HLT.out j h
  have hWs := HB.out.lt
  obtain ⟨b, hb⟩ : ∃ b, w.heap.size = b := ⟨_, rfl⟩
  have HBB := hide hb
  rw [hb] at hb1 hlt hWs ⊢
  have hgb : ¬ g = b := by omega
  have hbg : ¬ b = g := by omega
  have hbw := hb1.lt
  have d0 : w1.cell? ⟨b, 0, none⟩ = some (.int .i64 0) := hb1.cell 0
  have d1 : w1.cell? ⟨b, 1, none⟩ = some (.int .i64 0) := hb1.cell 1
  have d2 : w1.cell? ⟨b, 2, none⟩ = some (.slice none 0 0) := hb1.cell 2
  have d3 : w1.cell? ⟨b, 3, none⟩ = some (.slice none 0 0) := hb1.cell 3
  have q0 := hb1.frozen 0
  have q1 := hb1.frozen 1
  have q2 := hb1.frozen 2
  have q3 := hb1.frozen 3
  have hg1w : g < w1.heap.size := by omega
  rw [HK.out]
  have HFIN := hide (fun (v0 : Value) (h : mrS wb g (l.drop k) (w1.setCell ⟨g, 0, none⟩ v0) ∧ Hr (mrO wb g) False (fun _ => False) w (w1.setCell ⟨g, 0, none⟩ v0) ∧ ∀ j, mrO wb g (w1.setCell ⟨g, 0, none⟩ v0) j → mrO wb g w j) => tx_done (w := w) (w1 := w1) (v0 := v0) h.1 h.2.1 h.2.2 (fun ho => by have := hlt b (h.2.2 b ho); omega) (by omega) hbg hb1 (by omega) hWs hor how)
  clear hb hor how hb1 HO HC HF hlt
  by_cases hck : c = k
  · subst hck
    rw [if_pos rfl, Nat.sub_self, show n - c = 0 by omega] at hr
    have HR := hide (HFIN.out _ hr)
    clear hr HFIN
    go_wp2_with fail
    exact bodyPost_ret (results_cell_row rfl _ _ b 27 #[.int .i64 t.ses, .int .i64 t.seq, .slice rA t.reads.length rc, .slice sA t.writes.length sc] (0, 0) _ rfl HR.out.1 Tryz.underlying27 rfl (by kernel_rfl)) rfl (by rw [HTT.out]; exact HR.out.2)
  · rw [if_neg hck] at hr
    have HR := hide (HFIN.out _ hr)
    clear hr HFIN
    go_wp2_with fail
    exact bodyPost_ret (results_cell_row rfl _ _ b 27 #[.int .i64 t.ses, .int .i64 t.seq, .slice rA t.reads.length rc, .slice sA t.writes.length sc] (0, 0) _ rfl HR.out.1 Tryz.underlying27 rfl (by kernel_rfl)) rfl (by rw [HTT.out]; exact HR.out.2)

end Go.Proofs.YtpabppoohobjpaaGreat

/-
  msg's reader is a hand.
-/
namespace Go.Proofs.YtpabppoohobjpaaGreat
open Go Go.RowKit TxnMath KeyMath MsgMath NumPlain TakeMath
set_option maxRecDepth 100000

/-- what was read is laid -/
theorem mr_laid {wb : World} {g k o : Nat} {l' : List UInt8} {u v : Value} {w w1 : World} (hr : Hr (mrO wb g) False (fun _ => False) w w1) (hS : mrS wb g l' w1) (hs : Sit w k o [u]) (hop : Open False w k) (hO : ¬ mrO wb g w k) :
    w1.frozen? ⟨k, o, none⟩ = false ∧ w1.cell? ⟨k, o, none⟩ = some u ∧ LaidPost (mrO wb g) False (mrS wb g) k o [v] l' w (.returned (.tuple #[])) (w1.setCell ⟨k, o, none⟩ v) := by
  obtain ⟨t, cs, hb⟩ := hop.resolve_left id
  have hk := hs.lt
  have hsz := hs.size hb (by simp)
  simp at hsz
  have hb1 : Bl w1 k t cs := (hr.block k hk hO (.inr id)).trans hb
  have hO1 := hr.own k hk hO
  obtain ⟨hS2, hO2⟩ := mr_but hS hO1 ((But.refl w1 k).set o v)
  exact ⟨hb1.frozen o, (hs.of_block (hr.block k hk hO (.inr id))).head, rfl, hS2, (Wr.set (o := o) (v := v) hb1 (by omega) (fun h => h.elim) hO2).behind hr hk hO⟩

theorem mr_set4 {wb : World} {g k o : Nat} {w : World} {t : TypeId} {cs : Array Value} {a b c d : Value} (hb : Bl w k t cs) (ho : o + 4 ≤ cs.size) :
    Wr (mrO wb g) False k o [a, b, c, d] w ((((w.setCell ⟨k, o, none⟩ a).setCell ⟨k, o + 1, none⟩ b).setCell ⟨k, o + 2, none⟩ c).setCell ⟨k, o + 3, none⟩ d) :=
  Wr.set4 hb ho id (fun _ _ _ _ _ => Iff.rfl)
/-- rows of the call's own -/
theorem own_rowX {e : TypeId} {k B : Nat} {w : World} {v : Value} {rs : List (List Value)} {X : Nat → Prop} (h : OwnR e k w B v rs) (hX : ∀ j, B ≤ j → X j) : RowX X k w v rs :=
  ⟨h.rowAt, fun ad n c e2 _ => hX _ (h.lt ad.block (by rw [e2]; rfl)).1⟩

theorem nextN_i64 (l : List UInt8) : 0 ≤ (nextN l).1 ∧ (nextN l).1 ≤ 9223372036854775807 := by
  unfold nextN
  cases h : numOf l with
  | none => exact ⟨Int.le_refl _, (by decide : (0 : Int) ≤ 9223372036854775807)⟩
  | some r =>
    obtain ⟨z, r⟩ := r
    have := numOf_some h
    exact ⟨this.1, this.2.1⟩

set_option maxHeartbeats 400000 in
theorem mr_number (wb : World) (g : Nat) (l : List UInt8) (w : World) (k o : Nat) (u : Value) (hS : mrS wb g l w) (hO : ¬ mrO wb g w k) (hs : Sit w k o [u]) (hop : Open False w k) :
    Calls Tryz.prog 129 #[.pointer (some ⟨g, 0, none⟩), .pointer (some ⟨k, o, none⟩)] w (LaidPost (mrO wb g) False (mrS wb g) k o [.int .i64 (nextN l).1] (nextN l).2 w) := by
  have HC := hide (next_int wb g l w hS)
  have HD := hide (fun w1 (hr : Hr (mrO wb g) False (fun _ => False) w w1) (h : mrS wb g (nextN l).2 w1) => mr_laid (v := .int .i64 (nextN l).1) hr h hs hop hO)
  have hk := hs.lt
  generalize (nextN l) = r at HC HD ⊢
  clear hS hO hs hop
  go_enter Tryz.func129, Tryz.ntmps129
  go_wp2_with fail
  refine HC.out.mono ?_
  rintro e w1 ⟨rfl, hS1, hr1⟩
  obtain ⟨f1, c1, hp⟩ := HD.out w1 hr1 hS1
  have HP := hide hp
  clear hp HC HD hS1 hr1
  go_wp2_with fail
  go_end0
  exact HP.out

set_option maxHeartbeats 400000 in
theorem mr_flag (wb : World) (g : Nat) (l : List UInt8) (w : World) (k o : Nat) (u : Value) (hS : mrS wb g l w) (hO : ¬ mrO wb g w k) (hs : Sit w k o [u]) (hop : Open False w k) :
    Calls Tryz.prog 128 #[.pointer (some ⟨g, 0, none⟩), .pointer (some ⟨k, o, none⟩)] w (LaidPost (mrO wb g) False (mrS wb g) k o [.bool ((nextN l).1 == 1)] (nextN l).2 w) := by
  have HC := hide (next_int wb g l w hS)
  have HD := hide (fun w1 (hr : Hr (mrO wb g) False (fun _ => False) w w1) (h : mrS wb g (nextN l).2 w1) => mr_laid (v := .bool ((nextN l).1 == 1)) hr h hs hop hO)
  have hk := hs.lt
  generalize (nextN l) = r at HC HD ⊢
  clear hS hO hs hop
  go_enter Tryz.func128, Tryz.ntmps128
  go_wp2_with fail
  refine HC.out.mono ?_
  rintro e w1 ⟨rfl, hS1, hr1⟩
  obtain ⟨f1, c1, hp⟩ := HD.out w1 hr1 hS1
  have HP := hide hp
  clear hp HC HD hS1 hr1
  go_wp2_with fail
  go_end0
  exact HP.out

set_option maxHeartbeats 400000 in
theorem mr_text (wb : World) (g : Nat) (l : List UInt8) (w : World) (k o : Nat) (u : Value) (hS : mrS wb g l w) (hO : ¬ mrO wb g w k) (hs : Sit w k o [u]) (hop : Open False w k) :
    Calls Tryz.prog 131 #[.pointer (some ⟨g, 0, none⟩), .pointer (some ⟨k, o, none⟩)] w (LaidPost (mrO wb g) False (mrS wb g) k o [.string (takeOr nothing l (textOf l)).1] (takeOr nothing l (textOf l)).2 w) := by
  have HC := hide (next_string wb g l w hS)
  have HD := hide (fun w1 (hr : Hr (mrO wb g) False (fun _ => False) w w1) (h : mrS wb g (takeOr nothing l (textOf l)).2 w1) => mr_laid (v := .string (takeOr nothing l (textOf l)).1) hr h hs hop hO)
  have hk := hs.lt
  generalize (takeOr nothing l (textOf l)) = r at HC HD ⊢
  clear hS hO hs hop
  go_enter Tryz.func131, Tryz.ntmps131
  go_wp2_with fail
  refine HC.out.mono ?_
  rintro e w1 ⟨rfl, hS1, hr1⟩
  obtain ⟨f1, c1, hp⟩ := HD.out w1 hr1 hS1
  have HP := hide hp
  clear hp HC HD hS1 hr1
  go_wp2_with fail
  go_end0
  exact HP.out

set_option maxHeartbeats 400000 in
theorem mr_txn (wb : World) (g : Nat) (l : List UInt8) (w : World) (k o : Nat) (t : TxT) (p : Value × Value) (X : Nat → Prop) (hS : mrS wb g l w) (hO : ¬ mrO wb g w k) (hs : Sit w k o (txC t p)) (hop : Open False w k) :
    Calls Tryz.prog 132 #[.pointer (some ⟨g, 0, none⟩), .pointer (some ⟨k, o, none⟩)] w (TxnLaid (mrO wb g) False (mrS wb g) k o X (takeOr noTxn l (txOf l)).1 (takeOr noTxn l (txOf l)).2 w) := by
  have HC := hide (next_tx wb g l w hS)
  obtain ⟨ty, cs, hb⟩ := hop.resolve_left id
  have hk := hs.lt
  have hsz := hs.size hb (by simp [txC])
  have HLT := hide (fun j h => mr_lt hS (j := j) h)
  have HK := hide (fun w1 (hr : Hr (mrO wb g) False (fun _ => False) w w1) => (show Bl w1 k ty cs ∧ Sit w1 k o (txC t p) ∧ ¬ mrO wb g w1 k from ⟨(hr.block k hk hO (.inr id)).trans hb, hs.of_block (hr.block k hk hO (.inr id)), hr.own k hk hO⟩))
  have HO := hide hO
  generalize takeOr noTxn l (txOf l) = r at HC ⊢
  obtain ⟨x, l'⟩ := r
  simp only at HC ⊢
  clear hS hO hs hop hb
  go_enter Tryz.func132, Tryz.ntmps132
  go_wp2_with fail
  refine HC.out.mono ?_
  rintro e w1 ⟨rv, wv, rfl, hS1, hr1, h1, h2, hown⟩
  obtain ⟨rA, rc, rfl, _⟩ := h1.is
  obtain ⟨sA, sc, rfl, _⟩ := h2.is
  rw [List.length_map] at h1 h2 ⊢
  obtain ⟨rv, hrv⟩ : ∃ rv, Value.slice rA x.reads.length rc = rv := ⟨_, rfl⟩
  obtain ⟨wv, hwv⟩ : ∃ wv, Value.slice sA x.writes.length sc = wv := ⟨_, rfl⟩
  rw [hrv] at h1
  rw [hwv] at h2
  obtain ⟨hb, hs, hO1⟩ := HK.out w1 hr1
  have c0 := hs.head
  have c1 := hs.tail.head
  have c2 := hs.tail.tail.head
  have c3 := hs.tail.tail.tail.head
  have f0 : w1.frozen? ⟨k, o, none⟩ = false := hb.frozen o
  have f1 : w1.frozen? ⟨k, o + 1, none⟩ = false := hb.frozen _
  have f2 : w1.frozen? ⟨k, o + 2, none⟩ = false := hb.frozen _
  have f3 : w1.frozen? ⟨k, o + 3, none⟩ = false := hb.frozen _
  have hbut : But w1 ((((w1.setCell ⟨k, o, none⟩ (.int .i64 x.ses)).setCell ⟨k, o + 1, none⟩ (.int .i64 x.seq)).setCell ⟨k, o + 2, none⟩ rv).setCell ⟨k, o + 3, none⟩ wv) k := ((((But.refl w1 k).set o _).set (o + 1) _).set (o + 2) _).set (o + 3) _
  obtain ⟨hS2, hO2⟩ := mr_but hS1 hO1 hbut
  have hw := mr_set4 (wb := wb) (g := g) hb (show o + 4 ≤ cs.size by simpa [txC] using hsz) (a := .int .i64 x.ses) (b := .int .i64 x.seq) (c := rv) (d := wv)
  have hrow : RowsX (fun j => ¬ mrO wb g ((((w1.setCell ⟨k, o, none⟩ (.int .i64 x.ses)).setCell ⟨k, o + 1, none⟩ (.int .i64 x.seq)).setCell ⟨k, o + 2, none⟩ rv).setCell ⟨k, o + 3, none⟩ wv) j ∧ (X j ∨ w.heap.size ≤ j)) ((((w1.setCell ⟨k, o, none⟩ (.int .i64 x.ses)).setCell ⟨k, o + 1, none⟩ (.int .i64 x.seq)).setCell ⟨k, o + 2, none⟩ rv).setCell ⟨k, o + 3, none⟩ wv) x (rv, wv) := by
    have hx : ∀ j, w.heap.size ≤ j → ¬ mrO wb g ((((w1.setCell ⟨k, o, none⟩ (.int .i64 x.ses)).setCell ⟨k, o + 1, none⟩ (.int .i64 x.seq)).setCell ⟨k, o + 2, none⟩ rv).setCell ⟨k, o + 3, none⟩ wv) j ∧ (X j ∨ w.heap.size ≤ j) := fun j hj => ⟨fun h => by have := HLT.out j (hown j ((hO2 j).1 h)); omega, .inr hj⟩
    exact ⟨own_rowX (h1.but hbut hk) hx, own_rowX (h2.but hbut hk) hx⟩
  have HP := hide (show TxnLaid (mrO wb g) False (mrS wb g) k o X x l' w (.returned (.tuple #[])) ((((w1.setCell ⟨k, o, none⟩ (.int .i64 x.ses)).setCell ⟨k, o + 1, none⟩ (.int .i64 x.seq)).setCell ⟨k, o + 2, none⟩ rv).setCell ⟨k, o + 3, none⟩ wv) from ⟨rfl, hS2, (rv, wv), hw.behind hr1 hk HO.out, hrow⟩)
  subst hrv hwv
  clear hrow hw hS2 hO2 hbut h1 h2 hS1 hr1 HC HK hb hs hO1 hown
  go_wp2_with fail
  go_end0
  exact HP.out

set_option maxHeartbeats 400000 in
theorem mr_size (wb : World) (g : Nat) (l : List UInt8) (w : World) (n m : Nat) (hS : mrS wb g l w) : Calls Tryz.prog 130 #[.pointer (some ⟨g, 0, none⟩), .int .i64 n, .int .i64 m] w (SizedPost (mrO wb g) False (mrS wb g) (MsgMath.reader.size l n m).1 (MsgMath.reader.size l n m).2 w) := by
  have HC := hide (next_int wb g l w hS)
  have h64 := nextN_i64 l
  show Calls _ _ _ _ (SizedPost _ _ _ (if (m : Int) < (nextN l).1 then 0 else (nextN l).1.toNat) (nextN l).2 w)
  generalize nextN l = r at HC h64 ⊢
  obtain ⟨z, l'⟩ := r
  simp only at HC h64 ⊢
  by_cases hz : (m : Int) < z
  · have d1 : decide ((m : Int) < z) = true := decide_eq_true hz
    rw [if_pos hz]
    go_enter Tryz.func130, Tryz.ntmps130
    go_wp2_with fail
    refine HC.out.mono ?_
    rintro e w1 ⟨rfl, hS1, hr1⟩
    have HP := hide (show SizedPost (mrO wb g) False (mrS wb g) 0 l' w (.returned (.int .i64 0)) w1 from ⟨rfl, hS1, hr1⟩)
    clear hS1 hr1 HC
    go_wp2_with fail
    go_ret
    exact HP.out
  · have d1 : decide ((m : Int) < z) = false := decide_eq_false hz
    rw [if_neg hz]
    obtain ⟨k, rfl⟩ := Int.eq_ofNat_of_zero_le h64.1
    go_enter Tryz.func130, Tryz.ntmps130
    go_wp2_with fail
    refine HC.out.mono ?_
    rintro e w1 ⟨rfl, hS1, hr1⟩
    have HP := hide (show SizedPost (mrO wb g) False (mrS wb g) ((k : Int).toNat) l' w (.returned (.int .i64 k)) w1 from ⟨by rw [Int.toNat_natCast], hS1, hr1⟩)
    clear hS1 hr1 HC
    go_wp2_with fail
    go_ret
    exact HP.out

theorem mrDisp (g : Nat) (name : String) (f : FuncId) (h1 : ∀ w, (nilAhead (Tryz.prog.types.size + Made.depth) 73 (.pointer (some ⟨g, 0, none⟩)) name).run Tryz.prog w = .ok (some false) w) (h2 : ∀ args w, (callMethod (mrV g) name args).run Tryz.prog w = .ok (.enter f (#[.pointer (some ⟨g, 0, none⟩)] ++ args)) w) : Disp Tryz.prog (mrV g) name f (.pointer (some ⟨g, 0, none⟩)) := ⟨⟨_, _, rfl, h1⟩, h2⟩

theorem text_short (l : List UInt8) : (takeOr nothing l (textOf l)).1.size ≤ 1000000 := by
  cases h : textOf l with
  | none => exact Nat.zero_le _
  | some r =>
    obtain ⟨s, r⟩ := r
    have := (textOf_some h).1
    show s.size ≤ _
    omega
theorem txn_lim (l : List UInt8) : TxLim 1000000 (takeOr noTxn l (txOf l)).1 := by
  cases h : txOf l with
  | none => exact noTxn_lim
  | some r =>
    obtain ⟨t, r⟩ := r
    obtain ⟨_, hm, hv⟩ := txOf_some h
    show TxLim 1000000 t
    obtain ⟨h1, h2, h3, h4, h5, h6, h7, h8, h9, h10⟩ := mayT_parts hm
    have hk := rising_may h9
    have hw := rising_may h10
    exact ⟨⟨by omega, by omega⟩, ⟨by omega, by omega⟩, by omega, by omega,
      fun x hx => ⟨by have := mayK_size (hk x.key (List.mem_map.2 ⟨x, hx, rfl⟩)); omega, by have := (rdOk_parts (h1 x hx)).2; omega, by have := (rdOk_parts (h1 x hx)).1; omega, hv x hx⟩,
      fun x hx => ⟨by have := mayK_size (hw x.key (List.mem_map.2 ⟨x, hx, rfl⟩)); omega, by have := wrOk_parts (h2 x hx); omega⟩⟩
theorem reader_hand (wb : World) (g : Nat) : HandOk Tryz.prog MsgMath.reader False (mrV g) (mrS wb g) (mrO wb g) (fun _ => 0) where
  lt := mr_lt
  gr := mr_gr
  but := mr_but
  num := ⟨129, .pointer (some ⟨g, 0, none⟩), mrDisp g _ _ (fun w => by kernel_rfl) (fun args w => by kernel_rfl), fun s w k o _ hS _ hO hs hop _ => mr_number wb g s w k o _ hS hO hs hop⟩
  flag := ⟨128, .pointer (some ⟨g, 0, none⟩), mrDisp g _ _ (fun w => by kernel_rfl) (fun args w => by kernel_rfl), fun s w k o _ hS _ hO hs hop => mr_flag wb g s w k o _ hS hO hs hop⟩
  text := ⟨131, .pointer (some ⟨g, 0, none⟩), mrDisp g _ _ (fun w => by kernel_rfl) (fun args w => by kernel_rfl), fun s w k o _ hS _ hO hs hop _ => mr_text wb g s w k o _ hS hO hs hop⟩
  txn := ⟨132, .pointer (some ⟨g, 0, none⟩), mrDisp g _ _ (fun w => by kernel_rfl) (fun args w => by kernel_rfl), fun s w k o t p X hS _ hO hs _ _ hop _ => mr_txn wb g s w k o t p X hS hO hs hop⟩
  size := ⟨130, .pointer (some ⟨g, 0, none⟩), mrDisp g _ _ (fun w => by kernel_rfl) (fun args w => by kernel_rfl), fun s w n m hS _ _ _ => mr_size wb g s w n m hS⟩
  rdNum h := h.elim
  rdFlag h := h.elim
  rdText h := h.elim
  rdTxn h := h.elim
  rdSize h := h.elim
  i64 s _ _ := (show I64 (nextN s).1 from ⟨by have := (nextN_i64 s).1; omega, (nextN_i64 s).2⟩)
  short s _ _ := text_short s
  lim s _ _ := txn_lim s
  few s n m := by
    show (if (m : Int) < (nextN s).1 then 0 else (nextN s).1.toNat) ≤ n ∨ (if (m : Int) < (nextN s).1 then 0 else (nextN s).1.toNat) ≤ m
    right
    split <;> omega
  wNum _ _ := by omega
  wFlag _ _ := by omega
  wText _ _ := by omega
  wTxn _ _ := by omega
  wSize _ _ _ := by omega

end Go.Proofs.YtpabppoohobjpaaGreat

/-
  msg's small questions by their contracts: within, mayNumber, mayKey, rising, mayRead, keysOf.
-/
namespace Go.Proofs.YtpabppoohobjpaaGreat
open Go Go.RowKit TxnMath KeyMath MsgMath
set_option maxRecDepth 100000

theorem within_ok (v a b : Int) (w : World) : Calls Tryz.prog 46 #[.int .i64 v, .int .i64 a, .int .i64 b] w fun e w' => e = .returned (.bool (decide (a ≤ v) && decide (v ≤ b))) ∧ w = w' := by
  by_cases h : a ≤ v
  · have h1 : decide (a ≤ v) = true := decide_eq_true h
    rw [h1, Bool.true_and]
    go_enter Tryz.func46, Tryz.ntmps46
    go_wp2_with fail
    go_ret
    exact ⟨rfl, rfl⟩
  · have h1 : decide (a ≤ v) = false := decide_eq_false h
    rw [h1, Bool.false_and]
    go_enter Tryz.func46, Tryz.ntmps46
    go_wp2_with fail
    go_ret
    exact ⟨rfl, rfl⟩
/-- a number that may be -/
def okN (z : Int) : Bool := decide (0 ≤ z) && decide (z ≤ 1099511627776)
theorem mayNumber_ok (z : Int) (w : World) : Calls Tryz.prog 58 #[.int .i64 z] w fun e w' => e = .returned (.bool (okN z)) ∧ w = w' := by
  have HC := hide (within_ok z 0 1099511627776 w)
  change Hid (Calls _ _ _ _ fun e w' => e = .returned (.bool (okN z)) ∧ w = w') at HC
  generalize okN z = b at HC ⊢
  go_enter Tryz.func58, Tryz.ntmps58
  go_wp2_with fail
  refine HC.out.mono ?_
  rintro e w1 ⟨rfl, rfl⟩
  go_wp2_with fail
  go_ret
  exact ⟨rfl, rfl⟩

/-- a read of a letter that may be, but for its key -/
def rdB (x : RdT) : Bool := okN x.ver && decide (x.val.size ≤ 16)
set_option maxHeartbeats 400000 in
theorem mgRead_ok (x : RdT) (w : World) : Calls Tryz.prog 53 #[.agg (rdC x).toArray] w fun e w' => e = .returned (.bool (rdB x)) ∧ Gr w w' := by
  have hg : ∀ o, Gr w (w.alloc o) := fun o => (Gr.refl _).alloc o
  have HG := hide hg
  clear hg
  have HC := hide (fun w => mayNumber_ok x.ver w)
  have HE := hide (show rdB x = (okN x.ver && decide ((x.val.size : Int) ≤ 16)) by unfold rdB; congr 1; rw [decide_eq_decide]; omega)
  show Calls _ _ #[.agg #[.string x.key, .int .i64 x.ver, .string x.val, .bool x.there]] _ _
  rw [HE.out]
  clear HE
  generalize okN x.ver = b at HC ⊢
  cases b
  · go_enter Tryz.func53, Tryz.ntmps53
    go_wp2_with fail
    refine (HC.out _).mono ?_
    rintro e w1 ⟨rfl, rfl⟩
    go_wp2_with fail
    go_ret
    exact ⟨rfl, HG.out _⟩
  · go_enter Tryz.func53, Tryz.ntmps53
    go_wp2_with fail
    refine (HC.out _).mono ?_
    rintro e w1 ⟨rfl, rfl⟩
    go_wp2_with fail
    go_ret
    exact ⟨rfl, HG.out _⟩

set_option maxHeartbeats 400000 in
theorem mgKey_ok (s : ByteArray) (hs : s.size ≤ 281474976710656) (w : World) : Calls Tryz.prog 66 #[.string s] w fun e w' => e = .returned (.bool (mayK s)) ∧ Gr w w' := by
  have HM := hide (show mayT ⟨1, 1, [⟨s, 0, nothing, false⟩], []⟩ = mayK s by
    have h1 : rdOk ⟨s, 0, nothing, false⟩ = true := by
      rw [rdOk_gone' (x := ⟨s, 0, nothing, false⟩) rfl]
      exact (by decide +kernel : (decide ((0 : Int) ≤ 0) && empty nothing) = true)
    have h2 : risingK ([⟨s, 0, nothing, false⟩].map RdT.key) = mayK s := by
      rw [List.map_cons, List.map_nil]
      unfold risingK risesTo
      simp only [List.length_cons, List.length_nil, List.range_succ, List.range_zero, List.nil_append, List.all_cons, List.all_nil, Bool.and_true]
      unfold riseAt
      simp
    unfold mayT
    simp only [List.all_cons, List.all_nil, h1, h2, List.map_nil]
    have h3 : risingK [] = true := rfl
    rw [h3]
    simp)
  obtain ⟨W, hW⟩ : ∃ W, w.alloc (.cells #[.string s, .int .i64 0, .string ⟨#[]⟩, .bool false] 47) = W := ⟨_, rfl⟩
  have hg : Gr w W := by rw [← hW]; exact (Gr.refl _).alloc _
  have hbx : Bl W w.heap.size 47 #[.string s, .int .i64 0, .string ⟨#[]⟩, .bool false] := by rw [← hW]; exact Bl.new _ _ _
  have hx : RowAt 4 W (.slice (some ⟨w.heap.size, 0, none⟩) 1 1) ([⟨s, 0, nothing, false⟩].map rdC) := ⟨some ⟨w.heap.size, 0, none⟩, 1, rfl, by simp, fun j i r u hj hi => ⟨_, rfl, by
    match j, hj with
    | 0, hj =>
      simp only [List.map_cons, List.map_nil, List.getElem?_cons_zero, Option.some.injEq] at hj
      subst hj
      have e : (⟨w.heap.size, 0, none⟩ : Addr).add (0 * 4 + i) = ⟨w.heap.size, i, none⟩ := by
        unfold Addr.add
        split
        · rename_i h0; simp only [Addr.mk.injEq, and_true, true_and]; omega
        · simp only [Addr.mk.injEq, and_true, true_and]; omega
      rw [e, hbx.cell i]
      simpa [rdC, nothing] using hi⟩⟩
  have HC := hide (TxMayB_ok (.agg #[.int .i64 1, .int .i64 1, .slice (some ⟨w.heap.size, 0, none⟩) 1 1, .slice none 0 0]) ⟨1, 1, [⟨s, 0, nothing, false⟩], []⟩ W ⟨_, _, rfl, hx, ⟨none, 0, rfl, Nat.le_refl _, fun j i r u hj _ => by simp at hj⟩⟩
    ⟨by simp, by simp, fun y hy => by simp at hy; subst hy; exact ⟨hs⟩, fun y hy => by simp at hy⟩)
  rw [HM.out] at HC
  have HG := hide hg
  have HW := hide hW
  clear hg hbx hx hW HM
  generalize mayK s = b at HC ⊢
  go_enter Tryz.func66, Tryz.ntmps66
  go_wp2_with fail
  rw [HW.out]
  refine HC.out.mono ?_
  rintro e w1 ⟨rfl, hg1⟩
  go_wp2_with fail
  go_ret
  exact ⟨rfl, HG.out.trans hg1⟩
end Go.Proofs.YtpabppoohobjpaaGreat

/-
  msg's rising and keysOf by their contracts.
-/
namespace Go.Proofs.YtpabppoohobjpaaGreat
open Go Go.RowKit TxnMath KeyMath MsgMath
set_option maxRecDepth 100000

/-- texts lie here; nothing is said of how many may -/
structure StrW (w : World) (A : Option Addr) (ss : List ByteArray) : Prop where
  rd : ∀ j (hj : j < ss.length), ∃ ad, A = some ad ∧ w.cell? (ad.add j) = some (.string ss[j])
theorem StrW.gr {w w' : World} {A : Option Addr} {ss : List ByteArray} (h : StrW w A ss) (hg : Gr w w') : StrW w' A ss := by
  refine ⟨fun j hj => ?_⟩
  obtain ⟨ad, h1, h2⟩ := h.rd j hj
  exact ⟨ad, h1, gr_cell hg _ _ h2⟩
theorem StrW.at_ {w : World} {A : Option Addr} {ss : List ByteArray} (h : StrW w A ss) (j : Nat) (hj : j < ss.length) : ∃ ad, A = some ad ∧ w.cell? (ad.add j) = some (.string (ss.getD j nothing)) := by
  obtain ⟨ad, h1, h2⟩ := h.rd j hj
  exact ⟨ad, h1, by rw [h2, List.getD_eq_getElem?_getD, List.getElem?_eq_getElem hj]; rfl⟩
theorem strW_of {w : World} {A : Option Addr} {n c : Nat} {ss : List ByteArray} (h : RowAt 1 w (.slice A n c) (ss.map strC)) : n = ss.length ∧ StrW w A ss := by
  obtain ⟨A', c', e, hc, hr⟩ := h
  injection e with e1 e2 e3
  subst e1 e3
  rw [List.length_map] at e2
  refine ⟨e2, ⟨fun j hj => ?_⟩⟩
  obtain ⟨ad, h1, h2⟩ := hr j 0 (strC ss[j]) (.string ss[j]) (by rw [List.getElem?_map, List.getElem?_eq_getElem hj]; rfl) rfl
  exact ⟨ad, h1, by simpa using h2⟩
set_option maxHeartbeats 1000000 in
theorem mgRising_ok (A : Option Addr) (n c : Nat) (ss : List ByteArray) (hn : n = ss.length) (w : World) (hss : StrW w A ss) (hm : ∀ s ∈ ss, (s.size : Int) ≤ 281474976710656) (hmax : (ss.length : Int) ≤ 1000000) :
    Calls Tryz.prog 51 #[.slice A n c] w fun e w' => e = .returned (.bool (risingK ss)) ∧ Gr w w' := by
  subst hn
  have hsz := hide (size_at hm)
  have HSS := hide hss
  clear hm hss
  go_enter Tryz.func51, Tryz.ntmps51
  go_wp2_with fail
  go_loopw [7] (fun i wr => ∃ k : Nat, i = .int .i64 k ∧ k ≤ ss.length ∧ Hid (risesTo ss k = true) ∧ Gr w wr) (fun i _ => ss.length - (intOf i).toNat)
  case atStart => exact ⟨0, rfl, by omega, rfl, Gr.refl _⟩
  case round =>
    obtain ⟨k, rfl, hk, hrs, hgr⟩ := hrel
    by_cases hlt : k < ss.length
    · have hlt' : (k : Int) < (ss.length : Int) := by omega
      have hss2 := HSS.out.gr hgr
      obtain ⟨ad, rfl, hcell⟩ := hss2.at_ k hlt
      have hsk := hsz.out k hlt
      have hsu := hide (risesTo_succ ss k)
      have hno := hide (rising_not hlt)
      have HC := hide (fun w => mgKey_ok (ss.getD k nothing) (by omega) w)
      cases hmk : mayK (ss.getD k nothing)
      · have hrn := hide (hno.out (riseAt_no hmk))
        rw [hmk] at HC
        obtain ⟨x, hx⟩ : ∃ x, ss.getD k nothing = x := ⟨_, rfl⟩
        rw [hx] at hcell HC
        clear hx hmk hss2 hsk hsu hno hrs
        go_wp2_with fail
        refine (HC.out _).mono ?_
        rintro e w2 ⟨rfl, hg2⟩
        replace hgr := hgr.trans hg2
        clear hg2 HC
        go_wp2_with fail
        go_ret
        exact ⟨by rw [hrn.out]; rfl, hgr⟩
      · rw [hmk] at HC
        by_cases hk0 : k = 0
        · subst hk0
          have hr1 := hide (p := risesTo ss 1 = true) (by rw [hsu.out, hrs.out, riseAt_first hmk]; rfl)
          rw [add_zero_] at hcell
          obtain ⟨x, hx⟩ : ∃ x, ss.getD 0 nothing = x := ⟨_, rfl⟩
          rw [hx] at hcell HC
          have hl0 : 0 < ss.length := hlt
          clear hx hmk hss2 hsk hsu hno hrs
          go_wp2_with fail
          refine (HC.out _).mono ?_
          rintro e w2 ⟨rfl, hg2⟩
          replace hgr := hgr.trans hg2
          clear hg2 HC hcell
          go_wp2_with fail
          go_roundw
          case rel => exact ⟨1, rfl, by omega, hr1, hgr⟩
          case measure => simp [intOf]; omega
        · obtain ⟨j, hj⟩ : ∃ j, j + 1 = k := ⟨k - 1, by omega⟩
          have hra := riseAt_next hj hmk
          obtain ⟨ad', e', hcell0⟩ := hss2.at_ j (by omega)
          injection e' with e'
          subst e'
          have hw0 : (k : Int) - 1 = (j : Int) := by omega
          have hw1 : IntKind.i64.wrap (j : Int) = (j : Int) := by rw [IntKind.wrap_i64]; omega
          have hd0 : decide ((0 : Int) < (k : Int)) = true := by rw [decide_eq_true_eq]; omega
          have hjl : (j : Int) < (ss.length : Int) := by omega
          have hk1 : 0 < k := by omega
          have HC0 := hide hcell0
          cases hle : leK (ss.getD k nothing) (ss.getD j nothing)
          · have hr1 := hide (p := risesTo ss (k + 1) = true) (by rw [hsu.out, hrs.out, hra, hle]; rfl)
            unfold leK at hle
            obtain ⟨x, hx⟩ : ∃ x, ss.getD k nothing = x := ⟨_, rfl⟩
            obtain ⟨y, hy⟩ : ∃ y, ss.getD j nothing = y := ⟨_, rfl⟩
            rw [hx] at hcell HC hle
            rw [hy] at HC0 hle
            clear hx hy hmk hss2 hsk hsu hno hra hj hcell0 hrs
            go_wp2_with fail
            refine (HC.out _).mono ?_
            rintro e w2 ⟨rfl, hg2⟩
            have hcell0 := gr_cell hg2 _ _ HC0.out
            replace hgr := hgr.trans hg2
            clear hg2 HC hcell
            go_wp2_with fail
            go_roundw
            case rel => exact ⟨k + 1, by go_num, by omega, hr1, hgr⟩
            case measure => simp [intOf]; omega
          · have hrn := hide (hno.out (by rw [hra, hle]; rfl))
            unfold leK at hle
            obtain ⟨x, hx⟩ : ∃ x, ss.getD k nothing = x := ⟨_, rfl⟩
            obtain ⟨y, hy⟩ : ∃ y, ss.getD j nothing = y := ⟨_, rfl⟩
            rw [hx] at hcell HC hle
            rw [hy] at HC0 hle
            clear hx hy hmk hss2 hsk hsu hno hra hj hcell0 hrs
            go_wp2_with fail
            refine (HC.out _).mono ?_
            rintro e w2 ⟨rfl, hg2⟩
            have hcell0 := gr_cell hg2 _ _ HC0.out
            replace hgr := hgr.trans hg2
            clear hg2 HC hcell
            go_wp2_with fail
            go_ret
            exact ⟨by rw [hrn.out]; rfl, hgr⟩
    · obtain rfl : k = ss.length := by omega
      go_wp2_with fail
      go_ret
      exact ⟨by unfold risingK; rw [hrs.out]; rfl, hgr⟩

set_option maxHeartbeats 400000 in
theorem keysOf_ok (v : Value) (xs : List RdT) (w : World) (hv : RowAt 4 w v (xs.map rdC)) (hn : xs.length ≤ 1000000) :
    Calls Tryz.prog 54 #[v] w (KeysOfPost w (xs.map (·.key))) := by
  obtain ⟨i0, hi, hz0, hz1, hz2⟩ := info_parts info_str
  obtain ⟨A, c, rfl, hr⟩ := hv.is
  have HR := hide hr
  clear hr hv
  go_enter Tryz.func54, Tryz.ntmps54
  go_wp2_with fail
  go_loopw [3, 8] (fun o i wr => ∃ k : Nat, i = .int .i64 k ∧ k ≤ xs.length ∧ OwnV 9 wr w.heap.size o (((xs.take k).map (·.key)).map Value.string) ∧ Gr w wr) (fun _ i _ => xs.length - (intOf i).toNat)
  case atStart => exact ⟨0, rfl, by omega, OwnV.none_ _ _, Gr.refl _⟩
  case round =>
    obtain ⟨k, rfl, hk, hown, hgr⟩ := hrel
    by_cases hlt : k < xs.length
    · have hlt' : (k : Int) < (xs.length : Int) := by omega
      obtain ⟨ad, c', e1, a0, a1, b2, a3⟩ := (HR.out.gr hgr).rd hlt
      simp only [Value.slice.injEq, true_and] at e1
      obtain ⟨rfl, rfl⟩ := e1
      have hmap := hide (map_take_more (·.key) hlt)
      have hlen : ((xs.take k).map (·.key)).length = k := by rw [List.length_map, List.length_take]; omega
      obtain ⟨x, hx⟩ : ∃ x, xs[k]'hlt = x := ⟨_, rfl⟩
      simp only [hx] at a0 a1 b2 a3 hmap
      clear hx
      have hown1 := hown.gr ((Gr.refl wr).alloc (.cells #[.string x.key, .int .i64 x.ver, .string x.val, .bool x.there] 47))
      have hgr1 := hgr.alloc (.cells #[.string x.key, .int .i64 x.ver, .string x.val, .bool x.there] 47)
      clear hown hgr
      go_wp2_with (at_builtin; refine wpList_pushV rfl (.tmp 12) (.tmp 15) _ rfl 9 i0 _ 16 Tryz.underlying28 hi hz0 hz1 hz2 rfl rfl rfl hown1 hgr1 (congrArg (fun z => Value.slice (some ⟨z, 0, none⟩) 1 1) (by simp)) (by rw [List.length_map, hlen]; unfold maxLen; omega) (by rw [List.length_map, hlen]; omega) ?_; intro v3 w3 ho3 hg3 hp3; clear hown1 hgr1 hp3 a0 a1 b2 a3)
      go_roundw
      case rel => exact ⟨k + 1, by go_num, by omega, by rw [hmap.out, List.map_append]; exact ho3, hg3⟩
      case measure => simp [intOf]; omega
    · obtain rfl : k = xs.length := by omega
      rw [List.take_length] at hown
      have H := hide hown
      clear hown
      go_wp2_with fail
      go_ret
      exact ⟨_, rfl, H.out, hgr⟩

set_option maxHeartbeats 400000 in
theorem eachRead_ok (v : Value) (xs : List RdT) (w : World) (hv : RowAt 4 w v (xs.map rdC)) (hn : xs.length ≤ 1000000) :
    Calls Tryz.prog 52 #[v, .func (.func 53) #[] #[]] w fun e w' => e = .returned (.bool (xs.all rdB)) ∧ Gr w w' := by
  obtain ⟨A, c, rfl, hr⟩ := hv.is
  have HR := hide hr
  clear hr hv
  obtain ⟨b, hb⟩ : ∃ b, xs.all rdB = b := ⟨_, rfl⟩
  have HB := hide hb
  rw [hb]
  clear hb
  go_enter Tryz.func52, Tryz.ntmps52
  go_wp2_with fail
  go_loopw [9] (fun i wr => ∃ k : Nat, i = .int .i64 k ∧ k ≤ xs.length ∧ Hid (∀ j (hj : j < xs.length), j < k → rdB xs[j] = true) ∧ Gr w wr) (fun i _ => xs.length - (intOf i).toNat)
  case atStart => exact ⟨0, rfl, by omega, fun j hj hk => absurd hk (by omega), Gr.refl _⟩
  case round =>
    obtain ⟨k, rfl, hk, hso, hgr⟩ := hrel
    by_cases hlt : k < xs.length
    · have hlt' : (k : Int) < (xs.length : Int) := by omega
      obtain ⟨ad, c', e1, a0, a1, b2, a3⟩ := (HR.out.gr hgr).rd hlt
      simp only [Value.slice.injEq, true_and] at e1
      obtain ⟨rfl, rfl⟩ := e1
      have hno := hide (all_false (p := rdB) hlt)
      have hyes := hide (all_more hso.out hlt)
      obtain ⟨x, hx⟩ : ∃ x, xs[k]'hlt = x := ⟨_, rfl⟩
      simp only [hx] at a0 a1 b2 a3 hno hyes
      clear hx hso
      have HC := hide (fun w => mgRead_ok x w)
      generalize hq : rdB x = q at HC hno hyes
      clear hq
      go_wp2_with fail
      refine (HC.out _).mono ?_
      rintro e w3 ⟨rfl, hg3⟩
      replace hgr := hgr.trans (((Gr.refl wr).alloc _).trans hg3)
      clear hg3 a0 a1 b2 a3 HC
      cases q
      · have E := hide (HB.out.symm.trans (hno.out rfl))
        clear hno hyes
        go_wp2_with fail
        go_ret
        exact ⟨by rw [E.out]; rfl, hgr⟩
      · replace hyes := hide (hyes.out rfl)
        clear hno
        go_wp2_with fail
        go_roundw
        case rel => exact ⟨k + 1, by go_num, by omega, hyes, hgr⟩
        case measure => simp [intOf]; omega
    · obtain rfl : k = xs.length := by omega
      have E := hide (HB.out.symm.trans (all_done (Nat.le_refl _) hso.out))
      clear hso
      go_wp2_with fail
      go_ret
      exact ⟨by rw [E.out]; rfl, hgr⟩

end Go.Proofs.YtpabppoohobjpaaGreat

/-
  The document's Rising, of texts that lie somewhere.
-/
namespace Go.Proofs.YtpabppoohobjpaaGreat
open Go Go.RowKit TxnMath KeyMath MsgMath
set_option maxRecDepth 100000

set_option maxHeartbeats 400000 in
theorem RefRisingW_ok (A : Option Addr) (n c : Nat) (ss : List ByteArray) (hn : n = ss.length) (w : World) (hss : StrW w A ss) (hm : ∀ s ∈ ss, (s.size : Int) ≤ 281474976710656) (hmax : (ss.length : Int) ≤ 1000000) :
    Calls Tryz.prog 26 #[.slice A n c] w fun e w' => e = .returned (.bool (risingK ss)) ∧ Gr w w' := by
  subst hn
  have hsz := hide (size_at hm)
  have HM := hide hm
  clear hm
  go_enter Tryz.func26, Tryz.ntmps26
  go_wp2_with fail
  go_loopw [3] (fun i wr => ∃ k : Nat, i = .int .i64 k ∧ k ≤ ss.length ∧ Hid (risesTo ss k = true) ∧ Gr w wr) (fun i _ => ss.length - (intOf i).toNat)
  case atStart => exact ⟨0, rfl, by omega, rfl, Gr.refl _⟩
  case round =>
    obtain ⟨k, rfl, hk, hrs, hgr⟩ := hrel
    by_cases hlt : k < ss.length
    · have hlt' : (k : Int) < (ss.length : Int) := by omega
      have hss2 := hss.gr hgr
      obtain ⟨ad, rfl, hcell⟩ := hss2.at_ k hlt
      have hsk := hsz.out k hlt
      have hsu := hide (risesTo_succ ss k)
      have hno := hide (rising_not hlt)
      cases hmk : mayK (ss.getD k nothing)
      · have hrn := hide (hno.out (riseAt_no hmk))
        have hc := fun w => RefMay_ok (ss.getD k nothing) (by omega) w
        rw [hmk] at hc
        obtain ⟨x, hx⟩ : ∃ x, ss.getD k nothing = x := ⟨_, rfl⟩
        rw [hx] at hcell hc
        have HC := hide hc
        clear hx hc hmk hss2 hsk
        go_wp2_with fail
        go_quiet (refine Calls.quiet_of_same (HC.out _))
        go_wp2_with fail
        go_ret
        exact ⟨by rw [hrn.out]; rfl, hgr.drewN _⟩
      · have hc := hide (fun w => by have := RefMay_ok (ss.getD k nothing) (by omega) w; rwa [hmk] at this)
        by_cases hk0 : k = 0
        · subst hk0
          have hr1 := hide (p := risesTo ss 1 = true) (by rw [hsu.out, hrs.out, riseAt_first hmk]; rfl)
          rw [add_zero_] at hcell
          obtain ⟨x, hx⟩ : ∃ x, ss.getD 0 nothing = x := ⟨_, rfl⟩
          rw [hx] at hcell hc
          have hl0 : 0 < ss.length := hlt
          clear hx hmk hss2 hsk hsu hno
          go_wp2_with fail
          go_quiet (refine Calls.quiet_of_same (hc.out _))
          go_wp2_with fail
          go_round
          case rel => exact ⟨1, rfl, by omega, hr1, hgr.drewN _⟩
          case measure => simp [intOf]; omega
        · obtain ⟨j, hj⟩ : ∃ j, j + 1 = k := ⟨k - 1, by omega⟩
          have hra := riseAt_next hj hmk
          obtain ⟨ad', e', hcell0⟩ := hss2.at_ j (by omega)
          injection e' with e'
          subst e'
          have hw0 : (k : Int) - 1 = (j : Int) := by omega
          have hw1 : IntKind.i64.wrap (j : Int) = (j : Int) := by rw [IntKind.wrap_i64]; omega
          have hd0 : decide ((0 : Int) < (k : Int)) = true := by rw [decide_eq_true_eq]; omega
          have hjl : (j : Int) < (ss.length : Int) := by omega
          have hk1 : 0 < k := by omega
          cases hle : leK (ss.getD k nothing) (ss.getD j nothing)
          · have hr1 := hide (p := risesTo ss (k + 1) = true) (by rw [hsu.out, hrs.out, hra, hle]; rfl)
            unfold leK at hle
            obtain ⟨x, hx⟩ : ∃ x, ss.getD k nothing = x := ⟨_, rfl⟩
            obtain ⟨y, hy⟩ : ∃ y, ss.getD j nothing = y := ⟨_, rfl⟩
            rw [hx] at hcell hc hle
            rw [hy] at hcell0 hle
            clear hx hy hmk hss2 hsk hsu hno hra hj
            go_wp2_with fail
            go_quiet (refine Calls.quiet_of_same (hc.out _))
            go_wp2_with fail
            go_round
            case rel => exact ⟨k + 1, by go_num, by omega, hr1, hgr.drewN _⟩
            case measure => simp [intOf]; omega
          · have hrn := hide (hno.out (by rw [hra, hle]; rfl))
            unfold leK at hle
            obtain ⟨x, hx⟩ : ∃ x, ss.getD k nothing = x := ⟨_, rfl⟩
            obtain ⟨y, hy⟩ : ∃ y, ss.getD j nothing = y := ⟨_, rfl⟩
            rw [hx] at hcell hc hle
            rw [hy] at hcell0 hle
            clear hx hy hmk hss2 hsk hsu hno hra hj
            go_wp2_with fail
            go_quiet (refine Calls.quiet_of_same (hc.out _))
            go_wp2_with fail
            go_ret
            exact ⟨by rw [hrn.out]; rfl, hgr.drewN _⟩
    · obtain rfl : k = ss.length := by omega
      go_wp2_with fail
      go_ret
      exact ⟨by unfold risingK; rw [hrs.out]; rfl, hgr⟩


end Go.Proofs.YtpabppoohobjpaaGreat

/-
  bytes.Equal by its contract.
-/
namespace Go.Proofs.YtpabppoohobjpaaGreat
open Go Go.RowKit TxnMath KeyMath MsgMath
set_option maxRecDepth 100000

theorem bs_beq (l r : List UInt8) : ((bs l).toList == (bs r).toList) = decide (l = r) := by
  rw [Grow.str_eq]
  exact decide_eq_decide.2 ⟨bs_inj, fun h => by rw [h]⟩
set_option maxHeartbeats 400000 in
theorem bytesEq_ok (A B : Option Addr) (c d : Nat) (l r : List UInt8) (w : World) (h1 : By w A c l) (h2 : By w B d r) :
    Calls Tryz.prog 41 #[.slice A l.length c, .slice B r.length d] w fun e w' => e = .returned (.bool (decide (l = r))) ∧ Gr w w' := by
  have k1 : (convert 22 9 (.slice A l.length c)).run Tryz.prog w = .ok (.string (bs l)) w := run_conv w _ _ _ Tryz.underlying22 Tryz.underlying5 Tryz.underlying9 _ c rfl h1.rd
  have k2 : (convert 22 9 (.slice B r.length d)).run Tryz.prog w = .ok (.string (bs r)) w := run_conv w _ _ _ Tryz.underlying22 Tryz.underlying5 Tryz.underlying9 _ d rfl h2.rd
  have hE := bs_beq l r
  clear h1 h2
  go_enter Tryz.func41, Tryz.ntmps41
  go_wp2_with fail
  go_ret
  exact ⟨rfl, Gr.refl _⟩

end Go.Proofs.YtpabppoohobjpaaGreat
