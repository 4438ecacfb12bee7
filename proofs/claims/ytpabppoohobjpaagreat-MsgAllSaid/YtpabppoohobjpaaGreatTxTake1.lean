/-
  txn's reader by its contracts: read, write.
-/
import Derived.Test.YtpabppoohobjpaaGreatTxReader
import Derived.Test.YtpabppoohobjpaaGreatTxMay
namespace Go.Proofs.YtpabppoohobjpaaGreat
open Go Go.RowKit TxnMath KeyMath NumPlain TakeMath
set_option maxRecDepth 100000

theorem gr_past {w0 w w' : World} {g : Nat} (hg : Gr w0 w) (hb : But w w' g) (h0 : w0.heap.size ≤ g) : Gr w0 w' := hg.below.grown hb hg.size (fun j hj => by injection hj with hj; omega)
/-- what read comes to -/
def RdPost (g : Nat) (A : Option Addr) (n c : Nat) (w : World) (v : Value) (s : RdS) (e : Ending) (w' : World) : Prop := e = .returned v ∧ RdAt w' g A n c s ∧ But w w' g

def rdV (x : RdT) : Value := .agg #[.string x.key, .int .i64 x.ver, .string x.val, .bool x.there]
def wrV (x : WrT) : Value := .agg #[.string x.key, .string x.val, .bool x.gone]

set_option maxHeartbeats 1000000 in
theorem rdRead_ok (g : Nat) (A : Option Addr) (c : Nat) (l : List UInt8) (s : RdS) (w0 w : World) (h0 : w0.heap.size ≤ g) (hg0 : Gr w0 w) (hby : By w0 A c l) (hr : RdAt w g A l.length c s) (hle : s.at_ ≤ l.length) (hmax : (l.length : Int) ≤ 1000000000) :
    Calls Tryz.prog 146 #[.pointer (some ⟨g, 0, none⟩)] w (RdPost g A l.length c w (rdV (nR l s).1) (nR l s).2) := by
  have C1 := hide (fun w (hg : Gr w0 w) h => rdText_ok g A c l s w h (hby.gr hg) hle hmax)
  have l1 := (simT l).le s hle
  have C2 := hide (fun w (hg : Gr w0 w) h => rdNumber_ok g A c l (nT l s).2 w h (hby.gr hg) l1 hmax)
  have l2 := (simN l).le _ l1
  have C3 := hide (fun w (hg : Gr w0 w) h => rdText_ok g A c l (nN l (nT l s).2).2 w h (hby.gr hg) l2 hmax)
  have l3 := (simT l).le _ l2
  have C4 := hide (fun w (hg : Gr w0 w) h => rdFlag_ok g A c l (nT l (nN l (nT l s).2).2).2 w h (hby.gr hg) l3 hmax)
  rw [show nR l s = (⟨(nT l s).1, (nN l (nT l s).2).1, (nT l (nN l (nT l s).2).2).1, (nF l (nT l (nN l (nT l s).2).2).2).1⟩, (nF l (nT l (nN l (nT l s).2).2).2).2) from rfl]
  unfold rdV
  generalize nF l (nT l (nN l (nT l s).2).2).2 = r4 at C4 ⊢
  generalize nT l (nN l (nT l s).2).2 = r3 at C3 C4 ⊢
  generalize nN l (nT l s).2 = r2 at C2 C3 ⊢
  generalize nT l s = r1 at C1 C2 ⊢
  have HR := hide hr
  have hgl := hr.lt
  obtain ⟨n, hn⟩ : ∃ n, l.length = n := ⟨_, rfl⟩
  rw [hn] at HR C1 C2 C3 C4 ⊢
  clear hr hby hle hmax l1 l2 l3 hn
  go_enter Tryz.func146, Tryz.ntmps146
  go_wp2_with fail
  obtain ⟨W, hW⟩ : ∃ W, w.alloc (.cells #[.string ⟨#[]⟩, .int .i64 0, .string ⟨#[]⟩, .bool false] 47) = W := ⟨_, rfl⟩
  have hg : Gr w W := by rw [← hW]; exact (Gr.refl _).alloc _
  have hbx : Bl W w.heap.size 47 #[.string ⟨#[]⟩, .int .i64 0, .string ⟨#[]⟩, .bool false] := by rw [← hW]; exact Bl.new _ _ _
  rw [hW]
  clear hW
  obtain ⟨b, hb⟩ : ∃ b, w.heap.size = b := ⟨_, rfl⟩
  have HB := hide hb
  rw [hb] at hbx hgl ⊢
  have hbg : b ≠ g := by omega
  clear hb
  have B0 := hide hbx
  have G0 := hide (hg0.trans hg)
  have T0 := hide (hg.but g)
  have R0 := hide (HR.out.gr hg)
  clear hbx hgl hg HR
  refine (C1.out W G0.out R0.out).mono ?_
  rintro e w1 ⟨rfl, k1, t1⟩
  have G1 := hide (gr_past G0.out t1 h0)
  have B1 := hide (B0.out.but_ t1 hbg)
  have T1 := hide (T0.out.trans_ t1)
  have R1 := hide k1
  clear k1 t1 C1
  go_wp2_with fail
  refine (C2.out w1 G1.out R1.out).mono ?_
  rintro e w2 ⟨rfl, k2, t2⟩
  have G2 := hide (gr_past G1.out t2 h0)
  have B2 := hide (B1.out.but_ t2 hbg)
  have T2 := hide (T1.out.trans_ t2)
  have R2 := hide k2
  clear k2 t2 C2
  go_wp2_with fail
  refine (C3.out w2 G2.out R2.out).mono ?_
  rintro e w3 ⟨rfl, k3, t3⟩
  have G3 := hide (gr_past G2.out t3 h0)
  have B3 := hide (B2.out.but_ t3 hbg)
  have T3 := hide (T2.out.trans_ t3)
  have R3 := hide k3
  clear k3 t3 C3
  go_wp2_with fail
  refine (C4.out w3 G3.out R3.out).mono ?_
  rintro e w4 ⟨rfl, k4, t4⟩
  have B4 := hide (B3.out.but_ t4 hbg)
  have T4 := hide (T3.out.trans_ t4)
  have R4 := hide k4
  clear k4 t4 C4
  have c0 := B4.out.cell 0
  have c1 := B4.out.cell 1
  have c2 := B4.out.cell 2
  have c3 := B4.out.cell 3
  have f0 := B4.out.frozen 0
  have f1 := B4.out.frozen 1
  have f2 := B4.out.frozen 2
  have f3 := B4.out.frozen 3
  simp only [List.getElem?_toArray, List.getElem?_cons_zero, List.getElem?_cons_succ] at c0 c1 c2 c3
  go_wp2_with fail
  have hput := (((B4.out.put 0 (.string r1.1)).put 1 (.int .i64 r2.1)).put 2 (.string r3.1)).put 3 (.bool r4.1)
  have hbw : But w4 ((((w4.setCell ⟨b, 0, none⟩ (.string r1.1)).setCell ⟨b, 1, none⟩ (.int .i64 r2.1)).setCell ⟨b, 2, none⟩ (.string r3.1)).setCell ⟨b, 3, none⟩ (.bool r4.1)) b := ((((But.refl w4 b).set 0 _).set 1 _).set 2 _).set 3 _
  refine bodyPost_ret (results_cell_row rfl _ _ b 47 #[.string r1.1, .int .i64 r2.1, .string r3.1, .bool r4.1] (0, 0) _ rfl hput Tryz.underlying47 rfl (by kernel_rfl)) rfl ?_
  exact ⟨rfl, Bl.but_ R4.out hbw (fun e => hbg e.symm), T4.out.fresh hbw (by have := HB.out; omega)⟩

set_option maxHeartbeats 1000000 in
theorem rdWrite_ok (g : Nat) (A : Option Addr) (c : Nat) (l : List UInt8) (s : RdS) (w0 w : World) (h0 : w0.heap.size ≤ g) (hg0 : Gr w0 w) (hby : By w0 A c l) (hr : RdAt w g A l.length c s) (hle : s.at_ ≤ l.length) (hmax : (l.length : Int) ≤ 1000000000) :
    Calls Tryz.prog 148 #[.pointer (some ⟨g, 0, none⟩)] w (RdPost g A l.length c w (wrV (nW l s).1) (nW l s).2) := by
  have C1 := hide (fun w (hg : Gr w0 w) h => rdText_ok g A c l s w h (hby.gr hg) hle hmax)
  have l1 := (simT l).le s hle
  have C3 := hide (fun w (hg : Gr w0 w) h => rdText_ok g A c l (nT l s).2 w h (hby.gr hg) l1 hmax)
  have l3 := (simT l).le _ l1
  have C4 := hide (fun w (hg : Gr w0 w) h => rdFlag_ok g A c l (nT l (nT l s).2).2 w h (hby.gr hg) l3 hmax)
  rw [show nW l s = (⟨(nT l s).1, (nT l (nT l s).2).1, (nF l (nT l (nT l s).2).2).1⟩, (nF l (nT l (nT l s).2).2).2) from rfl]
  unfold wrV
  generalize nF l (nT l (nT l s).2).2 = r4 at C4 ⊢
  generalize nT l (nT l s).2 = r3 at C3 C4 ⊢
  generalize nT l s = r1 at C1 C3 ⊢
  have HR := hide hr
  have hgl := hr.lt
  obtain ⟨n, hn⟩ : ∃ n, l.length = n := ⟨_, rfl⟩
  rw [hn] at HR C1 C3 C4 ⊢
  clear hr hby hle hmax l1 l3 hn
  go_enter Tryz.func148, Tryz.ntmps148
  go_wp2_with fail
  obtain ⟨W, hW⟩ : ∃ W, w.alloc (.cells #[.string ⟨#[]⟩, .string ⟨#[]⟩, .bool false] 78) = W := ⟨_, rfl⟩
  have hg : Gr w W := by rw [← hW]; exact (Gr.refl _).alloc _
  have hbx : Bl W w.heap.size 78 #[.string ⟨#[]⟩, .string ⟨#[]⟩, .bool false] := by rw [← hW]; exact Bl.new _ _ _
  rw [hW]
  clear hW
  obtain ⟨b, hb⟩ : ∃ b, w.heap.size = b := ⟨_, rfl⟩
  have HB := hide hb
  rw [hb] at hbx hgl ⊢
  have hbg : b ≠ g := by omega
  clear hb
  have B0 := hide hbx
  have G0 := hide (hg0.trans hg)
  have T0 := hide (hg.but g)
  have R0 := hide (HR.out.gr hg)
  clear hbx hgl hg HR
  refine (C1.out W G0.out R0.out).mono ?_
  rintro e w1 ⟨rfl, k1, t1⟩
  have G1 := hide (gr_past G0.out t1 h0)
  have B1 := hide (B0.out.but_ t1 hbg)
  have T1 := hide (T0.out.trans_ t1)
  have R1 := hide k1
  clear k1 t1 C1
  go_wp2_with fail
  refine (C3.out w1 G1.out R1.out).mono ?_
  rintro e w3 ⟨rfl, k3, t3⟩
  have G3 := hide (gr_past G1.out t3 h0)
  have B3 := hide (B1.out.but_ t3 hbg)
  have T3 := hide (T1.out.trans_ t3)
  have R3 := hide k3
  clear k3 t3 C3
  go_wp2_with fail
  refine (C4.out w3 G3.out R3.out).mono ?_
  rintro e w4 ⟨rfl, k4, t4⟩
  have B4 := hide (B3.out.but_ t4 hbg)
  have T4 := hide (T3.out.trans_ t4)
  have R4 := hide k4
  clear k4 t4 C4
  have c0 := B4.out.cell 0
  have c1 := B4.out.cell 1
  have c2 := B4.out.cell 2
  have f0 := B4.out.frozen 0
  have f1 := B4.out.frozen 1
  have f2 := B4.out.frozen 2
  simp only [List.getElem?_toArray, List.getElem?_cons_zero, List.getElem?_cons_succ] at c0 c1 c2
  go_wp2_with fail
  have hput := ((B4.out.put 0 (.string r1.1)).put 1 (.string r3.1)).put 2 (.bool r4.1)
  have hbw : But w4 (((w4.setCell ⟨b, 0, none⟩ (.string r1.1)).setCell ⟨b, 1, none⟩ (.string r3.1)).setCell ⟨b, 2, none⟩ (.bool r4.1)) b := (((But.refl w4 b).set 0 _).set 1 _).set 2 _
  refine bodyPost_ret (results_cell_row rfl _ _ b 78 #[.string r1.1, .string r3.1, .bool r4.1] (0, 0) _ rfl hput Tryz.underlying78 rfl (by kernel_rfl)) rfl ?_
  exact ⟨rfl, Bl.but_ R4.out hbw (fun e => hbg e.symm), T4.out.fresh hbw (by have := HB.out; omega)⟩

end Go.Proofs.YtpabppoohobjpaaGreat

/-
  txn's takeList by its contracts.
-/
namespace Go.Proofs.YtpabppoohobjpaaGreat
open Go Go.RowKit TxnMath KeyMath NumPlain TakeMath
set_option maxRecDepth 100000

/-- a row of the call's own has been built on -/
theorem But.put1 {a w w' : World} {g : Nat} {v v' : Value} (h : But a w g) (hp : Put1 w w' v v') (hv : ∀ k, v.ownBlock = some k → a.heap.size ≤ k) : But a w' g :=
  ⟨hp.1.os.trans h.os, hp.1.tape.trans h.tape, hp.1.output.trans h.output, Nat.le_trans h.size hp.1.size, fun j hj hne => by
    rw [hp.1.block j (Nat.lt_of_lt_of_le hj h.size) (fun e => by have := hv j e.symm; omega)]
    exact h.block j hj hne⟩
theorem Bl.put1 {w w' : World} {g : Nat} {t : TypeId} {cs : Array Value} {v v' : Value} (h : Bl w g t cs) (hp : Put1 w w' v v') (hv : some g ≠ v.ownBlock) : Bl w' g t cs := (hp.1.block g h.lt hv).trans h
theorem gr_put1 {w0 w w' : World} {v v' : Value} (h : Gr w0 w) (hp : Put1 w w' v v') (hv : ∀ k, v.ownBlock = some k → w0.heap.size ≤ k) : Gr w0 w' := h.below.grown hp.1 h.size (fun k hk => hv k hk)

/-- so far in the list -/
structure ListAt {α : Type} (C : α → List Value) (e : TypeId) (kc : Nat) (one : RdS → α × RdS) (w0 w wr : World) (g : Nat) (A : Option Addr) (ln c n k : Nat) (s1 : RdS) (rv : Value) (xs : List α) (sk : RdS) : Prop where
  le : k ≤ n
  len : xs.length = k
  own : OwnR e kc wr w.heap.size rv (xs.map C)
  rd : RdAt wr g A ln c sk
  but : But w wr g
  gr : Gr w0 wr
  at_ : sk.at_ ≤ ln
  so : repS one n s1 = (xs ++ (repS one (n - k) sk).1, (repS one (n - k) sk).2)

/-- what takeList comes to -/
def TlPost {α : Type} (C : α → List Value) (e : TypeId) (kc : Nat) (g : Nat) (A : Option Addr) (n c : Nat) (w : World) (xs : List α) (s : RdS) (en : Ending) (w' : World) : Prop := ∃ rv, en = .returned rv ∧ OwnR e kc w' w.heap.size rv (xs.map C) ∧ RdAt w' g A n c s ∧ But w w' g

theorem ListAt.start {α : Type} {C : α → List Value} {e : TypeId} {kc : Nat} {one : RdS → α × RdS} {w0 w w1 : World} {g : Nat} {A : Option Addr} {ln c n : Nat} {s1 : RdS} (hr : RdAt w1 g A ln c s1) (hb : But w w1 g) (hg : Gr w0 w1) (hl : s1.at_ ≤ ln) : ListAt C e kc one w0 w w1 g A ln c n 0 s1 (.slice none 0 0) [] s1 :=
  ⟨Nat.zero_le _, rfl, OwnR.none_ _ _, hr, hb, hg, hl, rfl⟩
theorem ListAt.more {α : Type} {C : α → List Value} {e : TypeId} {kc : Nat} {one : RdS → α × RdS} {w0 w wr w1 w2 : World} {g : Nat} {A : Option Addr} {ln c n k : Nat} {s1 : RdS} {rv rv' : Value} {xs : List α} {sk : RdS} (h : ListAt C e kc one w0 w wr g A ln c n k s1 rv xs sk) (hlt : k < n) (h0 : w0.heap.size ≤ g) (hgw : g < w.heap.size) (h0w : w0.heap.size ≤ w.heap.size)
    (hr : RdAt w1 g A ln c (one sk).2) (hb : But wr w1 g) (hp : Put1 w1 w2 rv rv') (hown : OwnR e kc w2 w.heap.size rv' (xs.map C ++ [C (one sk).1])) (hle : (one sk).2.at_ ≤ ln) : ListAt C e kc one w0 w w2 g A ln c n (k + 1) s1 rv' (xs ++ [(one sk).1]) (one sk).2 := by
  have hv : ∀ j, rv.ownBlock = some j → w.heap.size ≤ j := fun j hj => (h.own.lt j hj).1
  refine ⟨hlt, by rw [List.length_append, List.length_singleton, h.len], by rw [List.map_append]; exact hown, Bl.put1 hr hp (fun e => by have := hv g e.symm; omega), (h.but.trans_ hb).put1 hp hv, gr_put1 (gr_past h.gr hb h0) hp (fun j hj => Nat.le_trans h0w (hv j hj)), hle, ?_⟩
  rw [h.so, show n - k = (n - (k + 1)) + 1 from by omega, repS_next]
  simp

set_option maxHeartbeats 1000000 in
theorem takeListR_ok (g : Nat) (A : Option Addr) (c : Nat) (l : List UInt8) (s : RdS) (w0 w : World) (h0 : w0.heap.size ≤ g) (hg0 : Gr w0 w) (hby : By w0 A c l) (hr : RdAt w g A l.length c s) (hle : s.at_ ≤ l.length) (hmax : (l.length : Int) ≤ 1000000000) :
    Calls Tryz.prog 145 #[.pointer (some ⟨g, 0, none⟩), .int .i64 6, .func (.func 146) #[.pointer (some ⟨g, 0, none⟩)] #[]] w (TlPost rdC 47 4 g A l.length c w (nL l (nR l) 6 s).1 (nL l (nR l) 6 s).2) := by
  obtain ⟨i0, hi, hz0, hz1, hz2⟩ := info_parts info_rd
  have C1 := hide (rdNumber_ok g A c l s w hr (hby.gr hg0) hle hmax)
  have l1 := (simN l).le s hle
  have hnl := nN_lim l s
  have CR := hide (fun s w (hle : s.at_ ≤ l.length) (hg : Gr w0 w) h => rdRead_ok g A c l s w0 w h0 hg hby h hle hmax)
  have HL := hide (fun s => (simR l).le s)
  have hgw := hr.lt
  have h0w := hg0.size
  have E : nL l (nR l) 6 s = (if 6 < (nN l s).1 then fun s => ([], ⟨s.at_, true⟩) else repS (nR l) (nN l s).1.toNat) (nN l s).2 := rfl
  rw [E]
  generalize nN l s = r1 at C1 l1 hnl ⊢
  obtain ⟨z, s1⟩ := r1
  simp only at C1 l1 hnl ⊢
  obtain ⟨ln, hn⟩ : ∃ n, l.length = n := ⟨_, rfl⟩
  rw [hn] at C1 CR HL l1 ⊢
  have HG0 := hide hg0
  clear hr hby hle hmax hn E hg0
  by_cases h6 : 6 < z
  · rw [if_pos h6]
    go_enter Tryz.func145, Tryz.ntmps145
    go_wp2_with fail
    refine C1.out.mono ?_
    rintro e w1 ⟨rfl, k1, t1⟩
    have c2 : w1.cell? ⟨g, 2, none⟩ = some (.bool s1.bad) := Bl.cell k1 2
    have f2 : w1.frozen? ⟨g, 2, none⟩ = false := Bl.frozen k1 2
    have K1 := hide k1
    clear k1 C1
    go_wp2_with fail
    go_ret
    have := Bl.put K1.out 2 (.bool true)
    exact ⟨_, rfl, OwnR.none_ _ _, by simpa [RdAt] using this, t1.set 2 _⟩
  · rw [if_neg h6]
    obtain ⟨m, hm⟩ : ∃ m : Nat, z = (m : Int) := ⟨z.toNat, by omega⟩
    subst hm
    have hm6 : m ≤ 6 := by omega
    rw [show ((m : Int)).toNat = m from rfl]
    clear h6
    go_enter Tryz.func145, Tryz.ntmps145
    go_wp2_with fail
    refine C1.out.mono ?_
    rintro e w1 ⟨rfl, k1, t1⟩
    have L1 := hide (ListAt.start (C := rdC) (e := 47) (kc := 4) (one := nR l) (n := m) k1 t1 (gr_past HG0.out t1 h0) l1)
    clear k1 t1 C1
    go_wp2_with fail
    go_loopw [8, 18] (fun o i wr => ∃ (k : Nat) (xs : List RdT) (sk : RdS), i = .int .i64 k ∧ k ≤ m ∧ Hid (ListAt rdC 47 4 (nR l) w0 w wr g A ln c m k s1 o xs sk)) (fun _ i _ => m - (intOf i).toNat)
    case atStart => exact ⟨0, [], s1, rfl, by omega, L1⟩
    case round =>
      obtain ⟨k, xs, sk, rfl, hk, hL⟩ := hrel
      by_cases hlt : k < m
      · have hlt' : (k : Int) < (m : Int) := by omega
        have HC := hide (CR.out sk wr hL.out.at_ hL.out.gr hL.out.rd)
        have HLE := hide (HL.out sk hL.out.at_)
        have HM := hide (fun w1 w2 rv' h1 h2 h3 h4 => hL.out.more (w1 := w1) (w2 := w2) (rv' := rv') hlt h0 hgw h0w h1 h2 h3 h4 HLE.out)
        obtain ⟨x, hx⟩ : ∃ x, (nR l sk).1 = x := ⟨_, rfl⟩
        rw [hx] at HC HM
        unfold rdV at HC
        go_wp2_with fail
        refine HC.out.mono ?_
        rintro e w2 ⟨rfl, k2, t2⟩
        have K2 := hide k2
        have T2 := hide t2
        have hown := hide (hL.out.own.but t2 hgw)
        have hlen := hL.out.len
        have hsz : w.heap.size ≤ w2.heap.size := Nat.le_trans hL.out.but.size t2.size
        clear k2 t2 HC hx
        go_wp2_with (at_builtin; refine wpList_pushR rfl (.tmp 20) (.tmp 23) _ rfl 47 i0 _ 4 48 Tryz.underlying24 hi hz0 hz1 hz2 rfl (by decide) (cs := #[.string x.key, .int .i64 x.ver, .string x.val, .bool x.there]) rfl (by simp [Value.oneCell']) rfl hown.out hsz (congrArg (fun z => Value.slice (some ⟨z, 0, none⟩) 1 1) rfl) (by rw [List.length_map]; unfold maxLen; omega) (by rw [List.length_map]; omega) ?_; intro v3 w3 ho3 hp3; have HN := hide (HM.out w2 w3 v3 K2.out T2.out hp3 ho3); clear ho3 hp3)
        go_roundw
        case rel => exact ⟨k + 1, _, _, by go_num, by omega, HN⟩
        case measure => simp [intOf]; omega
      · obtain rfl : k = m := by omega
        have hso := hL.out.so
        rw [Nat.sub_self] at hso
        have hso2 : repS (nR l) k s1 = (xs, sk) := by rw [hso]; simp [repS, giveS]
        have HS := hide hso2
        clear hso hso2
        go_wp2_with fail
        go_ret
        rw [HS.out]
        exact ⟨_, rfl, hL.out.own, hL.out.rd, hL.out.but⟩

set_option maxHeartbeats 1000000 in
theorem takeListW_ok (g : Nat) (A : Option Addr) (c : Nat) (l : List UInt8) (s : RdS) (w0 w : World) (h0 : w0.heap.size ≤ g) (hg0 : Gr w0 w) (hby : By w0 A c l) (hr : RdAt w g A l.length c s) (hle : s.at_ ≤ l.length) (hmax : (l.length : Int) ≤ 1000000000) :
    Calls Tryz.prog 147 #[.pointer (some ⟨g, 0, none⟩), .int .i64 4, .func (.func 148) #[.pointer (some ⟨g, 0, none⟩)] #[]] w (TlPost wrC 78 3 g A l.length c w (nL l (nW l) 4 s).1 (nL l (nW l) 4 s).2) := by
  obtain ⟨i0, hi, hz0, hz1, hz2⟩ := info_parts info_wr
  have C1 := hide (rdNumber_ok g A c l s w hr (hby.gr hg0) hle hmax)
  have l1 := (simN l).le s hle
  have hnl := nN_lim l s
  have CR := hide (fun s w (hle : s.at_ ≤ l.length) (hg : Gr w0 w) h => rdWrite_ok g A c l s w0 w h0 hg hby h hle hmax)
  have HL := hide (fun s => (simW l).le s)
  have hgw := hr.lt
  have h0w := hg0.size
  have E : nL l (nW l) 4 s = (if 4 < (nN l s).1 then fun s => ([], ⟨s.at_, true⟩) else repS (nW l) (nN l s).1.toNat) (nN l s).2 := rfl
  rw [E]
  generalize nN l s = r1 at C1 l1 hnl ⊢
  obtain ⟨z, s1⟩ := r1
  simp only at C1 l1 hnl ⊢
  obtain ⟨ln, hn⟩ : ∃ n, l.length = n := ⟨_, rfl⟩
  rw [hn] at C1 CR HL l1 ⊢
  have HG0 := hide hg0
  clear hr hby hle hmax hn E hg0
  by_cases h6 : 4 < z
  · rw [if_pos h6]
    go_enter Tryz.func147, Tryz.ntmps147
    go_wp2_with fail
    refine C1.out.mono ?_
    rintro e w1 ⟨rfl, k1, t1⟩
    have c2 : w1.cell? ⟨g, 2, none⟩ = some (.bool s1.bad) := Bl.cell k1 2
    have f2 : w1.frozen? ⟨g, 2, none⟩ = false := Bl.frozen k1 2
    have K1 := hide k1
    clear k1 C1
    go_wp2_with fail
    go_ret
    have := Bl.put K1.out 2 (.bool true)
    exact ⟨_, rfl, OwnR.none_ _ _, by simpa [RdAt] using this, t1.set 2 _⟩
  · rw [if_neg h6]
    obtain ⟨m, hm⟩ : ∃ m : Nat, z = (m : Int) := ⟨z.toNat, by omega⟩
    subst hm
    have hm6 : m ≤ 4 := by omega
    rw [show ((m : Int)).toNat = m from rfl]
    clear h6
    go_enter Tryz.func147, Tryz.ntmps147
    go_wp2_with fail
    refine C1.out.mono ?_
    rintro e w1 ⟨rfl, k1, t1⟩
    have L1 := hide (ListAt.start (C := wrC) (e := 78) (kc := 3) (one := nW l) (n := m) k1 t1 (gr_past HG0.out t1 h0) l1)
    clear k1 t1 C1
    go_wp2_with fail
    go_loopw [8, 18] (fun o i wr => ∃ (k : Nat) (xs : List WrT) (sk : RdS), i = .int .i64 k ∧ k ≤ m ∧ Hid (ListAt wrC 78 3 (nW l) w0 w wr g A ln c m k s1 o xs sk)) (fun _ i _ => m - (intOf i).toNat)
    case atStart => exact ⟨0, [], s1, rfl, by omega, L1⟩
    case round =>
      obtain ⟨k, xs, sk, rfl, hk, hL⟩ := hrel
      by_cases hlt : k < m
      · have hlt' : (k : Int) < (m : Int) := by omega
        have HC := hide (CR.out sk wr hL.out.at_ hL.out.gr hL.out.rd)
        have HLE := hide (HL.out sk hL.out.at_)
        have HM := hide (fun w1 w2 rv' h1 h2 h3 h4 => hL.out.more (w1 := w1) (w2 := w2) (rv' := rv') hlt h0 hgw h0w h1 h2 h3 h4 HLE.out)
        obtain ⟨x, hx⟩ : ∃ x, (nW l sk).1 = x := ⟨_, rfl⟩
        rw [hx] at HC HM
        unfold wrV at HC
        go_wp2_with fail
        refine HC.out.mono ?_
        rintro e w2 ⟨rfl, k2, t2⟩
        have K2 := hide k2
        have T2 := hide t2
        have hown := hide (hL.out.own.but t2 hgw)
        have hlen := hL.out.len
        have hsz : w.heap.size ≤ w2.heap.size := Nat.le_trans hL.out.but.size t2.size
        clear k2 t2 HC hx
        go_wp2_with (at_builtin; refine wpList_pushR rfl (.tmp 20) (.tmp 23) _ rfl 78 i0 _ 3 40 Tryz.underlying25 hi hz0 hz1 hz2 rfl (by decide) (cs := #[.string x.key, .string x.val, .bool x.gone]) rfl (by simp [Value.oneCell']) rfl hown.out hsz (congrArg (fun z => Value.slice (some ⟨z, 0, none⟩) 1 1) rfl) (by rw [List.length_map]; unfold maxLen; omega) (by rw [List.length_map]; omega) ?_; intro v3 w3 ho3 hp3; have HN := hide (HM.out w2 w3 v3 K2.out T2.out hp3 ho3); clear ho3 hp3)
        go_roundw
        case rel => exact ⟨k + 1, _, _, by go_num, by omega, HN⟩
        case measure => simp [intOf]; omega
      · obtain rfl : k = m := by omega
        have hso := hL.out.so
        rw [Nat.sub_self] at hso
        have hso2 : repS (nW l) k s1 = (xs, sk) := by rw [hso]; simp [repS, giveS]
        have HS := hide hso2
        clear hso hso2
        go_wp2_with fail
        go_ret
        rw [HS.out]
        exact ⟨_, rfl, hL.out.own, hL.out.rd, hL.out.but⟩

end Go.Proofs.YtpabppoohobjpaaGreat

/-
  txn.Take by its contract.
-/
namespace Go.Proofs.YtpabppoohobjpaaGreat
open Go Go.RowKit TxnMath KeyMath NumPlain TakeMath
set_option maxRecDepth 100000

/-- what the reader's txn comes to -/
def TxRun (g : Nat) (A : Option Addr) (n c : Nat) (w : World) (t : TxT) (s : RdS) (e : Ending) (w' : World) : Prop := ∃ rA rc sA sc, e = .returned (.agg #[.int .i64 t.ses, .int .i64 t.seq, .slice rA t.reads.length rc, .slice sA t.writes.length sc]) ∧ OwnR 47 4 w' w.heap.size (.slice rA t.reads.length rc) (t.reads.map rdC) ∧ OwnR 78 3 w' w.heap.size (.slice sA t.writes.length sc) (t.writes.map wrC) ∧ RdAt w' g A n c s ∧ But w w' g

set_option maxHeartbeats 1000000 in
theorem rdTxn_ok (g : Nat) (A : Option Addr) (c : Nat) (l : List UInt8) (s : RdS) (w0 w : World) (h0 : w0.heap.size ≤ g) (hg0 : Gr w0 w) (hby : By w0 A c l) (hr : RdAt w g A l.length c s) (hle : s.at_ ≤ l.length) (hmax : (l.length : Int) ≤ 1000000000) :
    Calls Tryz.prog 143 #[.pointer (some ⟨g, 0, none⟩)] w (TxRun g A l.length c w (nTx l s).1 (nTx l s).2) := by
  have hmf : ∀ (fn : Fn) (first cap : Array Value) (w : World), (Instr.makeFunc fn first cap).run Tryz.prog w = .ok (.func fn first cap) w := fun _ _ _ _ => rfl
  have C1 := hide (fun w (hg : Gr w0 w) h => rdNumber_ok g A c l s w h (hby.gr hg) hle hmax)
  have l1 := (simN l).le s hle
  have C2 := hide (fun w (hg : Gr w0 w) h => rdNumber_ok g A c l (nN l s).2 w h (hby.gr hg) l1 hmax)
  have l2 := (simN l).le _ l1
  have C3 := hide (fun w (hg : Gr w0 w) h => takeListR_ok g A c l (nN l (nN l s).2).2 w0 w h0 hg hby h l2 hmax)
  have l3 := (simL (simR l) 6).le _ l2
  have C4 := hide (fun w (hg : Gr w0 w) h => takeListW_ok g A c l (nL l (nR l) 6 (nN l (nN l s).2).2).2 w0 w h0 hg hby h l3 hmax)
  rw [show nTx l s = (⟨(nN l s).1, (nN l (nN l s).2).1, (nL l (nR l) 6 (nN l (nN l s).2).2).1, (nL l (nW l) 4 (nL l (nR l) 6 (nN l (nN l s).2).2).2).1⟩, (nL l (nW l) 4 (nL l (nR l) 6 (nN l (nN l s).2).2).2).2) from rfl]
  generalize nL l (nW l) 4 (nL l (nR l) 6 (nN l (nN l s).2).2).2 = r4 at C4 ⊢
  generalize nL l (nR l) 6 (nN l (nN l s).2).2 = r3 at C3 C4 ⊢
  generalize nN l (nN l s).2 = r2 at C2 C3 ⊢
  generalize nN l s = r1 at C1 C2 ⊢
  have HR := hide hr
  have hgl := hr.lt
  obtain ⟨n, hn⟩ : ∃ n, l.length = n := ⟨_, rfl⟩
  rw [hn] at HR C1 C2 C3 C4 ⊢
  clear hr hby hle hmax l1 l2 l3 hn
  go_enter Tryz.func143, Tryz.ntmps143
  go_wp2_with fail
  obtain ⟨W, hW⟩ : ∃ W, w.alloc (.cells #[.int .i64 0, .int .i64 0, .slice none 0 0, .slice none 0 0] 27) = W := ⟨_, rfl⟩
  have hg : Gr w W := by rw [← hW]; exact (Gr.refl _).alloc _
  have hbx : Bl W w.heap.size 27 #[.int .i64 0, .int .i64 0, .slice none 0 0, .slice none 0 0] := by rw [← hW]; exact Bl.new _ _ _
  rw [hW]
  clear hW
  obtain ⟨b, hb⟩ : ∃ b, w.heap.size = b := ⟨_, rfl⟩
  have HB := hide hb
  rw [hb] at hbx hgl ⊢
  have hbg : b ≠ g := by omega
  have hbW := hbx.lt
  clear hb
  have B0 := hide hbx
  have G0 := hide (hg0.trans hg)
  have T0 := hide (hg.but g)
  have R0 := hide (HR.out.gr hg)
  clear hbx hg HR
  refine (C1.out W G0.out R0.out).mono ?_
  rintro e w1 ⟨rfl, k1, t1⟩
  have G1 := hide (gr_past G0.out t1 h0)
  have B1 := hide (B0.out.but_ t1 hbg)
  have T1 := hide (T0.out.trans_ t1)
  have R1 := hide k1
  clear k1 t1 C1
  go_wp2_with fail
  refine (C2.out w1 G1.out R1.out).mono ?_
  rintro e w2 ⟨rfl, k2, t2⟩
  have G2 := hide (gr_past G1.out t2 h0)
  have B2 := hide (B1.out.but_ t2 hbg)
  have T2 := hide (T1.out.trans_ t2)
  have R2 := hide k2
  have hs2 := B2.out.lt
  have hg2 : g < w2.heap.size := Bl.lt k2
  clear k2 t2 C2
  go_wp2_with fail
  refine (C3.out w2 G2.out R2.out).mono ?_
  rintro e w3 ⟨rv, rfl, o3, k3, t3⟩
  obtain ⟨rA, rc, rfl, _⟩ := o3.is
  rw [List.length_map] at o3 ⊢
  have G3 := hide (gr_past G2.out t3 h0)
  have B3 := hide (B2.out.but_ t3 hbg)
  have T3 := hide (T2.out.trans_ t3)
  have R3 := hide k3
  have O3 := hide o3
  have hs3 := t3.size
  clear k3 t3 C3 o3
  go_wp2_with fail
  refine (C4.out w3 G3.out R3.out).mono ?_
  rintro e w4 ⟨wv, rfl, o4, k4, t4⟩
  obtain ⟨sA, sc, rfl, _⟩ := o4.is
  rw [List.length_map] at o4 ⊢
  have B4 := hide (B3.out.but_ t4 hbg)
  have T4 := hide (T3.out.trans_ t4)
  have R4 := hide k4
  have O4 := hide o4
  have P3 := hide (O3.out.but t4 hg2)
  clear k4 t4 C4 o4
  have c0 := B4.out.cell 0
  have c1 := B4.out.cell 1
  have c2 := B4.out.cell 2
  have c3 := B4.out.cell 3
  have f0 := B4.out.frozen 0
  have f1 := B4.out.frozen 1
  have f2 := B4.out.frozen 2
  have f3 := B4.out.frozen 3
  simp only [List.getElem?_toArray, List.getElem?_cons_zero, List.getElem?_cons_succ] at c0 c1 c2 c3
  go_wp2_with fail
  have hput := (((B4.out.put 0 (.int .i64 r1.1)).put 1 (.int .i64 r2.1)).put 2 (.slice rA r3.1.length rc)).put 3 (.slice sA r4.1.length sc)
  have hbw : But w4 ((((w4.setCell ⟨b, 0, none⟩ (.int .i64 r1.1)).setCell ⟨b, 1, none⟩ (.int .i64 r2.1)).setCell ⟨b, 2, none⟩ (.slice rA r3.1.length rc)).setCell ⟨b, 3, none⟩ (.slice sA r4.1.length sc)) b := ((((But.refl w4 b).set 0 _).set 1 _).set 2 _).set 3 _
  refine bodyPost_ret (results_cell_row rfl _ _ b 27 #[.int .i64 r1.1, .int .i64 r2.1, .slice rA r3.1.length rc, .slice sA r4.1.length sc] (0, 0) _ rfl hput Tryz.underlying27 rfl (by kernel_rfl)) rfl ?_
  have hbs := HB.out
  exact ⟨rA, rc, sA, sc, rfl, (P3.out.but hbw hs2).base (by omega), (O4.out.but hbw (by omega)).base (by omega), Bl.but_ R4.out hbw (fun e => hbg e.symm), T4.out.fresh hbw (by have := HB.out; omega)⟩

theorem run_lim (l : List UInt8) (s : RdS) : TxLim 1000000 (nTx l s).1 := by
  have h1 := nN_lim l s
  have h2 := nN_lim l (nN l s).2
  have h3 := nL_lim (l := l) (one := nR l) (ok := RdFine) (nR_lim l) (most := 6) (by omega) (nN l (nN l s).2).2
  have h4 := nL_lim (l := l) (one := nW l) (ok := WrFine) (nW_lim l) (most := 4) (by omega) (nL l (nR l) 6 (nN l (nN l s).2).2).2
  have h5 := h3.2
  have h6 := h4.2
  exact ⟨⟨by show _ ≤ (nN l s).1; omega, h1.2⟩, ⟨by show _ ≤ (nN l (nN l s).2).1; omega, h2.2⟩,
    by show (nL l (nR l) 6 (nN l (nN l s).2).2).1.length ≤ _; omega, by show (nL l (nW l) 4 (nL l (nR l) 6 (nN l (nN l s).2).2).2).1.length ≤ _; omega,
    fun x hx => by have := h3.1 x hx; exact ⟨by have := this.key; omega, by have := this.val; omega, by have := this.lo; omega, this.hi⟩,
    fun x hx => by have := h4.1 x hx; exact ⟨by have := this.key; omega, by have := this.val; omega⟩⟩

/-- what was taken, in rows of the call's own -/
def TakenOwn (w : World) (l : List UInt8) (e : Ending) (w' : World) : Prop :=
  ∃ rv wv, e = .returned (.tuple #[.agg #[.int .i64 (takenT l).ses, .int .i64 (takenT l).seq, rv, wv], .int .i64 (takenK l : Int), .bool (takenB l)]) ∧ OwnR 47 4 w' w.heap.size rv ((takenT l).reads.map rdC) ∧ OwnR 78 3 w' w.heap.size wv ((takenT l).writes.map wrC) ∧ Gr w w'

/-- nothing was taken -/
theorem give_none {w w8 : World} {l : List UInt8} {gR : Nat} (hno : takenT l = ⟨0, 0, [], []⟩ ∧ takenK l = 0 ∧ takenB l = false) (hg : Gr w w8) (hR : w.heap.size ≤ gR) (hb : Bl w8 gR 27 #[.int .i64 0, .int .i64 0, .slice none 0 0, .slice none 0 0]) :
    Bl ((((w8.setCell ⟨gR, 0, none⟩ (.int .i64 0)).setCell ⟨gR, 1, none⟩ (.int .i64 0)).setCell ⟨gR, 2, none⟩ (.slice none 0 0)).setCell ⟨gR, 3, none⟩ (.slice none 0 0)) gR 27 #[.int .i64 0, .int .i64 0, .slice none 0 0, .slice none 0 0] ∧
      TakenOwn w l (.returned (.tuple #[.agg #[.int .i64 0, .int .i64 0, .slice none 0 0, .slice none 0 0], .int .i64 0, .bool false])) ((((w8.setCell ⟨gR, 0, none⟩ (.int .i64 0)).setCell ⟨gR, 1, none⟩ (.int .i64 0)).setCell ⟨gR, 2, none⟩ (.slice none 0 0)).setCell ⟨gR, 3, none⟩ (.slice none 0 0)) := by
  refine ⟨(((hb.put 0 _).put 1 _).put 2 _).put 3 _, .slice none 0 0, .slice none 0 0, ?_, ?_, ?_, ?_⟩
  · rw [hno.1, hno.2.1, hno.2.2]; rfl
  · rw [hno.1]; exact OwnR.none_ _ _
  · rw [hno.1]; exact OwnR.none_ _ _
  · exact gr_past hg (((((But.refl w8 gR).set 0 _).set 1 _).set 2 _).set 3 _) hR
/-- what was taken is handed out -/
theorem give_one {w wr : World} {gR B : Nat} {t : TxT} {rv wv : Value} (hb : Bl wr gR 27 #[.int .i64 0, .int .i64 0, .slice none 0 0, .slice none 0 0]) (hg : Gr w wr) (hR : w.heap.size ≤ gR) (hB : gR < B) (h1 : OwnR 47 4 wr B rv (t.reads.map rdC)) (h2 : OwnR 78 3 wr B wv (t.writes.map wrC)) :
    Bl ((((wr.setCell ⟨gR, 0, none⟩ (.int .i64 t.ses)).setCell ⟨gR, 1, none⟩ (.int .i64 t.seq)).setCell ⟨gR, 2, none⟩ rv).setCell ⟨gR, 3, none⟩ wv) gR 27 #[.int .i64 t.ses, .int .i64 t.seq, rv, wv] ∧
      OwnR 47 4 ((((wr.setCell ⟨gR, 0, none⟩ (.int .i64 t.ses)).setCell ⟨gR, 1, none⟩ (.int .i64 t.seq)).setCell ⟨gR, 2, none⟩ rv).setCell ⟨gR, 3, none⟩ wv) B rv (t.reads.map rdC) ∧ OwnR 78 3 ((((wr.setCell ⟨gR, 0, none⟩ (.int .i64 t.ses)).setCell ⟨gR, 1, none⟩ (.int .i64 t.seq)).setCell ⟨gR, 2, none⟩ rv).setCell ⟨gR, 3, none⟩ wv) B wv (t.writes.map wrC) ∧
      Gr w ((((wr.setCell ⟨gR, 0, none⟩ (.int .i64 t.ses)).setCell ⟨gR, 1, none⟩ (.int .i64 t.seq)).setCell ⟨gR, 2, none⟩ rv).setCell ⟨gR, 3, none⟩ wv) := by
  have hbu : But wr ((((wr.setCell ⟨gR, 0, none⟩ (.int .i64 t.ses)).setCell ⟨gR, 1, none⟩ (.int .i64 t.seq)).setCell ⟨gR, 2, none⟩ rv).setCell ⟨gR, 3, none⟩ wv) gR := ((((But.refl wr gR).set 0 _).set 1 _).set 2 _).set 3 _
  exact ⟨(((hb.put 0 _).put 1 _).put 2 _).put 3 _, h1.but hbu hB, h2.but hbu hB, gr_past hg hbu hR⟩

set_option maxHeartbeats 1000000 in
theorem TxTakeOwn_ok (A : Option Addr) (n c : Nat) (l : List UInt8) (hn : n = l.length) (w : World) (hby : By w A c l) (hmax : (l.length : Int) ≤ 1000000000) :
    Calls Tryz.prog 138 #[.slice A n c] w (TakenOwn w l) := by
  subst hn
  have HNO := hide (run_no (l := l))
  have HYES := hide (run_yes (l := l))
  have HLM := hide (run_lim l ⟨0, false⟩)
  have HC := hide (fun g w' h0 hg h => rdTxn_ok g A c l ⟨0, false⟩ w w' h0 hg hby h (Nat.zero_le _) hmax)
  generalize nTx l ⟨0, false⟩ = r at HNO HYES HLM HC
  obtain ⟨t, s⟩ := r
  obtain ⟨p, bad⟩ := s
  simp only at HNO HYES HLM HC
  clear hby hmax
  obtain ⟨m, hm⟩ : ∃ m, l.length = m := ⟨_, rfl⟩
  rw [hm] at HC ⊢
  clear hm
  go_enter Tryz.func138, Tryz.ntmps138
  go_wp2_with fail
  obtain ⟨W, hW⟩ : ∃ W, (w.alloc (.cells #[.int .i64 0, .int .i64 0, .slice none 0 0, .slice none 0 0] 27)).alloc (.cells #[.slice A m c, .int .i64 0, .bool false] 176) = W := ⟨_, rfl⟩
  have hg : Gr w W := by rw [← hW]; exact ((Gr.refl _).alloc _).alloc _
  have hbR : Bl W w.heap.size 27 #[.int .i64 0, .int .i64 0, .slice none 0 0, .slice none 0 0] := by rw [← hW]; exact (Bl.new _ _ _).gr ((Gr.refl _).alloc _)
  have hbg : RdAt W (w.heap.size + 1) A m c ⟨0, false⟩ := by
    have := Bl.new (w.alloc (.cells #[.int .i64 0, .int .i64 0, .slice none 0 0, .slice none 0 0] 27)) 176 #[.slice A m c, .int .i64 0, .bool false]
    rw [← hW]
    simpa [RdAt] using this
  rw [hW]
  clear hW
  obtain ⟨gR, hgR⟩ : ∃ gR, w.heap.size = gR := ⟨_, rfl⟩
  have HGR := hide hgR
  obtain ⟨g, hgg⟩ : ∃ g, gR + 1 = g := ⟨_, rfl⟩
  have HGG := hide hgg
  rw [hgR, hgg] at hbg
  rw [hgR] at hbR
  rw [hgR, hgg]
  have hne : gR ≠ g := by omega
  have HC1 := hide (HC.out g W (by omega) hg hbg)
  have BR := hide hbR
  clear hgR hgg hbR hbg HC
  have HNE := hide hne
  clear hne
  refine HC1.out.mono ?_
  rintro e w1 ⟨rA, rc, sA, sc, rfl, hor, how, hrd, hbut⟩
  have hgRW := BR.out.lt
  have hgr : Gr w w1 := gr_past hg hbut (by have := HGR.out; have := HGG.out; omega)
  have R1 := hide (BR.out.but_ hbut HNE.out)
  have HOR := hide hor
  have HOW := hide how
  have HTX := hide (show TxAt w1 (.agg #[.int .i64 t.ses, .int .i64 t.seq, .slice rA t.reads.length rc, .slice sA t.writes.length sc]) t from ⟨_, _, rfl, hor.rowAt, how.rowAt⟩)
  have HRD := hide hrd
  have hg0 : ∀ o, Gr w1 (w1.alloc o) := fun o => (Gr.refl _).alloc o
  have c2 : ∀ o, (w1.alloc o).cell? ⟨g, 2, none⟩ = some (.bool bad) := fun o => (Bl.gr hrd (hg0 o)).cell 2
  have HG0 := hide hg0
  clear hbut hg BR HC1 hor how hrd hg0
  cases bad
  rotate_left
  · have d0 : ∀ o, (w1.alloc o).cell? ⟨gR, 0, none⟩ = some (.int .i64 0) := fun o => (R1.out.gr (HG0.out o)).cell 0
    have d1 : ∀ o, (w1.alloc o).cell? ⟨gR, 1, none⟩ = some (.int .i64 0) := fun o => (R1.out.gr (HG0.out o)).cell 1
    have d2 : ∀ o, (w1.alloc o).cell? ⟨gR, 2, none⟩ = some (.slice none 0 0) := fun o => (R1.out.gr (HG0.out o)).cell 2
    have d3 : ∀ o, (w1.alloc o).cell? ⟨gR, 3, none⟩ = some (.slice none 0 0) := fun o => (R1.out.gr (HG0.out o)).cell 3
    have f0 : ∀ o, (w1.alloc o).frozen? ⟨gR, 0, none⟩ = false := fun o => (R1.out.gr (HG0.out o)).frozen 0
    have f1 : ∀ o, (w1.alloc o).frozen? ⟨gR, 1, none⟩ = false := fun o => (R1.out.gr (HG0.out o)).frozen 1
    have f2 : ∀ o, (w1.alloc o).frozen? ⟨gR, 2, none⟩ = false := fun o => (R1.out.gr (HG0.out o)).frozen 2
    have f3 : ∀ o, (w1.alloc o).frozen? ⟨gR, 3, none⟩ = false := fun o => (R1.out.gr (HG0.out o)).frozen 3
    have HN := hide (HNO.out (.inl rfl))
    clear HNO HYES
    go_wp2_with fail
    obtain ⟨hbn, hpost⟩ := give_none HN.out (hgr.trans (HG0.out (.cells #[.int .i64 t.ses, .int .i64 t.seq, .slice rA t.reads.length rc, .slice sA t.writes.length sc] 27))) (by have := HGR.out; omega) (R1.out.gr (HG0.out _))
    refine bodyPost_ret (results_cell3 rfl _ _ gR 27 #[.int .i64 0, .int .i64 0, .slice none 0 0, .slice none 0 0] (0, 0) _ rfl hbn Tryz.underlying27 rfl (by kernel_rfl)) rfl ?_
    exact hpost
  have CM := hide (fun o => TxMay_ok _ t (w1.alloc o) (HTX.out.gr (HG0.out o)) HLM.out)
  cases hmay : mayT t
  · have HN := hide (HNO.out (.inr hmay))
    rw [hmay] at CM
    clear HNO HYES hmay
    go_wp2_with fail
    refine (CM.out _).mono ?_
    rintro e w2 ⟨rfl, hg2⟩
    have hg12 := (HG0.out _).trans hg2
    have R2 := hide (R1.out.gr hg12)
    have d0 : w2.cell? ⟨gR, 0, none⟩ = some (.int .i64 0) := R2.out.cell 0
    have d1 : w2.cell? ⟨gR, 1, none⟩ = some (.int .i64 0) := R2.out.cell 1
    have d2 : w2.cell? ⟨gR, 2, none⟩ = some (.slice none 0 0) := R2.out.cell 2
    have d3 : w2.cell? ⟨gR, 3, none⟩ = some (.slice none 0 0) := R2.out.cell 3
    have f0 := R2.out.frozen 0
    have f1 := R2.out.frozen 1
    have f2 := R2.out.frozen 2
    have f3 := R2.out.frozen 3
    clear CM c2 hg2
    go_wp2_with fail
    obtain ⟨hbn, hpost⟩ := give_none HN.out (hgr.trans hg12) (by have := HGR.out; omega) R2.out
    refine bodyPost_ret (results_cell3 rfl _ _ gR 27 #[.int .i64 0, .int .i64 0, .slice none 0 0, .slice none 0 0] (0, 0) _ rfl hbn Tryz.underlying27 rfl (by kernel_rfl)) rfl ?_
    exact hpost
  · have HY := hide (HYES.out rfl hmay)
    rw [hmay] at CM
    clear HNO HYES hmay
    go_wp2_with fail
    refine (CM.out _).mono ?_
    rintro e w2 ⟨rfl, hg2⟩
    have hg12 := (HG0.out _).trans hg2
    have R2 := hide (R1.out.gr hg12)
    have B6 := hide ((Bl.new w1 27 #[.int .i64 t.ses, .int .i64 t.seq, .slice rA t.reads.length rc, .slice sA t.writes.length sc]).gr hg2)
    have D2 := hide (Bl.gr HRD.out hg12)
    have OR := hide (HOR.out.gr hg12)
    have OW := hide (HOW.out.gr hg12)
    have hgw2 := hgr.trans hg12
    obtain ⟨b6, hb6⟩ : ∃ b, w1.heap.size = b := ⟨_, rfl⟩
    rw [hb6] at B6 ⊢
    have hnR : b6 ≠ gR := by have := R1.out.lt; omega
    have e0 : w2.cell? ⟨b6, 0, none⟩ = some (.int .i64 t.ses) := B6.out.cell 0
    have e1 : w2.cell? ⟨b6, 1, none⟩ = some (.int .i64 t.seq) := B6.out.cell 1
    have e2 : w2.cell? ⟨b6, 2, none⟩ = some (.slice rA t.reads.length rc) := B6.out.cell 2
    have e3 : w2.cell? ⟨b6, 3, none⟩ = some (.slice sA t.writes.length sc) := B6.out.cell 3
    have g1 : w2.cell? ⟨g, 1, none⟩ = some (.int .i64 (p : Int)) := Bl.cell D2.out 1
    have d0 : w2.cell? ⟨gR, 0, none⟩ = some (.int .i64 0) := R2.out.cell 0
    have d1 : w2.cell? ⟨gR, 1, none⟩ = some (.int .i64 0) := R2.out.cell 1
    have d2 : w2.cell? ⟨gR, 2, none⟩ = some (.slice none 0 0) := R2.out.cell 2
    have d3 : w2.cell? ⟨gR, 3, none⟩ = some (.slice none 0 0) := R2.out.cell 3
    have f0 := R2.out.frozen 0
    have f1 := R2.out.frozen 1
    have f2 := R2.out.frozen 2
    have f3 := R2.out.frozen 3
    have q1 : ¬ gR = g := HNE.out
    have q2 : ¬ g = gR := fun e => HNE.out e.symm
    have gx : ∀ a b c d, ((((w2.setCell ⟨gR, 0, none⟩ a).setCell ⟨gR, 1, none⟩ b).setCell ⟨gR, 2, none⟩ c).setCell ⟨gR, 3, none⟩ d).cell? ⟨g, 1, none⟩ = some (.int .i64 (p : Int)) := fun a b c d => (Bl.but_ D2.out (((((But.refl w2 gR).set 0 a).set 1 b).set 2 c).set 3 d) q2).cell 1
    have gy : ∀ a b, ((w2.setCell ⟨gR, 0, none⟩ a).setCell ⟨gR, 1, none⟩ b).cell? ⟨g, 1, none⟩ = some (.int .i64 (p : Int)) := fun a b => (Bl.but_ D2.out (((But.refl w2 gR).set 0 a).set 1 b) q2).cell 1
    clear CM c2 hg2 hb6
    go_wp2_with fail
    go_region
    clear gx gy g1 e0 e1 e2 e3 d0 d1 d2 d3 f0 f1 f2 f3 q1 q2
    go_wp2_with fail
    obtain ⟨hbn, ho1, ho2, hgf⟩ := give_one (t := t) R2.out hgw2 (by have := HGR.out; omega) hgRW OR.out OW.out
    refine bodyPost_ret (results_cell3 rfl _ _ gR 27 #[.int .i64 t.ses, .int .i64 t.seq, .slice rA t.reads.length rc, .slice sA t.writes.length sc] (0, 0) _ rfl hbn Tryz.underlying27 rfl (by kernel_rfl)) rfl ?_
    obtain ⟨y1, y2, y3⟩ := HY.out
    have hgq := HGR.out
    exact ⟨.slice rA t.reads.length rc, .slice sA t.writes.length sc, by rw [y1, y2, y3]; rfl, by rw [y1]; exact (ho1.gr ((Gr.refl _).drew)).base (by omega), by rw [y1]; exact (ho2.gr ((Gr.refl _).drew)).base (by omega), hgf.trans ((Gr.refl _).drew)⟩

theorem TxTake_ok (A : Option Addr) (n c : Nat) (l : List UInt8) (hn : n = l.length) (w : World) (hby : By w A c l) (hmax : (l.length : Int) ≤ 1000000000) :
    Calls Tryz.prog 138 #[.slice A n c] w (TakenPost w l) :=
  (TxTakeOwn_ok A n c l hn w hby hmax).mono fun _ _ ⟨_, _, h1, h2, h3, h4⟩ => ⟨_, h1, ⟨_, _, rfl, h2.rowAt, h3.rowAt⟩, h4⟩

end Go.Proofs.YtpabppoohobjpaaGreat
