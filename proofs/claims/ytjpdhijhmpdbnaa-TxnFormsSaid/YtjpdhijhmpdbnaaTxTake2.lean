/-
  txn's takeList by its contracts.
-/
import Derived.Test.YtjpdhijhmpdbnaaTxTake1
namespace Go.Proofs.Ytjpdhijhmpdbnaa
open Go Go.RowKit TxnMath KeyMath NumPlain TakeMath
set_option maxRecDepth 100000

/-- a row of the call's own has been built on -/
theorem But.put1 {a w w' : World} {g : Nat} {v v' : Value} (h : But a w g) (hp : Put1 w w' v v') (hv : ∀ k, v.ownBlock = some k → a.heap.size ≤ k) : But a w' g :=
  ⟨hp.1.os.trans h.os, hp.1.tape.trans h.tape, hp.1.output.trans h.output, Nat.le_trans h.size hp.1.size, fun j hj hne => by
    rw [hp.1.block j (Nat.lt_of_lt_of_le hj h.size) (fun e => by have := hv j e.symm; omega)]
    exact h.block j hj hne⟩
theorem Bl.put1 {w w' : World} {g : Nat} {t : TypeId} {cs : Array Value} {v v' : Value} (h : Bl w g t cs) (hp : Put1 w w' v v') (hv : some g ≠ v.ownBlock) : Bl w' g t cs := (hp.1.block g h.lt hv).trans h
theorem gr_put1 {w0 w w' : World} {v v' : Value} (h : Gr w0 w) (hp : Put1 w w' v v') (hv : ∀ k, v.ownBlock = some k → w0.heap.size ≤ k) : Gr w0 w' := h.below.grown hp.1 h.size (fun k hk => hv k hk)

/-- so far in the list -/
structure ListAt {α : Type} (C : α → List Value) (e : TypeId) (kc : Nat) (one : RdS → α × RdS) (w0 w wr : World) (g : Nat) (A : Option Addr) (ln c n k : Nat) (s1 : RdS) (rv : Value) (xs : List α) (sk : RdS) : Prop where
  le : k ≤ n
  len : xs.length = k
  own : OwnR e kc wr w.heap.size rv (xs.map C)
  rd : RdAt wr g A ln c sk
  but : But w wr g
  gr : Gr w0 wr
  at_ : sk.at_ ≤ ln
  so : repS one n s1 = (xs ++ (repS one (n - k) sk).1, (repS one (n - k) sk).2)

/-- what takeList comes to -/
def TlPost {α : Type} (C : α → List Value) (e : TypeId) (kc : Nat) (g : Nat) (A : Option Addr) (n c : Nat) (w : World) (xs : List α) (s : RdS) (en : Ending) (w' : World) : Prop := ∃ rv, en = .returned rv ∧ OwnR e kc w' w.heap.size rv (xs.map C) ∧ RdAt w' g A n c s ∧ But w w' g

theorem ListAt.start {α : Type} {C : α → List Value} {e : TypeId} {kc : Nat} {one : RdS → α × RdS} {w0 w w1 : World} {g : Nat} {A : Option Addr} {ln c n : Nat} {s1 : RdS} (hr : RdAt w1 g A ln c s1) (hb : But w w1 g) (hg : Gr w0 w1) (hl : s1.at_ ≤ ln) : ListAt C e kc one w0 w w1 g A ln c n 0 s1 (.slice none 0 0) [] s1 :=
  ⟨Nat.zero_le _, rfl, OwnR.none_ _ _, hr, hb, hg, hl, rfl⟩
theorem ListAt.more {α : Type} {C : α → List Value} {e : TypeId} {kc : Nat} {one : RdS → α × RdS} {w0 w wr w1 w2 : World} {g : Nat} {A : Option Addr} {ln c n k : Nat} {s1 : RdS} {rv rv' : Value} {xs : List α} {sk : RdS} (h : ListAt C e kc one w0 w wr g A ln c n k s1 rv xs sk) (hlt : k < n) (h0 : w0.heap.size ≤ g) (hgw : g < w.heap.size) (h0w : w0.heap.size ≤ w.heap.size)
    (hr : RdAt w1 g A ln c (one sk).2) (hb : But wr w1 g) (hp : Put1 w1 w2 rv rv') (hown : OwnR e kc w2 w.heap.size rv' (xs.map C ++ [C (one sk).1])) (hle : (one sk).2.at_ ≤ ln) : ListAt C e kc one w0 w w2 g A ln c n (k + 1) s1 rv' (xs ++ [(one sk).1]) (one sk).2 := by
  have hv : ∀ j, rv.ownBlock = some j → w.heap.size ≤ j := fun j hj => (h.own.lt j hj).1
  refine ⟨hlt, by rw [List.length_append, List.length_singleton, h.len], by rw [List.map_append]; exact hown, Bl.put1 hr hp (fun e => by have := hv g e.symm; omega), (h.but.trans_ hb).put1 hp hv, gr_put1 (gr_past h.gr hb h0) hp (fun j hj => Nat.le_trans h0w (hv j hj)), hle, ?_⟩
  rw [h.so, show n - k = (n - (k + 1)) + 1 from by omega, repS_next]
  simp

set_option maxHeartbeats 1000000 in
theorem takeListR_ok (g : Nat) (A : Option Addr) (c : Nat) (l : List UInt8) (s : RdS) (w0 w : World) (h0 : w0.heap.size ≤ g) (hg0 : Gr w0 w) (hby : By w0 A c l) (hr : RdAt w g A l.length c s) (hle : s.at_ ≤ l.length) (hmax : (l.length : Int) ≤ 1000000000) :
    Calls Try.prog 48 #[.pointer (some ⟨g, 0, none⟩), .int .i64 6, .func (.func 49) #[.pointer (some ⟨g, 0, none⟩)] #[]] w (TlPost rdC 39 4 g A l.length c w (nL l (nR l) 6 s).1 (nL l (nR l) 6 s).2) := by
  obtain ⟨i0, hi, hz0, hz1, hz2⟩ := info_parts info_rd
  have C1 := hide (rdNumber_ok g A c l s w hr (hby.gr hg0) hle hmax)
  have l1 := (simN l).le s hle
  have hnl := nN_lim l s
  have CR := hide (fun s w (hle : s.at_ ≤ l.length) (hg : Gr w0 w) h => rdRead_ok g A c l s w0 w h0 hg hby h hle hmax)
  have HL := hide (fun s => (simR l).le s)
  have hgw := hr.lt
  have h0w := hg0.size
  have E : nL l (nR l) 6 s = (if 6 < (nN l s).1 then fun s => ([], ⟨s.at_, true⟩) else repS (nR l) (nN l s).1.toNat) (nN l s).2 := rfl
  rw [E]
  generalize nN l s = r1 at C1 l1 hnl ⊢
  obtain ⟨z, s1⟩ := r1
  simp only at C1 l1 hnl ⊢
  obtain ⟨ln, hn⟩ : ∃ n, l.length = n := ⟨_, rfl⟩
  rw [hn] at C1 CR HL l1 ⊢
  have HG0 := hide hg0
  clear hr hby hle hmax hn E hg0
  by_cases h6 : 6 < z
  · rw [if_pos h6]
    go_enter Try.func48, Try.ntmps48
    go_wp2_with fail
    refine C1.out.mono ?_
    rintro e w1 ⟨rfl, k1, t1⟩
    have c2 : w1.cell? ⟨g, 2, none⟩ = some (.bool s1.bad) := Bl.cell k1 2
    have f2 : w1.frozen? ⟨g, 2, none⟩ = false := Bl.frozen k1 2
    have K1 := hide k1
    clear k1 C1
    go_wp2_with fail
    go_ret
    have := Bl.put K1.out 2 (.bool true)
    exact ⟨_, rfl, OwnR.none_ _ _, by simpa [RdAt] using this, t1.set 2 _⟩
  · rw [if_neg h6]
    obtain ⟨m, hm⟩ : ∃ m : Nat, z = (m : Int) := ⟨z.toNat, by omega⟩
    subst hm
    have hm6 : m ≤ 6 := by omega
    rw [show ((m : Int)).toNat = m from rfl]
    clear h6
    go_enter Try.func48, Try.ntmps48
    go_wp2_with fail
    refine C1.out.mono ?_
    rintro e w1 ⟨rfl, k1, t1⟩
    have L1 := hide (ListAt.start (C := rdC) (e := 39) (kc := 4) (one := nR l) (n := m) k1 t1 (gr_past HG0.out t1 h0) l1)
    clear k1 t1 C1
    go_wp2_with fail
    go_loopw [8, 18] (fun o i wr => ∃ (k : Nat) (xs : List RdT) (sk : RdS), i = .int .i64 k ∧ k ≤ m ∧ Hid (ListAt rdC 39 4 (nR l) w0 w wr g A ln c m k s1 o xs sk)) (fun _ i _ => m - (intOf i).toNat)
    case atStart => exact ⟨0, [], s1, rfl, by omega, L1⟩
    case round =>
      obtain ⟨k, xs, sk, rfl, hk, hL⟩ := hrel
      by_cases hlt : k < m
      · have hlt' : (k : Int) < (m : Int) := by omega
        have HC := hide (CR.out sk wr hL.out.at_ hL.out.gr hL.out.rd)
        have HLE := hide (HL.out sk hL.out.at_)
        have HM := hide (fun w1 w2 rv' h1 h2 h3 h4 => hL.out.more (w1 := w1) (w2 := w2) (rv' := rv') hlt h0 hgw h0w h1 h2 h3 h4 HLE.out)
        obtain ⟨x, hx⟩ : ∃ x, (nR l sk).1 = x := ⟨_, rfl⟩
        rw [hx] at HC HM
        unfold rdV at HC
        go_wp2_with fail
        refine HC.out.mono ?_
        rintro e w2 ⟨rfl, k2, t2⟩
        have K2 := hide k2
        have T2 := hide t2
        have hown := hide (hL.out.own.but t2 hgw)
        have hlen := hL.out.len
        have hsz : w.heap.size ≤ w2.heap.size := Nat.le_trans hL.out.but.size t2.size
        clear k2 t2 HC hx
        go_wp2_with (at_builtin; refine wpList_pushR rfl (.tmp 20) (.tmp 23) _ rfl 39 i0 _ 4 48 Try.underlying25 hi hz0 hz1 hz2 rfl (by decide) (cs := #[.string x.key, .int .i64 x.ver, .string x.val, .bool x.there]) rfl (by simp [Value.oneCell']) rfl hown.out hsz (congrArg (fun z => Value.slice (some ⟨z, 0, none⟩) 1 1) rfl) (by rw [List.length_map]; unfold maxLen; omega) (by rw [List.length_map]; omega) ?_; intro v3 w3 ho3 hp3; have HN := hide (HM.out w2 w3 v3 K2.out T2.out hp3 ho3); clear ho3 hp3)
        go_roundw
        case rel => exact ⟨k + 1, _, _, by go_num, by omega, HN⟩
        case measure => simp [intOf]; omega
      · obtain rfl : k = m := by omega
        have hso := hL.out.so
        rw [Nat.sub_self] at hso
        have hso2 : repS (nR l) k s1 = (xs, sk) := by rw [hso]; simp [repS, giveS]
        have HS := hide hso2
        clear hso hso2
        go_wp2_with fail
        go_ret
        rw [HS.out]
        exact ⟨_, rfl, hL.out.own, hL.out.rd, hL.out.but⟩

set_option maxHeartbeats 1000000 in
theorem takeListW_ok (g : Nat) (A : Option Addr) (c : Nat) (l : List UInt8) (s : RdS) (w0 w : World) (h0 : w0.heap.size ≤ g) (hg0 : Gr w0 w) (hby : By w0 A c l) (hr : RdAt w g A l.length c s) (hle : s.at_ ≤ l.length) (hmax : (l.length : Int) ≤ 1000000000) :
    Calls Try.prog 50 #[.pointer (some ⟨g, 0, none⟩), .int .i64 4, .func (.func 51) #[.pointer (some ⟨g, 0, none⟩)] #[]] w (TlPost wrC 41 3 g A l.length c w (nL l (nW l) 4 s).1 (nL l (nW l) 4 s).2) := by
  obtain ⟨i0, hi, hz0, hz1, hz2⟩ := info_parts info_wr
  have C1 := hide (rdNumber_ok g A c l s w hr (hby.gr hg0) hle hmax)
  have l1 := (simN l).le s hle
  have hnl := nN_lim l s
  have CR := hide (fun s w (hle : s.at_ ≤ l.length) (hg : Gr w0 w) h => rdWrite_ok g A c l s w0 w h0 hg hby h hle hmax)
  have HL := hide (fun s => (simW l).le s)
  have hgw := hr.lt
  have h0w := hg0.size
  have E : nL l (nW l) 4 s = (if 4 < (nN l s).1 then fun s => ([], ⟨s.at_, true⟩) else repS (nW l) (nN l s).1.toNat) (nN l s).2 := rfl
  rw [E]
  generalize nN l s = r1 at C1 l1 hnl ⊢
  obtain ⟨z, s1⟩ := r1
  simp only at C1 l1 hnl ⊢
  obtain ⟨ln, hn⟩ : ∃ n, l.length = n := ⟨_, rfl⟩
  rw [hn] at C1 CR HL l1 ⊢
  have HG0 := hide hg0
  clear hr hby hle hmax hn E hg0
  by_cases h6 : 4 < z
  · rw [if_pos h6]
    go_enter Try.func50, Try.ntmps50
    go_wp2_with fail
    refine C1.out.mono ?_
    rintro e w1 ⟨rfl, k1, t1⟩
    have c2 : w1.cell? ⟨g, 2, none⟩ = some (.bool s1.bad) := Bl.cell k1 2
    have f2 : w1.frozen? ⟨g, 2, none⟩ = false := Bl.frozen k1 2
    have K1 := hide k1
    clear k1 C1
    go_wp2_with fail
    go_ret
    have := Bl.put K1.out 2 (.bool true)
    exact ⟨_, rfl, OwnR.none_ _ _, by simpa [RdAt] using this, t1.set 2 _⟩
  · rw [if_neg h6]
    obtain ⟨m, hm⟩ : ∃ m : Nat, z = (m : Int) := ⟨z.toNat, by omega⟩
    subst hm
    have hm6 : m ≤ 4 := by omega
    rw [show ((m : Int)).toNat = m from rfl]
    clear h6
    go_enter Try.func50, Try.ntmps50
    go_wp2_with fail
    refine C1.out.mono ?_
    rintro e w1 ⟨rfl, k1, t1⟩
    have L1 := hide (ListAt.start (C := wrC) (e := 41) (kc := 3) (one := nW l) (n := m) k1 t1 (gr_past HG0.out t1 h0) l1)
    clear k1 t1 C1
    go_wp2_with fail
    go_loopw [8, 18] (fun o i wr => ∃ (k : Nat) (xs : List WrT) (sk : RdS), i = .int .i64 k ∧ k ≤ m ∧ Hid (ListAt wrC 41 3 (nW l) w0 w wr g A ln c m k s1 o xs sk)) (fun _ i _ => m - (intOf i).toNat)
    case atStart => exact ⟨0, [], s1, rfl, by omega, L1⟩
    case round =>
      obtain ⟨k, xs, sk, rfl, hk, hL⟩ := hrel
      by_cases hlt : k < m
      · have hlt' : (k : Int) < (m : Int) := by omega
        have HC := hide (CR.out sk wr hL.out.at_ hL.out.gr hL.out.rd)
        have HLE := hide (HL.out sk hL.out.at_)
        have HM := hide (fun w1 w2 rv' h1 h2 h3 h4 => hL.out.more (w1 := w1) (w2 := w2) (rv' := rv') hlt h0 hgw h0w h1 h2 h3 h4 HLE.out)
        obtain ⟨x, hx⟩ : ∃ x, (nW l sk).1 = x := ⟨_, rfl⟩
        rw [hx] at HC HM
        unfold wrV at HC
        go_wp2_with fail
        refine HC.out.mono ?_
        rintro e w2 ⟨rfl, k2, t2⟩
        have K2 := hide k2
        have T2 := hide t2
        have hown := hide (hL.out.own.but t2 hgw)
        have hlen := hL.out.len
        have hsz : w.heap.size ≤ w2.heap.size := Nat.le_trans hL.out.but.size t2.size
        clear k2 t2 HC hx
        go_wp2_with (at_builtin; refine wpList_pushR rfl (.tmp 20) (.tmp 23) _ rfl 41 i0 _ 3 40 Try.underlying26 hi hz0 hz1 hz2 rfl (by decide) (cs := #[.string x.key, .string x.val, .bool x.gone]) rfl (by simp [Value.oneCell']) rfl hown.out hsz (congrArg (fun z => Value.slice (some ⟨z, 0, none⟩) 1 1) rfl) (by rw [List.length_map]; unfold maxLen; omega) (by rw [List.length_map]; omega) ?_; intro v3 w3 ho3 hp3; have HN := hide (HM.out w2 w3 v3 K2.out T2.out hp3 ho3); clear ho3 hp3)
        go_roundw
        case rel => exact ⟨k + 1, _, _, by go_num, by omega, HN⟩
        case measure => simp [intOf]; omega
      · obtain rfl : k = m := by omega
        have hso := hL.out.so
        rw [Nat.sub_self] at hso
        have hso2 : repS (nW l) k s1 = (xs, sk) := by rw [hso]; simp [repS, giveS]
        have HS := hide hso2
        clear hso hso2
        go_wp2_with fail
        go_ret
        rw [HS.out]
        exact ⟨_, rfl, hL.out.own, hL.out.rd, hL.out.but⟩

end Go.Proofs.Ytjpdhijhmpdbnaa
