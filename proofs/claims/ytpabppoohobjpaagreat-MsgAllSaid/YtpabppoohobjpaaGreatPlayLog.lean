/-
  diwanplay's logs, by its contract.
-/
import Derived.Test.YtpabppoohobjpaaGreatEntOwn
import Derived.Test.YtpabppoohobjpaaGreatPlayTxn
namespace Go.Proofs.YtpabppoohobjpaaGreat
open Go Go.RowKit TxnMath KeyMath MsgMath
set_option maxRecDepth 100000

/-- an entry that is made: of which term, and how many numbers are read behind it -/
def entP (l : List UInt8) (i term n : Nat) : EntT × Nat × Nat :=
  if pickV l (pickN l n) 3 = 0 then (⟨((if pickV l n 4 = 0 then term + 1 else term : Nat) : Int), true, noTxn⟩, (if pickV l n 4 = 0 then term + 1 else term), pickN l (pickN l n))
  else (⟨((if pickV l n 4 = 0 then term + 1 else term : Nat) : Int), false, (txP l (pickN l (pickN l n)) (i + 1)).1⟩, (if pickV l n 4 = 0 then term + 1 else term), (txP l (pickN l (pickN l n)) (i + 1)).2)
/-- the first k: the entries, the last term, how many numbers are read -/
def logP (l : List UInt8) (n : Nat) : Nat → List EntT × Nat × Nat
  | 0 => ([], 1, n)
  | k + 1 => ((logP l n k).1 ++ [(entP l k (logP l n k).2.1 (logP l n k).2.2).1], (entP l k (logP l n k).2.1 (logP l n k).2.2).2)
theorem logP_len (l : List UInt8) (n : Nat) : ∀ k, (logP l n k).1.length = k
  | 0 => rfl
  | k + 1 => by rw [logP]; simp [logP_len l n k]
theorem entP_term (l : List UInt8) (i term n : Nat) : (entP l i term n).1.term = (entP l i term n).2.1 ∧ (entP l i term n).2.1 ≤ term + 1 ∧ term ≤ (entP l i term n).2.1 := by
  unfold entP
  by_cases h1 : pickV l n 4 = 0 <;> by_cases h2 : pickV l (pickN l n) 3 = 0 <;> simp [h1, h2]
theorem logP_term (l : List UInt8) (n : Nat) : ∀ k, 1 ≤ (logP l n k).2.1 ∧ (logP l n k).2.1 ≤ k + 1 ∧ ∀ e ∈ (logP l n k).1, 1 ≤ e.term ∧ e.term ≤ ((logP l n k).2.1 : Int)
  | 0 => ⟨Nat.le_refl _, Nat.le_refl _, fun e he => by simp [logP] at he⟩
  | k + 1 => by
    obtain ⟨h1, h2, h3⟩ := logP_term l n k
    obtain ⟨h4, h5, h6⟩ := entP_term l k (logP l n k).2.1 (logP l n k).2.2
    rw [logP]
    simp only
    refine ⟨by omega, by omega, fun e he => ?_⟩
    rcases List.mem_append.1 he with he | he
    · have := h3 e he; exact ⟨this.1, by omega⟩
    · rw [List.mem_singleton] at he
      subst he
      exact ⟨by omega, by omega⟩
theorem logP_at (l : List UInt8) (n : Nat) (k : Nat) {m : Nat} (h : k ≤ m) : ∀ j, j < k → (logP l n m).1[j]? = (logP l n k).1[j]? := by
  induction m with
  | zero => intro j hj; omega
  | succ m ih =>
    intro j hj
    by_cases hk : k = m + 1
    · subst hk; rfl
    · rw [logP, List.getElem?_append_left (by rw [logP_len]; omega)]
      exact ih (by omega) j hj

/-- in the midst of it: the picks, the row that grows -/
structure LogMid (w wr : World) (g : Nat) (A : Option Addr) (c : Nat) (l : List UInt8) (n : Nat) (v : Value) (es : List EntT) : Prop where
  low : Low w.heap.size g A l
  but : But w wr g
  pk : Pk wr g A c l n
  own : OwnEnt (fun k => w.heap.size ≤ k) wr w.heap.size v es
theorem LogMid.but_ {w wr wz : World} {g : Nat} {A : Option Addr} {c : Nat} {l : List UInt8} {n n' : Nat} {v : Value} {es : List EntT} (h : LogMid w wr g A c l n v es) (hb : But wr wz g) (hp : Pk wz g A c l n') : LogMid w wz g A c l n' v es :=
  ⟨h.low, h.but.trans_ hb, hp, h.own.but hb h.low.at_ fun j hj e => by have := h.low.at_; omega⟩
theorem LogMid.gr {w wr wz : World} {g : Nat} {A : Option Addr} {c : Nat} {l : List UInt8} {n : Nat} {v : Value} {es : List EntT} (h : LogMid w wr g A c l n v es) (hg : Gr wr wz) : LogMid w wz g A c l n v es :=
  ⟨h.low, h.but.trans_ (hg.but g), h.pk.gr hg, h.own.gr hg⟩
/-- one more -/
theorem LogMid.push {w wr w' : World} {g : Nat} {A : Option Addr} {c : Nat} {l : List UInt8} {n : Nat} {v v' : Value} {es : List EntT} {x : EntT} (h : LogMid w wr g A c l n v es) (ho : OwnEnt (fun k => w.heap.size ≤ k) w' w.heap.size v' (es ++ [x])) (hp : Put1 wr w' v v') : LogMid w w' g A c l n v' (es ++ [x]) := by
  have hv := h.own.lt
  have hlo := h.low.at_
  have hs := h.but.size
  refine ⟨h.low, ⟨hp.1.os.trans h.but.os, hp.1.tape.trans h.but.tape, hp.1.output.trans h.but.output, Nat.le_trans h.but.size hp.1.size, fun k hk hne => ?_⟩, ?_, ho⟩
  · refine (hp.1.block k (by omega) (fun e => ?_)).trans (h.but.block k hk hne)
    have := (hv k e.symm).1
    omega
  · refine h.pk.high h.low fun j hj => hp.1.block j (by omega) (fun e => ?_)
    have := (hv j e.symm).1
    omega
def LogPost (g : Nat) (A : Option Addr) (c : Nat) (l : List UInt8) (n m : Nat) (w : World) (e : Ending) (w' : World) : Prop :=
  ∃ v, e = .returned v ∧ OwnEnt (fun k => w.heap.size ≤ k) w' w.heap.size v (logP l n m).1 ∧ But w w' g ∧ Pk w' g A c l (logP l n m).2.2

set_option maxHeartbeats 4000000 in
theorem Log_ok (g : Nat) (A : Option Addr) (c : Nat) (l : List UInt8) (n m : Nat) (hm : (m : Int) ≤ 1000000) (hlen : (l.length : Int) ≤ 1000000000) (w : World) (hp : Pk w g A c l n) :
    Calls Tryz.prog 20 #[.pointer (some ⟨g, 0, none⟩), .int .i64 (m : Int)] w (LogPost g A c l n m w) := by
  obtain ⟨i0, hi, hz0, hz1, hz2⟩ := info_parts info_ent
  have H0 : LogMid w w g A c l n (.slice none 0 0) [] := ⟨hp.low, But.refl _ _, hp, OwnEnt.none_ _ _ _⟩
  have HH0 := hide H0
  clear H0 hp
  go_enter Tryz.func20, Tryz.ntmps20
  go_wp2_with fail
  go_loopw [5, 6, 7, 8] (fun v t i _ wr => ∃ (k tm n' : Nat) (es : List EntT), i = .int .i64 k ∧ t = .int .i64 tm ∧ k ≤ m ∧ Hid (LogMid w wr g A c l n' v es) ∧ Hid (logP l n k = (es, tm, n'))) (fun _ _ i _ _ => m - (intOf i).toNat)
  case atStart => exact ⟨0, 1, n, [], rfl, rfl, by omega, HH0, rfl⟩
  case round =>
    obtain ⟨k, tm, n', es, rfl, rfl, hk, HM, HS⟩ := hrel
    by_cases hlt : k < m
    · have hlt' : (k : Int) < (m : Int) := by omega
      obtain ⟨vA, vc, hv⟩ := HM.out.own.is
      have hel : es.length = k := by have := logP_len l n k; rw [HS.out] at this; exact this
      rw [hel] at hv
      subst hv
      have HEL := hide hel
      clear hel
      go_wp2_with fail
      refine (Num_ok g A c l n' 4 (by decide) (by decide) hlen wr HM.out.pk).mono ?_
      rintro e w1 ⟨rfl, hb1, hp1⟩
      have HM1 := hide (HM.out.but_ hb1 hp1)
      obtain ⟨q, hq⟩ : ∃ q, pickV l n' 4 = q := ⟨_, rfl⟩
      obtain ⟨n1, hn1⟩ : ∃ q, pickN l n' = q := ⟨_, rfl⟩
      obtain ⟨tm2, htm2⟩ : ∃ t, (if q = 0 then tm + 1 else tm) = t := ⟨_, rfl⟩
      rw [hn1] at HM1
      rw [hq]
      have HQ := hide hq
      have HN1 := hide hn1
      have HTM := hide htm2
      clear hq hn1 htm2 hb1 hp1 HM
      have hqq : (q = 0 ∧ tm2 = tm + 1) ∨ (((q : Int) == 0) = false ∧ tm2 = tm ∧ Hid (¬ q = 0)) := by
        by_cases h : q = 0
        · exact .inl ⟨h, by rw [← HTM.out, if_pos h]⟩
        · exact .inr ⟨by rw [beq_eq_false_iff_ne]; omega, by rw [← HTM.out, if_neg h], h⟩
      have hwt : (tm : Int) ≤ 1000001 := by have := (logP_term l n k).2.1; rw [HS.out] at this; simp only at this; omega
      clear HTM
      rcases hqq with ⟨h1, h2⟩ | ⟨h1, h2, h3⟩
      · clear h2 tm2
        try subst h1
        go_wp2_with fail
        refine (Num_ok g A c l n1 3 (by decide) (by decide) hlen w1 HM1.out.pk).mono ?_
        rintro e w2 ⟨rfl, hb2, hp2⟩
        have HM2 := hide (HM1.out.but_ hb2 hp2)
        obtain ⟨q2, hq2⟩ : ∃ q, pickV l n1 3 = q := ⟨_, rfl⟩
        obtain ⟨n2, hn2⟩ : ∃ q, pickN l n1 = q := ⟨_, rfl⟩
        rw [hn2] at HM2
        rw [hq2]
        have HQ2 := hide hq2
        have HN2 := hide hn2
        clear hq2 hn2 hb2 hp2 HM1
        by_cases hq0 : q2 = 0
        · subst hq0
          have HNX : Hid (logP l n (k + 1) = (es ++ [⟨((tm : Int) + 1), true, noTxn⟩], tm + 1, n2)) := by
            unfold Hid
            rw [logP, HS.out]
            unfold entP
            simp only [HQ.out, HN1.out, HQ2.out, HN2.out, if_true]
            simp
          have HM3 := hide (HM2.out.gr ((Gr.refl w2).alloc (.cells #[.int .i64 ((tm : Int) + 1), .bool true, .int .i64 0, .int .i64 0, .slice none 0 0, .slice none 0 0] 45)))
          go_wp2_with (at_builtin; refine wpList_pushEnt rfl (.tmp 32) (.tmp 34) rfl ⟨((tm : Int) + 1), true, noTxn⟩ (.slice none 0 0, .slice none 0 0) rfl rfl HM3.out.own (RowsX.none_ _ _) HM3.out.but.size (congrArg (fun z => Value.slice (some ⟨z, 0, none⟩) 1 1) (by simp)) (by have := HEL.out; omega) ?_; intro v3 w3 ho3 hp3; obtain ⟨vA3, vc3, hv3⟩ := ho3.is; generalize hm3 : List.length _ = m3 at hv3; subst hv3; clear hm3; have HM4 := hide (HM3.out.push ho3 hp3); clear ho3 hp3)
          go_roundw
          case rel => exact ⟨k + 1, _, n2, _, by go_num, by go_num, by omega, HM4, HNX⟩
          case measure => simp [intOf]; omega
        · have hq1 : ((q2 : Int) == 0) = false := by rw [beq_eq_false_iff_ne]; omega
          have HNX : Hid (logP l n (k + 1) = (es ++ [⟨((tm : Int) + 1), false, (txP l n2 (k + 1)).1⟩], tm + 1, (txP l n2 (k + 1)).2)) := by
            unfold Hid
            rw [logP, HS.out]
            unfold entP
            simp only [HQ.out, HN1.out, HQ2.out, HN2.out, if_neg hq0]
            simp
          have hw1 : IntKind.i64.wrap ((k : Int) + 1) = (k : Int) + 1 := IntWalk.i64_in _ (by omega)
          have CT := hide (fun W (h : Pk W g A c l n2) => Txn_ok g A c l n2 (k + 1) (by omega) hlen W h)
          go_wp2_with fail
          obtain ⟨W3, hW3⟩ : ∃ W3, w2.alloc (.cells #[.int .i64 ((tm : Int) + 1), .bool false, .int .i64 0, .int .i64 0, .slice none 0 0, .slice none 0 0] 45) = W3 := ⟨_, rfl⟩
          have hgr3 : Gr w2 W3 := by rw [← hW3]; exact (Gr.refl _).alloc _
          have hbl3 : Bl W3 w2.heap.size 45 #[.int .i64 ((tm : Int) + 1), .bool false, .int .i64 0, .int .i64 0, .slice none 0 0, .slice none 0 0] := by rw [← hW3]; exact Bl.new _ _ _
          rw [hW3]
          have hge : w.heap.size ≤ w2.heap.size := HM2.out.but.size
          have hgg : w2.heap.size ≠ g := by have := HM2.out.low.at_; omega
          have hgo : ∀ j, (Value.slice vA k vc).ownBlock = some j → j < w2.heap.size := fun j hj => (HM2.out.own.lt j hj).2
          have HM3 := hide (HM2.out.gr hgr3)
          have HOW := hide (fun (w' : World) (hb : ∀ j, w.heap.size ≤ j → j < w2.heap.size → w'.heap[j]? = W3.heap[j]?) => HM2.out.own.high (fun _ h => h) (fun j h1 h2 => (hb j h1 h2).trans (hgr3.block j h2)))
          obtain ⟨gE, hgE⟩ : ∃ gE, w2.heap.size = gE := ⟨_, rfl⟩
          rw [hgE] at hbl3 hge hgg hgo HOW ⊢
          clear hW3 hgr3 HM2
          refine (CT.out W3 HM3.out.pk).mono ?_
          rintro e w4 ⟨tv, rfl, htx, hb4, hp4⟩
          have HM4 := hide (HM3.out.but_ hb4 hp4)
          have hbl4 := hbl3.but_ hb4 hgg
          have hlt3 := hbl3.lt
          obtain ⟨⟨p1, p2⟩, htv, hrows⟩ := htx.rows
          obtain ⟨tx, htxe⟩ : ∃ tx, (txP l n2 (k + 1)).1 = tx := ⟨_, rfl⟩
          obtain ⟨n3, hn3⟩ : ∃ n3, (txP l n2 (k + 1)).2 = n3 := ⟨_, rfl⟩
          rw [htxe, hn3] at HNX
          rw [htxe] at htv hrows
          rw [hn3] at HM4
          obtain ⟨A1, c1, e1⟩ := hrows.rd.sl
          obtain ⟨A2, c2, e2⟩ := hrows.wr.sl
          generalize hm1 : List.length _ = m1 at e1
          generalize hm2 : List.length _ = m2 at e2
          simp only at e1 e2
          subst e1 e2
          replace htv : tv = .agg #[.int .i64 tx.ses, .int .i64 tx.seq, .slice A1 m1 c1, .slice A2 m2 c2] := htv
          subst htv
          obtain ⟨W5, hW5⟩ : ∃ W5, (((w4.setCell ⟨gE, 2, none⟩ (.int .i64 tx.ses)).setCell ⟨gE, 3, none⟩ (.int .i64 tx.seq)).setCell ⟨gE, 4, none⟩ (.slice A1 m1 c1)).setCell ⟨gE, 5, none⟩ (.slice A2 m2 c2) = W5 := ⟨_, rfl⟩
          have hbl5 : Bl W5 gE 45 #[.int .i64 ((tm : Int) + 1), .bool false, .int .i64 tx.ses, .int .i64 tx.seq, .slice A1 m1 c1, .slice A2 m2 c2] := by rw [← hW5]; exact (((hbl4.put 2 _).put 3 _).put 4 _).put 5 _
          have hbu5 : But w4 W5 gE := by rw [← hW5]; exact ((((But.refl w4 gE).set 2 _).set 3 _).set 4 _).set 5 _
          have HM5 := hide (show LogMid w W5 g A c l n3 (.slice vA k vc) es from ⟨HM4.out.low, HM4.out.but.fresh hbu5 hge, HM4.out.pk.high HM4.out.low fun j hj => hbu5.block j (by have := HM4.out.but.size; omega) (fun e => by injection e with e; omega), HOW.out W5 fun j h1 h2 => (hbu5.block j (by have := hb4.size; omega) (fun e => by injection e with e; omega)).trans (hb4.block j (by omega) (fun e => by injection e with e; have := HM4.out.low.at_; omega))⟩)
          clear htx hb4 hp4 hbl3 hm1 hm2 CT
          have f2 := hbl4.frozen 2
          have f3 := hbl4.frozen 3
          have f4 := hbl4.frozen 4
          have f5 := hbl4.frozen 5
          have k2 : w4.cell? ⟨gE, 2, none⟩ = some (.int .i64 0) := hbl4.cell 2
          have k3 : w4.cell? ⟨gE, 3, none⟩ = some (.int .i64 0) := hbl4.cell 3
          have k4 : w4.cell? ⟨gE, 4, none⟩ = some (.slice none 0 0) := hbl4.cell 4
          have k5 : w4.cell? ⟨gE, 5, none⟩ = some (.slice none 0 0) := hbl4.cell 5
          have HRW := hide (hrows.move (w' := W5) (X' := fun j => w.heap.size ≤ j ∧ (Value.slice vA k vc).ownBlock ≠ some j) fun j hj hX => ⟨hbu5.block j hj (fun e => by injection e with e; omega), by omega, fun e => by have := hgo j e; omega⟩)
          have z0 : W5.cell? ⟨gE, 0, none⟩ = some (.int .i64 ((tm : Int) + 1)) := hbl5.cell 0
          have z1 : W5.cell? ⟨gE, 1, none⟩ = some (.bool false) := hbl5.cell 1
          have z2 : W5.cell? ⟨gE, 2, none⟩ = some (.int .i64 tx.ses) := hbl5.cell 2
          have z3 : W5.cell? ⟨gE, 3, none⟩ = some (.int .i64 tx.seq) := hbl5.cell 3
          have z4 : W5.cell? ⟨gE, 4, none⟩ = some (.slice A1 m1 c1) := hbl5.cell 4
          have z5 : W5.cell? ⟨gE, 5, none⟩ = some (.slice A2 m2 c2) := hbl5.cell 5
          clear hbl4 hbl5 hbu5 hrows HOW HM3 HM4 hlt3 hge hgo
          go_wp2_with (at_builtin; refine wpList_pushEnt rfl (.tmp 32) (.tmp 34) rfl ⟨((tm : Int) + 1), false, tx⟩ (.slice A1 m1 c1, .slice A2 m2 c2) rfl rfl HM5.out.own HRW.out HM5.out.but.size rfl (by have := HEL.out; omega) ?_; intro v3 w3 ho3 hp3; obtain ⟨vA3, vc3, hv3⟩ := ho3.is; generalize hm3 : List.length _ = m3 at hv3; subst hv3; clear hm3; have HM6 := hide (HM5.out.push ho3 hp3); clear ho3 hp3)
          go_roundw
          case rel => exact ⟨k + 1, _, n3, _, by go_num, by go_num, by omega, HM6, HNX⟩
          case measure => simp [intOf]; omega
      · clear h2 tm2
        go_wp2_with fail
        refine (Num_ok g A c l n1 3 (by decide) (by decide) hlen w1 HM1.out.pk).mono ?_
        rintro e w2 ⟨rfl, hb2, hp2⟩
        have HM2 := hide (HM1.out.but_ hb2 hp2)
        obtain ⟨q2, hq2⟩ : ∃ q, pickV l n1 3 = q := ⟨_, rfl⟩
        obtain ⟨n2, hn2⟩ : ∃ q, pickN l n1 = q := ⟨_, rfl⟩
        rw [hn2] at HM2
        rw [hq2]
        have HQ2 := hide hq2
        have HN2 := hide hn2
        clear hq2 hn2 hb2 hp2 HM1
        by_cases hq0 : q2 = 0
        · subst hq0
          have HNX : Hid (logP l n (k + 1) = (es ++ [⟨(tm : Int), true, noTxn⟩], tm, n2)) := by
            unfold Hid
            rw [logP, HS.out]
            unfold entP
            simp only [HQ.out, HN1.out, HQ2.out, HN2.out, if_true]
            rw [if_neg h3.out]
          have HM3 := hide (HM2.out.gr ((Gr.refl w2).alloc (.cells #[.int .i64 (tm : Int), .bool true, .int .i64 0, .int .i64 0, .slice none 0 0, .slice none 0 0] 45)))
          go_wp2_with (at_builtin; refine wpList_pushEnt rfl (.tmp 32) (.tmp 34) rfl ⟨(tm : Int), true, noTxn⟩ (.slice none 0 0, .slice none 0 0) rfl rfl HM3.out.own (RowsX.none_ _ _) HM3.out.but.size (congrArg (fun z => Value.slice (some ⟨z, 0, none⟩) 1 1) (by simp)) (by have := HEL.out; omega) ?_; intro v3 w3 ho3 hp3; obtain ⟨vA3, vc3, hv3⟩ := ho3.is; generalize hm3 : List.length _ = m3 at hv3; subst hv3; clear hm3; have HM4 := hide (HM3.out.push ho3 hp3); clear ho3 hp3)
          go_roundw
          case rel => exact ⟨k + 1, _, n2, _, by go_num, by go_num, by omega, HM4, HNX⟩
          case measure => simp [intOf]; omega
        · have hq1 : ((q2 : Int) == 0) = false := by rw [beq_eq_false_iff_ne]; omega
          have HNX : Hid (logP l n (k + 1) = (es ++ [⟨(tm : Int), false, (txP l n2 (k + 1)).1⟩], tm, (txP l n2 (k + 1)).2)) := by
            unfold Hid
            rw [logP, HS.out]
            unfold entP
            simp only [HQ.out, HN1.out, HQ2.out, HN2.out, if_neg hq0]
            rw [if_neg h3.out]
          have hw1 : IntKind.i64.wrap ((k : Int) + 1) = (k : Int) + 1 := IntWalk.i64_in _ (by omega)
          have CT := hide (fun W (h : Pk W g A c l n2) => Txn_ok g A c l n2 (k + 1) (by omega) hlen W h)
          go_wp2_with fail
          obtain ⟨W3, hW3⟩ : ∃ W3, w2.alloc (.cells #[.int .i64 (tm : Int), .bool false, .int .i64 0, .int .i64 0, .slice none 0 0, .slice none 0 0] 45) = W3 := ⟨_, rfl⟩
          have hgr3 : Gr w2 W3 := by rw [← hW3]; exact (Gr.refl _).alloc _
          have hbl3 : Bl W3 w2.heap.size 45 #[.int .i64 (tm : Int), .bool false, .int .i64 0, .int .i64 0, .slice none 0 0, .slice none 0 0] := by rw [← hW3]; exact Bl.new _ _ _
          rw [hW3]
          have hge : w.heap.size ≤ w2.heap.size := HM2.out.but.size
          have hgg : w2.heap.size ≠ g := by have := HM2.out.low.at_; omega
          have hgo : ∀ j, (Value.slice vA k vc).ownBlock = some j → j < w2.heap.size := fun j hj => (HM2.out.own.lt j hj).2
          have HM3 := hide (HM2.out.gr hgr3)
          have HOW := hide (fun (w' : World) (hb : ∀ j, w.heap.size ≤ j → j < w2.heap.size → w'.heap[j]? = W3.heap[j]?) => HM2.out.own.high (fun _ h => h) (fun j h1 h2 => (hb j h1 h2).trans (hgr3.block j h2)))
          obtain ⟨gE, hgE⟩ : ∃ gE, w2.heap.size = gE := ⟨_, rfl⟩
          rw [hgE] at hbl3 hge hgg hgo HOW ⊢
          clear hW3 hgr3 HM2
          refine (CT.out W3 HM3.out.pk).mono ?_
          rintro e w4 ⟨tv, rfl, htx, hb4, hp4⟩
          have HM4 := hide (HM3.out.but_ hb4 hp4)
          have hbl4 := hbl3.but_ hb4 hgg
          have hlt3 := hbl3.lt
          obtain ⟨⟨p1, p2⟩, htv, hrows⟩ := htx.rows
          obtain ⟨tx, htxe⟩ : ∃ tx, (txP l n2 (k + 1)).1 = tx := ⟨_, rfl⟩
          obtain ⟨n3, hn3⟩ : ∃ n3, (txP l n2 (k + 1)).2 = n3 := ⟨_, rfl⟩
          rw [htxe, hn3] at HNX
          rw [htxe] at htv hrows
          rw [hn3] at HM4
          obtain ⟨A1, c1, e1⟩ := hrows.rd.sl
          obtain ⟨A2, c2, e2⟩ := hrows.wr.sl
          generalize hm1 : List.length _ = m1 at e1
          generalize hm2 : List.length _ = m2 at e2
          simp only at e1 e2
          subst e1 e2
          replace htv : tv = .agg #[.int .i64 tx.ses, .int .i64 tx.seq, .slice A1 m1 c1, .slice A2 m2 c2] := htv
          subst htv
          obtain ⟨W5, hW5⟩ : ∃ W5, (((w4.setCell ⟨gE, 2, none⟩ (.int .i64 tx.ses)).setCell ⟨gE, 3, none⟩ (.int .i64 tx.seq)).setCell ⟨gE, 4, none⟩ (.slice A1 m1 c1)).setCell ⟨gE, 5, none⟩ (.slice A2 m2 c2) = W5 := ⟨_, rfl⟩
          have hbl5 : Bl W5 gE 45 #[.int .i64 (tm : Int), .bool false, .int .i64 tx.ses, .int .i64 tx.seq, .slice A1 m1 c1, .slice A2 m2 c2] := by rw [← hW5]; exact (((hbl4.put 2 _).put 3 _).put 4 _).put 5 _
          have hbu5 : But w4 W5 gE := by rw [← hW5]; exact ((((But.refl w4 gE).set 2 _).set 3 _).set 4 _).set 5 _
          have HM5 := hide (show LogMid w W5 g A c l n3 (.slice vA k vc) es from ⟨HM4.out.low, HM4.out.but.fresh hbu5 hge, HM4.out.pk.high HM4.out.low fun j hj => hbu5.block j (by have := HM4.out.but.size; omega) (fun e => by injection e with e; omega), HOW.out W5 fun j h1 h2 => (hbu5.block j (by have := hb4.size; omega) (fun e => by injection e with e; omega)).trans (hb4.block j (by omega) (fun e => by injection e with e; have := HM4.out.low.at_; omega))⟩)
          clear htx hb4 hp4 hbl3 hm1 hm2 CT
          have f2 := hbl4.frozen 2
          have f3 := hbl4.frozen 3
          have f4 := hbl4.frozen 4
          have f5 := hbl4.frozen 5
          have k2 : w4.cell? ⟨gE, 2, none⟩ = some (.int .i64 0) := hbl4.cell 2
          have k3 : w4.cell? ⟨gE, 3, none⟩ = some (.int .i64 0) := hbl4.cell 3
          have k4 : w4.cell? ⟨gE, 4, none⟩ = some (.slice none 0 0) := hbl4.cell 4
          have k5 : w4.cell? ⟨gE, 5, none⟩ = some (.slice none 0 0) := hbl4.cell 5
          have HRW := hide (hrows.move (w' := W5) (X' := fun j => w.heap.size ≤ j ∧ (Value.slice vA k vc).ownBlock ≠ some j) fun j hj hX => ⟨hbu5.block j hj (fun e => by injection e with e; omega), by omega, fun e => by have := hgo j e; omega⟩)
          have z0 : W5.cell? ⟨gE, 0, none⟩ = some (.int .i64 (tm : Int)) := hbl5.cell 0
          have z1 : W5.cell? ⟨gE, 1, none⟩ = some (.bool false) := hbl5.cell 1
          have z2 : W5.cell? ⟨gE, 2, none⟩ = some (.int .i64 tx.ses) := hbl5.cell 2
          have z3 : W5.cell? ⟨gE, 3, none⟩ = some (.int .i64 tx.seq) := hbl5.cell 3
          have z4 : W5.cell? ⟨gE, 4, none⟩ = some (.slice A1 m1 c1) := hbl5.cell 4
          have z5 : W5.cell? ⟨gE, 5, none⟩ = some (.slice A2 m2 c2) := hbl5.cell 5
          clear hbl4 hbl5 hbu5 hrows HOW HM3 HM4 hlt3 hge hgo
          go_wp2_with (at_builtin; refine wpList_pushEnt rfl (.tmp 32) (.tmp 34) rfl ⟨(tm : Int), false, tx⟩ (.slice A1 m1 c1, .slice A2 m2 c2) rfl rfl HM5.out.own HRW.out HM5.out.but.size rfl (by have := HEL.out; omega) ?_; intro v3 w3 ho3 hp3; obtain ⟨vA3, vc3, hv3⟩ := ho3.is; generalize hm3 : List.length _ = m3 at hv3; subst hv3; clear hm3; have HM6 := hide (HM5.out.push ho3 hp3); clear ho3 hp3)
          go_roundw
          case rel => exact ⟨k + 1, _, n3, _, by go_num, by go_num, by omega, HM6, HNX⟩
          case measure => simp [intOf]; omega
    · obtain rfl : k = m := by omega
      obtain ⟨vA, vc, rfl⟩ := HM.out.own.is
      go_wp2_with fail
      go_ret
      exact ⟨_, rfl, by rw [HS.out]; exact HM.out.own, HM.out.but, by rw [HS.out]; exact HM.out.pk⟩

end Go.Proofs.YtpabppoohobjpaaGreat
