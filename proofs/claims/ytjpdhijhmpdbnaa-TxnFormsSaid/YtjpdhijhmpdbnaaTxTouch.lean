/-
  txn.Touches by its contract.
-/
import Derived.Test.YtjpdhijhmpdbnaaTxKeys
import Derived.Test.YtjpdhijhmpdbnaaBaseG
namespace Go.Proofs.Ytjpdhijhmpdbnaa
open Go Go.RowKit TxnMath KeyMath
set_option maxRecDepth 100000

theorem agg_int_ : ∀ w, (isAgg 3).run Try.prog w = .ok false w := fun w => by kernel_rfl

set_option maxHeartbeats 400000 in
/-- the closure that asks whether a key is of shard s, of n -/
theorem of_ok (k : ByteArray) (s n : Int) (gn gs : Nat) (w : World) (hk : (k.size : Int) ≤ 1000000) (hn : I64 n) (cn : w.cell? ⟨gn, 0, none⟩ = some (.int .i64 n)) (cs : w.cell? ⟨gs, 0, none⟩ = some (.int .i64 s)) :
    Calls Try.prog 37 #[.string k, .pointer (some ⟨gn, 0, none⟩), .pointer (some ⟨gs, 0, none⟩)] w fun e w' => e = .returned (.bool (shardK k n == s)) ∧ Gr w w' := by
  obtain ⟨b, hb⟩ : ∃ b, (shardK k n == s) = b := ⟨_, rfl⟩
  rw [hb]
  have HB := hide hb
  clear hb
  go_enter Try.func37, Try.ntmps37
  go_wp2_with fail
  refine Grow.wp_region_grown 10 rfl (by kernel_rfl) (by kernel_rfl) (Grow.Ahead.more (Grow.Ahead.more (Grow.Ahead.more (Grow.Ahead.none_ _ _) 0 (Grow.Is.stays (.string k)) rfl) 1 (Grow.Pt.stays (.int .i64 n)) ⟨_, rfl, gr_cell ((Gr.refl w).drew) _ _ cn⟩) 2 (Grow.Pt.stays (.int .i64 s)) ⟨_, rfl, gr_cell ((Gr.refl w).drew) _ _ cs⟩) ?_
  refine Grow.grow_mv (.inl rfl) (.inl ⟨rfl, rfl⟩) rfl ?_
  refine Grow.grow_load rfl agg_int_ (.inl ⟨rfl, rfl⟩) rfl ?_
  refine Grow.grow_call2 (Φ := Grow.Is (.int .i64 (shardK k n))) rfl (.inl ⟨rfl, rfl⟩) Try.func34 (by kernel_rfl) (by kernel_rfl) (Ψ := Grow.Is (.string k)) (Ψ' := Grow.Is (.int .i64 n)) rfl rfl (Grow.Is.stays _) (fun v u w' _ hv hu => by
    obtain rfl : v = _ := hv
    obtain rfl : u = _ := hu
    exact (Shard_ok k hk n hn.1 hn.2 w').mono fun e w1 ⟨he, hg1⟩ => ⟨_, he, hg1, rfl⟩) ?_
  refine Grow.grow_load rfl agg_int_ (.inl ⟨rfl, rfl⟩) rfl ?_
  refine Grow.grow_int (c := .bool b) rfl (.inl ⟨rfl, rfl⟩) rfl rfl (by rw [binOp_eql, ← HB.out]) ?_
  refine Grow.grow_mv (.inr rfl) (.inl ⟨rfl, rfl⟩) rfl ?_
  intro a1 w1 hg1 hs1 hd1 hk1
  have s4 : a1.tmps.getD 4 undef = .bool b := hk1 4
  clear hk1
  have hgw : Gr w w1 := Gr.trans ((Gr.refl w).drew) hg1
  rw [Grow.lay_frame a1 10 hs1, hd1]
  simp only [List.range, List.range.loop, List.map_cons, List.map_nil, s4]
  clear s4
  go_wp2_with fail
  go_ret
  exact ⟨rfl, hgw⟩

/-- where it says yes first, or -1 -/
def IndexPost (w : World) (b : Bool) (e : Ending) (w' : World) : Prop := ∃ z : Int, e = .returned (.int .i64 z) ∧ decide (0 ≤ z) = b ∧ Gr w w'

set_option maxHeartbeats 400000 in
theorem indexOf_ok (A : Option Addr) (c : Nat) (m : Nat) (ss : List ByteArray) (hm : m = ss.length) (s n : Int) (gn gs : Nat) (w : World) (hss : Strs w A c ss) (hsz : ∀ k ∈ ss, (k.size : Int) ≤ 1000000) (hmax : (ss.length : Int) ≤ 1000000) (hn : I64 n) (cn : w.cell? ⟨gn, 0, none⟩ = some (.int .i64 n)) (cs : w.cell? ⟨gs, 0, none⟩ = some (.int .i64 s)) :
    Calls Try.prog 55 #[.slice A m c, .func (.func 37) #[] #[.pointer (some ⟨gn, 0, none⟩), .pointer (some ⟨gs, 0, none⟩)]] w (IndexPost w (ss.any fun k => shardK k n == s)) := by
  subst hm
  have HS := hide hss
  have HZ := hide hsz
  have HC := hide cn
  have HD := hide cs
  clear hss hsz cn cs
  go_enter Try.func55, Try.ntmps55
  go_wp2_with fail
  go_loopw [8] (fun i wr => ∃ k : Nat, i = .int .i64 k ∧ k ≤ ss.length ∧ Hid ((ss.take k).any (fun k => shardK k n == s) = false) ∧ Gr w wr) (fun i _ => ss.length - (intOf i).toNat)
  case atStart => exact ⟨0, rfl, by omega, rfl, Gr.refl _⟩
  case round =>
    obtain ⟨k, rfl, hk, hso, hgr⟩ := hrel
    by_cases hlt : k < ss.length
    · have hlt' : (k : Int) < (ss.length : Int) := by omega
      obtain ⟨ad, rfl, hcell⟩ := (HS.out.gr hgr).at_ k hlt
      have hno := hide (any_more (p := fun k => shardK k n == s) hlt)
      have hyes := hide (any_true (p := fun k => shardK k n == s) hlt)
      have hsk := HZ.out _ (List.getElem_mem hlt)
      rw [List.getD_eq_getElem?_getD, List.getElem?_eq_getElem hlt] at hcell
      simp only [Option.getD_some] at hcell
      obtain ⟨x, hx⟩ : ∃ x, ss[k]'hlt = x := ⟨_, rfl⟩
      rw [hx] at hcell hsk hno hyes
      have HO := hide (of_ok x s n gn gs wr hsk hn (gr_cell hgr _ _ HC.out) (gr_cell hgr _ _ HD.out))
      obtain ⟨b, hb⟩ : ∃ b, (shardK x n == s) = b := ⟨_, rfl⟩
      simp only [hb] at HO hno hyes
      clear hx hb hsk
      go_wp2_with fail
      refine HO.out.mono ?_
      rintro e w1 ⟨rfl, hg1⟩
      replace hgr := hgr.trans hg1
      cases b
      · have hso2 : Hid ((ss.take (k + 1)).any (fun k => shardK k n == s) = false) := by
          show _ = _
          rw [hno.out, hso.out]
          rfl
        clear hno hyes hso HO hg1 hcell
        go_wp2_with fail
        go_roundw
        case rel => exact ⟨k + 1, by go_num, by omega, hso2, hgr⟩
        case measure => simp [intOf]; omega
      · have hy := hide (hyes.out rfl)
        clear hno hyes hso HO hg1 hcell
        go_wp2_with fail
        go_ret
        exact ⟨_, rfl, by rw [hy.out, decide_eq_true_eq]; omega, hgr⟩
    · obtain rfl : k = ss.length := by omega
      have hn2 := hso.out
      rw [any_all (Nat.le_refl _)] at hn2
      have HN := hide hn2
      clear hso hn2
      go_wp2_with fail
      go_ret
      exact ⟨_, rfl, by rw [HN.out]; decide, hgr⟩

set_option maxHeartbeats 400000 in
theorem containsOf_ok (A : Option Addr) (c : Nat) (m : Nat) (ss : List ByteArray) (hm : m = ss.length) (s n : Int) (gn gs : Nat) (w : World) (hss : Strs w A c ss) (hsz : ∀ k ∈ ss, (k.size : Int) ≤ 1000000) (hmax : (ss.length : Int) ≤ 1000000) (hn : I64 n) (cn : w.cell? ⟨gn, 0, none⟩ = some (.int .i64 n)) (cs : w.cell? ⟨gs, 0, none⟩ = some (.int .i64 s)) :
    Calls Try.prog 38 #[.slice A m c, .func (.func 37) #[] #[.pointer (some ⟨gn, 0, none⟩), .pointer (some ⟨gs, 0, none⟩)]] w fun e w' => e = .returned (.bool (ss.any fun k => shardK k n == s)) ∧ Gr w w' := by
  have HI := hide (indexOf_ok A c m ss hm s n gn gs w hss hsz hmax hn cn cs)
  clear hm hss hsz hmax hn cn cs
  generalize (ss.any fun k => shardK k n == s) = b at HI ⊢
  go_enter Try.func38, Try.ntmps38
  go_wp2_with fail
  refine HI.out.mono ?_
  rintro e w1 ⟨z, rfl, hz, hg⟩
  go_wp2_with fail
  go_ret
  exact ⟨rfl, hg⟩

theorem touchT_as (t : TxT) (s n : Int) : touchT t s n = ((t.reads.map (·.key)).any (fun k => shardK k n == s) || (t.writes.map (·.key)).any (fun k => shardK k n == s)) := by
  unfold touchT
  rw [List.any_map, List.any_map]
  rfl

set_option maxHeartbeats 1000000 in
theorem TxTouches_ok (v : Value) (t : TxT) (s n : Int) (w : World) (hv : TxAt w v t) (ht : TxLim 1000000 t) (_ : I64 s) (hn : I64 n) :
    Calls Try.prog 17 #[v, .int .i64 s, .int .i64 n] w fun e w' => e = .returned (.bool (touchT t s n)) ∧ Gr w w' := by
  have hmf : ∀ (fn : Fn) (first cap : Array Value) (w : World), (Instr.makeFunc fn first cap).run Try.prog w = .ok (.func fn first cap) w := fun _ _ _ _ => rfl
  obtain ⟨rv, wv, rfl, hr, hw⟩ := hv
  obtain ⟨A, c, rfl, hr⟩ := hr.is
  obtain ⟨B, d, rfl, hw⟩ := hw.is
  rw [touchT_as]
  have C1 := hide (fun w' hg => keysR_ok _ t.reads w' (hr.gr hg) ht.rn)
  have C2 := hide (fun w' hg => keysW_ok _ t.writes w' (hw.gr hg) ht.wn)
  obtain ⟨ks, hks⟩ : ∃ ks, t.reads.map (·.key) = ks := ⟨_, rfl⟩
  obtain ⟨js, hjs⟩ : ∃ js, t.writes.map (·.key) = js := ⟨_, rfl⟩
  rw [hks] at C1 ⊢
  rw [hjs] at C2 ⊢
  have K1 := hide (show ∀ k ∈ ks, (k.size : Int) ≤ 1000000 from fun s hs => by
    rw [← hks] at hs
    obtain ⟨x, hx, rfl⟩ := List.mem_map.1 hs
    have := (ht.rd x hx).key
    omega)
  have K2 := hide (show ∀ k ∈ js, (k.size : Int) ≤ 1000000 from fun s hs => by
    rw [← hjs] at hs
    obtain ⟨x, hx, rfl⟩ := List.mem_map.1 hs
    have := (ht.wr x hx).key
    omega)
  have L1 := hide (show (ks.length : Int) ≤ 1000000 by rw [← hks, List.length_map]; have := ht.rn; omega)
  have L2 := hide (show (js.length : Int) ≤ 1000000 by rw [← hjs, List.length_map]; have := ht.wn; omega)
  have HN := hide hn
  clear hks hjs hr hw ht hn
  obtain ⟨b1, hb1⟩ : ∃ b, (ks.any fun k => shardK k n == s) = b := ⟨_, rfl⟩
  obtain ⟨b2, hb2⟩ : ∃ b, (js.any fun k => shardK k n == s) = b := ⟨_, rfl⟩
  rw [hb1, hb2]
  have E1 := hide hb1
  have E2 := hide hb2
  clear hb1 hb2
  go_enter Try.func17, Try.ntmps17
  go_wp2_with fail
  obtain ⟨W, hW⟩ : ∃ W, ((w.alloc (.cells #[.int .i64 t.ses, .int .i64 t.seq, .slice A t.reads.length c, .slice B t.writes.length d] 28)).alloc (.cells #[.int .i64 s] 3)).alloc (.cells #[.int .i64 n] 3) = W := ⟨_, rfl⟩
  have hg : Gr w W := by rw [← hW]; exact (((Gr.refl _).alloc _).alloc _).alloc _
  have hb0 : Bl W w.heap.size 28 #[.int .i64 t.ses, .int .i64 t.seq, .slice A t.reads.length c, .slice B t.writes.length d] := by rw [← hW]; exact ((Bl.new w _ _).gr ((Gr.refl _).alloc _)).gr ((Gr.refl _).alloc _)
  have hbs : Bl W (w.heap.size + 1) 3 #[.int .i64 s] := by
    have := (Bl.new (w.alloc (.cells #[.int .i64 t.ses, .int .i64 t.seq, .slice A t.reads.length c, .slice B t.writes.length d] 28)) 3 #[.int .i64 s]).gr ((Gr.refl _).alloc (.cells #[.int .i64 n] 3))
    rw [← hW]
    simpa using this
  have hbn : Bl W (w.heap.size + 1 + 1) 3 #[.int .i64 n] := by
    have := (Bl.new ((w.alloc (.cells #[.int .i64 t.ses, .int .i64 t.seq, .slice A t.reads.length c, .slice B t.writes.length d] 28)).alloc (.cells #[.int .i64 s] 3)) 3 #[.int .i64 n])
    rw [← hW]
    simpa using this
  rw [hW]
  clear hW
  have HB0 := hide hb0
  have HBS := hide hbs
  have HBN := hide hbn
  clear hb0 hbs hbn
  refine (C1.out _ hg).mono ?_
  rintro e w1 ⟨v1, rfl, hown1, hg1⟩
  obtain ⟨kA, kc, rfl, hst⟩ := hown1.strs (fun s hs => by have := K1.out s hs; unfold maxLen; omega)
  have HST := hide hst
  obtain ⟨m, hm⟩ : ∃ m, ks.length = m := ⟨_, rfl⟩
  rw [hm]
  have HO := hide (containsOf_ok kA kc m ks hm.symm s n (w.heap.size + 1 + 1) (w.heap.size + 1) w1 HST.out K1.out L1.out HN.out ((HBN.out.gr hg1).cell 0) ((HBS.out.gr hg1).cell 0))
  rw [E1.out] at HO
  clear hown1 hst hm
  go_wp2_with fail
  refine HO.out.mono ?_
  rintro e w2 ⟨rfl, hg2⟩
  have hgw := hg1.trans hg2
  have c3 : w2.cell? ⟨w.heap.size, 3, none⟩ = some (.slice B t.writes.length d) := (HB0.out.gr hgw).cell 3
  clear hg1 hg2 HO
  cases b1
  · go_wp2_with fail
    refine (C2.out _ (hg.trans hgw)).mono ?_
    rintro e w3 ⟨v3, rfl, hown3, hg3⟩
    obtain ⟨jA, jc, rfl, hst3⟩ := hown3.strs (fun s hs => by have := K2.out s hs; unfold maxLen; omega)
    have HST3 := hide hst3
    obtain ⟨m3, hm3⟩ : ∃ m, js.length = m := ⟨_, rfl⟩
    rw [hm3]
    have hgx := hgw.trans hg3
    have HO3 := hide (containsOf_ok jA jc m3 js hm3.symm s n (w.heap.size + 1 + 1) (w.heap.size + 1) w3 HST3.out K2.out L2.out HN.out ((HBN.out.gr hgx).cell 0) ((HBS.out.gr hgx).cell 0))
    rw [E2.out] at HO3
    clear hown3 hst3 hm3 c3
    go_wp2_with fail
    refine HO3.out.mono ?_
    rintro e w4 ⟨rfl, hg4⟩
    go_wp2_with fail
    go_ret
    exact ⟨rfl, (hg.trans hgx).trans hg4⟩
  · go_wp2_with fail
    go_ret
    exact ⟨rfl, hg.trans hgw⟩

end Go.Proofs.Ytjpdhijhmpdbnaa
