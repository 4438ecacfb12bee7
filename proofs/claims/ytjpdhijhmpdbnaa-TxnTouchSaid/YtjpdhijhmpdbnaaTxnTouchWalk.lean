/-
  The walk of 'TxnTouch'.
-/
import Derived.Test.YtjpdhijhmpdbnaaTxnMade
import Derived.Test.YtjpdhijhmpdbnaaBaseG
import Derived.Test.YtjpdhijhmpdbnaaKeyShard
namespace Go.Proofs.Ytjpdhijhmpdbnaa
open Go Go.RowKit TxnMath KeyMath NumPlain TakeMath
set_option maxRecDepth 100000

/-- which shards the first j reads, the first j writes are of -/
def rIn (t : TxT) (k : Int) (j : Nat) (s : Int) : Bool := (t.reads.take j).any fun x => shardK x.key k == s
def wIn (t : TxT) (k : Int) (j : Nat) (s : Int) : Bool := (t.writes.take j).any fun x => shardK x.key k == s
def rowR (t : TxT) (k : Int) (j : Nat) : Array Value := #[.bool (rIn t k j 0), .bool (rIn t k j 1), .bool (rIn t k j 2)]
def rowA (t : TxT) (k : Int) (j : Nat) : Array Value := #[.bool (rIn t k t.reads.length 0 || wIn t k j 0), .bool (rIn t k t.reads.length 1 || wIn t k j 1), .bool (rIn t k t.reads.length 2 || wIn t k j 2)]

theorem TxAt.rows_ {w : World} {a b : Int} {rv wv : Value} {t : TxT} (h : TxAt w (.agg #[.int .i64 a, .int .i64 b, rv, wv]) t) : RowAt 4 w rv (t.reads.map rdC) ∧ RowAt 3 w wv (t.writes.map wrC) := by
  obtain ⟨rv', wv', e, h1, h2⟩ := h
  simp at e
  obtain ⟨_, _, rfl, rfl⟩ := e
  exact ⟨h1, h2⟩
theorem RowAt.len_ {k : Nat} {w : World} {A : Option Addr} {n c : Nat} {α : Type} {C : α → List Value} {xs : List α} (h : RowAt k w (.slice A n c) (xs.map C)) : n = xs.length := by
  obtain ⟨A', c', e, _⟩ := h
  simp at e
  exact e.2.1
theorem shard_in (s : ByteArray) {k : Nat} (h1 : 1 ≤ k) (h3 : k ≤ 3) : shardK s (k : Int) = 0 ∨ shardK s (k : Int) = 1 ∨ shardK s (k : Int) = 2 := by
  unfold shardK
  rw [if_neg (by omega)]
  have a := Int.emod_nonneg (sumB s.data.toList : Int) (show (k : Int) ≠ 0 by omega)
  have b := Int.emod_lt_of_pos (sumB s.data.toList : Int) (show (0 : Int) < k by omega)
  omega
theorem rIn_more (t : TxT) (k s : Int) {j : Nat} (hj : j < t.reads.length) : rIn t k (j + 1) s = (rIn t k j s || shardK t.reads[j].key k == s) := any_more (p := fun x : RdT => shardK x.key k == s) hj
theorem wIn_more (t : TxT) (k s : Int) {j : Nat} (hj : j < t.writes.length) : wIn t k (j + 1) s = (wIn t k j s || shardK t.writes[j].key k == s) := any_more (p := fun x : WrT => shardK x.key k == s) hj
theorem rowR_more (t : TxT) (k : Int) {j s : Nat} (hj : j < t.reads.length) (hs : s < 3) (h : shardK t.reads[j].key k = (s : Int)) : rowR t k (j + 1) = (rowR t k j).setIfInBounds s (.bool true) := by
  unfold rowR
  rw [rIn_more t k 0 hj, rIn_more t k 1 hj, rIn_more t k 2 hj, h]
  match s, hs with
  | 0, _ => simp
  | 1, _ => simp
  | 2, _ => simp

theorem rowA_zero (t : TxT) (k : Int) : rowA t k 0 = rowR t k t.reads.length := by
  unfold rowA rowR wIn
  simp
theorem rowA_more (t : TxT) (k : Int) {j s : Nat} (hj : j < t.writes.length) (hs : s < 3) (h : shardK t.writes[j].key k = (s : Int)) : rowA t k (j + 1) = (rowA t k j).setIfInBounds s (.bool true) := by
  unfold rowA
  rw [wIn_more t k 0 hj, wIn_more t k 1 hj, wIn_more t k 2 hj, h]
  match s, hs with
  | 0, _ => simp
  | 1, _ => simp
  | 2, _ => simp
theorem shard_range (s : ByteArray) {k : Nat} (h1 : 1 ≤ k) : 0 ≤ shardK s (k : Int) ∧ shardK s (k : Int) < (k : Int) := by
  unfold shardK
  rw [if_neg (by omega)]
  exact ⟨Int.emod_nonneg _ (by omega), Int.emod_lt_of_pos _ (by omega)⟩
theorem touch_no (t : TxT) {k : Nat} (h1 : 1 ≤ k) {s : Int} (hs : s < 0 ∨ (k : Int) ≤ s) : touchT t s k = false := by
  have h : ∀ x : ByteArray, (shardK x (k : Int) == s) = false := fun x => beq_no (by have := shard_range x h1; omega)
  unfold touchT
  simp [h]
theorem rowA_at (t : TxT) (k : Int) {z : Nat} (hz : z < 3) : (rowA t k t.writes.length)[z]? = some (.bool (touchT t (z : Int) k)) := by
  unfold rowA rIn wIn touchT
  rw [List.take_length, List.take_length]
  match z, hz with
  | 0, _ => rfl
  | 1, _ => rfl
  | 2, _ => rfl
theorem rowR_at (t : TxT) (k : Int) {z : Nat} (hz : z < 3) : (rowR t k t.reads.length)[z]? = some (.bool (readIn t k z)) := by
  unfold rowR rIn readIn
  rw [List.take_length]
  match z, hz with
  | 0, _ => rfl
  | 1, _ => rfl
  | 2, _ => rfl
theorem readsTo_front (t : TxT) (k : Int) (z : Nat) : ∀ d, ∃ r, readsTo t k (z + d) = readsTo t k z ++ r
  | 0 => ⟨[], by simp⟩
  | d + 1 => by
    obtain ⟨r, h⟩ := readsTo_front t k z d
    have := readsTo_more t k (z + d)
    rw [← Nat.add_assoc, this, h]
    split
    · exact ⟨r ++ [z + d], by simp⟩
    · exact ⟨r, rfl⟩
theorem readsOf_at (t : TxT) {k z : Nat} (hk : 1 ≤ k) (hz : z < k) (h : readIn t k z = true) : ∃ hl : (readsTo t k z).length < (readsOf t k).length, (readsOf t k)[(readsTo t k z).length] = z := by
  have e : readsOf t k = readsTo t k k := by unfold readsOf; congr 1; omega
  obtain ⟨r, hr⟩ := readsTo_front t k (z + 1) (k - (z + 1))
  rw [show z + 1 + (k - (z + 1)) = k by omega, readsTo_more, if_pos h] at hr
  have e2 := e.trans hr
  refine ⟨by rw [e2]; simp, ?_⟩
  have : (readsOf t k)[(readsTo t k z).length]? = some z := by rw [e2]; simp
  exact (List.getElem?_eq_some_iff.1 this).2
theorem NatsAt.at2 {w : World} {A : Option Addr} {n c : Nat} {l : List Nat} (h : NatsAt w (.slice A n c) l) {j : Nat} (hj : j < l.length) : ∃ ad, A = some ad ∧ w.cell? (ad.add j) = some (.int .i64 (l[j] : Int)) := by
  obtain ⟨A', c', e, h2⟩ := h
  simp at e
  obtain ⟨rfl, _, rfl⟩ := e
  exact h2 j hj
theorem size_reads : ∀ w, (sizeOf (Try.prog.elem 25)).run Try.prog w = .ok 4 w := fun w => by kernel_rfl
theorem field_key (w : World) (p : Addr) : (Instr.fieldAt 39 (.pointer (some p)) 0).run Try.prog w = .ok (.pointer (some p)) w := by
  have h : (Instr.fieldAt 39 (.pointer (some p)) 0).run Try.prog w = .ok (.pointer (some (p.add 0))) w := by rfl
  rw [h, add_zero_]
theorem at_three (w : World) (g s : Nat) (hs : s < 3) : (Instr.indexAt 43 (.pointer (some ⟨g, 0, none⟩)) (.int .i64 (s : Int))).run Try.prog w = .ok (.pointer (some ⟨g, s, none⟩)) w := by
  match s, hs with
  | 0, _ => rfl
  | 1, _ => rfl
  | 2, _ => rfl

set_option maxRecDepth 100000 in
set_option maxHeartbeats 1000000 in
theorem walk_TxnTouch (w : World) (A : Option Addr) (n c : Nat) (l : List UInt8) (hn : n = l.length) (hby : By w A c l) (q : Int) (hq : (Lit.int .u8 q).wf = true) :
    Calls Try.prog 5 #[.slice A n c, .int .u8 q] w fun e w' => e = .returned (.bool true) ∧ Gr w w' := by
  subst hn
  have hq2 : 0 ≤ q ∧ q ≤ 255 := by simpa [Lit.wf, IntKind.min, IntKind.max, IntKind.signed, IntKind.bits] using hq
  clear hq
  have HBY := hide hby
  clear hby
  by_cases h1 : (30 : Int) < (l.length : Int)
  · go_enter Try.func5, Try.ntmps5
    go_wp2_with fail
    refine (begun_ok _).mono ?_
    rintro e w1 ⟨rfl, hg1⟩
    go_wp2_with fail
    go_ret
    exact ⟨rfl, hg1⟩
  go_enter Try.func5, Try.ntmps5
  go_wp2_with fail
  refine (begun_ok _).mono ?_
  rintro e w1 ⟨rfl, hg1⟩
  obtain ⟨k, hk, hk1, hk3⟩ : ∃ k : Nat, q % 3 = (k : Int) - 1 ∧ 1 ≤ k ∧ k ≤ 3 := ⟨(q % 3).toNat + 1, by omega, by omega, by omega⟩
  have hkk : (1 : Int) + ((k : Int) - 1) = (k : Int) := by omega
  go_wp2_with fail
  refine (Made_ok A c l w1 (HBY.out.gr hg1)).mono ?_
  rintro e w2 ⟨rfl, hg2, hpk⟩
  go_wp2_with fail
  refine (Txn_ok w1.heap.size A c l 0 5 (by decide) (by omega) w2 hpk).mono ?_
  intro e w3 hp
  obtain ⟨ta, tb, tA, tn, tc, tB, tm, td, rfl, htx, hb3⟩ := hp.made
  have hmay := txP_may l 0 5
  have hlim := txP_lim l 0 5 (by decide)
  clear hp hpk
  generalize (txP l 0 5).1 = t at htx hmay hlim
  have hg3 : Gr w w3 := (hg1.trans hg2).fresh hb3 hg1.size
  clear hg1 hg2 hb3
  have HTX := hide htx
  have HLIM := hide hlim
  have hrn := (mayT_parts hmay).2.2.2.2.2.2.1
  have hwn := (mayT_parts hmay).2.2.2.2.2.2.2.1
  clear htx hlim hmay
  go_wp2_with fail
  obtain ⟨hR, hW⟩ := HTX.out.rows_
  obtain rfl := hR.len_
  obtain rfl := hW.len_
  have HR := hide hR
  have HW := hide hW
  have hb : Bl (((w3.alloc (.cells #[.int .i64 ta, .int .i64 tb, .slice tA t.reads.length tc, .slice tB t.writes.length td] 28)).alloc (.cells #[.bool false, .bool false, .bool false] 43)).alloc (.cells #[.bool false, .bool false, .bool false] 43)) w3.heap.size 28 #[.int .i64 ta, .int .i64 tb, .slice tA t.reads.length tc, .slice tB t.writes.length td] ∧
      Bl (((w3.alloc (.cells #[.int .i64 ta, .int .i64 tb, .slice tA t.reads.length tc, .slice tB t.writes.length td] 28)).alloc (.cells #[.bool false, .bool false, .bool false] 43)).alloc (.cells #[.bool false, .bool false, .bool false] 43)) (w3.heap.size + 1) 43 (rowR t k 0) ∧
      Bl (((w3.alloc (.cells #[.int .i64 ta, .int .i64 tb, .slice tA t.reads.length tc, .slice tB t.writes.length td] 28)).alloc (.cells #[.bool false, .bool false, .bool false] 43)).alloc (.cells #[.bool false, .bool false, .bool false] 43)) (w3.heap.size + 1 + 1) 43 (rowR t k 0) := by
    refine ⟨(Bl.new _ _ _).gr (((Gr.refl _).alloc _).alloc _), ?_, ?_⟩
    · have h2 := (Bl.new (w3.alloc (.cells #[.int .i64 ta, .int .i64 tb, .slice tA t.reads.length tc, .slice tB t.writes.length td] 28)) 43 #[.bool false, .bool false, .bool false]).gr ((Gr.refl _).alloc (.cells #[.bool false, .bool false, .bool false] 43))
      rwa [show (w3.alloc (.cells #[.int .i64 ta, .int .i64 tb, .slice tA t.reads.length tc, .slice tB t.writes.length td] 28)).heap.size = w3.heap.size + 1 by simp] at h2
    · have h2 := Bl.new ((w3.alloc (.cells #[.int .i64 ta, .int .i64 tb, .slice tA t.reads.length tc, .slice tB t.writes.length td] 28)).alloc (.cells #[.bool false, .bool false, .bool false] 43)) 43 #[.bool false, .bool false, .bool false]
      rwa [show ((w3.alloc (.cells #[.int .i64 ta, .int .i64 tb, .slice tA t.reads.length tc, .slice tB t.writes.length td] 28)).alloc (.cells #[.bool false, .bool false, .bool false] 43)).heap.size = w3.heap.size + 1 + 1 by simp] at h2
  have hal : Gr w3 (((w3.alloc (.cells #[.int .i64 ta, .int .i64 tb, .slice tA t.reads.length tc, .slice tB t.writes.length td] 28)).alloc (.cells #[.bool false, .bool false, .bool false] 43)).alloc (.cells #[.bool false, .bool false, .bool false] 43)) := (((Gr.refl _).alloc _).alloc _).alloc _
  generalize (((w3.alloc (.cells #[.int .i64 ta, .int .i64 tb, .slice tA t.reads.length tc, .slice tB t.writes.length td] 28)).alloc (.cells #[.bool false, .bool false, .bool false] 43)).alloc (.cells #[.bool false, .bool false, .bool false] 43)) = w4 at hb hal ⊢
  obtain ⟨gT, hgT⟩ : ∃ gT, w3.heap.size = gT := ⟨_, rfl⟩
  rw [hgT] at hb ⊢
  obtain ⟨gA, hgA⟩ : ∃ gA, gT + 1 = gA := ⟨_, rfl⟩
  rw [hgA] at hb ⊢
  obtain ⟨gB, hgB⟩ : ∃ gB, gA + 1 = gB := ⟨_, rfl⟩
  rw [hgB] at hb ⊢
  have HB := hide hb
  clear hb hR hW
  go_loopw [9] (fun i wr => ∃ j : Nat, i = .int .i64 j ∧ j ≤ t.reads.length ∧ Hid (Bl wr gT 28 #[.int .i64 ta, .int .i64 tb, .slice tA t.reads.length tc, .slice tB t.writes.length td] ∧ Bl wr gA 43 (rowR t k j) ∧ Bl wr gB 43 (rowR t k j)) ∧ Gr w3 wr) (fun i _ => t.reads.length - (intOf i).toNat)
  case atStart => exact ⟨0, rfl, by omega, HB, hal⟩
  case round =>
    obtain ⟨j, rfl, hj, hbl, hgr⟩ := hrel
    have a2 : wr.cell? ⟨gT, 2, none⟩ = some (.slice tA t.reads.length tc) := hbl.out.1.cell 2
    by_cases hlt : j < t.reads.length
    · have hlt' : (j : Int) < (t.reads.length : Int) := by omega
      obtain ⟨ad, c', e1, a0, _⟩ := (HR.out.gr hgr).rd hlt
      simp only [Value.slice.injEq, true_and] at e1
      obtain ⟨rfl, rfl⟩ := e1
      have hlx := (HLIM.out.rd _ (List.getElem_mem hlt)).key
      have HC := hide (fun w => RefShard_ok (t.reads[j]'hlt).key (by omega) (k : Int) (by omega) (by omega) w)
      have hin := shard_in (t.reads[j]'hlt).key hk1 hk3
      have HM := hide (fun (s : Nat) (hs : s < 3) (h : shardK (t.reads[j]'hlt).key (k : Int) = (s : Int)) => rowR_more t k hlt hs h)
      obtain ⟨sh, hsh, hs3⟩ : ∃ sh : Nat, shardK (t.reads[j]'hlt).key (k : Int) = (sh : Int) ∧ sh < 3 := by
        rcases hin with h | h | h
        · exact ⟨0, h, by decide⟩
        · exact ⟨1, h, by decide⟩
        · exact ⟨2, h, by decide⟩
      have HMM := hide (HM.out sh hs3 hsh)
      rw [hsh] at HC
      obtain ⟨x, hx⟩ : ∃ x, (t.reads[j]'hlt).key = x := ⟨_, rfl⟩
      rw [hx] at a0 HC
      clear hlx hx hsh HM hin
      have hadl : ad.block < gT := by
        obtain ⟨ad2, _, e2, c2, _⟩ := HR.out.rd hlt
        simp only [Value.slice.injEq, Option.some.injEq, true_and] at e2
        obtain ⟨rfl, _⟩ := e2
        have := World.block_lt_of_cell? w3 _ c2
        rw [add_block] at this
        omega
      obtain ⟨M, hMd⟩ : ∃ M : Nat → Nat → Option Value, M = fun b i => if (b = gA ∨ b = gB) ∧ i = sh then some (.bool true) else none := ⟨_, rfl⟩
      have hMA : M gA sh = some (.bool true) := by rw [hMd]; simp
      have hMB : M gB sh = some (.bool true) := by rw [hMd]; simp
      have hMo : ∀ b, b ≠ gA → b ≠ gB → ∀ i, M b i = none := fun b h1 h2 i => by rw [hMd]; simp [h1, h2]
      have hM1 : ∀ b i z, M b i = some z → i = sh ∧ z = .bool true := fun b i z h => by
        rw [hMd] at h
        simp only [] at h
        split at h
        · rename_i h5
          injection h with h
          exact ⟨h5.2, h.symm⟩
        · cases h
      clear hMd
      have HT := hide (fun w' (h : Flow.Hit M wr.drew w') => h.far (p := ⟨gT, 2, none⟩) a2 (hMo gT (by omega) (by omega)))
      have HX := hide (fun w' (h : Flow.Hit M wr.drew w') => h.far (p := ad.add (j * 4)) a0 (by rw [add_block]; exact hMo _ (by omega) (by omega)))
      have HSA := hide (fun w' (h : Flow.Hit M wr.drew w') => h.some_ (g := gA) (Bl.drewN hbl.out.2.1 1))
      have HSB := hide (fun w' (h : Flow.Hit M wr.drew w') => h.some_ (g := gB) (Bl.drewN hbl.out.2.2 1))
      have hst : ∀ (g : Nat) (cs : Array Value) (w' : World), Bl w' g 43 cs → cs.size = 3 → (Instr.storeAt 4 (.pointer (some ⟨g, sh, none⟩)) (.bool true)).run Try.prog w' = .ok () (w'.setCell ⟨g, sh, none⟩ (.bool true)) := fun g cs w' hb hc => by
        have c1 : w'.cell? ⟨g, sh, none⟩ = some (cs[sh]'(by omega)) := (hb.cell sh).trans (Array.getElem?_eq_getElem _)
        have c2 := hb.frozen sh
        simp [Instr.storeAt, Instr.sureAddr, storeVar, c1, c2, go_sem]
      go_wp2_with fail
      refine Flow.wp_region_flow_kept (R := Flow.Hit M) (Flow.Hit.refl M) Flow.Hit.trans 118 [33, 34, 35, 36, 37, 38, 39, 40, 41, 42, 43, 44, 45, 46, 47, 48, 49, 50] rfl (by kernel_rfl) (by kernel_rfl) (by kernel_rfl) ?_
      refine Flow.val1 (x := .tmp 6) (u := .pointer (some ⟨gT, 0, none⟩)) (.pointer (some ⟨gT, 2, none⟩)) (Flow.Hit.refl M) rfl (by simp [Op.operands]) rfl (fun a w' _ h => by unfold execOp; simp only [h]; rfl) ?_
      refine Flow.val1 (x := .tmp 33) (.slice (some ad) t.reads.length tc) (Flow.Hit.refl M) rfl (by simp [Op.operands]) rfl (fun a w' hh h => by
        unfold execOp
        simp only [h, Sem.run_bind, show (Instr.loadAt 25 (.pointer (some ⟨gT, 2, none⟩))).run Try.prog w' = .ok (.slice (some ad) t.reads.length tc) w' by simp [Instr.loadAt, Instr.sureAddr, loadVar, agg_reads w', HT.out w' hh]]
        rfl) ?_
      refine Flow.move (u := .int .i64 (j : Int)) (Flow.Hit.refl M) (.inl rfl) rfl rfl ?_
      refine Flow.val2 (x := .tmp 34) (y := .tmp 35) (.pointer (some (ad.add (j * 4)))) (Flow.Hit.refl M) rfl (by simp [Op.operands]) (by simp [Op.operands]) rfl rfl (fun a w' _ h h2 => by
        unfold execOp
        simp only [h, h2, Sem.run_bind, run_indexAt_slice w' 25 _ _ _ _ _ Try.underlying25]
        rw [if_pos (by omega), size_reads w']
        simp only [Result.andThen_ok, Int.toNat_natCast]
        rfl) ?_
      refine Flow.val1 (x := .tmp 36) (.pointer (some (ad.add (j * 4)))) (Flow.Hit.refl M) rfl (by simp [Op.operands]) rfl (fun a w' _ h => by
        unfold execOp
        simp only [h, Sem.run_bind, field_key w' (ad.add (j * 4))]
        rfl) ?_
      refine Flow.val1 (x := .tmp 37) (.string x) (Flow.Hit.refl M) rfl (by simp [Op.operands]) rfl (fun a w' hh h => by
        unfold execOp
        simp only [h, Sem.run_bind, show (Instr.loadAt 9 (.pointer (some (ad.add (j * 4))))).run Try.prog w' = .ok (.string x) w' by simp [Instr.loadAt, Instr.sureAddr, loadVar, agg_str w', HX.out w' hh]]
        rfl) ?_
      refine Flow.move (u := .int .i64 (k : Int)) (Flow.Hit.refl M) (.inl rfl) rfl rfl ?_
      refine Flow.call2 (Flow.Hit.refl M) rfl rfl Try.func15 (by kernel_rfl) (by kernel_rfl) rfl rfl HC.out ?_
      refine Flow.val1 (x := .tmp 6) (u := .pointer (some ⟨gT, 0, none⟩)) (.pointer (some ⟨gT, 2, none⟩)) (Flow.Hit.refl M) rfl (by simp [Op.operands]) rfl (fun a w' _ h => by unfold execOp; simp only [h]; rfl) ?_
      refine Flow.val1 (x := .tmp 41) (.slice (some ad) t.reads.length tc) (Flow.Hit.refl M) rfl (by simp [Op.operands]) rfl (fun a w' hh h => by
        unfold execOp
        simp only [h, Sem.run_bind, show (Instr.loadAt 25 (.pointer (some ⟨gT, 2, none⟩))).run Try.prog w' = .ok (.slice (some ad) t.reads.length tc) w' by simp [Instr.loadAt, Instr.sureAddr, loadVar, agg_reads w', HT.out w' hh]]
        rfl) ?_
      refine Flow.move (u := .int .i64 (j : Int)) (Flow.Hit.refl M) (.inl rfl) rfl rfl ?_
      refine Flow.val2 (x := .tmp 42) (y := .tmp 43) (.pointer (some (ad.add (j * 4)))) (Flow.Hit.refl M) rfl (by simp [Op.operands]) (by simp [Op.operands]) rfl rfl (fun a w' _ h h2 => by
        unfold execOp
        simp only [h, h2, Sem.run_bind, run_indexAt_slice w' 25 _ _ _ _ _ Try.underlying25]
        rw [if_pos (by omega), size_reads w']
        simp only [Result.andThen_ok, Int.toNat_natCast]
        rfl) ?_
      refine Flow.val1 (x := .tmp 44) (.pointer (some (ad.add (j * 4)))) (Flow.Hit.refl M) rfl (by simp [Op.operands]) rfl (fun a w' _ h => by
        unfold execOp
        simp only [h, Sem.run_bind, field_key w' (ad.add (j * 4))]
        rfl) ?_
      refine Flow.val1 (x := .tmp 45) (.string x) (Flow.Hit.refl M) rfl (by simp [Op.operands]) rfl (fun a w' hh h => by
        unfold execOp
        simp only [h, Sem.run_bind, show (Instr.loadAt 9 (.pointer (some (ad.add (j * 4))))).run Try.prog w' = .ok (.string x) w' by simp [Instr.loadAt, Instr.sureAddr, loadVar, agg_str w', HX.out w' hh]]
        rfl) ?_
      refine Flow.move (u := .int .i64 (k : Int)) (Flow.Hit.refl M) (.inl rfl) rfl rfl ?_
      refine Flow.call2 (Flow.Hit.refl M) rfl rfl Try.func15 (by kernel_rfl) (by kernel_rfl) rfl rfl HC.out ?_
      refine Flow.val2 (x := .tmp 7) (y := .tmp 40) (u := .pointer (some ⟨gA, 0, none⟩)) (.pointer (some ⟨gA, sh, none⟩)) (Flow.Hit.refl M) rfl (by simp [Op.operands]) (by simp [Op.operands]) rfl rfl (fun a w' _ h h2 => by
        unfold execOp
        simp only [h, h2, Sem.run_bind, at_three w' gA sh hs3]
        rfl) ?_
      refine Flow.store (v := .bool true) (Flow.Laid gA sh (.bool true)) rfl rfl rfl (fun _ => rfl) (Flow.Laid.stays fun z hz => (hM1 _ _ _ hz).2) (fun w' hh => by
        obtain ⟨cs, hb, hc⟩ := HSA.out w' hh
        exact ⟨_, hst gA cs w' hb (by rw [hc]; rfl), Flow.Hit.set hb hMA, cs.setIfInBounds sh (.bool true), _, hb.put sh _, by rw [Array.getElem?_setIfInBounds_self_of_lt (by rw [hc]; exact hs3)]⟩) ?_
      refine Flow.val2 (x := .tmp 8) (y := .tmp 48) (u := .pointer (some ⟨gB, 0, none⟩)) (.pointer (some ⟨gB, sh, none⟩)) (Flow.Hit.refl M) rfl (by simp [Op.operands]) (by simp [Op.operands]) rfl rfl (fun a w' _ h h2 => by
        unfold execOp
        simp only [h, h2, Sem.run_bind, at_three w' gB sh hs3]
        rfl) ?_
      refine Flow.store (v := .bool true) (Flow.Laid gB sh (.bool true)) rfl rfl rfl (fun _ => rfl) (Flow.Laid.stays fun z hz => (hM1 _ _ _ hz).2) (fun w' hh => by
        obtain ⟨cs, hb, hc⟩ := HSB.out w' hh
        exact ⟨_, hst gB cs w' hb (by rw [hc]; rfl), Flow.Hit.set hb hMB, cs.setIfInBounds sh (.bool true), _, hb.put sh _, by rw [Array.getElem?_setIfInBounds_self_of_lt (by rw [hc]; exact hs3)]⟩) ?_
      intro a1 w5 hhit hs1 hd1 hu1 _ hI
      obtain ⟨⟨_, u1, hl1⟩, u2, hl2⟩ := hI
      have hA5 := hhit.row (Bl.drewN hbl.out.2.1 1) (fun i z h => hM1 _ _ _ h) hl1
      have hB5 := hhit.row (Bl.drewN hbl.out.2.2 1) (fun i z h => hM1 _ _ _ h) hl2
      have hT5 : Bl w5 gT 28 #[.int .i64 ta, .int .i64 tb, .slice (some ad) t.reads.length tc, .slice tB t.writes.length td] := (hhit.block gT (Bl.lt hbl.out.1) (hMo gT (by omega) (by omega))).trans hbl.out.1
      have hgr5 : Gr w3 w5 := ⟨hhit.os.trans hgr.os, hhit.tape.trans hgr.tape, hhit.output.trans hgr.output, Nat.le_trans hgr.size hhit.size, fun b hb => (hhit.block b (Nat.lt_of_lt_of_le hb hgr.size) (hMo b (by omega) (by omega))).trans (hgr.block b hb)⟩
      rw [← HMM.out] at hA5 hB5
      have HB5 := hide (And.intro hT5 (And.intro hA5 hB5))
      obtain ⟨X, hX, hlay⟩ := Grow.lay_kept_by _ a1 118 _ hs1 hd1 hu1
      clear hX hu1 hd1 hs1 hhit hl1 hl2 hA5 hB5 hT5 HT HX HSA HSB hst hMA hMB hMo hM1
      subst hlay
      simp only [List.range, List.range.loop, List.map_cons, List.map_nil, List.contains_cons, List.contains_nil, Nat.reduceBEq, Bool.or_false, Bool.or_true, cond_false, cond_true, Array.getD_eq_getD_getElem?, List.getElem?_toArray, List.getElem?_cons_zero, List.getElem?_cons_succ, Option.getD_some]
      go_wp2_with fail
      go_roundw
      case rel => exact ⟨j + 1, by go_num, by omega, HB5, hgr5⟩
      case measure => simp [intOf]; omega
    · obtain rfl : j = t.reads.length := by omega
      have HA2 := hide hbl.out.2.1
      have hb2 : Hid (Bl wr gT 28 #[.int .i64 ta, .int .i64 tb, .slice tA t.reads.length tc, .slice tB t.writes.length td] ∧ Bl wr gA 43 (rowR t k t.reads.length) ∧ Bl wr gB 43 (rowA t k 0)) := ⟨hbl.out.1, hbl.out.2.1, by rw [rowA_zero]; exact hbl.out.2.2⟩
      clear HA2 HB hbl
      go_wp2_with fail
      go_loopw [10] (fun i wz => ∃ j : Nat, i = .int .i64 j ∧ j ≤ t.writes.length ∧ Hid (Bl wz gT 28 #[.int .i64 ta, .int .i64 tb, .slice tA t.reads.length tc, .slice tB t.writes.length td] ∧ Bl wz gA 43 (rowR t k t.reads.length) ∧ Bl wz gB 43 (rowA t k j)) ∧ Gr w3 wz) (fun i _ => t.writes.length - (intOf i).toNat)
      case atStart => exact ⟨0, rfl, by omega, hb2, hgr⟩
      case round =>
        obtain ⟨j, rfl, hj2, hbl, hgr⟩ := hrel
        have a3 : wr.cell? ⟨gT, 3, none⟩ = some (.slice tB t.writes.length td) := hbl.out.1.cell 3
        by_cases hlt2 : j < t.writes.length
        · have hlt' : (j : Int) < (t.writes.length : Int) := by omega
          obtain ⟨ad, c', e1, a0, _⟩ := (HW.out.gr hgr).wr hlt2
          simp only [Value.slice.injEq, true_and] at e1
          obtain ⟨rfl, rfl⟩ := e1
          have hlx := (HLIM.out.wr _ (List.getElem_mem hlt2)).key
          have HC := hide (fun w => RefShard_ok (t.writes[j]'hlt2).key (by omega) (k : Int) (by omega) (by omega) w)
          have hin := shard_in (t.writes[j]'hlt2).key hk1 hk3
          obtain ⟨sh, hsh, hs3⟩ : ∃ sh : Nat, shardK (t.writes[j]'hlt2).key (k : Int) = (sh : Int) ∧ sh < 3 := by
            rcases hin with h | h | h
            · exact ⟨0, h, by decide⟩
            · exact ⟨1, h, by decide⟩
            · exact ⟨2, h, by decide⟩
          have HMM := hide (rowA_more t k hlt2 hs3 hsh)
          rw [hsh] at HC
          obtain ⟨x, hx⟩ : ∃ x, (t.writes[j]'hlt2).key = x := ⟨_, rfl⟩
          rw [hx] at a0 HC
          clear hlx hx hsh hin
          have hs3' : (sh : Int) < 3 := by omega
          obtain ⟨o, ho⟩ : ∃ o, (rowA t k j)[sh]? = some o := ⟨(rowA t k j)[sh]'(by unfold rowA; simpa using hs3), by rw [Array.getElem?_eq_getElem]⟩
          have b1 : wr.cell? ⟨gB, sh, none⟩ = some o := (hbl.out.2.2.cell sh).trans ho
          have f1 := hbl.out.2.2.frozen sh
          clear ho
          go_wp2_with fail
          refine (HC.out _).mono ?_
          rintro e w5 ⟨rfl, rfl⟩
          have hset := But.set (But.refl w5 gB) sh (.bool true)
          have HB5 := hide (show Bl (w5.setCell ⟨gB, sh, none⟩ (.bool true)) gT 28 #[.int .i64 ta, .int .i64 tb, .slice tA t.reads.length tc, .slice (some ad) t.writes.length td] ∧ Bl (w5.setCell ⟨gB, sh, none⟩ (.bool true)) gA 43 (rowR t k t.reads.length) ∧ Bl (w5.setCell ⟨gB, sh, none⟩ (.bool true)) gB 43 (rowA t k (j + 1)) from ⟨hbl.out.1.but_ hset (by omega), hbl.out.2.1.but_ hset (by omega), by rw [HMM.out]; exact hbl.out.2.2.put sh _⟩)
          have hgr5 := hgr.fresh hset (by omega)
          clear hset
          go_wp2_with fail
          go_roundw
          case rel => exact ⟨j + 1, by go_num, by omega, HB5, hgr5⟩
          case measure => simp [intOf]; omega
        · obtain rfl : j = t.writes.length := by omega
          have hbT := hbl.out.1
          obtain ⟨t0, t1, t2, t3⟩ := hbT.four
          have HRD := hide (fun w' (h : Gr w3 w') => TxReads_ok _ t k w' (HTX.out.gr h) HLIM.out ⟨by omega, by omega⟩ (by omega))
          go_wp2_with fail
          refine (HRD.out _ hgr).mono ?_
          rintro e w5 ⟨v5, rfl, hn5, hg5⟩
          obtain ⟨rA, rc, rfl, hcells⟩ := hn5
          have HN := hide (show NatsAt w5 (.slice rA (readsOf t k).length rc) (readsOf t k) from ⟨rA, rc, rfl, hcells⟩)
          have HB5 := hide (show Bl w5 gT 28 #[.int .i64 ta, .int .i64 tb, .slice tA t.reads.length tc, .slice tB t.writes.length td] ∧ Bl w5 gA 43 (rowR t k t.reads.length) ∧ Bl w5 gB 43 (rowA t k t.writes.length) from ⟨hbl.out.1.gr hg5, hbl.out.2.1.gr hg5, hbl.out.2.2.gr hg5⟩)
          have hgr5 := hgr.trans hg5
          clear hcells hbl hbT t0 t1 t2 t3 hg5 a3
          go_wp2_with fail
          have HTO := hide (fun s' (hs' : I64 s') w' (h : Gr w3 w') => TxTouches_ok _ t s' k w' (HTX.out.gr h) HLIM.out hs' ⟨by omega, by omega⟩)
          have hLlen : (readsOf t k).length ≤ 3 := by
            have := readsTo_len t k (max (k : Int) 1).toNat
            unfold readsOf
            omega
          go_loopw [12, 13] (fun av sv wz => ∃ z : Nat, sv = .int .i64 z ∧ z ≤ k ∧ av = .int .i64 ((readsTo t k z).length : Int) ∧ Gr w5 wz) (fun _ sv _ => k - (intOf sv).toNat)
          case atStart => exact ⟨0, rfl, by omega, rfl, Gr.refl _⟩
          case round =>
            obtain ⟨z, rfl, hz, rfl, hgz⟩ := hrel
            have hg3z := hgr5.trans hgz
            have hbT := HB5.out.1.gr hgz
            have hbB := HB5.out.2.2.gr hgz
            have hbA := HB5.out.2.1.gr hgz
            by_cases hlz : z < k
            · have hlz' : (z : Int) < (k : Int) := by omega
              have hz3 : z < 3 := by omega
              have hzl := readsTo_len t k z
              have HBA := hide hbA
              go_wp2_with fail
              refine Grow.wp_region_kept 118 [75, 76, 77, 78, 79, 80, 81, 82] rfl (by kernel_rfl) (by kernel_rfl) (by kernel_rfl) (Grow.Ahead.more (Grow.Ahead.more (Grow.Ahead.more (Grow.Ahead.more (Grow.Ahead.none_ _ _) 6 (Grow.Bx.stays gT 28 #[.int .i64 ta, .int .i64 tb, .slice tA t.reads.length tc, .slice tB t.writes.length td]) ⟨rfl, hbT.drewN 1⟩) 8 (Grow.Bx.stays gB 43 (rowA t k t.writes.length)) ⟨rfl, hbB.drewN 1⟩) 13 (Grow.Is.stays (.int .i64 (z : Int))) rfl) 5 (Grow.Is.stays (.int .i64 (k : Int))) rfl) ?_
              refine Grow.grow_row rfl (.inl ⟨rfl, rfl⟩) rfl Try.underlying28 rfl (by kernel_rfl) ?_
              refine Grow.grow_mv (.inl rfl) (.inl ⟨rfl, rfl⟩) rfl ?_
              refine Grow.grow_mv (.inl rfl) (.inl ⟨rfl, rfl⟩) rfl ?_
              refine Grow.grow_call3 (Φ := Grow.Is (.bool (touchT t z k))) rfl (.inl ⟨rfl, rfl⟩) Try.func17 (by kernel_rfl) (by kernel_rfl) (Ψ := Grow.Is (.agg #[.int .i64 ta, .int .i64 tb, .slice tA t.reads.length tc, .slice tB t.writes.length td])) (Ψ' := Grow.Is (.int .i64 (z : Int))) (Ψ'' := Grow.Is (.int .i64 (k : Int))) rfl rfl rfl (Grow.Is.stays _) (fun v v' v'' w' hg hv hv2 hv3 => by
                have h1 : v = .agg #[.int .i64 ta, .int .i64 tb, .slice tA t.reads.length tc, .slice tB t.writes.length td] := hv
                have h2 : v' = .int .i64 (z : Int) := hv2
                have h3 : v'' = .int .i64 (k : Int) := hv3
                rw [h1, h2, h3]
                exact (HTO.out z ⟨by omega, by omega⟩ w' ((hg3z.drewN 1).trans hg)).mono fun e w'' ⟨he, hg2⟩ => ⟨_, he, hg2, rfl⟩) ?_
              refine Grow.grow_mv (.inl rfl) (.inl ⟨rfl, rfl⟩) rfl ?_
              refine Grow.grow_step (Φ := Grow.Pk (Grow.Is (.bool (touchT t z k)))) (.inl ⟨rfl, rfl⟩) (fun _ => Grow.Pk.stays (Grow.Is.stays _)) (fun a w' _ _ hl => by
                have h12 : a.tmps.getD 8 undef = .pointer (some ⟨gB, 0, none⟩) ∧ Bl w' gB 43 (rowA t k t.writes.length) := hl 8 (by kernel_rfl)
                have h1 : a.eval (.tmp 8) = .pointer (some ⟨gB, 0, none⟩) := h12.1
                have h2 := h12.2
                have h3 : a.eval (.tmp 79) = .int .i64 (z : Int) := hl 79 (by kernel_rfl)
                unfold Grow.does execOp
                simp only [h1, h3, Sem.run_bind, at_three w' gB z hz3]
                exact ⟨Gr.refl w', _, _, rfl, (h2.cell z).trans (rowA_at t k hz3), rfl⟩) ?_
              refine Grow.grow_load_k rfl agg_bool (.inl ⟨rfl, rfl⟩) rfl (Grow.Is.stays _) ?_
              refine Grow.grow_bool_alike rfl Try.underlying4 rfl (.inl ⟨rfl, rfl⟩) rfl rfl ?_
              intro a1 w8 hg8 hs1 hd1 hu1 hk1
              have h82 : a1.tmps.getD 82 undef = .bool false := hk1 82
              obtain ⟨X, hX, hlay⟩ := Grow.lay_kept_by _ a1 118 _ hs1 hd1 hu1
              rw [hX] at h82
              clear hX hu1 hd1 hs1 hk1
              subst hlay
              simp only [List.range, List.range.loop, List.map_cons, List.map_nil, List.contains_cons, List.contains_nil, Nat.reduceBEq, Bool.or_false, Bool.or_true, cond_false, cond_true, Array.getD_eq_getD_getElem?, List.getElem?_toArray, List.getElem?_cons_zero, List.getElem?_cons_succ, Option.getD_some, h82]
              clear h82
              have hgz8 : Gr wr w8 := ((Gr.refl wr).drewN 1).trans hg8
              have hg58 := hgz.trans hgz8
              have b0 : w8.cell? ⟨gA, z, none⟩ = some (.bool (readIn t k z)) := ((HBA.out.gr hgz8).cell z).trans (rowR_at t k hz3)
              have hz3' : (z : Int) < 3 := by omega
              have hmore := hide (readsTo_more t k z)
              cases hrz : readIn t k z
              · rw [hrz] at b0
                have hm := hmore.out
                rw [hrz, if_neg (by simp)] at hm
                have HM := hide hm
                clear hm hmore hrz hg8 hbT hbB hbA
                go_wp2_with fail
                go_roundw
                case rel => exact ⟨z + 1, by go_num, by omega, by rw [HM.out], hg58⟩
                case measure => simp [intOf]; omega
              · rw [hrz] at b0
                have hm := hmore.out
                rw [hrz, if_pos rfl] at hm
                have HM := hide (show ((readsTo t k (z + 1)).length : Int) = ((readsTo t k z).length : Int) + 1 by rw [hm, List.length_append, List.length_singleton]; omega)
                obtain ⟨hl1, hl2⟩ := readsOf_at t hk1 hlz hrz
                obtain ⟨ad, rfl, c1⟩ := (HN.out.gr hg58).at2 hl1
                rw [hl2] at c1
                have hl1' : ((readsTo t k z).length : Int) < ((readsOf t k).length : Int) := by omega
                clear hm hmore hrz hg8 hbT hbB hbA hl2 hl1
                go_wp2_with fail
                go_roundw
                case rel => exact ⟨z + 1, by go_num, by omega, by rw [HM.out], hg58⟩
                case measure => simp [intOf]; omega
            · obtain rfl : z = k := by omega
              have hlen : ((readsTo t z z).length : Int) = ((readsOf t z).length : Int) := by
                unfold readsOf
                rw [show (max (z : Int) 1).toNat = z by omega]
              have hlb : (((readsTo t z z).length : Int) == ((readsOf t z).length : Int)) = true := by rw [beq_iff_eq]; exact hlen
              have T1 := hide (HTO.out z ⟨by omega, by omega⟩)
              have T2 := hide (HTO.out (-1) ⟨by decide, by decide⟩)
              rw [touch_no t hk1 (.inr (Int.le_refl _))] at T1
              rw [touch_no t hk1 (.inl (by decide))] at T2
              obtain ⟨t0, t1, t2, t3⟩ := hbT.four
              have HBT := hide hbT
              clear hbA hbB hbT
              go_wp2_with fail
              refine (T1.out _ hg3z).mono ?_
              rintro e w6 ⟨rfl, hg6⟩
              clear t0 t1 t2 t3
              obtain ⟨t0, t1, t2, t3⟩ := (HBT.out.gr hg6).four
              go_wp2_with fail
              refine (T2.out _ (hg3z.trans hg6)).mono ?_
              rintro e w7 ⟨rfl, hg7⟩
              go_wp2_with fail
              go_ret
              exact ⟨rfl, (hg3.trans (hg3z.trans hg6)).trans hg7⟩

end Go.Proofs.Ytjpdhijhmpdbnaa
