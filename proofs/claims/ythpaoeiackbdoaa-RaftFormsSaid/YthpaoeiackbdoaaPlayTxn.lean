/-
  diwanplay's transactions, by its contract.
-/
import Derived.Test.YthpaoeiackbdoaaPlayKeys
import Derived.Test.YthpaoeiackbdoaaTxnMath
import Derived.Test.YthpaoeiackbdoaaBaseW
import Derived.Test.YthpaoeiackbdoaaBaseM
namespace Go.Proofs.Ythpaoeiackbdoaa
open Go Go.RowKit Go.Proofs.Ythpaoeiackbdoaa.TxnMath
set_option maxRecDepth 100000

def nilS : ByteArray := ⟨#[]⟩
/-- what is read of a key; what is written -/
def rdP (l : List UInt8) (m : Nat) (k : ByteArray) (n : Nat) : RdT × Nat :=
  if 0 < pickV l n m then (if 0 < pickV l (pickN l n) 4 then (⟨k, (pickV l n m : Nat), pickVal l (pickN l (pickN l n)), true⟩, pickN l (pickN l (pickN l n))) else (⟨k, (pickV l n m : Nat), nilS, false⟩, pickN l (pickN l n)))
  else (⟨k, (pickV l n m : Nat), nilS, false⟩, pickN l n)
def wrP (l : List UInt8) (k : ByteArray) (n : Nat) : WrT × Nat :=
  if pickV l (pickN l n) 4 = 0 then (⟨k, nilS, true⟩, pickN l (pickN l n)) else (⟨k, pickVal l n, false⟩, pickN l (pickN l n))
def manyP {α : Type} (one : ByteArray → Nat → α × Nat) : List ByteArray → Nat → List α × Nat
  | [], n => ([], n)
  | k :: ks, n => ((one k n).1 :: (manyP one ks (one k n).2).1, (manyP one ks (one k n).2).2)
/-- so far these -/
def SoFar {α : Type} (one : ByteArray → Nat → α × Nat) (ks : List ByteArray) (n0 k n : Nat) (out : List α) : Prop := out.length = k ∧ manyP one ks n0 = (out ++ (manyP one (ks.drop k) n).1, (manyP one (ks.drop k) n).2)
theorem SoFar.start {α : Type} (one : ByteArray → Nat → α × Nat) (ks : List ByteArray) (n0 : Nat) : SoFar one ks n0 0 n0 [] := ⟨rfl, by simp⟩
theorem SoFar.next {α : Type} {one : ByteArray → Nat → α × Nat} {ks : List ByteArray} {n0 k n : Nat} {out : List α} (h : SoFar one ks n0 k n out) (hk : k < ks.length) : SoFar one ks n0 (k + 1) (one ks[k] n).2 (out ++ [(one ks[k] n).1]) := by
  refine ⟨by rw [List.length_append, List.length_singleton, h.1], ?_⟩
  rw [h.2, List.drop_eq_getElem_cons hk, manyP, List.append_assoc]
  rfl
theorem SoFar.all {α : Type} {one : ByteArray → Nat → α × Nat} {ks : List ByteArray} {n0 n : Nat} {out : List α} (h : SoFar one ks n0 ks.length n out) : manyP one ks n0 = (out, n) := by
  rw [h.2, List.drop_length, manyP, List.append_nil]

def readsP (l : List UInt8) (n m : Nat) : List RdT × Nat := manyP (rdP l m) (pickKeys keysL (pickV l n 64) 3) (pickN l n)
def writesP (l : List UInt8) (n : Nat) : List WrT × Nat := manyP (wrP l) (pickKeys keysL (pickV l n 64) 3) (pickN l n)
def txP (l : List UInt8) (n most : Nat) : TxT × Nat :=
  (⟨1 + (pickV l n 3 : Nat), 1 + (pickV l (pickN l n) 6 : Nat), (readsP l (pickN l (pickN l n)) (max most 1)).1, (writesP l (readsP l (pickN l (pickN l n)) (max most 1)).2).1⟩, (writesP l (readsP l (pickN l (pickN l n)) (max most 1)).2).2)

def rdC (x : RdT) : List Value := [.string x.key, .int .i64 x.ver, .string x.val, .bool x.there]
def wrC (x : WrT) : List Value := [.string x.key, .string x.val, .bool x.gone]
/-- a transaction of the call's own -/
def OwnTx (w : World) (B : Nat) (v : Value) (t : TxT) : Prop :=
  ∃ rv wv_, v = .agg #[.int .i64 t.ses, .int .i64 t.seq, rv, wv_] ∧ OwnR 100 4 w B rv (t.reads.map rdC) ∧ OwnR 103 3 w B wv_ (t.writes.map wrC) ∧ Sep rv wv_
def TxnPost (g : Nat) (A : Option Addr) (c : Nat) (l : List UInt8) (n most : Nat) (w : World) (e : Ending) (w' : World) : Prop :=
  ∃ v, e = .returned v ∧ OwnTx w' w.heap.size v (txP l n most).1 ∧ But w w' g ∧ Pk w' g A c l (txP l n most).2

theorem info_rd : (Try.prog.info? 100).map (fun i => (i.zero, i.size, i.bytes)) = some (some (.agg #[.string ⟨#[]⟩, .int .i64 0, .string ⟨#[]⟩, .bool false]), 4, 48) := by kernel_rfl
theorem info_wr : (Try.prog.info? 103).map (fun i => (i.zero, i.size, i.bytes)) = some (some (.agg #[.string ⟨#[]⟩, .string ⟨#[]⟩, .bool false]), 3, 40) := by kernel_rfl

theorem Gr.but {w w' : World} (h : Gr w w') (g : Nat) : But w w' g := ⟨h.os, h.tape, h.output, h.size, fun k hk _ => h.block k hk⟩
theorem Bl.but_ {w w' : World} {k g : Nat} {t : TypeId} {cs : Array Value} (h : Bl w k t cs) (hb : But w w' g) (hne : k ≠ g) : Bl w' k t cs := (hb.block k h.lt (fun e => hne (by injection e))).trans h

theorem agg_str : ∀ w, (isAgg 9).run Try.prog w = .ok false w := fun w => by kernel_rfl
theorem size_strs : ∀ w, (sizeOf (Try.prog.elem 44)).run Try.prog w = .ok 1 w := fun w => by kernel_rfl
theorem Bl.row {w : World} {g : Nat} {t : TypeId} {old : Array Value} (h : Bl w g t old) (cs : Array Value) : Bl (w.setRow g cs) g t cs := setRow_heap w g old cs t (0, 0) h
theorem But.row (w : World) (g : Nat) (cs : Array Value) : But w (w.setRow g cs) g := ⟨rfl, rfl, rfl, by simp, fun k _ hne => setRow_other w g k cs (fun e => hne (by rw [e]))⟩
theorem But.fresh {a b c : World} {g k : Nat} (h : But a b g) (h' : But b c k) (hk : a.heap.size ≤ k) : But a c g :=
  ⟨h'.os.trans h.os, h'.tape.trans h.tape, h'.output.trans h.output, Nat.le_trans h.size h'.size, fun j hj hne => (h'.block j (Nat.lt_of_lt_of_le hj h.size) (fun e => by injection e with e; omega)).trans (h.block j hj hne)⟩
/-- a block that is new has changed -/
theorem Pk.apart {a b b' : World} {g k : Nat} {A : Option Addr} {c : Nat} {l : List UInt8} {n n' : Nat} (h0 : Pk a g A c l n') (h : Pk b g A c l n) (hb : But b b' k) (hk : a.heap.size ≤ k) : Pk b' g A c l n :=
  ⟨h.bl.but_ hb (by have := h0.bl.lt; omega), ⟨h.by_.rd.but hb (fun hl ad hA => by have := h0.by_.rd.lt hl hA; omega), h.by_.le, h.by_.max, h.by_.nil⟩, h.off, h.le⟩
theorem OwnV.but {e : TypeId} {w w' : World} {B g : Nat} {v : Value} {xs : List Value} (h : OwnV e w B v xs) (hb : But w w' g) (hg : g < B) : OwnV e w' B v xs :=
  World.ownsRow.kept h hb (by
    cases hv : v.ownBlock with
    | none => exact .inl rfl
    | some j => exact .inr fun e2 => by injection e2 with e2; have := (World.ownsRow.lt h j hv).1; omega)
/-- the picks lie below N -/
structure Low (N g : Nat) (A : Option Addr) (l : List UInt8) : Prop where
  at_ : g < N
  by_ : 0 < l.length → ∀ ad, A = some ad → ad.block < N
theorem Pk.low {w : World} {g : Nat} {A : Option Addr} {c : Nat} {l : List UInt8} {n : Nat} (h : Pk w g A c l n) : Low w.heap.size g A l := ⟨h.bl.lt, fun hl _ hA => h.by_.rd.lt hl hA⟩
theorem Pk.high {b b' : World} {N g : Nat} {A : Option Addr} {c : Nat} {l : List UInt8} {n : Nat} (h : Pk b g A c l n) (hl : Low N g A l) (hb : ∀ j, j < N → b'.heap[j]? = b.heap[j]?) : Pk b' g A c l n :=
  ⟨(hb g hl.at_).trans h.bl, ⟨fun j hj => by
    obtain ⟨ad, h1, h2⟩ := h.by_.rd j hj
    refine ⟨ad, h1, ?_⟩
    have e : b'.heap[(ad.add j).block]? = b.heap[(ad.add j).block]? := by rw [add_block]; exact hb _ (hl.by_ (by omega) ad h1)
    rw [World.cell?_of_block e]
    exact h2, h.by_.le, h.by_.max, h.by_.nil⟩, h.off, h.le⟩

/-- in the midst of it: the picks, the result's cell, the transaction, the keys, the row that grows -/
structure Mid (te er : TypeId) (k : Nat) (tt : TypeId) (w wr : World) (g gR gT B : Nat) (A : Option Addr) (c : Nat) (l : List UInt8) (n : Nat) (kv : Value) (ks : List ByteArray) (rv : Value) (rs : List (List Value)) (cs : Array Value) : Prop where
  low : Low w.heap.size g A l
  lt : w.heap.size ≤ gR ∧ gR < gT ∧ gT < B ∧ B ≤ wr.heap.size
  but : But w wr g
  pk : Pk wr g A c l n
  res : Bl wr gR tt #[.int .i64 0, .int .i64 0, .slice none 0 0, .slice none 0 0]
  t : Bl wr gT tt cs
  keys : OwnV te wr B kv (ks.map Value.string)
  row : OwnR er k wr B rv rs
  sep : Sep rv kv
section
variable {te er : TypeId} {k : Nat} {tt : TypeId} {w wr wz : World} {g gR gT B : Nat} {A : Option Addr} {c : Nat} {l : List UInt8} {n n' : Nat} {kv : Value} {ks : List ByteArray} {rv : Value} {rs : List (List Value)} {cs : Array Value}
/-- more was picked, and new memory made -/
theorem Mid.but_ (h : Mid te er k tt w wr g gR gT B A c l n kv ks rv rs cs) (hb : But wr wz g) (hp : Pk wz g A c l n') : Mid te er k tt w wz g gR gT B A c l n' kv ks rv rs cs := by
  have hl := h.lt
  have hg := h.low.at_
  exact ⟨h.low, ⟨hl.1, hl.2.1, hl.2.2.1, Nat.le_trans hl.2.2.2 hb.size⟩, h.but.trans_ hb, hp, h.res.but_ hb (by omega), h.t.but_ hb (by omega), h.keys.but hb (by omega), h.row.but hb (by omega), h.sep⟩
theorem Mid.at_push {w' : World} {v' : Value} (h : Mid te er k tt w wz g gR gT B A c l n kv ks rv rs cs) (hp : Put1 wz w' rv v') : Bl w' gT tt cs := by
  have hl := h.lt
  exact (hp.1.block gT (by omega) fun e => by have := (h.row.lt gT e.symm).1; omega).trans h.t
/-- a row beside it -/
theorem Mid.side {er2 : TypeId} {k2 i : Nat} {w' : World} {v' u : Value} {rs2 : List (List Value)} (h : Mid te er k tt w wz g gR gT B A c l n kv ks rv rs cs) (h2 : OwnR er2 k2 wz B u rs2 ∧ Sep rv u) (hp : Put1 wz w' rv v') : OwnR er2 k2 (w'.setCell ⟨gT, i, none⟩ v') B u rs2 ∧ Sep v' u :=
  ⟨(h2.1.beside hp h2.2).but (But.set (But.refl w' gT) i v') h.lt.2.2.1, hp.sep h2.2 fun k hk => (h2.1.lt k hk).2⟩
/-- one element more -/
theorem Mid.push {w' : World} {v' : Value} {r : List Value} {i : Nat} (h : Mid te er k tt w wz g gR gT B A c l n kv ks rv rs cs) (hp : Put1 wz w' rv v') (ho : OwnR er k w' B v' (rs ++ [r])) :
    Mid te er k tt w (w'.setCell ⟨gT, i, none⟩ v') g gR gT B A c l n kv ks v' (rs ++ [r]) (cs.setIfInBounds i v') := by
  have hl := h.lt
  have hg := h.low.at_
  have hbk : ∀ j, j < B → w'.heap[j]? = wz.heap[j]? := fun j hj => hp.1.block j (by omega) fun e => by have := (h.row.lt j e.symm).1; omega
  have hset := But.set (But.refl w' gT) i v'
  have hbs : ∀ j, j < gT → (w'.setCell ⟨gT, i, none⟩ v').heap[j]? = wz.heap[j]? := fun j hj => (hset.block j (by have := hp.1.size; omega) (fun e => by injection e with e; omega)).trans (hbk j (by omega))
  have ht : Bl w' gT tt cs := (hbk gT (by omega)).trans h.t
  have hk' : OwnV te w' B kv (ks.map Value.string) := h.keys.beside hp h.sep
  refine ⟨h.low, ⟨hl.1, hl.2.1, hl.2.2.1, Nat.le_trans hl.2.2.2 (Nat.le_trans hp.1.size hset.size)⟩, ⟨?_, ?_, ?_, ?_, ?_⟩, h.pk.high h.low (fun j hj => hbs j (by omega)), (hbs gR (by omega)).trans h.res, ht.put i v', hk'.but hset (by omega), ho.but hset (by omega), hp.sep h.sep fun k hk => (World.ownsRow.lt h.keys k hk).2⟩
  · exact hset.os.trans (hp.1.os.trans h.but.os)
  · exact hset.tape.trans (hp.1.tape.trans h.but.tape)
  · exact hset.output.trans (hp.1.output.trans h.but.output)
  · exact Nat.le_trans h.but.size (Nat.le_trans hp.1.size hset.size)
  · exact fun j hj hne => (hbs j (by omega)).trans (h.but.block j hj hne)
end

set_option maxHeartbeats 1000000 in
theorem Txn_ok (g : Nat) (A : Option Addr) (c : Nat) (l : List UInt8) (n most : Nat) (hmost : (most : Int) ≤ 1000000000) (hlen : (l.length : Int) ≤ 1000000000) (w : World) (hp : Pk w g A c l n) :
    Calls Try.prog 42 #[.pointer (some ⟨g, 0, none⟩), .int .i64 (most : Int)] w (TxnPost g A c l n most w) := by
  obtain ⟨i0, hi, hz0, hz1, hz2⟩ := info_parts info_rd
  obtain ⟨i1, gi, gz0, gz1, gz2⟩ := info_parts info_wr
  have hgl := hp.bl.lt
  have hlow := hp.low
  go_enter Try.func42, Try.ntmps42
  go_wp2_with fail
  obtain ⟨W1, hW1⟩ : ∃ W1, w.alloc (.cells #[.int .i64 0, .int .i64 0, .slice none 0 0, .slice none 0 0] 36) = W1 := ⟨_, rfl⟩
  have hbR : Bl W1 w.heap.size 36 #[.int .i64 0, .int .i64 0, .slice none 0 0, .slice none 0 0] := by rw [← hW1]; exact Bl.new _ _ _
  have hgr1 : Gr w W1 := by rw [← hW1]; exact (Gr.refl w).alloc _
  rw [hW1]
  clear hW1
  obtain ⟨gR, hgR⟩ : ∃ gR, w.heap.size = gR := ⟨_, rfl⟩
  have hgRg : gR ≠ g := by omega
  rw [hgR] at hbR ⊢
  refine (Num_ok g A c l n 3 (by decide) (by decide) hlen W1 (hp.gr hgr1)).mono ?_
  rintro e w1 ⟨rfl, hb1, hp1⟩
  have hv1 := pickV_lt l n 3 (by decide)
  obtain ⟨s1, hs1⟩ : ∃ s1, pickV l n 3 = s1 := ⟨_, rfl⟩
  have HS1 := hide hs1
  rw [hs1] at hv1 ⊢
  clear hs1
  go_wp2_with fail
  refine (Num_ok g A c l (pickN l n) 6 (by decide) (by decide) hlen w1 hp1).mono ?_
  rintro e w2 ⟨rfl, hb2, hp2⟩
  have hv2 := pickV_lt l (pickN l n) 6 (by decide)
  obtain ⟨s2, hs2⟩ : ∃ s2, pickV l (pickN l n) 6 = s2 := ⟨_, rfl⟩
  have HS2 := hide hs2
  rw [hs2] at hv2 ⊢
  clear hs2
  obtain ⟨n2, hn2⟩ : ∃ n2, pickN l (pickN l n) = n2 := ⟨_, rfl⟩
  have HN2 := hide hn2
  rw [hn2] at hp2
  clear hn2
  have hB2 : But w w2 g := ((hgr1.but g).trans_ hb1).trans_ hb2
  have hbR2 : Bl w2 gR 36 #[.int .i64 0, .int .i64 0, .slice none 0 0, .slice none 0 0] := (hbR.but_ hb1 hgRg).but_ hb2 hgRg
  clear hb1 hb2 hbR hgr1 hp1 hp
  go_wp2_with fail
  obtain ⟨W3, hW3⟩ : ∃ W3, w2.alloc (.cells #[.int .i64 (1 + (s1 : Int)), .int .i64 (1 + (s2 : Int)), .slice none 0 0, .slice none 0 0] 36) = W3 := ⟨_, rfl⟩
  have hbT3 : Bl W3 w2.heap.size 36 #[.int .i64 (1 + (s1 : Int)), .int .i64 (1 + (s2 : Int)), .slice none 0 0, .slice none 0 0] := by rw [← hW3]; exact Bl.new _ _ _
  have hgr3 : Gr w2 W3 := by rw [← hW3]; exact (Gr.refl w2).alloc _
  rw [hW3]
  clear hW3
  obtain ⟨gT, hgT⟩ : ∃ gT, w2.heap.size = gT := ⟨_, rfl⟩
  have hgTR : gR < gT := by have := hbR2.lt; omega
  have hgTg : gT ≠ g := by omega
  rw [hgT] at hbT3 ⊢
  have hB3 : But w W3 g := hB2.then_gr hgr3 hgl
  have hbR3 := hbR2.gr hgr3
  have hp3 := hp2.gr hgr3
  have hgTl := hbT3.lt
  clear hgr3 hbR2 hp2 hB2
  refine (Keys_ok g A c l n2 3 (by decide) hlen W3 hp3).mono ?_
  rintro e w4 ⟨kv, rfl, hown4, hb4, hp4⟩
  have hB4 : But w w4 g := hB3.trans_ hb4
  have hbR4 := hbR3.but_ hb4 hgRg
  have hbT4 := hbT3.but_ hb4 hgTg
  have hk3 := pickKeys_len keysL (pickV l n2 64) 3
  obtain ⟨ks, hks⟩ : ∃ ks, pickKeys keysL (pickV l n2 64) 3 = ks := ⟨_, rfl⟩
  have HKS := hide hks
  rw [hks] at hown4 hk3
  obtain ⟨n4, hn4⟩ : ∃ n4, pickN l n2 = n4 := ⟨_, rfl⟩
  have HN4 := hide hn4
  rw [hn4] at hp4
  have hWB := hb4.size
  clear hks hn4 hB3 hbR3 hbT3 hp3 hb4
  obtain ⟨mm, hmm⟩ : ∃ mm, max most 1 = mm := ⟨_, rfl⟩
  have hmm0 : 0 < mm := by omega
  have hmm1 : (mm : Int) ≤ 1000000000 := by omega
  have HMM := hide hmm
  clear hmm
  have H0 : Mid 9 100 4 36 w w4 g gR gT W3.heap.size A c l n4 kv ks (.slice none 0 0) [] #[.int .i64 (1 + (s1 : Int)), .int .i64 (1 + (s2 : Int)), .slice none 0 0, .slice none 0 0] := ⟨hlow, ⟨by omega, hgTR, hgTl, hWB⟩, hB4, hp4, hbR4, hbT4, hown4, OwnR.none_ _ _, (Sep.none_ _ _ _).symm⟩
  have HH0 := hide H0
  clear hB4 hp4 hbR4 hbT4 H0
  obtain ⟨kA, kc, rfl, hkc, _⟩ := hown4.is
  rw [List.length_map] at *
  clear hown4
  go_wp2_with fail
  go_loopw [7, 8] (fun i x wr => ∃ (k n' : Nat) (out : List RdT) (rv : Value), i = .int .i64 k ∧ k ≤ ks.length ∧ Hid (Mid 9 100 4 36 w wr g gR gT W3.heap.size A c l n' (.slice kA ks.length kc) ks rv (out.map rdC) #[.int .i64 (1 + (s1 : Int)), .int .i64 (1 + (s2 : Int)), rv, .slice none 0 0]) ∧ Hid (SoFar (rdP l mm) ks n4 k n' out)) (fun i _ _ => ks.length - (intOf i).toNat)
  case atStart => exact ⟨0, n4, [], .slice none 0 0, rfl, by omega, HH0, SoFar.start _ _ _⟩
  case round =>
    obtain ⟨k, n', out, rv, rfl, hk, HM, HS⟩ := hrel
    by_cases hlt : k < ks.length
    · have hlt' : (k : Int) < (ks.length : Int) := by omega
      have hck : ∃ ad, kA = some ad ∧ Mine.Cl ad ks.length kc (ks.map Value.string) (.slice kA ks.length kc) wr.drew (some g) := by
        obtain ⟨A', c', hv', hlc', hc'⟩ := HM.out.keys.is
        simp only [List.length_map] at hv' hc'
        injection hv' with hv1 _ hv3
        subst hv1 hv3
        obtain ⟨ad, rfl, _⟩ := hc' k hlt
        have hl' := World.ownsRow.lt HM.out.keys ad.block rfl
        refine ⟨ad, rfl, rfl, (List.length_map _).symm, fun j u hu => ?_, hl'.2, fun e2 => ?_⟩
        · have hj : j < ks.length := by have := (List.getElem?_eq_some_iff.1 hu).1; rwa [List.length_map] at this
          obtain ⟨ad', h1, h2⟩ := hc' j hj
          injection h1 with h1
          subst h1
          have h3 := (List.getElem?_eq_some_iff.1 hu).2
          rw [h3] at h2
          exact h2
        · injection e2 with e2
          have := hl'.1
          omega
      obtain ⟨ad, rfl, hCl⟩ := hck
      have HCl := hide hCl
      clear hCl
      obtain ⟨key, hkey⟩ : ∃ key, ks[k] = key := ⟨_, rfl⟩
      have hkat : (ks.map Value.string)[k]? = some (.string key) := by rw [List.getElem?_map, List.getElem?_eq_getElem hlt, hkey]; rfl
      have HKA := hide hkat
      have HKY := hide hkey
      have HMX := hide (show IntKind.i64.wrap ((max (most : Int) 1)) = (mm : Int) by rw [IntKind.wrap_i64]; have := HMM.out; omega)
      clear hkat hkey
      go_wp2_with fail
      refine Mine.wp_region_mine_tail 10 81 [27, 28, 29, 30, 31, 32, 33, 34, 35, 8] rfl (by kernel_rfl) (by kernel_rfl) (by kernel_rfl) (by kernel_rfl) (ob0 := some g)
        (Mine.Ahead.more (Mine.Ahead.more (Mine.Ahead.more (Mine.Ahead.more (Mine.Ahead.none_ _ _ _) 0 (Mine.Is.stays (.pointer (some ⟨g, 0, none⟩))) rfl) 1 (Mine.Is.stays (.int .i64 (most : Int))) rfl) 6 (Mine.Cl.stays _ _ _ _) HCl.out) 7 (Mine.Is.stays (.int .i64 (k : Int))) rfl)
        81 (C0 := Mine.At g (fun w => Pk w g A c l n')) (Mine.At.keeps g fun _ _ h hg => h.gr hg) (fun j hj => by injection hj with hj; subst hj; exact HM.out.pk.bl.lt) ⟨rfl, HM.out.pk.drewN 1⟩ ?_
      refine Mine.move (.tmp 6) (.inl rfl) rfl (by decide) rfl (Mine.Cl.stays _ _ _ _) ?_
      refine Mine.move (.tmp 7) (.inl rfl) rfl (by decide) rfl (Mine.Is.stays _) ?_
      refine Mine.index k rfl rfl (by decide) Try.underlying44 size_strs rfl rfl rfl HKA.out ?_
      refine Mine.load rfl rfl (by decide) agg_str rfl ?_
      refine Mine.move (.tmp 0) (.inl rfl) rfl (by decide) rfl (Mine.Is.stays _) ?_
      refine Mine.move (.tmp 1) (.inl rfl) rfl (by decide) rfl (Mine.Is.stays _) ?_
      refine Mine.is2 (x := .tmp 32) (y := .const (.int .i64 1)) (u := .int .i64 (most : Int)) (v := .int .i64 1) (.int .i64 (mm : Int)) rfl (by decide) (by simp [Op.operands, Call.operands]) (by simp [Op.operands, Call.operands]) rfl (fun _ _ => rfl) (fun a w h1 h2 => ?_) ?_
      · unfold execOp
        simp only [resolve, invoke, builtin, Sem.run_bind, Sem.run_pure, Result.andThen_ok, List.map_toArray, List.map_cons, List.map_nil, h1, h2, run_max_int2]
        have := HMM.out
        rw [show (if (1 : Int) > (most : Int) then (1 : Int) else (most : Int)) = (mm : Int) by split <;> omega]
      refine Mine.pick2 (u := .pointer (some ⟨g, 0, none⟩)) (v := .int .i64 (mm : Int)) (z := .int .i64 (pickV l n' mm : Nat)) (I' := fun w => Pk w g A c l (pickN l n')) rfl rfl rfl (by decide) Try.func31 (by kernel_rfl) (by kernel_rfl) rfl rfl (fun _ _ h hg => h.gr hg) (fun w hw => Num_ok g A c l n' mm hmm0 hmm1 hlen w hw) ?_
      refine Mine.is2 (x := .tmp 30) (y := .tmp 34) (u := .string key) (v := .int .i64 (pickV l n' mm : Nat)) (.agg #[.string key, .int .i64 (pickV l n' mm : Nat), .string ⟨#[]⟩, .bool false]) rfl (by decide) (by simp [Op.operands]) (by simp [Op.operands]) rfl rfl (fun a w h1 h2 => ?_) ?_
      · unfold execOp
        simp only [List.map_toArray, List.map_cons, List.map_nil, h1, h2, Sem.run_bind]
        rw [run_build w 100 _ #[.string key, .int .i64 (pickV l n' mm : Nat), .string ⟨#[]⟩, .bool false] (by kernel_rfl)]
        rfl
      refine Mine.alloc (e := 100) (cs := #[.string ⟨#[]⟩, .int .i64 0, .string ⟨#[]⟩, .bool false]) rfl (by decide) (fun a w => ?_) ?_
      · kernel_rfl
      intro a1 w1 ob1 hr1 hwf1 hsz1 hdf1 hun1 hkn1 hat1
      obtain ⟨g8, h8, hg8, hbl8, hne8⟩ := hkn1 8
      have h35 : a1.tmps.getD 35 undef = .agg #[.string key, .int .i64 (pickV l n' mm : Nat), .string ⟨#[]⟩, .bool false] := hkn1 35
      obtain ⟨_, rfl, hpk1⟩ := hat1
      have hbw1 : But wr w1 g := ⟨hr1.gb.os, hr1.gb.tape, hr1.gb.output, hr1.gb.size, hr1.gb.block⟩
      obtain ⟨X, hX, hlay⟩ := Grow.lay_kept_by _ a1 81 _ hsz1 hdf1 hun1
      rw [hX] at h8 h35
      clear hX hun1 hdf1 hsz1 hkn1 hr1 hwf1
      subst hlay
      simp only [List.range, List.range.loop, List.map_cons, List.map_nil, List.contains_cons, List.contains_nil, Nat.reduceBEq, Bool.or_false, Bool.or_true, cond_false, cond_true, Array.getD_eq_getD_getElem?, List.getElem?_toArray, List.getElem?_cons_zero, List.getElem?_cons_succ, Option.getD_some, h8, h35, List.drop_succ_cons, List.drop_zero]
      clear h8 h35
      refine wpList_store_row rfl 100 (.tmp 8) (.tmp 35) rfl g8 #[.string key, .int .i64 (pickV l n' mm : Nat), .string ⟨#[]⟩, .bool false] rfl rfl 100 _ hbl8 (by kernel_rfl) rfl (by kernel_rfl) ?_
      have hg8w : wr.heap.size ≤ g8 := hg8
      have hbl8' : Bl (w1.setRow g8 #[.string key, .int .i64 (pickV l n' mm : Nat), .string ⟨#[]⟩, .bool false]) g8 100 #[.string key, .int .i64 (pickV l n' mm : Nat), .string ⟨#[]⟩, .bool false] := hbl8.row _
      have hbw2 : But wr (w1.setRow g8 #[.string key, .int .i64 (pickV l n' mm : Nat), .string ⟨#[]⟩, .bool false]) g := hbw1.fresh (But.row w1 g8 _) hg8w
      have hpk2 : Pk (w1.setRow g8 #[.string key, .int .i64 (pickV l n' mm : Nat), .string ⟨#[]⟩, .bool false]) g A c l (pickN l n') := HM.out.pk.apart hpk1 (But.row w1 g8 _) hg8w
      obtain ⟨ver, hver⟩ : ∃ ver, pickV l n' mm = ver := ⟨_, rfl⟩
      have hverlt : ver < mm := by rw [← hver]; exact pickV_lt l n' mm hmm0
      have hverI : (ver : Int) ≤ 1000000000 := by omega
      rw [hver] at hbl8' hbw2 hpk2 ⊢
      generalize w1.setRow g8 #[.string key, .int .i64 (ver : Int), .string ⟨#[]⟩, .bool false] = w8 at hbl8' hbw2 hpk2 ⊢
      obtain ⟨n5, hn5⟩ : ∃ n5, pickN l n' = n5 := ⟨_, rfl⟩
      rw [hn5] at hpk2
      have HVER := hide hver
      have HN5 := hide hn5
      have HHI := hide hg8w
      have hg8g : g8 ≠ g := fun e => hne8 (by rw [e])
      have k1 : w8.cell? ⟨g8, 1, none⟩ = some (.int .i64 (ver : Int)) := by rw [hbl8'.cell]; rfl
      have HB8 := hide hbl8'
      have HBW := hide hbw2
      clear hver hn5 hne8 hbw1 hpk1 hbl8 hg8 hg8w hbl8' hbw2
      by_cases hv0 : 0 < ver
      · have d1 : decide ((0 : Int) < (ver : Int)) = true := by rw [decide_eq_true_eq]; omega
        go_wp2_with fail
        refine (Num_ok g A c l n5 4 (by decide) (by decide) hlen w8 hpk2).mono ?_
        rintro e w9 ⟨rfl, hb9, hp9⟩
        have hq4 := pickV_lt l n5 4 (by decide)
        obtain ⟨q, hq⟩ : ∃ q, pickV l n5 4 = q := ⟨_, rfl⟩
        obtain ⟨n6, hn6⟩ : ∃ n6, pickN l n5 = n6 := ⟨_, rfl⟩
        have HQ := hide hq
        have HN6 := hide hn6
        rw [hn6] at hp9
        rw [hq] at hq4 ⊢
        have hB9 : But wr w9 g := HBW.out.trans_ hb9
        have h89 := HB8.out.but_ hb9 hg8g
        have hol := HS.out.1
        have y0 : w9.cell? ⟨g8, 0, none⟩ = some (.string key) := by rw [h89.cell]; rfl
        have y1 : w9.cell? ⟨g8, 1, none⟩ = some (.int .i64 (ver : Int)) := by rw [h89.cell]; rfl
        have y2 : w9.cell? ⟨g8, 2, none⟩ = some (.string ⟨#[]⟩) := by rw [h89.cell]; rfl
        have y3 : w9.cell? ⟨g8, 3, none⟩ = some (.bool false) := by rw [h89.cell]; rfl
        have hmz := HM.out.but_ hB9 hp9
        have H89 := hide h89
        have HBW9 := hide hB9
        have HP9 := hide hp9
        clear hq hn6 hpk2 hb9 hp9 hB9 h89 k1
        by_cases hq0 : 0 < q
        · have d2 : decide ((0 : Int) < (q : Int)) = true := by rw [decide_eq_true_eq]; omega
          have HNX : Hid (SoFar (rdP l mm) ks n4 (k + 1) (pickN l n6) (out ++ [⟨key, (ver : Nat), pickVal l n6, true⟩])) := by
            have := HS.out.next hlt
            rw [HKY.out] at this
            unfold rdP at this
            rw [HVER.out, if_pos hv0, HN5.out, HQ.out, if_pos hq0, HN6.out] at this
            exact this
          clear hmz y0 y1 y2 y3
          go_wp2_with fail
          refine (Val_ok g A c l n6 hlen w9 HP9.out).mono ?_
          rintro e w10 ⟨rfl, hb10, hp10⟩
          obtain ⟨vl, hvl⟩ : ∃ vl, pickVal l n6 = vl := ⟨_, rfl⟩
          rw [hvl] at HNX ⊢
          clear hvl
          have hA := H89.out.but_ hb10 hg8g
          have f2 := hA.frozen 2
          have f3' := hA.frozen 3
          have y2 : w10.cell? ⟨g8, 2, none⟩ = some (.string ⟨#[]⟩) := by rw [hA.cell]; rfl
          have y3 : w10.cell? ⟨g8, 3, none⟩ = some (.bool false) := by rw [hA.cell]; rfl
          have hbs : But w10 ((w10.setCell ⟨g8, 3, none⟩ (.bool true)).setCell ⟨g8, 2, none⟩ (.string vl)) g8 := ((But.refl w10 g8).set 3 _).set 2 _
          have hA2 : Bl ((w10.setCell ⟨g8, 3, none⟩ (.bool true)).setCell ⟨g8, 2, none⟩ (.string vl)) g8 100 #[.string key, .int .i64 (ver : Int), .string vl, .bool true] := (hA.put 3 _).put 2 _
          have hmz := HM.out.but_ ((HBW9.out.trans_ hb10).fresh hbs HHI.out) (HM.out.pk.apart hp10 hbs HHI.out)
          have c5 : ((w10.setCell ⟨g8, 3, none⟩ (.bool true)).setCell ⟨g8, 2, none⟩ (.string vl)).cell? ⟨gT, 2, none⟩ = some rv := by rw [hmz.t.cell]; rfl
          have z0 : ((w10.setCell ⟨g8, 3, none⟩ (.bool true)).setCell ⟨g8, 2, none⟩ (.string vl)).cell? ⟨g8, 0, none⟩ = some (.string key) := by rw [hA2.cell]; rfl
          have z1 : ((w10.setCell ⟨g8, 3, none⟩ (.bool true)).setCell ⟨g8, 2, none⟩ (.string vl)).cell? ⟨g8, 1, none⟩ = some (.int .i64 (ver : Int)) := by rw [hA2.cell]; rfl
          have z2 : ((w10.setCell ⟨g8, 3, none⟩ (.bool true)).setCell ⟨g8, 2, none⟩ (.string vl)).cell? ⟨g8, 2, none⟩ = some (.string vl) := by rw [hA2.cell]; rfl
          have z3 : ((w10.setCell ⟨g8, 3, none⟩ (.bool true)).setCell ⟨g8, 2, none⟩ (.string vl)).cell? ⟨g8, 3, none⟩ = some (.bool true) := by rw [hA2.cell]; rfl
          have HMZ := hide hmz
          clear hmz hA hA2 hbs hb10 hp10
          go_wp2_with (at_builtin; refine wpList_pushR rfl (.tmp 49) (.tmp 51) _ rfl 100 i0 _ 4 48 Try.underlying33 hi hz0 hz1 hz2 rfl (by decide) (cs := #[.string key, .int .i64 (ver : Int), .string vl, .bool true]) rfl (by simp [Value.oneCell']) rfl HMZ.out.row HMZ.out.lt.2.2.2 (congrArg (fun z => Value.slice (some ⟨z, 0, none⟩) 1 1) (show w10.heap.size = ((w10.setCell ⟨g8, 3, none⟩ (.bool true)).setCell ⟨g8, 2, none⟩ (.string vl)).heap.size by simp [World.setCell])) (by rw [List.length_map]; unfold maxLen; omega) (by rw [List.length_map]; omega) ?_; intro v3 w3 ho3 hp3; obtain ⟨vA, vc, hv3, _⟩ := ho3.is; generalize hm3 : List.length _ = m3 at hv3; subst hv3; clear hm3; have hT3 := HMZ.out.at_push hp3; have c3 : w3.cell? ⟨gT, 2, none⟩ = some rv := (by rw [hT3.cell]; rfl); have f3 := hT3.frozen 2; have HM3 := hide (HMZ.out.push (i := 2) hp3 ho3); clear hT3 ho3 hp3)
          go_roundw
          case rel => exact ⟨k + 1, _, out ++ [⟨key, (ver : Nat), vl, true⟩], _, by go_num, by omega, by rw [List.map_append]; exact HM3, HNX⟩
          case measure => simp [intOf]; omega
        · have d2 : decide ((0 : Int) < (q : Int)) = false := by rw [decide_eq_false_iff_not]; omega
          have HNX : Hid (SoFar (rdP l mm) ks n4 (k + 1) n6 (out ++ [⟨key, (ver : Nat), nilS, false⟩])) := by
            have := HS.out.next hlt
            rw [HKY.out] at this
            unfold rdP at this
            rw [HVER.out, if_pos hv0, HN5.out, HQ.out, if_neg hq0, HN6.out] at this
            exact this
          have c5 : w9.cell? ⟨gT, 2, none⟩ = some rv := by rw [hmz.t.cell]; rfl
          have HMZ := hide hmz
          clear hmz
          go_wp2_with (at_builtin; refine wpList_pushR rfl (.tmp 49) (.tmp 51) _ rfl 100 i0 _ 4 48 Try.underlying33 hi hz0 hz1 hz2 rfl (by decide) (cs := #[.string key, .int .i64 (ver : Int), .string ⟨#[]⟩, .bool false]) rfl (by simp [Value.oneCell']) rfl HMZ.out.row HMZ.out.lt.2.2.2 rfl (by rw [List.length_map]; unfold maxLen; omega) (by rw [List.length_map]; omega) ?_; intro v3 w3 ho3 hp3; obtain ⟨vA, vc, hv3, _⟩ := ho3.is; generalize hm3 : List.length _ = m3 at hv3; subst hv3; clear hm3; have hT3 := HMZ.out.at_push hp3; have c3 : w3.cell? ⟨gT, 2, none⟩ = some rv := (by rw [hT3.cell]; rfl); have f3 := hT3.frozen 2; have HM3 := hide (HMZ.out.push (i := 2) hp3 ho3); clear hT3 ho3 hp3)
          go_roundw
          case rel => exact ⟨k + 1, n6, out ++ [⟨key, (ver : Nat), nilS, false⟩], _, by go_num, by omega, by rw [List.map_append]; exact HM3, HNX⟩
          case measure => simp [intOf]; omega
      · obtain rfl : ver = 0 := by omega
        have HNX : Hid (SoFar (rdP l mm) ks n4 (k + 1) n5 (out ++ [⟨key, (0 : Nat), nilS, false⟩])) := by
          have := HS.out.next hlt
          rw [HKY.out] at this
          unfold rdP at this
          rw [HVER.out, if_neg (by omega), HN5.out] at this
          exact this
        have hmz := HM.out.but_ HBW.out hpk2
        have c5 : w8.cell? ⟨gT, 2, none⟩ = some rv := by rw [hmz.t.cell]; rfl
        have x0 : w8.cell? ⟨g8, 0, none⟩ = some (.string key) := by rw [HB8.out.cell]; rfl
        have x2 : w8.cell? ⟨g8, 2, none⟩ = some (.string ⟨#[]⟩) := by rw [HB8.out.cell]; rfl
        have x3 : w8.cell? ⟨g8, 3, none⟩ = some (.bool false) := by rw [HB8.out.cell]; rfl
        have hol := HS.out.1
        have HMZ := hide hmz
        clear hpk2 hmz
        go_wp2_with (at_builtin; refine wpList_pushR rfl (.tmp 49) (.tmp 51) _ rfl 100 i0 _ 4 48 Try.underlying33 hi hz0 hz1 hz2 rfl (by decide) (cs := #[.string key, .int .i64 0, .string ⟨#[]⟩, .bool false]) rfl (by simp [Value.oneCell']) rfl HMZ.out.row HMZ.out.lt.2.2.2 rfl (by rw [List.length_map]; unfold maxLen; omega) (by rw [List.length_map]; omega) ?_; intro v3 w3 ho3 hp3; obtain ⟨vA, vc, hv3, _⟩ := ho3.is; generalize hm3 : List.length _ = m3 at hv3; subst hv3; clear hm3; have hT3 := HMZ.out.at_push hp3; have c3 : w3.cell? ⟨gT, 2, none⟩ = some rv := (by rw [hT3.cell]; rfl); have f3 := hT3.frozen 2; have HM3 := hide (HMZ.out.push (i := 2) hp3 ho3); clear hT3 ho3 hp3)
        go_roundw
        case rel => exact ⟨k + 1, n5, out ++ [⟨key, (0 : Nat), nilS, false⟩], _, by go_num, by omega, by rw [List.map_append]; exact HM3, HNX⟩
        case measure => simp [intOf]; omega
    · obtain rfl : k = ks.length := by omega
      have hall := HS.out.all
      have HRD := hide hall
      have HM1 := HM
      clear HM HS hall HH0
      go_wp2_with fail
      refine (Keys_ok g A c l n' 3 (by decide) hlen wr HM1.out.pk).mono ?_
      rintro e w5 ⟨kv2, rfl, hown5, hb5, hp5⟩
      have hk3' := pickKeys_len keysL (pickV l n' 64) 3
      obtain ⟨js, hjs⟩ : ∃ js, pickKeys keysL (pickV l n' 64) 3 = js := ⟨_, rfl⟩
      have HJS := hide hjs
      rw [hjs] at hown5 hk3'
      obtain ⟨n7, hn7⟩ : ∃ n7, pickN l n' = n7 := ⟨_, rfl⟩
      have HN7 := hide hn7
      rw [hn7] at hp5
      clear hjs hn7
      have HH5 : Hid (Mid 9 103 3 36 w w5 g gR gT W3.heap.size A c l n7 kv2 js (.slice none 0 0) [] #[.int .i64 (1 + (s1 : Int)), .int .i64 (1 + (s2 : Int)), rv, (.slice none 0 0)]) := by
        have h := HM1.out
        have hl := h.lt
        exact ⟨h.low, ⟨hl.1, hl.2.1, hl.2.2.1, Nat.le_trans hl.2.2.2 hb5.size⟩, h.but.trans_ hb5, hp5, h.res.but_ hb5 hgRg, h.t.but_ hb5 hgTg, hown5.base hl.2.2.2, OwnR.none_ _ _, (Sep.none_ _ _ _).symm⟩
      have HS5 : Hid (OwnR 100 4 w5 W3.heap.size rv (out.map rdC) ∧ Sep (.slice none 0 0) rv) := ⟨HM1.out.row.but hb5 (by omega), (Sep.none_ _ _ _).symm⟩
      obtain ⟨jA, jc, rfl, hjc, _⟩ := hown5.is
      rw [List.length_map] at *
      clear hown5 hb5 hp5 HM1
      go_wp2_with fail
      go_loopw [10, 11] (fun i x wr => ∃ (k n' : Nat) (ot : List WrT) (wv : Value), i = .int .i64 k ∧ k ≤ js.length ∧ Hid (Mid 9 103 3 36 w wr g gR gT W3.heap.size A c l n' (.slice jA js.length jc) js wv (ot.map wrC) #[.int .i64 (1 + (s1 : Int)), .int .i64 (1 + (s2 : Int)), rv, wv]) ∧ Hid (SoFar (wrP l) js n7 k n' ot) ∧ Hid (OwnR 100 4 wr W3.heap.size rv (out.map rdC) ∧ Sep wv rv)) (fun i _ _ => js.length - (intOf i).toNat)
      case atStart => exact ⟨0, n7, [], .slice none 0 0, rfl, by omega, HH5, SoFar.start _ _ _, HS5⟩
      case round =>
        obtain ⟨k, n'', ot, wv, rfl, hk, HM, HS, HSD⟩ := hrel
        by_cases hlt : k < js.length
        · have hlt' : (k : Int) < (js.length : Int) := by omega
          have hck : ∃ ad, jA = some ad ∧ Mine.Cl ad js.length jc (js.map Value.string) (.slice jA js.length jc) wr.drew (some g) := by
            obtain ⟨A', c', hv', hlc', hc'⟩ := HM.out.keys.is
            simp only [List.length_map] at hv' hc'
            injection hv' with hv1 _ hv3
            subst hv1 hv3
            obtain ⟨ad, rfl, _⟩ := hc' k hlt
            have hl' := World.ownsRow.lt HM.out.keys ad.block rfl
            refine ⟨ad, rfl, rfl, (List.length_map _).symm, fun j u hu => ?_, hl'.2, fun e2 => ?_⟩
            · have hj : j < js.length := by have := (List.getElem?_eq_some_iff.1 hu).1; rwa [List.length_map] at this
              obtain ⟨ad', h1, h2⟩ := hc' j hj
              injection h1 with h1
              subst h1
              have h3 := (List.getElem?_eq_some_iff.1 hu).2
              rw [h3] at h2
              exact h2
            · injection e2 with e2
              have := hl'.1
              omega
          obtain ⟨ad, rfl, hCl⟩ := hck
          have HCl := hide hCl
          clear hCl
          obtain ⟨key, hkey⟩ : ∃ key, js[k] = key := ⟨_, rfl⟩
          have hkat : (js.map Value.string)[k]? = some (.string key) := by rw [List.getElem?_map, List.getElem?_eq_getElem hlt, hkey]; rfl
          have HKA := hide hkat
          have HKY := hide hkey
          clear hkat hkey
          go_wp2_with fail
          refine Mine.wp_region_mine_tail 8 81 [62, 63, 64, 65, 66, 67, 68, 11] rfl (by kernel_rfl) (by kernel_rfl) (by kernel_rfl) (by kernel_rfl) (ob0 := some g)
            (Mine.Ahead.more (Mine.Ahead.more (Mine.Ahead.more (Mine.Ahead.none_ _ _ _) 0 (Mine.Is.stays (.pointer (some ⟨g, 0, none⟩))) rfl) 9 (Mine.Cl.stays _ _ _ _) HCl.out) 10 (Mine.Is.stays (.int .i64 (k : Int))) rfl)
            81 (C0 := Mine.At g (fun w => Pk w g A c l n'')) (Mine.At.keeps g fun _ _ h hg => h.gr hg) (fun j hj => by injection hj with hj; subst hj; exact HM.out.pk.bl.lt) ⟨rfl, HM.out.pk.drewN 1⟩ ?_
          refine Mine.move (.tmp 9) (.inl rfl) rfl (by decide) rfl (Mine.Cl.stays _ _ _ _) ?_
          refine Mine.move (.tmp 10) (.inl rfl) rfl (by decide) rfl (Mine.Is.stays _) ?_
          refine Mine.index k rfl rfl (by decide) Try.underlying44 size_strs rfl rfl rfl HKA.out ?_
          refine Mine.load rfl rfl (by decide) agg_str rfl ?_
          refine Mine.move (.tmp 0) (.inl rfl) rfl (by decide) rfl (Mine.Is.stays _) ?_
          refine Mine.pick1 (u := .pointer (some ⟨g, 0, none⟩)) (z := .string (pickVal l n'')) (I' := fun w => Pk w g A c l (pickN l n'')) rfl rfl rfl (by decide) Try.func52 (by kernel_rfl) (by kernel_rfl) rfl (fun _ _ h hg => h.gr hg) (fun w hw => Val_ok g A c l n'' hlen w hw) ?_
          refine Mine.is2 (x := .tmp 65) (y := .tmp 67) (u := .string key) (v := .string (pickVal l n'')) (.agg #[.string key, .string (pickVal l n''), .bool false]) rfl (by decide) (by simp [Op.operands]) (by simp [Op.operands]) rfl rfl (fun a w h1 h2 => ?_) ?_
          · unfold execOp
            simp only [List.map_toArray, List.map_cons, List.map_nil, h1, h2, Sem.run_bind]
            rw [run_build w 103 _ #[.string key, .string (pickVal l n''), .bool false] (by kernel_rfl)]
            rfl
          refine Mine.alloc (e := 103) (cs := #[.string ⟨#[]⟩, .string ⟨#[]⟩, .bool false]) rfl (by decide) (fun a w => ?_) ?_
          · kernel_rfl
          intro a1 w1 ob1 hr1 hwf1 hsz1 hdf1 hun1 hkn1 hat1
          obtain ⟨g8, h8, hg8, hbl8, hne8⟩ := hkn1 11
          have h68 : a1.tmps.getD 68 undef = .agg #[.string key, .string (pickVal l n''), .bool false] := hkn1 68
          obtain ⟨_, rfl, hpk1⟩ := hat1
          have hbw1 : But wr w1 g := ⟨hr1.gb.os, hr1.gb.tape, hr1.gb.output, hr1.gb.size, hr1.gb.block⟩
          obtain ⟨X, hX, hlay⟩ := Grow.lay_kept_by _ a1 81 _ hsz1 hdf1 hun1
          rw [hX] at h8 h68
          clear hX hun1 hdf1 hsz1 hkn1 hr1 hwf1
          subst hlay
          simp only [List.range, List.range.loop, List.map_cons, List.map_nil, List.contains_cons, List.contains_nil, Nat.reduceBEq, Bool.or_false, Bool.or_true, cond_false, cond_true, Array.getD_eq_getD_getElem?, List.getElem?_toArray, List.getElem?_cons_zero, List.getElem?_cons_succ, Option.getD_some, h8, h68, List.drop_succ_cons, List.drop_zero]
          clear h8 h68
          refine wpList_store_row rfl 103 (.tmp 11) (.tmp 68) rfl g8 #[.string key, .string (pickVal l n''), .bool false] rfl rfl 103 _ hbl8 (by kernel_rfl) rfl (by kernel_rfl) ?_
          have hg8w : wr.heap.size ≤ g8 := hg8
          obtain ⟨vl, hvl⟩ : ∃ vl, pickVal l n'' = vl := ⟨_, rfl⟩
          rw [hvl]
          have hbl8' : Bl (w1.setRow g8 #[.string key, .string vl, .bool false]) g8 103 #[.string key, .string vl, .bool false] := hbl8.row _
          have hbw2 : But wr (w1.setRow g8 #[.string key, .string vl, .bool false]) g := hbw1.fresh (But.row w1 g8 _) hg8w
          have hpk2 : Pk (w1.setRow g8 #[.string key, .string vl, .bool false]) g A c l (pickN l n'') := HM.out.pk.apart hpk1 (But.row w1 g8 _) hg8w
          generalize w1.setRow g8 #[.string key, .string vl, .bool false] = w8 at hbl8' hbw2 hpk2 ⊢
          obtain ⟨n8, hn8⟩ : ∃ n8, pickN l n'' = n8 := ⟨_, rfl⟩
          rw [hn8] at hpk2
          have HVL := hide hvl
          have HN8 := hide hn8
          have HHI := hide hg8w
          have hg8g : g8 ≠ g := fun e => hne8 (by rw [e])
          have HB8 := hide hbl8'
          have HBW := hide hbw2
          clear hvl hn8 hne8 hbw1 hpk1 hbl8 hg8 hg8w hbl8' hbw2
          go_wp2_with fail
          refine (Num_ok g A c l n8 4 (by decide) (by decide) hlen w8 hpk2).mono ?_
          rintro e w9 ⟨rfl, hb9, hp9⟩
          obtain ⟨q, hq⟩ : ∃ q, pickV l n8 4 = q := ⟨_, rfl⟩
          obtain ⟨n9, hn9⟩ : ∃ n9, pickN l n8 = n9 := ⟨_, rfl⟩
          have HQ := hide hq
          have HN9 := hide hn9
          rw [hn9] at hp9
          rw [hq]
          have hol := HS.out.1
          have hB9 : But wr w9 g := HBW.out.trans_ hb9
          have h89 := HB8.out.but_ hb9 hg8g
          clear hq hn9 hpk2 hb9
          by_cases hq0 : q = 0
          · have HNX : Hid (SoFar (wrP l) js n7 (k + 1) n9 (ot ++ [⟨key, nilS, true⟩])) := by
              have := HS.out.next hlt
              rw [HKY.out] at this
              unfold wrP at this
              rw [HN8.out, HQ.out, if_pos hq0, HN9.out] at this
              exact this
            subst hq0
            have f2 := h89.frozen 2
            have f1 := h89.frozen 1
            have y1 : w9.cell? ⟨g8, 1, none⟩ = some (.string vl) := by rw [h89.cell]; rfl
            have y2 : w9.cell? ⟨g8, 2, none⟩ = some (.bool false) := by rw [h89.cell]; rfl
            have hbs : But w9 ((w9.setCell ⟨g8, 2, none⟩ (.bool true)).setCell ⟨g8, 1, none⟩ (.string ⟨#[]⟩)) g8 := ((But.refl w9 g8).set 2 _).set 1 _
            have hA2 : Bl ((w9.setCell ⟨g8, 2, none⟩ (.bool true)).setCell ⟨g8, 1, none⟩ (.string ⟨#[]⟩)) g8 103 #[.string key, .string ⟨#[]⟩, .bool true] := (h89.put 2 _).put 1 _
            have hbw := hB9.fresh hbs HHI.out
            have hmz := HM.out.but_ hbw (HM.out.pk.apart hp9 hbs HHI.out)
            have HSZ : Hid (OwnR 100 4 ((w9.setCell ⟨g8, 2, none⟩ (.bool true)).setCell ⟨g8, 1, none⟩ (.string ⟨#[]⟩)) W3.heap.size rv (out.map rdC) ∧ Sep wv rv) := ⟨HSD.out.1.but hbw (by omega), HSD.out.2⟩
            have c5 : ((w9.setCell ⟨g8, 2, none⟩ (.bool true)).setCell ⟨g8, 1, none⟩ (.string ⟨#[]⟩)).cell? ⟨gT, 3, none⟩ = some wv := by rw [hmz.t.cell]; rfl
            have z0 : ((w9.setCell ⟨g8, 2, none⟩ (.bool true)).setCell ⟨g8, 1, none⟩ (.string ⟨#[]⟩)).cell? ⟨g8, 0, none⟩ = some (.string key) := by rw [hA2.cell]; rfl
            have z1 : ((w9.setCell ⟨g8, 2, none⟩ (.bool true)).setCell ⟨g8, 1, none⟩ (.string ⟨#[]⟩)).cell? ⟨g8, 1, none⟩ = some (.string ⟨#[]⟩) := by rw [hA2.cell]; rfl
            have z2 : ((w9.setCell ⟨g8, 2, none⟩ (.bool true)).setCell ⟨g8, 1, none⟩ (.string ⟨#[]⟩)).cell? ⟨g8, 2, none⟩ = some (.bool true) := by rw [hA2.cell]; rfl
            have HMZ := hide hmz
            clear hmz hA2 hbs h89 hp9 hbw hB9
            go_wp2_with (at_builtin; refine wpList_pushR rfl (.tmp 75) (.tmp 77) _ rfl 103 i1 _ 3 40 Try.underlying34 gi gz0 gz1 gz2 rfl (by decide) (cs := #[.string key, .string ⟨#[]⟩, .bool true]) rfl (by simp [Value.oneCell']) rfl HMZ.out.row HMZ.out.lt.2.2.2 (congrArg (fun z => Value.slice (some ⟨z, 0, none⟩) 1 1) (show w9.heap.size = ((w9.setCell ⟨g8, 2, none⟩ (.bool true)).setCell ⟨g8, 1, none⟩ (.string ⟨#[]⟩)).heap.size by simp [World.setCell])) (by rw [List.length_map]; unfold maxLen; omega) (by rw [List.length_map]; omega) ?_; intro v3 w3 ho3 hp3; obtain ⟨vA, vc, hv3, _⟩ := ho3.is; generalize hm3 : List.length _ = m3 at hv3; subst hv3; clear hm3; have hT3 := HMZ.out.at_push hp3; have c3 : w3.cell? ⟨gT, 3, none⟩ = some wv := (by rw [hT3.cell]; rfl); have f3 := hT3.frozen 3; have HM3 := hide (HMZ.out.push (i := 3) hp3 ho3); have HS3 := hide (HMZ.out.side (i := 3) HSZ.out hp3); clear hT3 ho3 hp3)
            go_roundw
            case rel => exact ⟨k + 1, n9, ot ++ [⟨key, nilS, true⟩], _, by go_num, by omega, by rw [List.map_append]; exact HM3, HNX, HS3⟩
            case measure => simp [intOf]; omega
          · have d2 : ((q : Int) == 0) = false := by rw [beq_eq_false_iff_ne]; omega
            have HNX : Hid (SoFar (wrP l) js n7 (k + 1) n9 (ot ++ [⟨key, vl, false⟩])) := by
              have := HS.out.next hlt
              rw [HKY.out] at this
              unfold wrP at this
              rw [HN8.out, HQ.out, if_neg hq0, HN9.out, HVL.out] at this
              exact this
            have hmz := HM.out.but_ hB9 hp9
            have HSZ : Hid (OwnR 100 4 w9 W3.heap.size rv (out.map rdC) ∧ Sep wv rv) := ⟨HSD.out.1.but hB9 (by omega), HSD.out.2⟩
            have c5 : w9.cell? ⟨gT, 3, none⟩ = some wv := by rw [hmz.t.cell]; rfl
            have z0 : w9.cell? ⟨g8, 0, none⟩ = some (.string key) := by rw [h89.cell]; rfl
            have z1 : w9.cell? ⟨g8, 1, none⟩ = some (.string vl) := by rw [h89.cell]; rfl
            have z2 : w9.cell? ⟨g8, 2, none⟩ = some (.bool false) := by rw [h89.cell]; rfl
            have HMZ := hide hmz
            clear hmz h89 hp9 hB9
            go_wp2_with (at_builtin; refine wpList_pushR rfl (.tmp 75) (.tmp 77) _ rfl 103 i1 _ 3 40 Try.underlying34 gi gz0 gz1 gz2 rfl (by decide) (cs := #[.string key, .string vl, .bool false]) rfl (by simp [Value.oneCell']) rfl HMZ.out.row HMZ.out.lt.2.2.2 rfl (by rw [List.length_map]; unfold maxLen; omega) (by rw [List.length_map]; omega) ?_; intro v3 w3 ho3 hp3; obtain ⟨vA, vc, hv3, _⟩ := ho3.is; generalize hm3 : List.length _ = m3 at hv3; subst hv3; clear hm3; have hT3 := HMZ.out.at_push hp3; have c3 : w3.cell? ⟨gT, 3, none⟩ = some wv := (by rw [hT3.cell]; rfl); have f3 := hT3.frozen 3; have HM3 := hide (HMZ.out.push (i := 3) hp3 ho3); have HS3 := hide (HMZ.out.side (i := 3) HSZ.out hp3); clear hT3 ho3 hp3)
            go_roundw
            case rel => exact ⟨k + 1, n9, ot ++ [⟨key, vl, false⟩], _, by go_num, by omega, by rw [List.map_append]; exact HM3, HNX, HS3⟩
            case measure => simp [intOf]; omega
        · obtain rfl : k = js.length := by omega
          have HWR := hide HS.out.all
          obtain ⟨rA, rc, hrv, _⟩ := HSD.out.1.is
          obtain ⟨m1, hm1⟩ : ∃ m, (out.map rdC).length = m := ⟨_, rfl⟩
          rw [hm1] at hrv
          subst hrv
          obtain ⟨sA, sc, hwv, _⟩ := HM.out.row.is
          obtain ⟨m2, hm2⟩ : ∃ m, (ot.map wrC).length = m := ⟨_, rfl⟩
          rw [hm2] at hwv
          subst hwv
          clear hm1 hm2
          have hT := HM.out.t
          have hR := HM.out.res
          have t0 : wr.cell? ⟨gT, 0, none⟩ = some (.int .i64 (1 + (s1 : Int))) := by rw [hT.cell]; rfl
          have t1 : wr.cell? ⟨gT, 1, none⟩ = some (.int .i64 (1 + (s2 : Int))) := by rw [hT.cell]; rfl
          have t2 : wr.cell? ⟨gT, 2, none⟩ = some (.slice rA m1 rc) := by rw [hT.cell]; rfl
          have t3 : wr.cell? ⟨gT, 3, none⟩ = some (.slice sA m2 sc) := by rw [hT.cell]; rfl
          have r0 : wr.cell? ⟨gR, 0, none⟩ = some (.int .i64 0) := by rw [hR.cell]; rfl
          have r1 : wr.cell? ⟨gR, 1, none⟩ = some (.int .i64 0) := by rw [hR.cell]; rfl
          have r2 : wr.cell? ⟨gR, 2, none⟩ = some (.slice none 0 0) := by rw [hR.cell]; rfl
          have r3 : wr.cell? ⟨gR, 3, none⟩ = some (.slice none 0 0) := by rw [hR.cell]; rfl
          have fr0 := hR.frozen 0
          have fr1 := hR.frozen 1
          have fr2 := hR.frozen 2
          have fr3 := hR.frozen 3
          clear hT hR
          go_wp2_with fail
          have hpR : Bl ((((wr.setCell ⟨gR, 0, none⟩ (.int .i64 (1 + (s1 : Int)))).setCell ⟨gR, 1, none⟩ (.int .i64 (1 + (s2 : Int)))).setCell ⟨gR, 2, none⟩ (.slice rA m1 rc)).setCell ⟨gR, 3, none⟩ (.slice sA m2 sc)) gR 36 #[.int .i64 (1 + (s1 : Int)), .int .i64 (1 + (s2 : Int)), .slice rA m1 rc, .slice sA m2 sc] := (((HM.out.res.put 0 _).put 1 _).put 2 _).put 3 _
          have hbz : But wr ((((wr.setCell ⟨gR, 0, none⟩ (.int .i64 (1 + (s1 : Int)))).setCell ⟨gR, 1, none⟩ (.int .i64 (1 + (s2 : Int)))).setCell ⟨gR, 2, none⟩ (.slice rA m1 rc)).setCell ⟨gR, 3, none⟩ (.slice sA m2 sc)) gR := ((((But.refl wr gR).set 0 _).set 1 _).set 2 _).set 3 _
          generalize ((((wr.setCell ⟨gR, 0, none⟩ (.int .i64 (1 + (s1 : Int)))).setCell ⟨gR, 1, none⟩ (.int .i64 (1 + (s2 : Int)))).setCell ⟨gR, 2, none⟩ (.slice rA m1 rc)).setCell ⟨gR, 3, none⟩ (.slice sA m2 sc)) = wz at hpR hbz ⊢
          have q0 : wz.cell? ⟨gR, 0, none⟩ = some (.int .i64 (1 + (s1 : Int))) := by rw [hpR.cell]; rfl
          have q1 : wz.cell? ⟨gR, 1, none⟩ = some (.int .i64 (1 + (s2 : Int))) := by rw [hpR.cell]; rfl
          have q2 : wz.cell? ⟨gR, 2, none⟩ = some (.slice rA m1 rc) := by rw [hpR.cell]; rfl
          have q3 : wz.cell? ⟨gR, 3, none⟩ = some (.slice sA m2 sc) := by rw [hpR.cell]; rfl
          have hl := HM.out.lt
          have hlo := HM.out.low.at_
          have htx : txP l n most = (⟨1 + (s1 : Int), 1 + (s2 : Int), out, ot⟩, n'') := by
            unfold txP readsP writesP
            rw [HS1.out, HS2.out, HN2.out, HKS.out, HN4.out, HMM.out, HRD.out]
            dsimp only
            rw [HJS.out, HN7.out, HWR.out]
          have hP : ∃ v, Ending.returned (.agg #[.int .i64 (1 + (s1 : Int)), .int .i64 (1 + (s2 : Int)), .slice rA m1 rc, .slice sA m2 sc]) = Ending.returned v ∧ OwnTx wz w.heap.size v (txP l n most).1 ∧ But w wz g ∧ Pk wz g A c l (txP l n most).2 := by
            rw [htx]
            exact ⟨_, rfl, ⟨_, _, rfl, (HSD.out.1.but hbz (by omega)).base (by omega), (HM.out.row.but hbz (by omega)).base (by omega), HSD.out.2.symm⟩, HM.out.but.fresh hbz hl.1, HM.out.pk.high HM.out.low fun j hj => hbz.block j (by omega) (fun e => by injection e with e; omega)⟩
          have HP := hide hP
          clear hP htx hl hlo hbz
          (try simp only [Exit.inBlock, Exit.then])
          refine bodyPost_ret (results_cell_row rfl _ wz gR 36 #[.int .i64 (1 + (s1 : Int)), .int .i64 (1 + (s2 : Int)), .slice rA m1 rc, .slice sA m2 sc] (0, 0) _ rfl hpR Try.underlying36 rfl (by kernel_rfl)) rfl ?_
          exact HP.out
end Go.Proofs.Ythpaoeiackbdoaa
