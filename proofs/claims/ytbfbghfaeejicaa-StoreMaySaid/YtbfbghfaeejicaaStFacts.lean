/-
  What diwanplay's transactions write; stores that are made of them. No function of the program.
-/
import Derived.Test.YtbfbghfaeejicaaStWrite
import Derived.Test.YtbfbghfaeejicaaStRefTrim
import Derived.Test.YtbfbghfaeejicaaStMay
import Derived.Test.YtbfbghfaeejicaaPlayMay
namespace Go.Proofs.Ytbfbghfaeejicaa
open Go Go.RowKit ChMath KeyMath StMath TxnMath
set_option maxRecDepth 100000

/-- one of the six -/
def KeyIn (k : ByteArray) : Prop := k ∈ keysL
theorem picked_in : ∀ (ks : List ByteArray) (b r : Nat), ∀ k ∈ pickKeys ks b r, k ∈ ks
  | [], b, r, k, h => by simp [pickKeys] at h
  | x :: ks, b, r, k, h => by
    unfold pickKeys at h
    split at h
    · simp at h
    · split at h
      · rcases List.mem_cons.1 h with h | h
        · rw [h]; simp
        · exact List.mem_cons_of_mem _ (picked_in ks _ _ k h)
      · exact List.mem_cons_of_mem _ (picked_in ks _ _ k h)
theorem keyIn_may {k : ByteArray} (h : KeyIn k) : mayK k = true := by
  have : keysL.all mayK = true := by kernel_rfl
  exact List.all_eq_true.1 this k h
theorem keyIn_size {k : ByteArray} (h : KeyIn k) : (k.size : Int) ≤ 2 := by
  have : keysL.all (fun k => decide ((k.size : Int) ≤ 2)) = true := by kernel_rfl
  simpa using List.all_eq_true.1 this k h
theorem empty_text {s : ByteArray} (h : empty s = true) : noText s = true := by
  unfold empty at h
  unfold noText
  rw [beq_iff_eq] at h
  rw [h, ByteArray.toList_eq]
  rfl
theorem wr_may {x : WrT} (h : wrOk x = true) : valuedV ⟨0, x.val, x.gone⟩ = true := by
  unfold wrOk at h
  rw [Bool.and_eq_true] at h
  unfold valuedV
  cases hg : x.gone
  · have h1 := h.1
    simp only [Bool.not_eq_true', decide_eq_false_iff_not] at h1
    simp only [Bool.false_eq_true, if_false, decide_eq_true_eq]
    omega
  · have h2 := h.2
    rw [hg] at h2
    simp only [Bool.true_and, Bool.not_not] at h2
    simp only [if_true]
    exact empty_text h2
theorem tx_writes (l : List UInt8) (n most : Nat) : (∀ x ∈ (txP l n most).1.writes, WrOk KeyIn x) ∧ (txP l n most).1.writes.length ≤ 4 := by
  have hm := txP_may l n most
  unfold mayT at hm
  simp only [Bool.and_eq_true, decide_eq_true_eq] at hm
  refine ⟨fun x hx => ⟨?_, wr_may (List.all_eq_true.1 hm.1.1.1.1.1.1.1.1.2 x hx)⟩, hm.1.1.2⟩
  have hw := manyP_all (fun k n => (wrP_ok l k n).1) (fun k n => (wrP_ok l k n).2) (pickKeys keysL (pickV l (readsP l (pickN l (pickN l n)) (max most 1)).2 64) 3) (pickN l (readsP l (pickN l (pickN l n)) (max most 1)).2)
  have h2 : x.key ∈ (writesP l (readsP l (pickN l (pickN l n)) (max most 1)).2).1.map (·.key) := List.mem_map_of_mem hx
  unfold writesP at h2
  rw [hw.2] at h2
  exact picked_in _ _ _ _ h2

/-- a store that is made, up to this position -/
structure Good (P : Nat) (N : Nat) (s : StT) : Prop where
  ok : CsOk KeyIn P s.chains
  bnd : CsBnd N s.chains
  low : 0 ≤ s.mark
  high : s.mark ≤ P
theorem CsOk.bnd {K : ByteArray → Prop} {M : Int} {cs : List ChT} (h : CsOk K M cs) : ∀ c ∈ cs, VerBnd c.l := fun c hc => by
  have hm := (h.all c hc).may
  have : ∀ (l : List VerT) (e : Int), mayFrom e l = true → VerBnd l := fun l => by
    induction l with
    | nil => exact fun _ _ v hv => by simp at hv
    | cons v r ih =>
      intro e hl u hu
      rw [mayFrom, Bool.and_eq_true, Bool.and_eq_true] at hl
      rcases List.mem_cons.1 hu with rfl | hu
      · have hv := hl.1.2
        unfold valuedV at hv
        split at hv
        · unfold noText at hv
          rw [ByteArray.toList_eq, List.isEmpty_iff] at hv
          have : u.val.size = 0 := by rw [ByteArray.size, ← Array.length_toList, hv]; rfl
          omega
        · simp at hv; omega
      · exact ih _ hl.2 u hu
  exact this c.l 0 hm
theorem Good.big {P N : Nat} {s : StT} (h : Good P N s) : CsBig s.chains := fun c hc => ⟨by have := keyIn_size (h.ok.all c hc).key; omega, CsOk.bnd h.ok c hc⟩
theorem Good.zero : Good 0 0 ⟨[], 0⟩ := ⟨⟨List.Pairwise.nil, fun c hc => by simp at hc⟩, ⟨Nat.le_refl _, fun c hc => by simp at hc⟩, Int.le_refl _, Int.le_refl _⟩
theorem Good.write {P N p : Nat} {s : StT} {ws : List WrT} (h : Good P N s) (hp : P < p) (hw : ∀ x ∈ ws, WrOk KeyIn x) (hl : ws.length ≤ 4) : Good p (N + 4) ⟨writeR p ws s.chains, s.mark⟩ := by
  have h1 := write_adds (K := KeyIn) (M := p) (p := p) (by omega) (by omega) (h.ok.wide (by omega)) hw
  have h2 := CsBnd.write p ws h.bnd
  have hh := h.high
  refine ⟨by show CsOk _ _ (writeR _ _ _); rw [h1.2]; exact h1.1, ?_, h.low, by show s.mark ≤ (p : Int); omega⟩
  show CsBnd _ (writeR _ _ _)
  rw [h1.2]
  exact ⟨by have := h2.1; omega, fun c hc => by have := h2.2 c hc; omega⟩
theorem trimR_eq {K : ByteArray → Prop} {M : Int} {cs : List ChT} (h : CsOk K M cs) (m : Int) : cs.map (trimRC m) = cs.map (trimC m) :=
  List.map_congr_left fun c hc => by unfold trimRC trimC; rw [trim_ref (e := 0) (h.all c hc).may]
theorem trimRS_eq {K : ByteArray → Prop} {M : Int} {s : StT} (h : CsOk K M s.chains) (m : Int) : trimRS s m = trimS s m := by
  unfold trimRS trimS
  rw [trimR_eq h]
theorem CsBnd.trim {N : Nat} {cs : List ChT} (h : CsBnd N cs) (m : Int) : CsBnd N (cs.map (trimC m)) := ⟨by rw [List.length_map]; exact h.1, fun c hc => by
  obtain ⟨d, hd, rfl⟩ := List.mem_map.1 hc
  have := h.2 d hd
  have h2 := trim_len m d.l
  show (trimL m d.l).length ≤ N
  omega⟩
theorem Good.trim {P N : Nat} {s : StT} (h : Good P N s) {m : Int} (hm : m ≤ P) : Good P N (trimRS s m) := by
  rw [trimRS_eq h.ok]
  unfold trimS
  split
  · exact h
  · have := h.low
    exact ⟨h.ok.trim m, h.bnd.trim m, by show 0 ≤ m; omega, hm⟩
theorem Good.wide {P N P' N' : Nat} {s : StT} (h : Good P N s) (hP : P ≤ P') (hN : N ≤ N') : Good P' N' s := ⟨h.ok.wide (by omega), ⟨Nat.le_trans h.bnd.1 hN, fun c hc => Nat.le_trans (h.bnd.2 c hc) hN⟩, h.low, by have := h.high; omega⟩
theorem Good.may {P N : Nat} {s : StT} (h : Good P N s) : mayS s = true := by
  have := ok_may h.ok (fun k hk => keyIn_may hk)
  unfold mayS
  rw [this.1, this.2, decide_eq_true h.low]
  rfl

/-- what changes the picks leaves a store's chains as they are -/
theorem ChnsX.picks {w w' : World} {u : Value} {cs : List ChT} {g : Nat} {t : TypeId} {A : Option Addr} {n c : Nat} {z : Int} (h : ChnsX w u cs) (hb : But w w' g) (hbl : Bl w g t #[.slice A n c, .int .i64 z]) : ChnsX w' u cs := by
  rcases Nat.eq_zero_or_pos cs.length with h0 | h0
  · have : cs = [] := List.eq_nil_of_length_eq_zero h0
    subst this
    obtain ⟨A', c', rfl⟩ := h.is
    exact ChnsX.nil _ _ _
  · refine h.but hb hbl (by simp) fun e => ?_
    obtain ⟨ad, c', p, rfl, hp, _, h1⟩ := h.at_ h0
    have e' : ad.block = g := by injection e
    rw [Nat.zero_mul, add_zero_, e', hbl.cell] at h1
    obtain ⟨A', c'', rfl, _⟩ := hp.is
    generalize ad.off = o at h1
    rcases o with _ | o <;> simp at h1
/-- are there none left? -/
theorem Over_ok (g : Nat) (A : Option Addr) (c : Nat) (l : List UInt8) (n : Nat) (w : World) (hp : Pk w g A c l n) :
    Calls Try.prog 26 #[.pointer (some ⟨g, 0, none⟩)] w fun e w' => (∃ b, e = .returned (.bool b)) ∧ Gr w w' := by
  have k0 : w.cell? ⟨g, 0, none⟩ = some (.slice A l.length c) := hp.bl.cell 0
  have k1 : w.cell? ⟨g, 1, none⟩ = some (.int .i64 n) := hp.bl.cell 1
  go_enter Try.func26, Try.ntmps26
  go_wp2_with fail
  go_quiet (fail)
  go_wp2_with fail
  go_ret
  exact ⟨⟨_, rfl⟩, (Gr.refl _).drewN _⟩
end Go.Proofs.Ytbfbghfaeejicaa

/-
  What the laws of store rest on. No function of the program.
-/
namespace Go.Proofs.Ytbfbghfaeejicaa
open Go Go.RowKit ChMath KeyMath StMath TxnMath
set_option maxRecDepth 100000

theorem u8_nat {a : Int} (h : (Lit.int .u8 a).wf = true) : ∃ k : Nat, a = (k : Int) ∧ k < 256 := by
  have h0 : 0 ≤ a ∧ a ≤ 255 := by simpa [Lit.wf, IntKind.min, IntKind.max, IntKind.signed, IntKind.bits] using h
  exact ⟨a.toNat, by omega, by omega⟩
theorem lastP_add (l : List VerT) (v : VerT) : lastP (addL l v) = max (lastP l) v.pos := by
  unfold addL
  split
  · omega
  · rw [lastP_snoc]; omega
theorem add_same {l : List VerT} {v : VerT} (h : v.pos ≤ lastP l) : addL l v = l := by unfold addL; rw [if_pos h]
theorem find_lo {k : ByteArray} : ∀ l : List ChT, (∀ d ∈ l, d.key ≠ k) → findC k l = []
  | [], _ => rfl
  | d :: r, hd => by rw [findC, if_neg (hd d (by simp)), find_lo r (fun x hx => hd x (by simp [hx]))]
theorem addS_same {k : ByteArray} {v : VerT} (h1 : 1 ≤ v.pos) : ∀ {cs : List ChT}, Rise cs → v.pos ≤ lastP (findC k cs) → addS k v cs = cs
  | [], _, h => by unfold findC at h; exact absurd h (by show ¬ v.pos ≤ 0; omega)
  | c :: r, hr, h => by
    unfold addS
    by_cases hk : c.key = k
    · rw [findC, if_pos hk] at h
      rw [if_pos hk, add_same h]
    · rw [if_neg hk]
      by_cases hl : ltK k c.key = true
      · rw [find_lo (c :: r) (fun d hd => by
          rcases List.mem_cons.1 hd with rfl | hd
          · exact hk
          · exact (lt_ne (lt_trans hl (hr.head d hd))).symm)] at h
        exact absurd h (by show ¬ v.pos ≤ 0; omega)
      · rw [findC, if_neg hk] at h
        rw [if_neg hl, addS_same h1 hr.tail h]
/-- what of this key is written last -/
def wroteK (q : ByteArray) (ws : List WrT) : Bool := ws.any fun x => decide (x.key = q)
theorem write_last {p : Int} (q : ByteArray) : ∀ {ws : List WrT} {cs : List ChT}, Rise cs → lastP (findC q (writeC p ws cs)) = if wroteK q ws then max (lastP (findC q cs)) p else lastP (findC q cs)
  | [], cs, _ => rfl
  | x :: r, cs, h => by
    have e := addC_adds (k := x.key) (v := ⟨p, x.val, x.gone⟩) h
    rw [writeC, write_last q (by rw [e]; exact addS_rise h), e, addS_find h]
    show _ = if (decide (x.key = q) || wroteK q r) then _ else _
    by_cases hq : q = x.key
    · rw [if_pos hq, show decide (x.key = q) = true from decide_eq_true hq.symm, Bool.true_or, if_pos rfl, lastP_add, hq]
      show (if wroteK x.key r = true then max (max (lastP (findC x.key cs)) p) p else max (lastP (findC x.key cs)) p) = _
      split <;> omega
    · rw [if_neg hq, show decide (x.key = q) = false from decide_eq_false (fun e => hq e.symm), Bool.false_or]
theorem write_off {p : Int} (q : ByteArray) : ∀ {ws : List WrT} {cs : List ChT}, Rise cs → wroteK q ws = false → findC q (writeC p ws cs) = findC q cs
  | [], cs, _, _ => rfl
  | x :: r, cs, h, hn => by
    have e := addC_adds (k := x.key) (v := ⟨p, x.val, x.gone⟩) h
    have hn' : (decide (x.key = q) || wroteK q r) = false := hn
    rw [Bool.or_eq_false_iff, decide_eq_false_iff_not] at hn'
    rw [writeC, write_off q (by rw [e]; exact addS_rise h) hn'.2, e, addS_find h, if_neg (fun e => hn'.1 e.symm)]
theorem write_still {p : Int} (hp : 1 ≤ p) : ∀ {ws : List WrT} {cs : List ChT}, Rise cs → (∀ x ∈ ws, p ≤ lastP (findC x.key cs)) → writeC p ws cs = cs
  | [], cs, _, _ => rfl
  | x :: r, cs, h, hw => by
    have e := addC_adds (k := x.key) (v := ⟨p, x.val, x.gone⟩) h
    rw [writeC, e, addS_same hp h (hw x (by simp))]
    exact write_still hp h (fun y hy => hw y (by simp [hy]))
/-- to write again changes nothing -/
theorem write_twice {p : Int} (hp : 1 ≤ p) {ws : List WrT} {cs : List ChT} (h : Rise cs) : writeC p ws (writeC p ws cs) = writeC p ws cs :=
  write_still hp (write_rise h) fun x hx => by
    rw [write_last _ h, if_pos (by unfold wroteK; rw [List.any_eq_true]; exact ⟨x, hx, decide_eq_true rfl⟩)]
    omega
theorem last_le {K : ByteArray → Prop} {M : Int} {cs : List ChT} (h : CsOk K M cs) (hM : 0 ≤ M) (k : ByteArray) : lastP (findC k cs) ≤ M := by
  have hr := h.all
  clear h
  induction cs with
  | nil => exact hM
  | cons c r ih =>
    unfold findC
    split
    · have h2 := (hr c (by simp))
      rw [lastP_at h2.ne]
      exact h2.pos _ (List.getElem_mem _)
    · exact ih (fun d hd => hr d (by simp [hd]))
theorem wrote_take {q : ByteArray} {ws : List WrT} {k : Nat} (h : k < ws.length) : wroteK q (ws.take (k + 1)) = (wroteK q (ws.take k) || decide (ws[k].key = q)) := by
  unfold wroteK
  rw [List.take_succ_eq_append_getElem h, List.any_append]
  simp
end Go.Proofs.Ytbfbghfaeejicaa
