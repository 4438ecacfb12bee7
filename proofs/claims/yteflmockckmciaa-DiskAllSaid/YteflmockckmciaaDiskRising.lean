/-
  The names of a map of texts, rising.
-/
import Derived.Test.YteflmockckmciaaMapEnt
import Derived.Test.YteflmockckmciaaMineV
import Derived.Test.YteflmockckmciaaDiskMem
namespace Go.Proofs.Yteflmockckmciaa.DiskRising
open Go Go.RowKit Go.Proofs.Yteflmockckmciaa Go.Proofs.Yteflmockckmciaa.MapS
set_option maxRecDepth 100000

/-- the keys as values -/
def keyV {α : Type} (es : KV α) : List Value := es.map fun p => .string (bs p.1)
/-- those whose turn has come -/
def cameE {α : Type} (es : KV α) (left : List UInt8 → Bool) : KV α := es.filter fun p => !left p.1
theorem came_ris {α : Type} {es : KV α} (h : Ris es) (left : List UInt8 → Bool) : Ris (cameE es left) := h.filter _
theorem came_len {α : Type} (es : KV α) (left : List UInt8 → Bool) : (cameE es left).length ≤ es.length := List.length_filter_le _ _
theorem came_all {α : Type} {es : KV α} {left : List UInt8 → Bool} (h : ∀ s, left s = false) : cameE es left = es := by
  unfold cameE
  rw [List.filter_eq_self]
  intro p _
  rw [h]
  rfl
theorem came_start {α : Type} (es : KV α) (left : List UInt8 → Bool) (h : ∀ p ∈ es, left p.1 = true) : cameE es left = [] := by
  unfold cameE
  rw [List.filter_eq_nil_iff]
  intro p hp
  rw [h p hp]
  simp
theorem came_next {α : Type} {es : KV α} (h : Ris es) (left : List UInt8 → Bool) {s : List UInt8} {v : α} (hm : (s, v) ∈ es) (hl : left s = true) : cameE es (fun x => left x && !(x == s)) = insE (s, v) (cameE es left) := by
  refine ris_ext (came_ris h _) (insE_ris (came_ris h _) fun p hp e => ?_) fun p => ?_
  · have := (List.mem_filter.1 hp).2
    simp [show p.1 = s from e, hl] at this
  · rw [mem_insE]
    unfold cameE
    simp only [List.mem_filter]
    constructor
    · rintro ⟨h1, h2⟩
      by_cases e : p.1 = s
      · refine .inl ?_
        have h3 := (mem_getE h).2 h1
        have h4 := (mem_getE h).2 hm
        rw [show p.1 = s from e, h4] at h3
        injection h3 with h3
        exact Prod.ext e h3.symm
      · refine .inr ⟨h1, ?_⟩
        simpa [e] using h2
    · rintro (rfl | ⟨h1, h2⟩)
      · exact ⟨hm, by simp⟩
      · refine ⟨h1, ?_⟩
        have h3 : left p.1 = false := by simpa using h2
        simp [h3]
/-- where it goes -/
theorem insE_at {α : Type} {x : List UInt8 × α} : ∀ {es : KV α} {i : Nat}, Ris es → (∀ p ∈ es, p.1 ≠ x.1) → i ≤ es.length → (∀ j (hj : j < es.length), j < i → bytesBefore es[j].1 x.1 = true) → (∀ hi : i < es.length, bytesBefore es[i].1 x.1 = false) → insE x es = es.take i ++ x :: es.drop i
  | [], i, _, _, hi, _, _ => by
    have : i = 0 := by simpa using hi
    subst this
    rfl
  | y :: r, 0, _, hn, _, _, h0 => by
    have h1 := h0 (by simp)
    simp only [List.getElem_cons_zero] at h1
    have h2 : bytesBefore x.1 y.1 = true := by
      rcases WideAt.bytes_total x.1 y.1 (hn y (by simp)).symm with h' | h'
      · exact h'
      · rw [h1] at h'; cases h'
    simp [insE, h2]
  | y :: r, i + 1, hr, hn, hi, hb, h0 => by
    obtain ⟨_, hr2⟩ := List.pairwise_cons.1 hr
    have h1 := hb 0 (by simp) (by omega)
    simp only [List.getElem_cons_zero] at h1
    have h2 : bytesBefore x.1 y.1 = false := by
      cases h : bytesBefore x.1 y.1 with
      | false => rfl
      | true =>
        have := WideShapes.bytes_trans _ _ _ h h1
        rw [WideAt.bytes_irrefl] at this
        cases this
    have ih := insE_at (x := x) (i := i) hr2 (fun p hp => hn p (List.mem_cons_of_mem _ hp)) (by simpa using hi) (fun j hj hji => hb (j + 1) (by simpa using hj) (by omega)) (fun hi2 => h0 (by simpa using hi2))
    simp [insE, h2, ih]
theorem keyV_at {α : Type} {es : KV α} {i : Nat} {x : List UInt8 × α} : keyV (es.take i ++ x :: es.drop i) = (keyV es).take i ++ [.string (bs x.1)] ++ (keyV es).drop i := by
  simp [keyV, List.map_take, List.map_drop]
theorem keyV_one {α : Type} (es : KV α) : ∀ u ∈ keyV es, u.oneCell' = true := by
  intro u hu
  obtain ⟨p, _, rfl⟩ := List.mem_map.1 hu
  rfl
theorem keyV_len {α : Type} (es : KV α) : (keyV es).length = es.length := by simp [keyV]
theorem keyV_get {α : Type} (es : KV α) {i : Nat} (h : i < (keyV es).length) : (keyV es)[i] = .string (bs (es[i]'(by simpa [keyV] using h)).1) := by simp [keyV]

theorem less_before : ∀ a b : List UInt8, Op.bytesLess a b = bytesBefore a b
  | [], [] => rfl
  | [], _ :: _ => rfl
  | _ :: _, [] => rfl
  | a :: x, b :: y => by simp only [Op.bytesLess, bytesBefore, less_before x y]
theorem less_s (a b : ByteArray) : Op.bytesLess a.toList b.toList = bytesBefore a.data.toList b.data.toList := by rw [ByteArray.toList_eq, ByteArray.toList_eq, less_before]
theorem own_base {e : TypeId} {w : World} {B B' : Nat} {v : Value} {xs : List Value} (h : OwnV e w B v xs) (hB : B' ≤ B) : OwnV e w B' v xs := ⟨h.1, by
  rcases h.2 with h2 | ⟨g, cap, cur, hv, hb, r⟩
  · exact .inl h2
  · exact .inr ⟨g, cap, cur, hv, Nat.le_trans hB hb, r⟩⟩
theorem lit_str (w : World) (s : ByteArray) : (Instr.buildSlice 32 1 #[(0, .string s)]).run Try.prog w = .ok (.slice (some ⟨w.heap.size, 0, none⟩) 1 1) (w.alloc (.cells #[.string s] 9)) := by kernel_rfl
theorem info_str : (Try.prog.info? 9).map (fun i => (i.zero, i.size, i.bytes)) = some (some (.string ⟨#[]⟩), 1, 16) := by kernel_rfl
theorem OwnV.only' {e : TypeId} {w w' : World} {B : Nat} {v : Value} {xs : List Value} (h : OwnV e w B v xs) {r : Nat} (hg : w.grownBy w' (some r)) (hv : ∀ k, v.ownBlock = some k → k ≠ r) : OwnV e w' B v xs :=
  OwnV.only h (Only.of_row (S := onB r) hg fun k hk => by injection hk with hk; exact hk.symm) fun k hk e => hv k hk e

set_option maxHeartbeats 1000000 in
theorem rising_ok (w : World) (b : Nat) (es : KV ByteArray) (h : MapAt Try.prog 9 w b (es.map fun p => (p.1, .string p.2))) (hn : es.length ≤ 1000000) :
    Calls Try.prog 9 #[.map (some b)] w fun e w' => ∃ v, e = .returned v ∧ OwnV 9 w' w.heap.size v (keyV es) ∧ Gr w w' := by
  have H := hide h
  obtain ⟨i0, hi, hz0, hz1, hz2⟩ := info_parts info_str
  clear h
  go_enter Try.func9, Try.ntmps9
  go_wp2_with (at_range; refine wpList_range_map rfl (.tmp 6) 26 rfl 9 9 Try.underlying9 Try.underlying26 rfl H.out ?_)
  intro w2 hrng hg2 hsz2
  have HR := hide hrng
  have HG := hide hg2
  have HSZ := hide hsz2
  clear hrng hg2 hsz2
  go_wp2_with fail
  go_loopw [3] (fun o wr => ∃ left cnt, Hid (Rng Try.prog 9 wr b w.heap.size (es.map fun p => (p.1, .string p.2)) left cnt) ∧ Hid (OwnV 9 wr w.heap.size o (keyV (cameE es left))) ∧ Hid (∀ k, o.ownBlock = some k → k ≠ w.heap.size) ∧ Hid (Gr w wr)) (fun _ wr => wr.rangeLeft b w.heap.size)
  case atStart =>
    refine ⟨_, _, HR, hide ?_, hide (fun k hk => by cases hk), HG⟩
    rw [came_start es]
    · exact OwnV.none_ _ _
    · intro p hp
      have := (mem_getE (H.out.2)).2 (List.mem_map.2 ⟨p, hp, rfl⟩)
      rw [this]
      rfl
  case round =>
    obtain ⟨left, cnt, hrng, hown, hnr, hgr⟩ := hrel
    have HCNT := hide hrng.out.left_eq
    have HI : Hid (∀ p ∈ es.map fun p => (p.1, Value.string p.2), ∃ c, p.2 = Value.string c) := hide fun p hp => by
      obtain ⟨q, _, rfl⟩ := List.mem_map.1 hp
      exact ⟨q.2, rfl⟩
    go_wp2_with (at_next; refine wpList_next_map rfl (.tmp 7) rfl 9 Try.underlying9 w.heap.size Value.string HI.out rfl hrng.out ?_ ?_)
    · intro hl0
      have HL := hide hl0
      clear hl0
      go_wp2_with fail
      go_ret
      have h1 := hown.out
      rw [came_all HL.out] at h1
      exact ⟨_, rfl, h1, hgr.out⟩
    · intro s v w3 cnt3 hs hls hget hrng3 hlt hg3 hsz3 hen
      have HLS := hide hls
      have HGET := hide hget
      have HR3 := hide hrng3
      have HLT := hide hlt
      have HG3 := hide (show Gr w w3 from ⟨hg3.os.trans hgr.out.os, hg3.tape.trans hgr.out.tape, hg3.output.trans hgr.out.output, Nat.le_trans hgr.out.size hg3.size, fun i hi => (hg3.block i (Nat.lt_of_lt_of_le hi hgr.out.size) (fun e => by injection e with e; omega)).trans (hgr.out.block i hi)⟩)
      have ho3 := OwnV.only' hown.out hg3 hnr.out
      have hll := Nat.le_trans (came_len es left) hn
      have hris := came_ris (Ris.of_map (fun s => Value.string s) H.out.2) left
      have hnx := came_next (Ris.of_map (fun s => Value.string s) H.out.2) left (s := s.data.toList) (v := v) ((mem_getE (Ris.of_map (fun s => Value.string s) H.out.2)).1 (by
        have := HGET.out
        rw [getE_map] at this
        cases hq : getE es s.data.toList with
        | none => rw [hq] at this; cases this
        | some y => rw [hq] at this; injection this with this; injection this with this; rw [this])) hls
      have hno : ∀ p ∈ cameE es left, p.1 ≠ s.data.toList := fun p hp e => by
        have := (List.mem_filter.1 hp).2
        simp [e, HLS.out] at this
      have HNX := hide hnx
      have HNO := hide hno
      have HRIS := hide hris
      obtain ⟨L, hL⟩ : ∃ L, cameE es left = L := ⟨_, rfl⟩
      rw [hL] at ho3 hll HNX HNO HRIS
      clear hL hnx hno hris
      obtain ⟨A, c, ho, hac, hcell⟩ := ho3.is
      rw [keyV_len] at ho hac
      subst ho
      have HO3 := hide ho3
      have HC := hide hcell
      clear hls hget hrng3 hlt hg3 ho3 hcell hown hrng
      go_wp2_with fail
      go_loopw [5] (fun i wr => ∃ n : Nat, i = .int .i64 n ∧ n ≤ L.length ∧ Hid (∀ j (hj : j < L.length), j < n → bytesBefore L[j].1 s.data.toList = true) ∧ Hid (wr = w3)) (fun i _ => L.length - (intOf i).toNat)
      case atStart => exact ⟨0, rfl, by omega, hide fun j _ hj => by omega, hide rfl⟩
      case round =>
        obtain ⟨n, rfl, hn1, hbef, hw⟩ := hrel
        obtain rfl := hw.out
        by_cases hgo : ∃ hlt : n < L.length, bytesBefore L[n].1 s.data.toList = true
        · obtain ⟨hlt, hb⟩ := hgo
          have hlt2 : (n : Int) < (L.length : Int) := by omega
          obtain ⟨ad, rfl, hcl⟩ := HC.out n (by rw [keyV_len]; exact hlt)
          rw [keyV_get] at hcl
          have hb2 : Op.bytesLess (bs L[n].1).toList s.toList = true := by rw [less_s, bs_list]; exact hb
          go_wp2_with fail
          go_roundw
          case rel => exact ⟨n + 1, by go_num, hlt, hide fun j hj hjn => by
            by_cases e : j = n
            · subst e; exact hb
            · exact hbef.out j hj (by omega), hide (by trivial)⟩
          case measure => simp [intOf]; omega
        · have hstop : ∀ hi : n < L.length, bytesBefore L[n].1 s.data.toList = false := fun hi => by
            cases h : bytesBefore L[n].1 s.data.toList with
            | false => rfl
            | true => exact absurd ⟨hi, h⟩ hgo
          have HST := hide hstop
          have e1 := insE_at (x := (s.data.toList, v)) HRIS.out HNO.out hn1 hbef.out hstop
          rw [← HNX.out] at e1
          have HE := hide e1
          clear hgo hstop e1
          by_cases hlt : n < L.length
          · have hlt2 : (n : Int) < (L.length : Int) := by omega
            obtain ⟨ad, rfl, hcl⟩ := HC.out n (by rw [keyV_len]; exact hlt)
            rw [keyV_get] at hcl
            have hb2 : Op.bytesLess (bs L[n].1).toList s.toList = false := by rw [less_s, bs_list]; exact HST.out hlt
            go_wp2_with fail
            refine Mine.wp_region_mine 39 [26, 27, 28, 29, 30, 31, 32, 33, 34, 35, 36, 37, 3] rfl (by kernel_rfl) (by kernel_rfl) (by kernel_rfl) (ob0 := none)
              (Mine.Ahead.more (Mine.Ahead.more (Mine.Ahead.more (Mine.Ahead.none_ _ _ _) 3 (Mine.SlV.stays (keyV L)) (by exact ⟨some ad, c, congrArg (fun z => Value.slice (some ad) z c) (keyV_len L).symm, (Mine.vs_own HO3.out).gr ((Gr.refl wr).drewN 1), fun _ _ _ e => by cases e⟩)) 4 (Mine.Is.stays (.string s)) rfl) 5 (Mine.Is.stays (.int .i64 (n : Int))) rfl)
              39 (C0 := fun _ _ o => o = none) (fun _ _ _ _ h _ => h) (fun j hj => by cases hj) rfl ?_
            refine Mine.chain_lit0 (e := 9) rfl rfl rfl (by decide) (fun w => ?_) ?_
            · kernel_rfl
            refine Mine.move (.tmp 3) (.inl rfl) rfl (by decide) rfl (Mine.SlV.stays _) ?_
            refine Mine.move (.tmp 5) (.inl rfl) rfl (by decide) rfl (Mine.Is.stays _) ?_
            refine Mine.cutV (k := n) rfl rfl (by decide) rfl rfl (by rw [keyV_len]; exact hn1) Try.underlying32 (fun w => by kernel_rfl) ?_
            refine Mine.chain_appV rfl rfl rfl Try.underlying32 hi hz0 hz1 hz2 rfl rfl (fun u hu => keyV_one L u (List.mem_of_mem_take hu)) (by simp [keyV_len]; omega) (by simp [keyV_len]; omega) (Nat.le_refl _) ?_
            refine Mine.move (.tmp 4) (.inl rfl) rfl (by decide) rfl (Mine.Is.stays _) ?_
            refine Mine.lit1V (e := 9) rfl rfl (by decide) rfl (fun w => lit_str w s) ?_
            refine Mine.chain_appV rfl rfl rfl Try.underlying32 hi hz0 hz1 hz2 rfl rfl (fun u hu => by simp at hu; subst hu; rfl) (by simp [keyV_len]; omega) (by simp [keyV_len]; omega) (Nat.le_refl _) ?_
            refine Mine.move (.tmp 3) (.inl rfl) rfl (by decide) rfl (Mine.SlV.stays _) ?_
            refine Mine.move (.tmp 5) (.inl rfl) rfl (by decide) rfl (Mine.Is.stays _) ?_
            refine Mine.dropV (k := n) rfl rfl (by decide) rfl rfl (by rw [keyV_len]; exact hn1) Try.underlying32 (fun w => by kernel_rfl) ?_
            refine Mine.chain_appV rfl rfl rfl Try.underlying32 hi hz0 hz1 hz2 rfl rfl (fun u hu => keyV_one L u (List.mem_of_mem_drop hu)) (by simp [keyV_len]; omega) (by simp [keyV_len]; omega) (Nat.le_refl _) ?_
            refine Mine.chain_moveV (.inr rfl) rfl rfl ?_
            intro a1 w1 ob1 hr1 hsz1 hdf1 hun1 _ hat1
            obtain ⟨hown1, _⟩ := hat1
            obtain ⟨X, hX, hlay⟩ := Grow.lay_kept_by _ a1 39 _ hsz1 hdf1 hun1
            rw [hX] at hown1
            clear hX hun1 hdf1 hsz1
            subst hlay
            simp only [List.range, List.range.loop, List.map_cons, List.map_nil, List.contains_cons, List.contains_nil, Nat.reduceBEq, Bool.or_false, Bool.or_true, cond_false, cond_true, Array.getD_eq_getD_getElem?, List.getElem?_toArray, List.getElem?_cons_zero, List.getElem?_cons_succ, Option.getD_some]
            have hgr1 : Gr wr w1 := ⟨hr1.gb.os, hr1.gb.tape, hr1.gb.output, hr1.gb.size, fun k hk2 => hr1.gb.block k hk2 (by simp)⟩
            have h4 : OwnV 9 w1 w.heap.size (X 3) (keyV (cameE es fun x => left x && !(x == s.data.toList))) := by
              have h5 := own_base hown1 (B' := w.heap.size) HG3.out.size
              rw [HE.out, keyV_at, bs_of]
              exact h5
            have h6 : ∀ k, (X 3).ownBlock = some k → k ≠ w.heap.size := fun k hk e => by
              have := (World.ownsRow.lt hown1 k hk).1
              have h7 := HR3.out.lt
              simp at this
              omega
            have HN := hide h6
            have HO := hide h4
            have HG4 := hide (HG3.out.trans hgr1)
            have HR4 := hide (HR3.out.only (Only.of_gr hgr1) (fun e => e) (fun e => e))
            clear hown1 hr1 h4 h6 hgr1
            go_wp2_with fail
            go_roundw
            case rel => exact ⟨_, _, HR4, HO, HN, HG4⟩
            case measure =>
              have e1 := HR4.out.left_eq
              have e2 := HCNT.out
              have e3 := HLT.out
              omega
          · have hlt2 : ¬ (n : Int) < (L.length : Int) := by omega
            go_wp2_with fail
            refine Mine.wp_region_mine 39 [26, 27, 28, 29, 30, 31, 32, 33, 34, 35, 36, 37, 3] rfl (by kernel_rfl) (by kernel_rfl) (by kernel_rfl) (ob0 := none)
              (Mine.Ahead.more (Mine.Ahead.more (Mine.Ahead.more (Mine.Ahead.none_ _ _ _) 3 (Mine.SlV.stays (keyV L)) (by exact ⟨A, c, congrArg (fun z => Value.slice A z c) (keyV_len L).symm, (Mine.vs_own HO3.out).gr ((Gr.refl wr).drewN 1), fun _ _ _ e => by cases e⟩)) 4 (Mine.Is.stays (.string s)) rfl) 5 (Mine.Is.stays (.int .i64 (n : Int))) rfl)
              39 (C0 := fun _ _ o => o = none) (fun _ _ _ _ h _ => h) (fun j hj => by cases hj) rfl ?_
            refine Mine.chain_lit0 (e := 9) rfl rfl rfl (by decide) (fun w => ?_) ?_
            · kernel_rfl
            refine Mine.move (.tmp 3) (.inl rfl) rfl (by decide) rfl (Mine.SlV.stays _) ?_
            refine Mine.move (.tmp 5) (.inl rfl) rfl (by decide) rfl (Mine.Is.stays _) ?_
            refine Mine.cutV (k := n) rfl rfl (by decide) rfl rfl (by rw [keyV_len]; exact hn1) Try.underlying32 (fun w => by kernel_rfl) ?_
            refine Mine.chain_appV rfl rfl rfl Try.underlying32 hi hz0 hz1 hz2 rfl rfl (fun u hu => keyV_one L u (List.mem_of_mem_take hu)) (by simp [keyV_len]; omega) (by simp [keyV_len]; omega) (Nat.le_refl _) ?_
            refine Mine.move (.tmp 4) (.inl rfl) rfl (by decide) rfl (Mine.Is.stays _) ?_
            refine Mine.lit1V (e := 9) rfl rfl (by decide) rfl (fun w => lit_str w s) ?_
            refine Mine.chain_appV rfl rfl rfl Try.underlying32 hi hz0 hz1 hz2 rfl rfl (fun u hu => by simp at hu; subst hu; rfl) (by simp [keyV_len]; omega) (by simp [keyV_len]; omega) (Nat.le_refl _) ?_
            refine Mine.move (.tmp 3) (.inl rfl) rfl (by decide) rfl (Mine.SlV.stays _) ?_
            refine Mine.move (.tmp 5) (.inl rfl) rfl (by decide) rfl (Mine.Is.stays _) ?_
            refine Mine.dropV (k := n) rfl rfl (by decide) rfl rfl (by rw [keyV_len]; exact hn1) Try.underlying32 (fun w => by kernel_rfl) ?_
            refine Mine.chain_appV rfl rfl rfl Try.underlying32 hi hz0 hz1 hz2 rfl rfl (fun u hu => keyV_one L u (List.mem_of_mem_drop hu)) (by simp [keyV_len]; omega) (by simp [keyV_len]; omega) (Nat.le_refl _) ?_
            refine Mine.chain_moveV (.inr rfl) rfl rfl ?_
            intro a1 w1 ob1 hr1 hsz1 hdf1 hun1 _ hat1
            obtain ⟨hown1, _⟩ := hat1
            obtain ⟨X, hX, hlay⟩ := Grow.lay_kept_by _ a1 39 _ hsz1 hdf1 hun1
            rw [hX] at hown1
            clear hX hun1 hdf1 hsz1
            subst hlay
            simp only [List.range, List.range.loop, List.map_cons, List.map_nil, List.contains_cons, List.contains_nil, Nat.reduceBEq, Bool.or_false, Bool.or_true, cond_false, cond_true, Array.getD_eq_getD_getElem?, List.getElem?_toArray, List.getElem?_cons_zero, List.getElem?_cons_succ, Option.getD_some]
            have hgr1 : Gr wr w1 := ⟨hr1.gb.os, hr1.gb.tape, hr1.gb.output, hr1.gb.size, fun k hk2 => hr1.gb.block k hk2 (by simp)⟩
            have h4 : OwnV 9 w1 w.heap.size (X 3) (keyV (cameE es fun x => left x && !(x == s.data.toList))) := by
              have h5 := own_base hown1 (B' := w.heap.size) HG3.out.size
              rw [HE.out, keyV_at, bs_of]
              exact h5
            have h6 : ∀ k, (X 3).ownBlock = some k → k ≠ w.heap.size := fun k hk e => by
              have := (World.ownsRow.lt hown1 k hk).1
              have h7 := HR3.out.lt
              simp at this
              omega
            have HN := hide h6
            have HO := hide h4
            have HG4 := hide (HG3.out.trans hgr1)
            have HR4 := hide (HR3.out.only (Only.of_gr hgr1) (fun e => e) (fun e => e))
            clear hown1 hr1 h4 h6 hgr1
            go_wp2_with fail
            go_roundw
            case rel => exact ⟨_, _, HR4, HO, HN, HG4⟩
            case measure =>
              have e1 := HR4.out.left_eq
              have e2 := HCNT.out
              have e3 := HLT.out
              omega

end Go.Proofs.Yteflmockckmciaa.DiskRising
