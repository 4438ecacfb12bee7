/-
  num's reader by its contracts: 'number', 'text', 'first'; Take and TakeText.
-/
import Derived.Test.YtpabppoohobjpaaGreatNumPutOwn
import Derived.Deep.QuietTactic
import Derived.BigQuiet
namespace Go.Proofs.YtpabppoohobjpaaGreat
open Go.RowKit NumPlain
set_option maxRecDepth 100000

/-- a reader in memory -/
def Rdr (w : World) (g : Nat) (A : Option Addr) (n c : Nat) (at_ : Nat) : Prop := Bl w g 167 #[.slice A n c, .int .i64 at_]

/-- what 'number' comes to, at place p of the bytes l -/
def NumberPost (g : Nat) (A : Option Addr) (c : Nat) (l : List UInt8) (p : Nat) (w : World) (e : Ending) (w' : World) : Prop :=
  ∃ (x : Int) (ok : Bool) (q : Nat), e = .returned (.tuple #[.int .i64 x, .bool ok]) ∧ Rdr w' g A l.length c q ∧ But w w' g ∧
    (match takeF 9 (l.drop p) with | none => ok = false | some (v, k) => ok = true ∧ x = v ∧ q = p + k)

theorem NumberPost.no {g : Nat} {A : Option Addr} {c : Nat} {l : List UInt8} {p q : Nat} {w w' : World} {x : Int} (h : takeF 9 (l.drop p) = none) (hr : Rdr w' g A l.length c q) (hb : But w w' g) :
    NumberPost g A c l p w (.returned (.tuple #[.int .i64 x, .bool false])) w' := ⟨x, false, q, rfl, hr, hb, by rw [h]⟩
theorem NumberPost.yes {g : Nat} {A : Option Addr} {c : Nat} {l : List UInt8} {p k v : Nat} {w w' : World} {x : Int} (h : takeF 9 (l.drop p) = some (v, k)) (hx : x = v) (hr : Rdr w' g A l.length c (p + k)) (hb : But w w' g) :
    NumberPost g A c l p w (.returned (.tuple #[.int .i64 x, .bool true])) w' := ⟨x, true, p + k, rfl, hr, hb, by rw [h]; exact ⟨rfl, hx, rfl⟩⟩

theorem rd_byte {w wr : World} {g p k : Nat} {A : Option Addr} {l : List UInt8} (hl : Rd w A l) (ho : Off g A l) (hb : But w wr g) (h : p + k < l.length) :
    ∃ ad cb, A = some ad ∧ ad.block ≠ g ∧ (l.drop p)[k]? = some cb ∧ wr.cell? (ad.add (p + k)) = some (.int .u8 (cb.toNat : Int)) := by
  obtain ⟨ad, hA, hcell⟩ := hl (p + k) h
  exact ⟨ad, l[p + k], hA, ho (by omega) _ hA, by simp [h], hb.cell hcell (by rw [add_block]; exact ho (by omega) _ hA)⟩

theorem rdr_step {w : World} {g : Nat} {A : Option Addr} {n c p : Nat} (h : Rdr w g A n c p) (m : Nat) : Rdr ((w.drewN m).setCell ⟨g, 1, none⟩ (.int .i64 ((p : Int) + 1))) g A n c (p + 1) := (Bl.drewN h m).put 1 _
theorem rdr_to {w : World} {g : Nat} {A : Option Addr} {n c p : Nat} (h : Rdr w g A n c p) (m q : Nat) : Rdr ((w.drewN m).setCell ⟨g, 1, none⟩ (.int .i64 (q : Int))) g A n c q := (Bl.drewN h m).put 1 _
theorem but_step {a w : World} {g : Nat} (h : But a w g) {u : Value} (m : Nat) : But a ((w.drewN m).setCell ⟨g, 1, none⟩ u) g := (h.drewN m).set 1 u

theorem val_last (x k b : Nat) (hb : b < 128) {y : Int} (h : y = ((x + b % 128 * 128 ^ k : Nat) : Int)) : y = ((x + b * 128 ^ k : Nat) : Int) := by
  rw [h, Nat.mod_eq_of_lt hb]

set_option maxHeartbeats 400000 in
theorem number_any (g : Nat) (A : Option Addr) (c : Nat) (l : List UInt8) (p : Nat) (w : World) (hr : Rdr w g A l.length c p) (hl : Rd w A l) (ho : Off g A l) (hp : p ≤ l.length) (hmax : (l.length : Int) ≤ 140737488351232) :
    Calls Tryz.prog 140 #[.pointer (some ⟨g, 0, none⟩)] w (NumberPost g A c l p w) := by
  go_enter Tryz.func140, Tryz.ntmps140
  go_wp2_with fail
  go_loopw [4, 7] (fun v i wr => ∃ k x : Nat, i = .int .i64 k ∧ v = .int .i64 x ∧ NumInv (l.drop p) k x ∧ Rdr wr g A l.length c (p + k) ∧ But w wr g) (fun _ i _ => 9 - (intOf i).toNat)
  case atStart => exact ⟨0, 0, rfl, rfl, NumInv.start _, hr, But.refl w g⟩
  case round =>
    obtain ⟨k, x, rfl, rfl, hinv, hrd, hbut⟩ := hrel
    have hk9 := hinv.2.1
    have hkl := hinv.2.2.1
    rw [List.length_drop] at hkl
    have c0 : wr.cell? ⟨g, 0, none⟩ = some (.slice A l.length c) := hrd.cell 0
    have c1 : wr.cell? ⟨g, 1, none⟩ = some (.int .i64 (p + k : Nat)) := hrd.cell 1
    have f1 : wr.frozen? ⟨g, 1, none⟩ = false := hrd.frozen 1
    by_cases hlt : (k : Int) < 9
    · by_cases hend : p + k = l.length
      · have hb : ((p : Int) + (k : Int) == (l.length : Int)) = true := by rw [beq_iff_eq]; omega
        have H := hide (hinv.short (by rw [List.length_drop]; omega))
        clear hend
        go_wp2_with fail
        go_quiet (fail)
        go_wp2_with fail
        go_ret2
        exact NumberPost.no H.out (hrd.drewN _) (hbut.drewN _)
      · have hb : ((p : Int) + (k : Int) == (l.length : Int)) = false := by rw [beq_eq_false_iff_ne]; omega
        have hlt3 : (p : Int) + (k : Int) < (l.length : Int) := by omega
        obtain ⟨ad, cb, rfl, hne, hg, hcell⟩ := rd_byte hl ho hbut (show p + k < l.length by omega)
        have Hg := hide hg
        clear hend hg hl ho
        have h256 : cb.toNat < 256 := cb.toNat_lt
        have hx := hinv.1
        have G := hide (group_more x k cb.toNat hx (by omega) h256)
        clear hx
        by_cases h128 : cb.toNat < 128
        · have b7 := bit7_no cb.toNat h128
          have HL := hide (hinv.last' (by omega) Hg.out h128)
          by_cases h0 : 0 < k ∧ cb.toNat = 0
          · obtain ⟨hk0, hc0⟩ := h0
            have HN : Hid (takeF 9 (l.drop p) = none) := by have := HL.out; rw [if_pos ⟨hk0, hc0⟩] at this; exact this
            clear HL
            have k0 : ((k : Int) == 0) = false := by rw [beq_eq_false_iff_ne]; omega
            go_wp2_with fail
            go_quiet (fail)
            go_wp2_with fail
            go_quiet (fail)
            go_wp2_with fail
            go_ret2
            exact NumberPost.no (q := p + k + 1) HN.out (rdr_step hrd _) (but_step hbut _)
          · have HN : Hid (takeF 9 (l.drop p) = some (x + cb.toNat * 128 ^ k, k + 1)) := by have := HL.out; rw [if_neg h0] at this; exact this
            clear HL
            have Hv := hide (val_last x k cb.toNat h128 G.out)
            clear G
            by_cases hc0 : cb.toNat = 0
            · have k0 : ((k : Int) == 0) = true := by rw [beq_iff_eq]; omega
              clear h0
              have Hc0 := hide hc0
              have cb0 : ((cb.toNat : Int) != 0) = false := by rw [bne_eq_false_iff_eq]; omega
              clear hc0
              go_wp2_with fail
              go_quiet (fail)
              go_wp2_with fail
              go_quiet (fail)
              go_wp2_with fail
              go_ret2
              exact NumberPost.yes HN.out Hv.out (rdr_step hrd _) (but_step hbut _)
            · clear h0
              have cb0 : ((cb.toNat : Int) != 0) = true := by rw [bne_iff_ne]; omega
              clear hc0
              go_wp2_with fail
              go_quiet (fail)
              go_wp2_with fail
              go_quiet (fail)
              go_wp2_with fail
              go_ret2
              exact NumberPost.yes HN.out Hv.out (rdr_step hrd _) (but_step hbut _)
        · have b7 := bit7_yes cb.toNat h256 (by omega)
          have HM := hinv.more' (by omega) Hg.out (by omega)
          go_wp2_with fail
          go_quiet (fail)
          go_wp2_with fail
          go_quiet (fail)
          go_wp2_with fail
          go_roundw
          case rel => exact ⟨k + 1, x + cb.toNat % 128 * 128 ^ k, by go_num, by rw [G.out], HM, rdr_step hrd _, but_step hbut _⟩
          case measure => simp [intOf]; omega
    · have e9 : k = 9 := by omega
      have H := hide ((e9 ▸ hinv : NumInv (l.drop p) 9 x).long)
      clear e9
      go_wp2_with fail
      go_ret2
      exact NumberPost.no H.out hrd hbut

theorem number_no (g : Nat) (A : Option Addr) (c : Nat) (l : List UInt8) (p : Nat) (w : World) (hr : Rdr w g A l.length c p) (hl : Rd w A l) (ho : Off g A l) (hp : p ≤ l.length) (hmax : (l.length : Int) ≤ 140737488351232) (h : takeF 9 (l.drop p) = none) :
    Calls Tryz.prog 140 #[.pointer (some ⟨g, 0, none⟩)] w fun e w' => ∃ (x : Int) (q : Nat), e = .returned (.tuple #[.int .i64 x, .bool false]) ∧ Rdr w' g A l.length c q ∧ But w w' g :=
  (number_any g A c l p w hr hl ho hp hmax).mono fun e w' ⟨x, ok, q, he, h1, h2, h3⟩ => by
    rw [h] at h3
    subst h3
    exact ⟨x, q, he, h1, h2⟩
theorem number_yes (g : Nat) (A : Option Addr) (c : Nat) (l : List UInt8) (p v k : Nat) (w : World) (hr : Rdr w g A l.length c p) (hl : Rd w A l) (ho : Off g A l) (hp : p ≤ l.length) (hmax : (l.length : Int) ≤ 140737488351232) (h : takeF 9 (l.drop p) = some (v, k)) :
    Calls Tryz.prog 140 #[.pointer (some ⟨g, 0, none⟩)] w fun e w' => e = .returned (.tuple #[.int .i64 v, .bool true]) ∧ Rdr w' g A l.length c (p + k) ∧ But w w' g :=
  (number_any g A c l p w hr hl ho hp hmax).mono fun e w' ⟨x, ok, q, he, h1, h2, h3⟩ => by
    rw [h] at h3
    obtain ⟨rfl, rfl, rfl⟩ := h3
    exact ⟨he, h1, h2⟩

/-- what 'text' comes to, at place 0 -/
def TextPost (g : Nat) (A : Option Addr) (c : Nat) (l : List UInt8) (w : World) (e : Ending) (w' : World) : Prop :=
  ∃ (s : ByteArray) (ok : Bool) (q : Nat), e = .returned (.tuple #[.string s, .bool ok]) ∧ Rdr w' g A l.length c q ∧ But w w' g ∧
    (match takeT l with | none => ok = false | some (t, k) => ok = true ∧ s = bs t ∧ q = k)
theorem TextPost.no {g : Nat} {A : Option Addr} {c : Nat} {l : List UInt8} {q : Nat} {w w' : World} {s : ByteArray} (h : takeT l = none) (hr : Rdr w' g A l.length c q) (hb : But w w' g) :
    TextPost g A c l w (.returned (.tuple #[.string s, .bool false])) w' := ⟨s, false, q, rfl, hr, hb, by rw [h]⟩
theorem TextPost.yes {g : Nat} {A : Option Addr} {c : Nat} {l t : List UInt8} {k : Nat} {w w' : World} (h : takeT l = some (t, k)) (hr : Rdr w' g A l.length c k) (hb : But w w' g) :
    TextPost g A c l w (.returned (.tuple #[.string (bs t), .bool true])) w' := ⟨bs t, true, k, rfl, hr, hb, by rw [h]; exact ⟨rfl, rfl, rfl⟩⟩

set_option maxHeartbeats 400000 in
theorem text_any (g : Nat) (A : Option Addr) (c : Nat) (l : List UInt8) (w : World) (hr : Rdr w g A l.length c 0) (hl : Rd w A l) (ho : Off g A l) (hmax : (l.length : Int) ≤ 140737488351232) (hc : l.length ≤ c) :
    Calls Tryz.prog 142 #[.pointer (some ⟨g, 0, none⟩)] w (TextPost g A c l w) := by
  cases ht : takeF 9 l with
  | none =>
    have hN : takeT l = none := by unfold takeT; rw [ht]
    have HN := hide hN
    have Ht := hide ht
    clear ht hN
    go_enter Tryz.func142, Tryz.ntmps142
    go_wp2_with fail
    refine (number_no g A c l 0 _ hr hl ho (by omega) hmax Ht.out).mono ?_
    rintro e w1 ⟨x, q, rfl, hr1, hb1⟩
    go_wp2_with fail
    go_quiet (fail)
    go_wp2_with fail
    go_ret2
    exact TextPost.no HN.out (hr1.drewN _) (hb1.drewN _)
  | some vk =>
    obtain ⟨v, k⟩ := vk
    obtain ⟨hv, hkl, hk1, hk9, _⟩ := takeF_some9 l v k ht
    have Ht := hide ht
    clear ht
    by_cases h255 : 255 < v
    · have hN : takeT l = none := by unfold takeT; rw [Ht.out]; simp only []; rw [if_pos (Or.inl h255)]
      have HN := hide hN
      have d1 : decide ((255 : Int) < (v : Int)) = true := by rw [decide_eq_true_eq]; omega
      clear hN h255
      go_enter Tryz.func142, Tryz.ntmps142
      go_wp2_with fail
      refine (number_yes g A c l 0 v k _ hr hl ho (by omega) hmax Ht.out).mono ?_
      rintro e w1 ⟨rfl, hr1, hb1⟩
      go_wp2_with fail
      go_quiet (fail)
      go_wp2_with fail
      go_ret2
      exact TextPost.no HN.out (hr1.drewN _) (hb1.drewN _)
    · have d1 : decide ((255 : Int) < (v : Int)) = false := by rw [decide_eq_false_iff_not]; omega
      by_cases hlen : l.length - k < v
      · have hN : takeT l = none := by unfold takeT; rw [Ht.out]; simp only []; rw [if_pos (Or.inr hlen)]
        have HN := hide hN
        have d2 : decide ((l.length : Int) - (k : Int) < (v : Int)) = true := by rw [decide_eq_true_eq]; omega
        clear hN hlen h255
        go_enter Tryz.func142, Tryz.ntmps142
        go_wp2_with fail
        refine (number_yes g A c l 0 v k _ hr hl ho (by omega) hmax Ht.out).mono ?_
        rintro e w1 ⟨rfl, hr1, hb1⟩
        have c0 : w1.cell? ⟨g, 0, none⟩ = some (.slice A l.length c) := hr1.cell 0
        have c1 : w1.cell? ⟨g, 1, none⟩ = some (.int .i64 (0 + k : Nat)) := hr1.cell 1
        rw [Nat.zero_add] at c1
        go_wp2_with fail
        go_quiet (fail)
        go_wp2_with fail
        go_ret2
        exact TextPost.no HN.out (hr1.drewN _) (hb1.drewN _)
      · have hY : takeT l = some ((l.drop k).take v, k + v) := by unfold takeT; rw [Ht.out]; simp only []; rw [if_neg (by omega)]
        have HY := hide hY
        have d2 : decide ((l.length : Int) - (k : Int) < (v : Int)) = false := by rw [decide_eq_false_iff_not]; omega
        have hlv : (k : Int) + (v : Int) ≤ (l.length : Int) := by omega
        have hlc : (l.length : Int) ≤ (c : Int) := by omega
        clear hY
        go_enter Tryz.func142, Tryz.ntmps142
        go_wp2_with fail
        refine (number_yes g A c l 0 v k _ hr hl ho (by omega) hmax Ht.out).mono ?_
        rintro e w1 ⟨rfl, hr1, hb1⟩
        have c0 : w1.cell? ⟨g, 0, none⟩ = some (.slice A l.length c) := hr1.cell 0
        have c1 : w1.cell? ⟨g, 1, none⟩ = some (.int .i64 (0 + k : Nat)) := hr1.cell 1
        have f1 : w1.frozen? ⟨g, 1, none⟩ = false := hr1.frozen 1
        rw [Nat.zero_add] at c1
        have hconv := hide (fun nq => run_conv (P := Tryz.prog) (w1.drewN nq) 22 9 5 Tryz.underlying22 Tryz.underlying5 Tryz.underlying9 (l := (l.drop k).take v) (k + v - k) (c - k) (by rw [List.length_take, List.length_drop]; omega)
            (by have h := Rd.cut ((hl.but hb1 ho).drewN nq) k (k + v) c (by omega) (by omega) hc; rw [show k + v - k = v from by omega] at h; exact h))
        go_wp2_with fail
        go_quiet (fail)
        go_wp2_with fail
        refine wp_region_quiet_lit (by kernel_rfl) (by kernel_rfl) ?_
        repeat (go_big_quiet_step (fail))
        refine quiet_conv rfl 22 9 (.tmp 46) rfl rfl (fun w' ⟨n, hw'⟩ => by rw [hw', World.drewN_drewN]; exact hconv.out _) ?_
        clear hconv
        generalize (if c = k then A else Option.map (fun x => x.add k) A) = A2
        simp only [Act.put, List.setIfInBounds_toArray, List.set_cons_zero, List.set_cons_succ]
        repeat (go_big_quiet_step (fail))
        refine wpQuiet_nil ?_
        rintro _ ⟨nq2, rfl⟩
        go_wp2_with fail
        go_ret2
        exact TextPost.yes HY.out (rdr_to hr1 _ _) ((hb1.drewN _).set 1 _)

end Go.Proofs.YtpabppoohobjpaaGreat

/-
  num.Take and num.TakeText by their contracts.
-/
namespace Go.Proofs.YtpabppoohobjpaaGreat
open Go.RowKit NumPlain
set_option maxRecDepth 100000

/-- what Take tells of bytes: the number, how many bytes, whether there is one -/
def takeV (l : List UInt8) : Int := match takeF 9 l with | none => 0 | some (v, _) => (v : Int)
def takeK (l : List UInt8) : Int := match takeF 9 l with | none => 0 | some (_, k) => (k : Int)
def takeB (l : List UInt8) : Bool := (takeF 9 l).isSome

def FirstPost (w : World) (g : Nat) (l : List UInt8) (e : Ending) (w' : World) : Prop := e = .returned (.tuple #[.int .i64 (takeV l), .int .i64 (takeK l), .bool (takeB l)]) ∧ But w w' g

set_option maxHeartbeats 400000 in
theorem first_any (g : Nat) (A : Option Addr) (c : Nat) (l : List UInt8) (w : World) (hr : Rdr w g A l.length c 0) (hl : Rd w A l) (ho : Off g A l) (hmax : (l.length : Int) ≤ 140737488351232) :
    Calls Tryz.prog 139 #[.pointer (some ⟨g, 0, none⟩), .func (.func 140) #[.pointer (some ⟨g, 0, none⟩)] #[]] w (FirstPost w g l) := by
  cases ht : takeF 9 l with
  | none =>
    have HF : ∀ w', But w w' g → FirstPost w g l (.returned (.tuple #[.int .i64 0, .int .i64 0, .bool false])) w' := fun w' h => ⟨by simp [takeV, takeK, takeB, ht], h⟩
    have Ht := hide ht
    have HF2 := hide HF
    clear ht HF
    go_enter Tryz.func139, Tryz.ntmps139
    go_wp2_with fail
    refine (number_no g A c l 0 _ hr hl ho (by omega) hmax Ht.out).mono ?_
    rintro e w1 ⟨x, q, rfl, hr1, hb1⟩
    go_wp2_with fail
    go_ret3
    exact HF2.out _ hb1
  | some vk =>
    obtain ⟨v, k⟩ := vk
    have HF : ∀ w', But w w' g → FirstPost w g l (.returned (.tuple #[.int .i64 v, .int .i64 k, .bool true])) w' := fun w' h => ⟨by simp [takeV, takeK, takeB, ht], h⟩
    have Ht := hide ht
    have HF2 := hide HF
    clear ht HF
    go_enter Tryz.func139, Tryz.ntmps139
    go_wp2_with fail
    refine (number_yes g A c l 0 v k _ hr hl ho (by omega) hmax Ht.out).mono ?_
    rintro e w1 ⟨rfl, hr1, hb1⟩
    have c1 : w1.cell? ⟨g, 1, none⟩ = some (.int .i64 (0 + k : Nat)) := hr1.cell 1
    rw [Nat.zero_add] at c1
    go_wp2_with fail
    go_quiet (fail)
    go_wp2_with fail
    go_ret3
    exact HF2.out _ (hb1.drewN _)

set_option maxHeartbeats 400000 in
theorem Take_ok (A : Option Addr) (n c : Nat) (l : List UInt8) (hn : n = l.length) (w : World) (hl : Rd w A l) (hmax : (l.length : Int) ≤ 140737488351232) :
    Calls Tryz.prog 134 #[.slice A n c] w fun e w' => e = .returned (.tuple #[.int .i64 (takeV l), .int .i64 (takeK l), .bool (takeB l)]) ∧ Gr w w' := by
  subst hn
  go_enter Tryz.func134, Tryz.ntmps134
  go_wp2_with fail
  refine (first_any w.heap.size A c l _ (Bl.new _ _ _) (hl.gr ((Gr.refl w).alloc _)) hl.off hmax).mono ?_
  rintro e w1 ⟨rfl, hb⟩
  go_wp2_with fail
  go_ret3
  exact ⟨rfl, hb.gr⟩

/-- what TakeText tells of bytes -/
def textV (l : List UInt8) : ByteArray := match takeT l with | none => ByteArray.empty | some (t, _) => bs t
def textK (l : List UInt8) : Int := match takeT l with | none => 0 | some (_, k) => (k : Int)
def textB (l : List UInt8) : Bool := (takeT l).isSome

def FirstTPost (w : World) (g : Nat) (l : List UInt8) (e : Ending) (w' : World) : Prop := e = .returned (.tuple #[.string (textV l), .int .i64 (textK l), .bool (textB l)]) ∧ But w w' g

theorem text_no (g : Nat) (A : Option Addr) (c : Nat) (l : List UInt8) (w : World) (hr : Rdr w g A l.length c 0) (hl : Rd w A l) (ho : Off g A l) (hmax : (l.length : Int) ≤ 140737488351232) (hc : l.length ≤ c) (h : takeT l = none) :
    Calls Tryz.prog 142 #[.pointer (some ⟨g, 0, none⟩)] w fun e w' => ∃ (x : ByteArray) (q : Nat), e = .returned (.tuple #[.string x, .bool false]) ∧ Rdr w' g A l.length c q ∧ But w w' g :=
  (text_any g A c l w hr hl ho hmax hc).mono fun e w' ⟨x, ok, q, he, h1, h2, h3⟩ => by
    rw [h] at h3
    subst h3
    exact ⟨x, q, he, h1, h2⟩
theorem text_yes (g : Nat) (A : Option Addr) (c : Nat) (l t : List UInt8) (k : Nat) (w : World) (hr : Rdr w g A l.length c 0) (hl : Rd w A l) (ho : Off g A l) (hmax : (l.length : Int) ≤ 140737488351232) (hc : l.length ≤ c) (h : takeT l = some (t, k)) :
    Calls Tryz.prog 142 #[.pointer (some ⟨g, 0, none⟩)] w fun e w' => e = .returned (.tuple #[.string (bs t), .bool true]) ∧ Rdr w' g A l.length c k ∧ But w w' g :=
  (text_any g A c l w hr hl ho hmax hc).mono fun e w' ⟨x, ok, q, he, h1, h2, h3⟩ => by
    rw [h] at h3
    obtain ⟨rfl, rfl, rfl⟩ := h3
    exact ⟨he, h1, h2⟩

set_option maxHeartbeats 400000 in
theorem firstT_any (g : Nat) (A : Option Addr) (c : Nat) (l : List UInt8) (w : World) (hr : Rdr w g A l.length c 0) (hl : Rd w A l) (ho : Off g A l) (hmax : (l.length : Int) ≤ 140737488351232) (hc : l.length ≤ c) :
    Calls Tryz.prog 141 #[.pointer (some ⟨g, 0, none⟩), .func (.func 142) #[.pointer (some ⟨g, 0, none⟩)] #[]] w (FirstTPost w g l) := by
  cases ht : takeT l with
  | none =>
    have HF : ∀ w', But w w' g → FirstTPost w g l (.returned (.tuple #[.string ByteArray.empty, .int .i64 0, .bool false])) w' := fun w' h => ⟨by simp [textV, textK, textB, ht], h⟩
    have Ht := hide ht
    have HF2 := hide HF
    clear ht HF
    go_enter Tryz.func141, Tryz.ntmps141
    go_wp2_with fail
    refine (text_no g A c l _ hr hl ho hmax hc Ht.out).mono ?_
    rintro e w1 ⟨x, q, rfl, hr1, hb1⟩
    go_wp2_with fail
    go_ret3
    exact HF2.out _ hb1
  | some vk =>
    obtain ⟨t, k⟩ := vk
    have HF : ∀ w', But w w' g → FirstTPost w g l (.returned (.tuple #[.string (bs t), .int .i64 k, .bool true])) w' := fun w' h => ⟨by simp [textV, textK, textB, ht], h⟩
    have Ht := hide ht
    have HF2 := hide HF
    clear ht HF
    go_enter Tryz.func141, Tryz.ntmps141
    go_wp2_with fail
    refine (text_yes g A c l t k _ hr hl ho hmax hc Ht.out).mono ?_
    rintro e w1 ⟨rfl, hr1, hb1⟩
    have c1 : w1.cell? ⟨g, 1, none⟩ = some (.int .i64 k) := hr1.cell 1
    go_wp2_with fail
    go_quiet (fail)
    go_wp2_with fail
    go_ret3
    exact HF2.out _ (hb1.drewN _)

set_option maxHeartbeats 400000 in
theorem TakeText_ok (A : Option Addr) (n c : Nat) (l : List UInt8) (hn : n = l.length) (w : World) (hl : Rd w A l) (hmax : (l.length : Int) ≤ 140737488351232) (hc : l.length ≤ c) :
    Calls Tryz.prog 136 #[.slice A n c] w fun e w' => e = .returned (.tuple #[.string (textV l), .int .i64 (textK l), .bool (textB l)]) ∧ Gr w w' := by
  subst hn
  go_enter Tryz.func136, Tryz.ntmps136
  go_wp2_with fail
  refine (firstT_any w.heap.size A c l _ (Bl.new _ _ _) (hl.gr ((Gr.refl w).alloc _)) hl.off hmax hc).mono ?_
  rintro e w1 ⟨rfl, hb⟩
  go_wp2_with fail
  go_ret3
  exact ⟨rfl, hb.gr⟩

/-- the same, of bytes that lie somewhere -/
theorem take_by (A : Option Addr) (n c : Nat) (l : List UInt8) (hn : n = l.length) (w : World) (h : By w A c l) (hmax : (l.length : Int) ≤ 140737488351232) :
    Calls Tryz.prog 134 #[.slice A n c] w fun e w' => e = .returned (.tuple #[.int .i64 (takeV l), .int .i64 (takeK l), .bool (takeB l)]) ∧ Gr w w' :=
  Take_ok A n c l hn w h.rd hmax
theorem takeText_by (A : Option Addr) (n c : Nat) (l : List UInt8) (hn : n = l.length) (w : World) (h : By w A c l) (hmax : (l.length : Int) ≤ 140737488351232) :
    Calls Tryz.prog 136 #[.slice A n c] w fun e w' => e = .returned (.tuple #[.string (textV l), .int .i64 (textK l), .bool (textB l)]) ∧ Gr w w' :=
  TakeText_ok A n c l hn w h.rd hmax h.le

end Go.Proofs.YtpabppoohobjpaaGreat
