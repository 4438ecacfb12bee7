/-
  diwanplay's choices: keys, Keys, Val by their contracts.
-/
import Derived.Test.YthpaoeiackbdoaaPlayNum
import Derived.Test.YthpaoeiackbdoaaBaseW
namespace Go.Proofs.Ythpaoeiackbdoaa
open Go.RowKit
set_option maxRecDepth 100000

def keysL : List ByteArray := [⟨#[97]⟩, ⟨#[98]⟩, ⟨#[99]⟩, ⟨#[100]⟩, ⟨#[101, 101]⟩, ⟨#[102, 102]⟩]
/-- of these keys so many at most, those whose bits are set -/
def pickKeys : List ByteArray → Nat → Nat → List ByteArray
  | [], _, _ => []
  | k :: ks, b, room => if room = 0 then [] else if b % 2 = 1 then k :: pickKeys ks (b / 2) (room - 1) else pickKeys ks (b / 2) room
theorem pickKeys_zero : ∀ (ks : List ByteArray) (b : Nat), pickKeys ks b 0 = []
  | [], _ => rfl
  | _ :: _, _ => by rw [pickKeys, if_pos rfl]
theorem pickKeys_yes {k : ByteArray} {ks : List ByteArray} {b room : Nat} (h : 0 < room) (hb : b % 2 = 1) : pickKeys (k :: ks) b room = k :: pickKeys ks (b / 2) (room - 1) := by rw [pickKeys, if_neg (by omega), if_pos hb]
theorem pickKeys_no {k : ByteArray} {ks : List ByteArray} {b room : Nat} (h : 0 < room) (hb : ¬ b % 2 = 1) : pickKeys (k :: ks) b room = pickKeys ks (b / 2) room := by rw [pickKeys, if_neg (by omega), if_neg hb]
theorem pickKeys_len : ∀ (ks : List ByteArray) (b room : Nat), (pickKeys ks b room).length ≤ room
  | [], _, _ => Nat.zero_le _
  | k :: ks, b, room => by
    unfold pickKeys
    split
    · exact Nat.zero_le _
    · split
      · have := pickKeys_len ks (b / 2) (room - 1)
        rw [List.length_cons]
        omega
      · exact pickKeys_len ks (b / 2) room

theorem OwnV.base {e : TypeId} {w : World} {B B' : Nat} {v : Value} {xs : List Value} (h : OwnV e w B v xs) (hB : B' ≤ B) : OwnV e w B' v xs := by
  refine ⟨h.1, ?_⟩
  rcases h.2 with h2 | ⟨g, cap, cur, hv, hg, r⟩
  · exact .inl h2
  · exact .inr ⟨g, cap, cur, hv, by omega, r⟩
theorem But.then_gr {a b c : World} {g : Nat} (h : But a b g) (k : Gr b c) (_ : g < a.heap.size) : But a c g :=
  ⟨k.os.trans h.os, k.tape.trans h.tape, k.output.trans h.output, Nat.le_trans h.size k.size, fun j hj hne => (k.block j (Nat.lt_of_lt_of_le hj h.size)).trans (h.block j hj hne)⟩
theorem But.trans_ {a b c : World} {g : Nat} (h : But a b g) (k : But b c g) : But a c g :=
  ⟨k.os.trans h.os, k.tape.trans h.tape, k.output.trans h.output, Nat.le_trans h.size k.size, fun j hj hne => (k.block j (Nat.lt_of_lt_of_le hj h.size) hne).trans (h.block j hj hne)⟩

theorem info_str : (Try.prog.info? 9).map (fun i => (i.zero, i.size, i.bytes)) = some (some (.string ⟨#[]⟩), 1, 16) := by kernel_rfl

theorem keys_ok (w : World) : Calls Try.prog 72 #[] w fun e w' => e = .returned (.slice (some ⟨w.heap.size, 0, none⟩) 6 6) ∧ w' = w.alloc (.cells (keysL.map Value.string).toArray 9) := by
  go_enter Try.func72, Try.ntmps72
  go_wp2_with fail
  go_ret
  exact ⟨rfl, rfl⟩

def KeysPost (g : Nat) (A : Option Addr) (c : Nat) (l : List UInt8) (n most : Nat) (w : World) (e : Ending) (w' : World) : Prop :=
  ∃ v, e = .returned v ∧ OwnV 9 w' w.heap.size v ((pickKeys keysL (pickV l n 64) most).map Value.string) ∧ But w w' g ∧ Pk w' g A c l (pickN l n)

theorem keys_at {k : Nat} (h : k < 6) : (keysL.map Value.string).toArray[k]? = some (.string (keysL.getD k ⟨#[]⟩)) := by
  match k, h with
  | 0, _ => rfl
  | 1, _ => rfl
  | 2, _ => rfl
  | 3, _ => rfl
  | 4, _ => rfl
  | 5, _ => rfl
theorem keys_drop {k : Nat} (h : k < 6) : keysL.drop k = keysL.getD k ⟨#[]⟩ :: keysL.drop (k + 1) := by
  match k, h with
  | 0, _ => rfl
  | 1, _ => rfl
  | 2, _ => rfl
  | 3, _ => rfl
  | 4, _ => rfl
  | 5, _ => rfl

/-- so far these are chosen -/
def Chosen (b0 most k b : Nat) (out : List ByteArray) : Prop := out.length ≤ most ∧ pickKeys keysL b0 most = out ++ pickKeys (keysL.drop k) b (most - out.length)

theorem Chosen.yes {b0 most k b : Nat} {out : List ByteArray} (h : Chosen b0 most k b out) (hk : k < 6) (hl : out.length < most) (hb : b % 2 = 1) : Chosen b0 most (k + 1) (b / 2) (out ++ [keysL.getD k ⟨#[]⟩]) := by
  refine ⟨by rw [List.length_append, List.length_singleton]; omega, ?_⟩
  rw [h.2, keys_drop hk, pickKeys_yes (by omega) hb, List.append_assoc, List.length_append, List.length_singleton, show most - (out.length + 1) = most - out.length - 1 from by omega]
  rfl
theorem Chosen.no {b0 most k b : Nat} {out : List ByteArray} (h : Chosen b0 most k b out) (hk : k < 6) (hl : out.length < most) (hb : ¬ b % 2 = 1) : Chosen b0 most (k + 1) (b / 2) out :=
  ⟨h.1, by rw [h.2, keys_drop hk, pickKeys_no (by omega) hb]⟩
theorem Chosen.full {b0 most k b : Nat} {out : List ByteArray} (h : Chosen b0 most k b out) (hl : ¬ out.length < most) : out = pickKeys keysL b0 most := by
  rw [h.2, show most - out.length = 0 from by omega, pickKeys_zero, List.append_nil]
theorem Chosen.all {b0 most b : Nat} {out : List ByteArray} (h : Chosen b0 most 6 b out) : out = pickKeys keysL b0 most := by
  rw [h.2, show keysL.drop 6 = [] from rfl, pickKeys, List.append_nil]

set_option maxHeartbeats 400000 in
theorem Keys_ok (g : Nat) (A : Option Addr) (c : Nat) (l : List UInt8) (n most : Nat) (hmost : (most : Int) ≤ 1000) (hlen : (l.length : Int) ≤ 1000000000) (w : World) (hp : Pk w g A c l n) :
    Calls Try.prog 51 #[.pointer (some ⟨g, 0, none⟩), .int .i64 (most : Int)] w (KeysPost g A c l n most w) := by
  obtain ⟨i0, hi, hz0, hz1, hz2⟩ := info_parts info_str
  have hgl := hp.bl.lt
  go_enter Try.func51, Try.ntmps51
  go_wp2_with fail
  refine (Num_ok g A c l n 64 (by decide) (by decide) hlen w hp).mono ?_
  rintro e w1 ⟨rfl, hb1, hp1⟩
  have hb64 := pickV_lt l n 64 (by decide)
  obtain ⟨b0, hb0⟩ : ∃ b, pickV l n 64 = b := ⟨_, rfl⟩
  have HB0 := hide hb0
  rw [hb0] at hb64 ⊢
  clear hb0
  go_wp2_with fail
  refine (keys_ok w1).mono ?_
  rintro e w2 ⟨rfl, rfl⟩
  have hbk := Bl.new w1 9 (keysL.map Value.string).toArray
  have hgr1 := (Gr.refl w1).alloc (.cells (keysL.map Value.string).toArray 9)
  obtain ⟨W2, hW2⟩ : ∃ W2, w1.alloc (.cells (keysL.map Value.string).toArray 9) = W2 := ⟨_, rfl⟩
  obtain ⟨h, hh⟩ : ∃ h, w1.heap.size = h := ⟨_, rfl⟩
  rw [hW2] at hbk hgr1 ⊢
  rw [hh] at hbk ⊢
  clear hW2
  have hfin : ∀ (wr : World) (v : Value) (out : List ByteArray), Gr W2 wr → OwnV 9 wr W2.heap.size v (out.map Value.string) → out = pickKeys keysL b0 most → OwnV 9 wr w.heap.size v ((pickKeys keysL b0 most).map Value.string) ∧ But w wr g ∧ Pk wr g A c l (pickN l n) := fun wr v out hgr hown he => by
    subst he
    exact ⟨hown.base (Nat.le_trans hb1.size hgr1.size), hb1.then_gr (hgr1.trans hgr) hgl, hp1.gr (hgr1.trans hgr)⟩
  have HFin := hide hfin
  clear hfin hp1 hb1 hgr1 hp hgl hh
  go_wp2_with fail
  go_loopw [5, 6, 8] (fun v x i wr => ∃ (k b : Nat) (out : List ByteArray), i = .int .i64 k ∧ k ≤ 6 ∧ x = .int .i64 b ∧ b < 64 ∧ OwnV 9 wr W2.heap.size v (out.map Value.string) ∧ Hid (Chosen b0 most k b out) ∧ Gr W2 wr) (fun _ _ i _ => 6 - (intOf i).toNat)
  case atStart => exact ⟨0, b0, [], rfl, by omega, rfl, hb64, OwnV.none_ _ _, ⟨Nat.zero_le _, by simp⟩, Gr.refl _⟩
  case round =>
    obtain ⟨k, b, out, rfl, hk, rfl, hb, hown, hch, hgr⟩ := hrel
    have hown2 := hown
    obtain ⟨Ao, co, rfl, _, _⟩ := hown.is
    have hol : (out.map Value.string).length = out.length := List.length_map _
    have hom := hch.out.1
    rw [hol] at hown2 ⊢
    clear hown hol
    by_cases hlt : k < 6
    · have hlt' : (k : Int) < 6 := by omega
      by_cases hro : out.length < most
      · have d2 : decide ((out.length : Int) < (most : Int)) = true := by rw [decide_eq_true_eq]; omega
        have hroI : (out.length : Int) < (most : Int) := by omega
        have hcell : wr.cell? ⟨h, k, none⟩ = some (.string (keysL.getD k ⟨#[]⟩)) := by rw [(hbk.gr hgr).cell]; exact keys_at hlt
        obtain ⟨s, hs⟩ : ∃ s, keysL.getD k ⟨#[]⟩ = s := ⟨_, rfl⟩
        by_cases hb2 : b % 2 = 1
        · have e1 : ((b : Int) % 2 == 1) = true := by rw [beq_iff_eq]; omega
          have HM := hide (hch.out.yes hlt hro hb2)
          rw [hs] at hcell HM
          clear hs
          go_wp2_with (at_builtin; refine wpList_pushV rfl (.tmp 27) (.tmp 32) _ rfl 9 i0 _ 16 Try.underlying44 hi hz0 hz1 hz2 rfl rfl rfl hown2 hgr rfl (by rw [List.length_map]; unfold maxLen; omega) (by rw [List.length_map]; omega) ?_; intro v3 w3 ho3 hg3 _)
          go_roundw
          case rel => exact ⟨k + 1, b / 2, out ++ [s], by go_num, by omega, rfl, by omega, by rw [List.map_append]; exact ho3, HM, hg3⟩
          case measure => simp [intOf]; omega
        · have e1 : ((b : Int) % 2 == 1) = false := by rw [beq_eq_false_iff_ne]; omega
          have HM := hide (hch.out.no hlt hro hb2)
          go_wp2_with fail
          go_roundw
          case rel => exact ⟨k + 1, b / 2, out, by go_num, by omega, rfl, by omega, hown2, HM, hgr⟩
          case measure => simp [intOf]; omega
      · have d2 : decide ((out.length : Int) < (most : Int)) = false := by rw [decide_eq_false_iff_not]; omega
        have hF := HFin.out wr _ out hgr hown2 (hch.out.full hro)
        go_wp2_with fail
        go_ret
        exact ⟨.slice Ao out.length co, rfl, by rw [HB0.out]; exact hF⟩
    · obtain rfl : k = 6 := by omega
      have hF := HFin.out wr _ out hgr hown2 hch.out.all
      go_wp2_with fail
      go_ret
      exact ⟨.slice Ao out.length co, rfl, by rw [HB0.out]; exact hF⟩

/-- one of a few -/
def valsL : List ByteArray := [⟨#[]⟩, ⟨#[118]⟩, ⟨#[119]⟩, ⟨#[120, 120]⟩, ⟨#[115, 105, 120, 116, 101, 101, 110, 45, 98, 121, 116, 101, 115, 45, 111, 107]⟩]
def pickVal (l : List UInt8) (n : Nat) : ByteArray := valsL.getD (pickV l n 5) ⟨#[]⟩
theorem vals_at {k : Nat} (h : k < 5) : (valsL.map Value.string).toArray[k]? = some (.string (valsL.getD k ⟨#[]⟩)) := by
  match k, h with
  | 0, _ => rfl
  | 1, _ => rfl
  | 2, _ => rfl
  | 3, _ => rfl
  | 4, _ => rfl
def ValPost (g : Nat) (A : Option Addr) (c : Nat) (l : List UInt8) (n : Nat) (w : World) (e : Ending) (w' : World) : Prop := e = .returned (.string (pickVal l n)) ∧ But w w' g ∧ Pk w' g A c l (pickN l n)

set_option maxHeartbeats 400000 in
theorem Val_ok (g : Nat) (A : Option Addr) (c : Nat) (l : List UInt8) (n : Nat) (hlen : (l.length : Int) ≤ 1000000000) (w : World) (hp : Pk w g A c l n) :
    Calls Try.prog 52 #[.pointer (some ⟨g, 0, none⟩)] w (ValPost g A c l n w) := by
  have hgl := hp.bl.lt
  go_enter Try.func52, Try.ntmps52
  go_wp2_with fail
  have hbk := Bl.new w 9 (valsL.map Value.string).toArray
  have hgr1 := (Gr.refl w).alloc (.cells (valsL.map Value.string).toArray 9)
  obtain ⟨W2, hW2⟩ : ∃ W2, w.alloc (.cells (valsL.map Value.string).toArray 9) = W2 := ⟨_, rfl⟩
  obtain ⟨h, hh⟩ : ∃ h, w.heap.size = h := ⟨_, rfl⟩
  rw [hW2] at hbk hgr1
  simp only [valsL, List.map_cons, List.map_nil] at hW2
  rw [hW2]
  rw [hh] at hbk ⊢
  have hne : h ≠ g := by omega
  clear hW2
  refine (Num_ok g A c l n 5 (by decide) (by decide) hlen W2 (hp.gr hgr1)).mono ?_
  rintro e w1 ⟨rfl, hb1, hp1⟩
  have h5 := pickV_lt l n 5 (by decide)
  have hcell : w1.cell? ⟨h, pickV l n 5, none⟩ = some (.string (pickVal l n)) := hb1.cell (by rw [hbk.cell]; exact vals_at h5) hne
  have hbw : But w w1 g := ⟨hb1.os.trans hgr1.os, hb1.tape.trans hgr1.tape, hb1.output.trans hgr1.output, Nat.le_trans hgr1.size hb1.size, fun j hj hn => (hb1.block j (Nat.lt_of_lt_of_le hj hgr1.size) hn).trans (hgr1.block j hj)⟩
  have HF := hide (And.intro hbw hp1)
  obtain ⟨k, hk⟩ : ∃ k, pickV l n 5 = k := ⟨_, rfl⟩
  obtain ⟨s, hs⟩ : ∃ s, pickVal l n = s := ⟨_, rfl⟩
  rw [hk, hs] at hcell
  rw [hk] at h5 ⊢
  have HS := hide hs
  have h5I : (k : Int) < 5 := by omega
  clear hk hs hbk hgr1 hp hb1 hp1 hbw hh
  go_wp2_with fail
  go_ret
  exact ⟨by rw [HS.out]; rfl, HF.out⟩

end Go.Proofs.Ythpaoeiackbdoaa
