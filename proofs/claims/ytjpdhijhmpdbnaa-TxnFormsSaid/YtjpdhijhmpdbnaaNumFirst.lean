/-
  num.Take and num.TakeText by their contracts.
-/
import Derived.Test.YtjpdhijhmpdbnaaNumTake
namespace Go.Proofs.Ytjpdhijhmpdbnaa
open Go.RowKit NumPlain
set_option maxRecDepth 100000

/-- what Take tells of bytes: the number, how many bytes, whether there is one -/
def takeV (l : List UInt8) : Int := match takeF 9 l with | none => 0 | some (v, _) => (v : Int)
def takeK (l : List UInt8) : Int := match takeF 9 l with | none => 0 | some (_, k) => (k : Int)
def takeB (l : List UInt8) : Bool := (takeF 9 l).isSome

def FirstPost (w : World) (g : Nat) (l : List UInt8) (e : Ending) (w' : World) : Prop := e = .returned (.tuple #[.int .i64 (takeV l), .int .i64 (takeK l), .bool (takeB l)]) ∧ But w w' g

set_option maxHeartbeats 400000 in
theorem first_any (g : Nat) (A : Option Addr) (c : Nat) (l : List UInt8) (w : World) (hr : Rdr w g A l.length c 0) (hl : Rd w A l) (ho : Off g A l) (hmax : (l.length : Int) ≤ 140737488351232) :
    Calls Try.prog 79 #[.pointer (some ⟨g, 0, none⟩), .func (.func 80) #[.pointer (some ⟨g, 0, none⟩)] #[]] w (FirstPost w g l) := by
  cases ht : takeF 9 l with
  | none =>
    have HF : ∀ w', But w w' g → FirstPost w g l (.returned (.tuple #[.int .i64 0, .int .i64 0, .bool false])) w' := fun w' h => ⟨by simp [takeV, takeK, takeB, ht], h⟩
    have Ht := hide ht
    have HF2 := hide HF
    clear ht HF
    go_enter Try.func79, Try.ntmps79
    go_wp2_with fail
    refine (number_no g A c l 0 _ hr hl ho (by omega) hmax Ht.out).mono ?_
    rintro e w1 ⟨x, q, rfl, hr1, hb1⟩
    go_wp2_with fail
    go_ret3
    exact HF2.out _ hb1
  | some vk =>
    obtain ⟨v, k⟩ := vk
    have HF : ∀ w', But w w' g → FirstPost w g l (.returned (.tuple #[.int .i64 v, .int .i64 k, .bool true])) w' := fun w' h => ⟨by simp [takeV, takeK, takeB, ht], h⟩
    have Ht := hide ht
    have HF2 := hide HF
    clear ht HF
    go_enter Try.func79, Try.ntmps79
    go_wp2_with fail
    refine (number_yes g A c l 0 v k _ hr hl ho (by omega) hmax Ht.out).mono ?_
    rintro e w1 ⟨rfl, hr1, hb1⟩
    have c1 : w1.cell? ⟨g, 1, none⟩ = some (.int .i64 (0 + k : Nat)) := hr1.cell 1
    rw [Nat.zero_add] at c1
    go_wp2_with fail
    go_quiet (fail)
    go_wp2_with fail
    go_ret3
    exact HF2.out _ (hb1.drewN _)

set_option maxHeartbeats 400000 in
theorem Take_ok (A : Option Addr) (n c : Nat) (l : List UInt8) (hn : n = l.length) (w : World) (hl : Rd w A l) (hmax : (l.length : Int) ≤ 140737488351232) :
    Calls Try.prog 64 #[.slice A n c] w fun e w' => e = .returned (.tuple #[.int .i64 (takeV l), .int .i64 (takeK l), .bool (takeB l)]) ∧ Gr w w' := by
  subst hn
  go_enter Try.func64, Try.ntmps64
  go_wp2_with fail
  refine (first_any w.heap.size A c l _ (Bl.new _ _ _) (hl.gr ((Gr.refl w).alloc _)) hl.off hmax).mono ?_
  rintro e w1 ⟨rfl, hb⟩
  go_wp2_with fail
  go_ret3
  exact ⟨rfl, hb.gr⟩

/-- what TakeText tells of bytes -/
def textV (l : List UInt8) : ByteArray := match takeT l with | none => ByteArray.empty | some (t, _) => bs t
def textK (l : List UInt8) : Int := match takeT l with | none => 0 | some (_, k) => (k : Int)
def textB (l : List UInt8) : Bool := (takeT l).isSome

def FirstTPost (w : World) (g : Nat) (l : List UInt8) (e : Ending) (w' : World) : Prop := e = .returned (.tuple #[.string (textV l), .int .i64 (textK l), .bool (textB l)]) ∧ But w w' g

theorem text_no (g : Nat) (A : Option Addr) (c : Nat) (l : List UInt8) (w : World) (hr : Rdr w g A l.length c 0) (hl : Rd w A l) (ho : Off g A l) (hmax : (l.length : Int) ≤ 140737488351232) (hc : l.length ≤ c) (h : takeT l = none) :
    Calls Try.prog 92 #[.pointer (some ⟨g, 0, none⟩)] w fun e w' => ∃ (x : ByteArray) (q : Nat), e = .returned (.tuple #[.string x, .bool false]) ∧ Rdr w' g A l.length c q ∧ But w w' g :=
  (text_any g A c l w hr hl ho hmax hc).mono fun e w' ⟨x, ok, q, he, h1, h2, h3⟩ => by
    rw [h] at h3
    subst h3
    exact ⟨x, q, he, h1, h2⟩
theorem text_yes (g : Nat) (A : Option Addr) (c : Nat) (l t : List UInt8) (k : Nat) (w : World) (hr : Rdr w g A l.length c 0) (hl : Rd w A l) (ho : Off g A l) (hmax : (l.length : Int) ≤ 140737488351232) (hc : l.length ≤ c) (h : takeT l = some (t, k)) :
    Calls Try.prog 92 #[.pointer (some ⟨g, 0, none⟩)] w fun e w' => e = .returned (.tuple #[.string (bs t), .bool true]) ∧ Rdr w' g A l.length c k ∧ But w w' g :=
  (text_any g A c l w hr hl ho hmax hc).mono fun e w' ⟨x, ok, q, he, h1, h2, h3⟩ => by
    rw [h] at h3
    obtain ⟨rfl, rfl, rfl⟩ := h3
    exact ⟨he, h1, h2⟩

set_option maxHeartbeats 400000 in
theorem firstT_any (g : Nat) (A : Option Addr) (c : Nat) (l : List UInt8) (w : World) (hr : Rdr w g A l.length c 0) (hl : Rd w A l) (ho : Off g A l) (hmax : (l.length : Int) ≤ 140737488351232) (hc : l.length ≤ c) :
    Calls Try.prog 91 #[.pointer (some ⟨g, 0, none⟩), .func (.func 92) #[.pointer (some ⟨g, 0, none⟩)] #[]] w (FirstTPost w g l) := by
  cases ht : takeT l with
  | none =>
    have HF : ∀ w', But w w' g → FirstTPost w g l (.returned (.tuple #[.string ByteArray.empty, .int .i64 0, .bool false])) w' := fun w' h => ⟨by simp [textV, textK, textB, ht], h⟩
    have Ht := hide ht
    have HF2 := hide HF
    clear ht HF
    go_enter Try.func91, Try.ntmps91
    go_wp2_with fail
    refine (text_no g A c l _ hr hl ho hmax hc Ht.out).mono ?_
    rintro e w1 ⟨x, q, rfl, hr1, hb1⟩
    go_wp2_with fail
    go_ret3
    exact HF2.out _ hb1
  | some vk =>
    obtain ⟨t, k⟩ := vk
    have HF : ∀ w', But w w' g → FirstTPost w g l (.returned (.tuple #[.string (bs t), .int .i64 k, .bool true])) w' := fun w' h => ⟨by simp [textV, textK, textB, ht], h⟩
    have Ht := hide ht
    have HF2 := hide HF
    clear ht HF
    go_enter Try.func91, Try.ntmps91
    go_wp2_with fail
    refine (text_yes g A c l t k _ hr hl ho hmax hc Ht.out).mono ?_
    rintro e w1 ⟨rfl, hr1, hb1⟩
    have c1 : w1.cell? ⟨g, 1, none⟩ = some (.int .i64 k) := hr1.cell 1
    go_wp2_with fail
    go_quiet (fail)
    go_wp2_with fail
    go_ret3
    exact HF2.out _ (hb1.drewN _)

set_option maxHeartbeats 400000 in
theorem TakeText_ok (A : Option Addr) (n c : Nat) (l : List UInt8) (hn : n = l.length) (w : World) (hl : Rd w A l) (hmax : (l.length : Int) ≤ 140737488351232) (hc : l.length ≤ c) :
    Calls Try.prog 82 #[.slice A n c] w fun e w' => e = .returned (.tuple #[.string (textV l), .int .i64 (textK l), .bool (textB l)]) ∧ Gr w w' := by
  subst hn
  go_enter Try.func82, Try.ntmps82
  go_wp2_with fail
  refine (firstT_any w.heap.size A c l _ (Bl.new _ _ _) (hl.gr ((Gr.refl w).alloc _)) hl.off hmax hc).mono ?_
  rintro e w1 ⟨rfl, hb⟩
  go_wp2_with fail
  go_ret3
  exact ⟨rfl, hb.gr⟩

/-- the same, of bytes that lie somewhere -/
theorem take_by (A : Option Addr) (n c : Nat) (l : List UInt8) (hn : n = l.length) (w : World) (h : By w A c l) (hmax : (l.length : Int) ≤ 140737488351232) :
    Calls Try.prog 64 #[.slice A n c] w fun e w' => e = .returned (.tuple #[.int .i64 (takeV l), .int .i64 (takeK l), .bool (takeB l)]) ∧ Gr w w' :=
  Take_ok A n c l hn w h.rd hmax
theorem takeText_by (A : Option Addr) (n c : Nat) (l : List UInt8) (hn : n = l.length) (w : World) (h : By w A c l) (hmax : (l.length : Int) ≤ 140737488351232) :
    Calls Try.prog 82 #[.slice A n c] w fun e w' => e = .returned (.tuple #[.string (textV l), .int .i64 (textK l), .bool (textB l)]) ∧ Gr w w' :=
  TakeText_ok A n c l hn w h.rd hmax h.le

end Go.Proofs.Ytjpdhijhmpdbnaa
