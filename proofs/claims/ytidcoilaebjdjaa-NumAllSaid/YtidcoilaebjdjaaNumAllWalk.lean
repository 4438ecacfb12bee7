/-
  The walk of 'NumAll'.
-/
import Derived.Test.YtidcoilaebjdjaaNumBegun
import Derived.Test.YtidcoilaebjdjaaNumRefText
import Derived.Test.YtidcoilaebjdjaaLent
namespace Go.Proofs.Ytidcoilaebjdjaa
open Go.RowKit NumPlain

def YesAll (w : World) (e : Ending) (w' : World) : Prop := e = .returned (.bool true) ∧ Gr w w'

set_option maxRecDepth 100000 in
set_option maxHeartbeats 400000 in
theorem all_out (w : World) (v : Int) (s : ByteArray) (A : Option Addr) (n c : Nat) (h : (300 : Int) < (s.size : Int) ∨ (300 : Int) < (n : Int)) :
    Calls Try.prog 3 #[.int .i64 v, .string s, .slice A n c] w (YesAll w) := by
  by_cases h1 : (300 : Int) < (s.size : Int)
  · have d1 : decide ((300 : Int) < (s.size : Int)) = true := by rw [decide_eq_true_eq]; exact h1
    clear h h1
    go_enter Try.func3, Try.ntmps3
    go_wp2_with fail
    refine (begun_ok _).mono ?_
    rintro e w1 ⟨rfl, hg1⟩
    go_wp2_with fail
    go_ret
    exact ⟨rfl, hg1⟩
  · have d1 : decide ((300 : Int) < (s.size : Int)) = false := by rw [decide_eq_false_iff_not]; exact h1
    have d2 : decide ((300 : Int) < (n : Int)) = true := by rw [decide_eq_true_eq]; omega
    clear h h1
    go_enter Try.func3, Try.ntmps3
    go_wp2_with fail
    refine (begun_ok _).mono ?_
    rintro e w1 ⟨rfl, hg1⟩
    go_wp2_with fail
    go_ret
    exact ⟨rfl, hg1⟩

/-- what is lent, as it is known -/
def LentKn (g n : Nat) (cur : Array Value) : Grow.Known := fun v w => v = .slice (some ⟨g, 0, none⟩) n (n + 6) ∧ Bl w g 5 cur
theorem LentKn.stays (g n : Nat) (cur : Array Value) : Grow.Stays (LentKn g n cur) := fun _ _ _ ⟨h1, h2⟩ hg => ⟨h1, h2.gr hg⟩

set_option maxRecDepth 100000 in
set_option maxHeartbeats 1000000 in
theorem all_in (w : World) (v : Int) (hv : v ≤ 9223372036854775807) (s : ByteArray) (hs : (s.size : Int) ≤ 300) (A : Option Addr) (n c : Nat) (l : List UInt8) (hn : n = l.length) (hby : By w A c l) (hl : (l.length : Int) ≤ 300) :
    Calls Try.prog 3 #[.int .i64 v, .string s, .slice A n c] w (YesAll w) := by
  subst hn
  have d1 : decide ((300 : Int) < (s.size : Int)) = false := by rw [decide_eq_false_iff_not]; omega
  have d2 : decide ((300 : Int) < (l.length : Int)) = false := by rw [decide_eq_false_iff_not]; omega
  go_enter Try.func3, Try.ntmps3
  go_wp2_with fail
  refine (begun_ok _).mono ?_
  rintro e w1 ⟨rfl, hg1⟩
  go_wp2_with fail
  refine (Lent_ok A _ c l rfl _ (hby.gr hg1) (by omega)).mono ?_
  rintro e w2 ⟨g, cur, rfl, hbl2, hlent, hg2⟩
  have hb2 := hlent.by_ hbl2 (by omega)
  go_wp2_with fail
  refine (take_by _ _ _ l rfl _ hb2 (by omega)).mono ?_
  rintro e w3 ⟨rfl, hg3⟩
  go_wp2_with fail
  refine (TakeNum_ok A _ c l rfl _ (((hby.gr hg1).gr hg2).gr hg3) (by omega)).mono ?_
  rintro e w4 ⟨rfl, hg4⟩
  go_wp2_with fail
  refine (takeText_by _ _ _ l rfl _ ((hb2.gr hg3).gr hg4) (by omega)).mono ?_
  rintro e w5 ⟨rfl, hg5⟩
  go_wp2_with fail
  refine (RefTakeText_ok A _ c l rfl _ ((((hby.gr hg1).gr hg2).gr (hg3.trans hg4)).gr hg5) (by omega)).mono ?_
  rintro e w6 ⟨rfl, hg6⟩
  have g26 : Gr w2 w6 := hg3.trans (hg4.trans (hg5.trans hg6))
  have gw : Gr w w6 := hg1.trans (hg2.trans g26)
  go_wp2_with fail
  refine Grow.wp_region_grown 107 rfl (by kernel_rfl) (by kernel_rfl) (Grow.Ahead.more (Grow.Ahead.more (Grow.Ahead.more (Grow.Ahead.more (Grow.Ahead.more (Grow.Ahead.more (Grow.Ahead.more (Grow.Ahead.more
    (Grow.Ahead.more (Grow.Ahead.more (Grow.Ahead.more (Grow.Ahead.more (Grow.Ahead.more (Grow.Ahead.more (Grow.Ahead.more (Grow.Ahead.more (Grow.Ahead.none_ _ _) 0 (Grow.Is.stays (.int .i64 v)) rfl) 1 (Grow.Is.stays (.string s)) rfl)
    2 (Grow.Sl.stays l) ⟨A, c, rfl, (hby.gr gw).gr ((Gr.refl w6).drew)⟩) 7 (LentKn.stays g l.length cur) ⟨rfl, (hbl2.gr g26).gr ((Gr.refl w6).drew)⟩)
    8 (Grow.Is.stays (.int .i64 (takeV l))) rfl) 9 (Grow.Is.stays (.int .i64 (takeK l))) rfl) 10 (Grow.Is.stays (.bool (takeB l))) rfl)
    11 (Grow.Is.stays (.int .i64 (takeV l))) rfl) 12 (Grow.Is.stays (.int .i64 (takeK l))) rfl) 13 (Grow.Is.stays (.bool (takeB l))) rfl)
    14 (Grow.Is.stays (.string (textV l))) rfl) 15 (Grow.Is.stays (.int .i64 (textK l))) rfl) 16 (Grow.Is.stays (.bool (textB l))) rfl)
    17 (Grow.Is.stays (.string (textV l))) rfl) 18 (Grow.Is.stays (.int .i64 (textK l))) rfl) 19 (Grow.Is.stays (.bool (textB l))) rfl) ?_
  have cPut : ∀ x u, Gr w6.drew u → Grow.Is (.int .i64 v) x u → Calls Try.prog 14 #[x] u fun e w' => ∃ y, e = .returned y ∧ Gr u w' ∧ Grow.Sl (putZ v) y w' := fun x u _ hx => by
    obtain rfl : x = _ := hx
    exact (Put_ok v hv u).mono fun e w1 ⟨v1, he, ho1, hg1⟩ => ⟨v1, he, hg1, ho1.by_⟩
  have cPutNum : ∀ x u, Gr w6.drew u → Grow.Is (.int .i64 v) x u → Calls Try.prog 15 #[x] u fun e w' => ∃ y, e = .returned y ∧ Gr u w' ∧ Grow.Sl (putZ v) y w' := fun x u _ hx => by
    obtain rfl : x = _ := hx
    exact (PutNum_ok v hv u).mono fun e w1 ⟨v1, he, ho1, hg1⟩ => ⟨v1, he, hg1, ho1.by_⟩
  have cPutText : ∀ x u, Gr w6.drew u → Grow.Is (.string s) x u → Calls Try.prog 16 #[x] u fun e w' => ∃ y, e = .returned y ∧ Gr u w' ∧ Grow.Sl (putT s.data.toList) y w' := fun x u _ hx => by
    obtain rfl : x = _ := hx
    exact (PutText_ok s (by omega) u).mono fun e w1 ⟨v1, he, ho1, hg1⟩ => ⟨v1, he, hg1, ho1.by_⟩
  have cRefPutText : ∀ x u, Gr w6.drew u → Grow.Is (.string s) x u → Calls Try.prog 17 #[x] u fun e w' => ∃ y, e = .returned y ∧ Gr u w' ∧ Grow.Sl (putT s.data.toList) y w' := fun x u _ hx => by
    obtain rfl : x = _ := hx
    exact (RefPutText_ok s (by omega) u).mono fun e w1 ⟨v1, he, ho1, hg1⟩ => ⟨v1, he, hg1, ho1.by_⟩
  have cBack : ∀ x y u, Gr w6.drew u → LentKn g l.length cur x u → Grow.Sl l y u → Calls Try.prog 18 #[x, y] u fun e w' => ∃ z, e = .returned z ∧ Gr u w' ∧ Grow.Is (.bool true) z w' := fun x y u _ ⟨hx, hb⟩ ⟨A', c', hy, hby'⟩ => by
    subst hx hy
    exact (Back_ok A' _ c' l rfl g cur u hby' hb hlent (by omega)).mono fun e w' ⟨he, hw⟩ => ⟨_, he, by rw [hw]; exact Gr.refl u, rfl⟩
  repeat (first
    | refine Grow.grow_mv (.inl rfl) (by first | exact .inl ⟨rfl, rfl⟩ | exact .inr ⟨_, _, _, rfl, rfl, rfl, by decide⟩) rfl ?_
    | refine Grow.grow_conv rfl (by first | exact .inl ⟨rfl, rfl⟩ | exact .inr ⟨_, _, _, rfl, rfl, rfl, by decide⟩) rfl Try.underlying22 Try.underlying5 Try.underlying9 ?_
    | refine Grow.grow_call1 rfl (by first | exact .inl ⟨rfl, rfl⟩ | exact .inr ⟨_, _, _, rfl, rfl, rfl, by decide⟩) Try.func14 (by kernel_rfl) (by kernel_rfl) rfl (Grow.Sl.stays _) cPut ?_
    | refine Grow.grow_call1 rfl (by first | exact .inl ⟨rfl, rfl⟩ | exact .inr ⟨_, _, _, rfl, rfl, rfl, by decide⟩) Try.func15 (by kernel_rfl) (by kernel_rfl) rfl (Grow.Sl.stays _) cPutNum ?_
    | refine Grow.grow_call1 rfl (by first | exact .inl ⟨rfl, rfl⟩ | exact .inr ⟨_, _, _, rfl, rfl, rfl, by decide⟩) Try.func16 (by kernel_rfl) (by kernel_rfl) rfl (Grow.Sl.stays _) cPutText ?_
    | refine Grow.grow_call1 rfl (by first | exact .inl ⟨rfl, rfl⟩ | exact .inr ⟨_, _, _, rfl, rfl, rfl, by decide⟩) Try.func17 (by kernel_rfl) (by kernel_rfl) rfl (Grow.Sl.stays _) cRefPutText ?_
    | refine Grow.grow_str_same rfl rfl (by first | exact .inl ⟨rfl, rfl⟩ | exact .inr ⟨_, _, _, rfl, rfl, rfl, by decide⟩) rfl rfl ?_
    | refine Grow.grow_int_same rfl rfl (by first | exact .inl ⟨rfl, rfl⟩ | exact .inr ⟨_, _, _, rfl, rfl, rfl, by decide⟩) rfl rfl ?_
    | refine Grow.grow_bool_same rfl Try.underlying4 rfl (by first | exact .inl ⟨rfl, rfl⟩ | exact .inr ⟨_, _, _, rfl, rfl, rfl, by decide⟩) rfl rfl ?_
    | refine Grow.grow_pick_yes rfl (by first | exact .inl ⟨rfl, rfl⟩ | exact .inr ⟨_, _, _, rfl, rfl, rfl, by decide⟩) rfl (Φ := Grow.Is (.bool true)) rfl (Grow.Is.stays _) ?_
    | refine Grow.grow_mvs (.inl rfl) (by first | exact .inl ⟨rfl, rfl⟩ | exact .inr ⟨_, _, _, rfl, rfl, rfl, by decide⟩) rfl ?_
    | refine Grow.grow_move _ (.inl rfl) (by first | exact .inl ⟨rfl, rfl⟩ | exact .inr ⟨_, _, _, rfl, rfl, rfl, by decide⟩) (Φ := LentKn g l.length cur) rfl (LentKn.stays _ _ _) ?_
    | refine Grow.grow_call2 rfl (by first | exact .inl ⟨rfl, rfl⟩ | exact .inr ⟨_, _, _, rfl, rfl, rfl, by decide⟩) Try.func18 (by kernel_rfl) (by kernel_rfl) rfl rfl (Grow.Is.stays _) cBack ?_
    | refine Grow.grow_mv (.inr rfl) (by first | exact .inl ⟨rfl, rfl⟩ | exact .inr ⟨_, _, _, rfl, rfl, rfl, by decide⟩) rfl ?_)
  intro a1 u1 hg7 hs7 hd7 hk7
  have s6 : a1.tmps.getD 6 undef = .bool true := hk7 6
  go_wp2_with fail
  refine bodyPost_ret (v := .bool true) (by simp [results, Try.results3, go_sem]; simpa using s6) hd7 ⟨rfl, gw.trans (Gr.trans ((Gr.refl w6).drew) hg7)⟩

theorem walk_NumAll (w : World) (a0 : Int) (w0 : (Lit.int .i64 a0).wf = true) (s : ByteArray) (_w1 : s.size ≤ maxLen) (A : Option Addr) (n c : Nat) (l : List UInt8) (hn : n = l.length) (hby : By w A c l) :
    Calls Try.prog 3 #[.int .i64 a0, .string s, .slice A n c] w fun e w' => e = .returned (.bool true) ∧ Gr w w' := by
  have h0 : a0 ≤ 9223372036854775807 := by simp [Lit.wf, IntKind.min, IntKind.max, IntKind.signed, IntKind.bits] at w0; omega
  by_cases h : (300 : Int) < (s.size : Int) ∨ (300 : Int) < (n : Int)
  · exact all_out w a0 s A n c h
  · exact all_in w a0 h0 s (by omega) A n c l hn hby (by omega)

end Go.Proofs.Ytidcoilaebjdjaa
