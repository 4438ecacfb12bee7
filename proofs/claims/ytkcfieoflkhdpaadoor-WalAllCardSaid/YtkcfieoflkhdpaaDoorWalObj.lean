/-
  A wal in memory; wal's last and Pieces.
-/
import Derived.Test.YtkcfieoflkhdpaaDoorWalMine
namespace Go.Proofs.YtkcfieoflkhdpaaDoor.WalObj
open Go Go.RowKit MapS DiskMem DiskOps WalMath WalName
set_option maxRecDepth 100000

theorem agg_disk (w : World) : (isAgg 25).run Tryd.prog w = .ok false w := by kernel_rfl
theorem agg_names (w : World) : (isAgg 48).run Tryd.prog w = .ok false w := by kernel_rfl
theorem agg_int2 (w : World) : (isAgg 3).run Tryd.prog w = .ok false w := by kernel_rfl
/-- a wal's cells -/
abbrev walC (d : Nat) (b : UInt8) (size n : Nat) : Array Value := #[ptr d, .int .u8 b.toNat, .int .i64 size, .int .i64 n]
/-- a wal in block g -/
def WalAt (w : World) (g d : Nat) (b : UInt8) (size n : Nat) : Prop := Bl w g 55 (walC d b size n)
theorem WalAt.only {S : Nat → Prop} {w w' : World} {g d : Nat} {b : UInt8} {size n : Nat} (h : WalAt w g d b size n) (ho : Only S w w') (hg : ¬ S g) : WalAt w' g d b size n := ho.bl h hg
theorem WalAt.gr {w w' : World} {g d : Nat} {b : UInt8} {size n : Nat} (h : WalAt w g d b size n) (hg : Gr w w') : WalAt w' g d b size n := Bl.gr h hg

set_option maxHeartbeats 400000 in
theorem last_ok (g d : Nat) (b : UInt8) (hb : 97 ≤ b.toNat ∧ b.toNat ≤ 122) (size n : Nat) (hn : n ≤ 9999) (w : World) (h : WalAt w g d b size n) (ht : TabW w) :
    Calls Tryd.prog 19 #[.pointer (some ⟨g, 0, none⟩)] w fun e w' => e = .returned (.string (pname b n)) ∧ Gr w w' := by
  have HT := hide ht
  have HW := hide h
  have HB := hide hb
  clear ht h hb
  go_enter Tryd.func19, Tryd.ntmps19
  go_wp2_with fail
  refine Grow.wp_region_grown 12 rfl (by kernel_rfl) (by kernel_rfl) (Grow.Ahead.more (Grow.Ahead.none_ _ _) 0 (Grow.Bx.stays g 55 (walC d b size n)) ⟨rfl, Bl.drewN HW.out 1⟩) ?_
  refine Grow.grow_mvx (.inl rfl) (.inl ⟨rfl, rfl⟩) rfl ?_
  refine Grow.grow_nil rfl (.inl ⟨rfl, rfl⟩) rfl ?_
  refine Grow.grow_field (j := 1) (Ψ := Grow.Is (.int .u8 (b.toNat : Int))) rfl (.inl ⟨rfl, rfl⟩) rfl (fun _ => rfl) rfl (Grow.Is.stays _) (fun _ _ => rfl) ?_
  refine Grow.grow_load_k rfl agg_names (.inl ⟨rfl, rfl⟩) rfl (Grow.Is.stays _) ?_
  refine Grow.grow_mvx (.inl rfl) (.inl ⟨rfl, rfl⟩) rfl ?_
  refine Grow.grow_nil rfl (.inl ⟨rfl, rfl⟩) rfl ?_
  refine Grow.grow_field (j := 3) (Ψ := Grow.Is (.int .i64 (n : Int))) rfl (.inl ⟨rfl, rfl⟩) rfl (fun _ => rfl) rfl (Grow.Is.stays _) (fun _ _ => rfl) ?_
  refine Grow.grow_load_k rfl agg_int2 (.inl ⟨rfl, rfl⟩) rfl (Grow.Is.stays _) ?_
  refine Grow.grow_call2 (Φ := Grow.Is (.string (pname b n))) rfl (.inl ⟨rfl, rfl⟩) Tryd.func28 (by kernel_rfl) (by kernel_rfl) (Ψ := Grow.Is (.int .u8 (b.toNat : Int))) (Ψ' := Grow.Is (.int .i64 (n : Int))) rfl rfl (Grow.Is.stays _) (fun v u w' hg hv hu => by
    obtain rfl : v = _ := hv
    obtain rfl : u = _ := hu
    exact (piece_ok b HB.out n hn w' (HT.out.gr (((Gr.refl w).drewN 1).trans hg))).mono fun e w1 ⟨he, hg1⟩ => ⟨_, he, hg1, rfl⟩) ?_
  refine Grow.grow_mv (.inr rfl) (.inl ⟨rfl, rfl⟩) rfl ?_
  intro a1 w1 hg1 hs1 hd1 hk1
  have s4 : a1.tmps.getD 2 undef = .string (pname b n) := hk1 2
  clear hk1
  have hgw : Gr w w1 := Gr.trans ((Gr.refl w).drew) hg1
  rw [Grow.lay_frame a1 12 hs1, hd1]
  simp only [List.range, List.range.loop, List.map_cons, List.map_nil, s4]
  clear s4
  go_wp2_with fail
  go_ret
  exact ⟨rfl, hgw⟩

set_option maxHeartbeats 400000 in
theorem pieces_ok (g d : Nat) (b : UInt8) (size n : Nat) (w : World) (h : WalAt w g d b size n) :
    Calls Tryd.prog 13 #[.pointer (some ⟨g, 0, none⟩)] w fun e w' => e = .returned (.int .i64 n) ∧ w' = w := by
  have c3 := Bl.cell h 3
  simp only [List.getElem?_toArray, List.getElem?_cons_zero, List.getElem?_cons_succ] at c3
  go_enter Tryd.func13, Tryd.ntmps13
  go_wp2_with fail
  go_ret
  exact ⟨rfl, rfl⟩
theorem pieces_nil (w : World) : Calls Tryd.prog 13 #[.pointer none] w fun e w' => e = .returned (.int .i64 0) ∧ w' = w := by
  go_enter Tryd.func13, Tryd.ntmps13
  go_wp2_with fail
  go_ret
  exact ⟨rfl, rfl⟩
theorem sync_nil (w : World) : Calls Tryd.prog 8 #[.pointer none] w fun e w' => e = .returned (.int .i64 1) ∧ w' = w := by
  go_enter Tryd.func8, Tryd.ntmps8
  go_wp2_with fail
  go_ret
  exact ⟨rfl, rfl⟩
theorem append_nil (v : Value) (w : World) : Calls Tryd.prog 11 #[.pointer none, v] w fun e w' => e = .returned (.int .i64 1) ∧ w' = w := by
  go_enter Tryd.func11, Tryd.ntmps11
  go_wp2_with fail
  go_ret
  exact ⟨rfl, rfl⟩

end Go.Proofs.YtkcfieoflkhdpaaDoor.WalObj
