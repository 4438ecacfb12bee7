/-
  diwanplay's choices: Made, Num by their contracts.
-/
import Derived.Test.YthpaoeiackbdoaaBaseW
import Derived.Test.YthpaoeiackbdoaaProg
import Derived.Deep.QuietTactic
import Derived.BigQuiet
namespace Go.Proofs.Ythpaoeiackbdoaa
open Go.RowKit
set_option maxRecDepth 100000

/-- numbers of which n are read, at block g -/
structure Pk (w : World) (g : Nat) (A : Option Addr) (c : Nat) (l : List UInt8) (n : Nat) : Prop where
  bl : Bl w g 69 #[.slice A l.length c, .int .i64 (n : Int)]
  by_ : By w A c l
  off : Off g A l
  le : n ≤ l.length
theorem Pk.gr {w w' : World} {g : Nat} {A : Option Addr} {c : Nat} {l : List UInt8} {n : Nat} (h : Pk w g A c l n) (hg : Gr w w') : Pk w' g A c l n := ⟨h.bl.gr hg, h.by_.gr hg, h.off, h.le⟩
theorem Pk.drewN {w : World} {g : Nat} {A : Option Addr} {c : Nat} {l : List UInt8} {n : Nat} (h : Pk w g A c l n) (k : Nat) : Pk (w.drewN k) g A c l n := ⟨h.bl, h.by_.drewN k, h.off, h.le⟩
/-- what is picked, and how many are read behind it -/
def pickV (l : List UInt8) (n m : Nat) : Nat := if n < l.length then (l.getD n 0).toNat % m else 0
def pickN (l : List UInt8) (n : Nat) : Nat := if n < l.length then n + 1 else n
theorem pickV_lt (l : List UInt8) (n m : Nat) (h : 0 < m) : pickV l n m < m := by
  unfold pickV
  split
  · exact Nat.mod_lt _ h
  · exact h

def NumPost (g : Nat) (A : Option Addr) (c : Nat) (l : List UInt8) (n m : Nat) (w : World) (e : Ending) (w' : World) : Prop := e = .returned (.int .i64 (pickV l n m : Nat)) ∧ But w w' g ∧ Pk w' g A c l (pickN l n)

set_option maxHeartbeats 400000 in
theorem Num_ok (g : Nat) (A : Option Addr) (c : Nat) (l : List UInt8) (n m : Nat) (hm0 : 0 < m) (hm : (m : Int) ≤ 1000000000) (hlen : (l.length : Int) ≤ 1000000000) (w : World) (hp : Pk w g A c l n) :
    Calls Try.prog 31 #[.pointer (some ⟨g, 0, none⟩), .int .i64 (m : Int)] w (NumPost g A c l n m w) := by
  have c0 : w.cell? ⟨g, 0, none⟩ = some (.slice A l.length c) := by rw [hp.bl.cell]; rfl
  have c1 : w.cell? ⟨g, 1, none⟩ = some (.int .i64 (n : Int)) := by rw [hp.bl.cell]; rfl
  have f1 : w.frozen? ⟨g, 1, none⟩ = false := hp.bl.frozen 1
  have hle := hp.le
  by_cases hn : n < l.length
  · have d1 : decide ((l.length : Int) ≤ (n : Int)) = false := by rw [decide_eq_false_iff_not]; omega
    obtain ⟨ad, rfl, hcell⟩ := hp.by_.cell n hn
    have hne := hp.off (by omega) ad rfl
    have hv : pickV l n m = (l.getD n 0).toNat % m := by unfold pickV; rw [if_pos hn]
    have hk : pickN l n = n + 1 := by unfold pickN; rw [if_pos hn]
    unfold bv at hcell
    obtain ⟨x, hx⟩ : ∃ x, (l.getD n 0).toNat = x := ⟨_, rfl⟩
    have hx8 : x < 256 := by rw [← hx]; exact (l.getD n 0).toNat_lt
    rw [hx] at hcell hv
    have HP := hide hp
    have HV := hide hv
    have HK := hide hk
    have hnI : (n : Int) < (l.length : Int) := by omega
    have w1 : IntKind.i64.wrap (n : Int) = (n : Int) := by rw [IntKind.wrap_i64]; omega
    have w2 : IntKind.i64.wrap (x : Int) = (x : Int) := by rw [IntKind.wrap_i64]; omega
    clear hp hx hv hk
    go_enter Try.func31, Try.ntmps31
    go_wp2_with fail
    go_quiet (fail)
    go_wp2_with fail
    have hb2 : Bl ((w.drewN nq).setCell ⟨g, 1, none⟩ (.int .i64 ((n : Int) + 1))) g 69 #[.slice (some ad) l.length c, .int .i64 ((n : Int) + 1)] := (HP.out.bl.drewN nq).put 1 _
    have hbut2 : But w ((w.drewN nq).setCell ⟨g, 1, none⟩ (.int .i64 ((n : Int) + 1))) g := ((But.refl w g).drewN nq).set 1 _
    have e1 : ad.add n ≠ ⟨g, 1, none⟩ := fun e => hne (by rw [← add_block ad n, e])
    generalize (w.drewN nq).setCell ⟨g, 1, none⟩ (.int .i64 ((n : Int) + 1)) = W2 at hb2 hbut2 ⊢
    have k0 : W2.cell? ⟨g, 0, none⟩ = some (.slice (some ad) l.length c) := by rw [hb2.cell]; rfl
    have k1 : W2.cell? ⟨g, 1, none⟩ = some (.int .i64 ((n : Int) + 1)) := by rw [hb2.cell]; rfl
    have k2 : W2.cell? (ad.add n) = some (.int .u8 (x : Int)) := hbut2.cell hcell (by rw [add_block]; exact hne)
    have m0 : ¬ (m : Int) = 0 := by omega
    have m1 : ¬ m = 0 := by omega
    have hPk : Hid (Pk W2 g (some ad) c l (n + 1)) := ⟨hb2, ⟨HP.out.by_.rd.but hbut2 HP.out.off, HP.out.by_.le, HP.out.by_.max, HP.out.by_.nil⟩, HP.out.off, by omega⟩
    have hB2 := hide hbut2
    clear hb2 hbut2 c0 c1 f1 hcell HP e1 hne
    go_quiet (fail)
    go_wp2_with fail
    go_ret
    exact ⟨congrArg (fun z => Ending.returned (Value.int .i64 z)) (by rw [HV.out]; exact (Int.natCast_emod x m).symm), hB2.out.drewN _, by rw [HK.out]; exact hPk.out.drewN _⟩
  · have d1 : decide ((l.length : Int) ≤ (n : Int)) = true := by rw [decide_eq_true_eq]; omega
    have hv : pickV l n m = 0 := by unfold pickV; rw [if_neg hn]
    have hk : pickN l n = n := by unfold pickN; rw [if_neg hn]
    have HP := hide hp
    have HV := hide hv
    have HK := hide hk
    clear hp hv hk
    go_enter Try.func31, Try.ntmps31
    go_wp2_with fail
    go_quiet (fail)
    go_wp2_with fail
    go_ret
    exact ⟨by rw [HV.out]; rfl, (But.refl w g).drewN _, by rw [HK.out]; exact HP.out.drewN _⟩

end Go.Proofs.Ythpaoeiackbdoaa
