/-
  txn's reader by its contracts: read, write.
-/
import Derived.Test.YtjpdhijhmpdbnaaTxReader
namespace Go.Proofs.Ytjpdhijhmpdbnaa
open Go Go.RowKit TxnMath KeyMath NumPlain TakeMath
set_option maxRecDepth 100000

theorem gr_past {w0 w w' : World} {g : Nat} (hg : Gr w0 w) (hb : But w w' g) (h0 : w0.heap.size ≤ g) : Gr w0 w' := hg.below.grown hb hg.size (fun j hj => by injection hj with hj; omega)
/-- what read comes to -/
def RdPost (g : Nat) (A : Option Addr) (n c : Nat) (w : World) (v : Value) (s : RdS) (e : Ending) (w' : World) : Prop := e = .returned v ∧ RdAt w' g A n c s ∧ But w w' g

def rdV (x : RdT) : Value := .agg #[.string x.key, .int .i64 x.ver, .string x.val, .bool x.there]
def wrV (x : WrT) : Value := .agg #[.string x.key, .string x.val, .bool x.gone]

set_option maxHeartbeats 1000000 in
theorem rdRead_ok (g : Nat) (A : Option Addr) (c : Nat) (l : List UInt8) (s : RdS) (w0 w : World) (h0 : w0.heap.size ≤ g) (hg0 : Gr w0 w) (hby : By w0 A c l) (hr : RdAt w g A l.length c s) (hle : s.at_ ≤ l.length) (hmax : (l.length : Int) ≤ 1000000000) :
    Calls Try.prog 49 #[.pointer (some ⟨g, 0, none⟩)] w (RdPost g A l.length c w (rdV (nR l s).1) (nR l s).2) := by
  have C1 := hide (fun w (hg : Gr w0 w) h => rdText_ok g A c l s w h (hby.gr hg) hle hmax)
  have l1 := (simT l).le s hle
  have C2 := hide (fun w (hg : Gr w0 w) h => rdNumber_ok g A c l (nT l s).2 w h (hby.gr hg) l1 hmax)
  have l2 := (simN l).le _ l1
  have C3 := hide (fun w (hg : Gr w0 w) h => rdText_ok g A c l (nN l (nT l s).2).2 w h (hby.gr hg) l2 hmax)
  have l3 := (simT l).le _ l2
  have C4 := hide (fun w (hg : Gr w0 w) h => rdFlag_ok g A c l (nT l (nN l (nT l s).2).2).2 w h (hby.gr hg) l3 hmax)
  rw [show nR l s = (⟨(nT l s).1, (nN l (nT l s).2).1, (nT l (nN l (nT l s).2).2).1, (nF l (nT l (nN l (nT l s).2).2).2).1⟩, (nF l (nT l (nN l (nT l s).2).2).2).2) from rfl]
  unfold rdV
  generalize nF l (nT l (nN l (nT l s).2).2).2 = r4 at C4 ⊢
  generalize nT l (nN l (nT l s).2).2 = r3 at C3 C4 ⊢
  generalize nN l (nT l s).2 = r2 at C2 C3 ⊢
  generalize nT l s = r1 at C1 C2 ⊢
  have HR := hide hr
  have hgl := hr.lt
  obtain ⟨n, hn⟩ : ∃ n, l.length = n := ⟨_, rfl⟩
  rw [hn] at HR C1 C2 C3 C4 ⊢
  clear hr hby hle hmax l1 l2 l3 hn
  go_enter Try.func49, Try.ntmps49
  go_wp2_with fail
  obtain ⟨W, hW⟩ : ∃ W, w.alloc (.cells #[.string ⟨#[]⟩, .int .i64 0, .string ⟨#[]⟩, .bool false] 39) = W := ⟨_, rfl⟩
  have hg : Gr w W := by rw [← hW]; exact (Gr.refl _).alloc _
  have hbx : Bl W w.heap.size 39 #[.string ⟨#[]⟩, .int .i64 0, .string ⟨#[]⟩, .bool false] := by rw [← hW]; exact Bl.new _ _ _
  rw [hW]
  clear hW
  obtain ⟨b, hb⟩ : ∃ b, w.heap.size = b := ⟨_, rfl⟩
  have HB := hide hb
  rw [hb] at hbx hgl ⊢
  have hbg : b ≠ g := by omega
  clear hb
  have B0 := hide hbx
  have G0 := hide (hg0.trans hg)
  have T0 := hide (hg.but g)
  have R0 := hide (HR.out.gr hg)
  clear hbx hgl hg HR
  refine (C1.out W G0.out R0.out).mono ?_
  rintro e w1 ⟨rfl, k1, t1⟩
  have G1 := hide (gr_past G0.out t1 h0)
  have B1 := hide (B0.out.but_ t1 hbg)
  have T1 := hide (T0.out.trans_ t1)
  have R1 := hide k1
  clear k1 t1 C1
  go_wp2_with fail
  refine (C2.out w1 G1.out R1.out).mono ?_
  rintro e w2 ⟨rfl, k2, t2⟩
  have G2 := hide (gr_past G1.out t2 h0)
  have B2 := hide (B1.out.but_ t2 hbg)
  have T2 := hide (T1.out.trans_ t2)
  have R2 := hide k2
  clear k2 t2 C2
  go_wp2_with fail
  refine (C3.out w2 G2.out R2.out).mono ?_
  rintro e w3 ⟨rfl, k3, t3⟩
  have G3 := hide (gr_past G2.out t3 h0)
  have B3 := hide (B2.out.but_ t3 hbg)
  have T3 := hide (T2.out.trans_ t3)
  have R3 := hide k3
  clear k3 t3 C3
  go_wp2_with fail
  refine (C4.out w3 G3.out R3.out).mono ?_
  rintro e w4 ⟨rfl, k4, t4⟩
  have B4 := hide (B3.out.but_ t4 hbg)
  have T4 := hide (T3.out.trans_ t4)
  have R4 := hide k4
  clear k4 t4 C4
  have c0 := B4.out.cell 0
  have c1 := B4.out.cell 1
  have c2 := B4.out.cell 2
  have c3 := B4.out.cell 3
  have f0 := B4.out.frozen 0
  have f1 := B4.out.frozen 1
  have f2 := B4.out.frozen 2
  have f3 := B4.out.frozen 3
  simp only [List.getElem?_toArray, List.getElem?_cons_zero, List.getElem?_cons_succ] at c0 c1 c2 c3
  go_wp2_with fail
  have hput := (((B4.out.put 0 (.string r1.1)).put 1 (.int .i64 r2.1)).put 2 (.string r3.1)).put 3 (.bool r4.1)
  have hbw : But w4 ((((w4.setCell ⟨b, 0, none⟩ (.string r1.1)).setCell ⟨b, 1, none⟩ (.int .i64 r2.1)).setCell ⟨b, 2, none⟩ (.string r3.1)).setCell ⟨b, 3, none⟩ (.bool r4.1)) b := ((((But.refl w4 b).set 0 _).set 1 _).set 2 _).set 3 _
  refine bodyPost_ret (results_cell_row rfl _ _ b 39 #[.string r1.1, .int .i64 r2.1, .string r3.1, .bool r4.1] (0, 0) _ rfl hput Try.underlying39 rfl (by kernel_rfl)) rfl ?_
  exact ⟨rfl, Bl.but_ R4.out hbw (fun e => hbg e.symm), T4.out.fresh hbw (by have := HB.out; omega)⟩

set_option maxHeartbeats 1000000 in
theorem rdWrite_ok (g : Nat) (A : Option Addr) (c : Nat) (l : List UInt8) (s : RdS) (w0 w : World) (h0 : w0.heap.size ≤ g) (hg0 : Gr w0 w) (hby : By w0 A c l) (hr : RdAt w g A l.length c s) (hle : s.at_ ≤ l.length) (hmax : (l.length : Int) ≤ 1000000000) :
    Calls Try.prog 51 #[.pointer (some ⟨g, 0, none⟩)] w (RdPost g A l.length c w (wrV (nW l s).1) (nW l s).2) := by
  have C1 := hide (fun w (hg : Gr w0 w) h => rdText_ok g A c l s w h (hby.gr hg) hle hmax)
  have l1 := (simT l).le s hle
  have C3 := hide (fun w (hg : Gr w0 w) h => rdText_ok g A c l (nT l s).2 w h (hby.gr hg) l1 hmax)
  have l3 := (simT l).le _ l1
  have C4 := hide (fun w (hg : Gr w0 w) h => rdFlag_ok g A c l (nT l (nT l s).2).2 w h (hby.gr hg) l3 hmax)
  rw [show nW l s = (⟨(nT l s).1, (nT l (nT l s).2).1, (nF l (nT l (nT l s).2).2).1⟩, (nF l (nT l (nT l s).2).2).2) from rfl]
  unfold wrV
  generalize nF l (nT l (nT l s).2).2 = r4 at C4 ⊢
  generalize nT l (nT l s).2 = r3 at C3 C4 ⊢
  generalize nT l s = r1 at C1 C3 ⊢
  have HR := hide hr
  have hgl := hr.lt
  obtain ⟨n, hn⟩ : ∃ n, l.length = n := ⟨_, rfl⟩
  rw [hn] at HR C1 C3 C4 ⊢
  clear hr hby hle hmax l1 l3 hn
  go_enter Try.func51, Try.ntmps51
  go_wp2_with fail
  obtain ⟨W, hW⟩ : ∃ W, w.alloc (.cells #[.string ⟨#[]⟩, .string ⟨#[]⟩, .bool false] 41) = W := ⟨_, rfl⟩
  have hg : Gr w W := by rw [← hW]; exact (Gr.refl _).alloc _
  have hbx : Bl W w.heap.size 41 #[.string ⟨#[]⟩, .string ⟨#[]⟩, .bool false] := by rw [← hW]; exact Bl.new _ _ _
  rw [hW]
  clear hW
  obtain ⟨b, hb⟩ : ∃ b, w.heap.size = b := ⟨_, rfl⟩
  have HB := hide hb
  rw [hb] at hbx hgl ⊢
  have hbg : b ≠ g := by omega
  clear hb
  have B0 := hide hbx
  have G0 := hide (hg0.trans hg)
  have T0 := hide (hg.but g)
  have R0 := hide (HR.out.gr hg)
  clear hbx hgl hg HR
  refine (C1.out W G0.out R0.out).mono ?_
  rintro e w1 ⟨rfl, k1, t1⟩
  have G1 := hide (gr_past G0.out t1 h0)
  have B1 := hide (B0.out.but_ t1 hbg)
  have T1 := hide (T0.out.trans_ t1)
  have R1 := hide k1
  clear k1 t1 C1
  go_wp2_with fail
  refine (C3.out w1 G1.out R1.out).mono ?_
  rintro e w3 ⟨rfl, k3, t3⟩
  have G3 := hide (gr_past G1.out t3 h0)
  have B3 := hide (B1.out.but_ t3 hbg)
  have T3 := hide (T1.out.trans_ t3)
  have R3 := hide k3
  clear k3 t3 C3
  go_wp2_with fail
  refine (C4.out w3 G3.out R3.out).mono ?_
  rintro e w4 ⟨rfl, k4, t4⟩
  have B4 := hide (B3.out.but_ t4 hbg)
  have T4 := hide (T3.out.trans_ t4)
  have R4 := hide k4
  clear k4 t4 C4
  have c0 := B4.out.cell 0
  have c1 := B4.out.cell 1
  have c2 := B4.out.cell 2
  have f0 := B4.out.frozen 0
  have f1 := B4.out.frozen 1
  have f2 := B4.out.frozen 2
  simp only [List.getElem?_toArray, List.getElem?_cons_zero, List.getElem?_cons_succ] at c0 c1 c2
  go_wp2_with fail
  have hput := ((B4.out.put 0 (.string r1.1)).put 1 (.string r3.1)).put 2 (.bool r4.1)
  have hbw : But w4 (((w4.setCell ⟨b, 0, none⟩ (.string r1.1)).setCell ⟨b, 1, none⟩ (.string r3.1)).setCell ⟨b, 2, none⟩ (.bool r4.1)) b := (((But.refl w4 b).set 0 _).set 1 _).set 2 _
  refine bodyPost_ret (results_cell_row rfl _ _ b 41 #[.string r1.1, .string r3.1, .bool r4.1] (0, 0) _ rfl hput Try.underlying41 rfl (by kernel_rfl)) rfl ?_
  exact ⟨rfl, Bl.but_ R4.out hbw (fun e => hbg e.symm), T4.out.fresh hbw (by have := HB.out; omega)⟩

end Go.Proofs.Ytjpdhijhmpdbnaa
