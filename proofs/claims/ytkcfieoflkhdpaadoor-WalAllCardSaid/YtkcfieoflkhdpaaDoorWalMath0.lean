/-
  The names of pieces: a letter and four digits. No program.
-/
import Derived.Test.YtkcfieoflkhdpaaDoorDiskMem
import Derived.Lib.ItoaNum
import Derived.Lib.ItoaMem
import Derived.Test.YtkcfieoflkhdpaaDoorShelf
import Derived.Test.YtkcfieoflkhdpaaDoorBaseG
import Derived.Test.YtkcfieoflkhdpaaDoorDiskUse
import Derived.Test.YtkcfieoflkhdpaaDoorQuietIf
import Derived.Lib.AppendIntMem
import Derived.Lib.LaidTab
namespace Go.Proofs.YtkcfieoflkhdpaaDoor.WalMath
open Go Go.RowKit MapS DiskMem

/-- one digit -/
def dgt (n : Nat) : UInt8 := UInt8.ofNat (48 + n % 10)
/-- the name of a piece -/
def pieceL (b : UInt8) (i : Nat) : List UInt8 := [b, dgt (i / 1000), dgt (i / 100), dgt (i / 10), dgt i]
def pname (b : UInt8) (i : Nat) : ByteArray := ⟨(pieceL b i).toArray⟩
theorem pname_list (b : UInt8) (i : Nat) : (pname b i).data.toList = pieceL b i := rfl
theorem pname_size (b : UInt8) (i : Nat) : (pname b i).size = 5 := rfl

theorem dec5 {i : Nat} (h : i ≤ 9999) : Lib.decDigits (10000 + i) = [49, dgt (i / 1000), dgt (i / 100), dgt (i / 10), dgt i] := by
  have e1 : ∀ u, ¬ u < 10 → Lib.decDigits u = Lib.decDigits (u / 10) ++ [UInt8.ofNat (48 + u % 10)] := fun u hu => by rw [Lib.decDigits, dif_neg hu]
  rw [e1 _ (by omega), e1 ((10000 + i) / 10) (by omega), e1 ((10000 + i) / 10 / 10) (by omega), e1 ((10000 + i) / 10 / 10 / 10) (by omega), Lib.decDigits, dif_pos (by omega)]
  unfold dgt
  simp only [List.cons_append, List.nil_append]
  rw [show (10000 + i) / 10 / 10 / 10 / 10 = 1 by omega, show (10000 + i) / 10 / 10 / 10 % 10 = i / 1000 % 10 by omega, show (10000 + i) / 10 / 10 % 10 = i / 100 % 10 by omega, show (10000 + i) / 10 % 10 = i / 10 % 10 by omega, show (10000 + i) % 10 = i % 10 by omega]
  rfl
theorem itoa5 {i : Nat} (h : i ≤ 9999) : Lib.itoa ((10000 : Int) + (i : Int)) = [49, dgt (i / 1000), dgt (i / 100), dgt (i / 10), dgt i] := by
  rw [show ((10000 : Int) + (i : Int)) = ((10000 + i : Nat) : Int) by omega, Lib.itoa_nonneg, dec5 h]

theorem dgt_toNat (n : Nat) : (dgt n).toNat = 48 + n % 10 := by
  unfold dgt
  rw [UInt8.toNat_ofNat']
  omega
theorem pieceL_inj {a b : UInt8} {i j : Nat} (hi : i ≤ 9999) (hj : j ≤ 9999) (h : pieceL a i = pieceL b j) : a = b ∧ i = j := by
  unfold pieceL at h
  injection h with h0 h
  injection h with h1 h
  injection h with h2 h
  injection h with h3 h
  injection h with h4 h
  have k1 := congrArg UInt8.toNat h1
  have k2 := congrArg UInt8.toNat h2
  have k3 := congrArg UInt8.toNat h3
  have k4 := congrArg UInt8.toNat h4
  rw [dgt_toNat, dgt_toNat] at k1 k2 k3 k4
  exact ⟨h0, by omega⟩
theorem pieceL_ok {b : UInt8} (h : 97 ≤ b.toNat ∧ b.toNat ≤ 122) (i : Nat) : okName (pieceL b i) := by
  refine ⟨by simp [pieceL], by simp [pieceL], fun c hc => ?_⟩
  simp only [pieceL, List.mem_cons, List.not_mem_nil, or_false] at hc
  rcases hc with rfl | rfl | rfl | rfl | rfl
  · omega
  all_goals (rw [dgt_toNat]; omega)

/-- what a letter's rune is as a text -/
theorem rune_text {b : UInt8} (h : 97 ≤ b.toNat ∧ b.toNat ≤ 122) : Utf8.encode ((b.toNat : Nat) : Int) = ⟨#[b]⟩ := by
  obtain ⟨n, hn⟩ : ∃ n, b.toNat = n := ⟨_, rfl⟩
  have hb : b = UInt8.ofNat n := by rw [← hn]; simp
  rw [hn] at h ⊢
  rw [hb]
  obtain ⟨h1, h2⟩ := h
  have key : ∀ m : Fin 26, Utf8.encode (((m.val + 97 : Nat)) : Int) = ⟨#[UInt8.ofNat (m.val + 97)]⟩ := by decide +kernel
  have := key ⟨n - 97, by omega⟩
  rwa [show n - 97 + 97 = n by omega] at this

end Go.Proofs.YtkcfieoflkhdpaaDoor.WalMath

/-
  wal's names: names.piece by its contract.
-/
namespace Go.Proofs.YtkcfieoflkhdpaaDoor.WalName
open Go Go.RowKit MapS DiskMem WalMath
set_option maxRecDepth 100000

/-- the library's table of powers of ten is as it was laid -/
def TabW (w : World) : Prop := Lib.TabIs Tryd.prog w "internal/strconv.uint64pow10" .u64 Lib.pow10Tab
/-- where it lies -/
def tabG : Nat := 0
theorem tabG_is : Tryd.prog.globalNamed "internal/strconv.uint64pow10" = some tabG := by kernel_rfl
theorem TabW.lt {w : World} (h : TabW w) : tabG < w.heap.size := by
  unfold TabW Lib.TabIs World.var? at h
  rw [tabG_is] at h
  simp only [Option.bind_some] at h
  rcases Nat.lt_or_ge tabG w.heap.size with hl | hl
  · exact hl
  · rw [Array.getElem?_eq_none hl] at h
    cases h
theorem TabW.only {S : Nat → Prop} {w w' : World} (h : TabW w) (ho : Only S w w') (hS : ¬ S tabG) : TabW w' := by
  have hl := h.lt
  unfold TabW Lib.TabIs World.var? at h ⊢
  rw [tabG_is] at h ⊢
  simp only [Option.bind_some] at h ⊢
  rw [ho.block _ hl hS]
  exact h
theorem TabW.gr {w w' : World} (h : TabW w) (hg : Gr w w') : TabW w' := h.only (S := noB) (Only.gr hg _) fun e => e
theorem gr_grow (w : World) (k : Nat) (os : Array Obj) : Gr w («Sort».grow (w.drewN k) os) := Lib.below_grow _ w (Nat.le_refl _) k os

section
open Grow
variable {P : Program} {ops : Array Oper} {w0 : World} {n0 : Nat} {Q : (Tmp → Known) → Prop} {o : Oper} {rest : List Oper} {K : Tmp → Known} {Φ : Known}
/-- a conversion of a value that is known -/
theorem grow_cv {src dst : TypeId} {x : Operand} {c1 c : Value} (ho : o.op = .convert src dst x) (hw : Wanted ops K n0 o true) (hx : Kn K x (Is c1)) (hr : ∀ w, (convert src dst c1).run P w = .ok c w) (h : wpGrow P ops w0 n0 Q rest (upd K o.dst (Is c))) : wpGrow P ops w0 n0 Q (o :: rest) K := by
  refine grow_step hw (fun _ => Is.stays _) (fun a w _ _ hl => ?_) h
  have h1 : a.eval x = c1 := looks_op (Ψ := Is c1) (by simp [ho, Op.operands]) hx hl
  unfold does execOp
  rw [ho]
  simp only [h1]
  rw [Sem.run_bind, hr w]
  exact ⟨Gr.refl w, rfl⟩
/-- 's[i:]' of a text -/
theorem grow_tail {t : TypeId} {x y : Operand} {k : IntKind} {s : ByteArray} {i : Int} {c : ByteArray} (ho : o.op = .slice t x (some y) none none) (ht : P.underlying t = some .string)
    (hw : Wanted ops K n0 o true) (hx : Kn K x (Is (.string s))) (hy : Kn K y (Is (.int k i))) (hi : 0 ≤ i) (hs : i ≤ s.size) (hc : s.extract i.toNat s.size = c) (h : wpGrow P ops w0 n0 Q rest (upd K o.dst (Is (.string c)))) : wpGrow P ops w0 n0 Q (o :: rest) K := by
  refine grow_step hw (fun _ => Is.stays _) (fun a w _ _ hl => ?_) h
  have h1 : a.eval x = .string s := looks_op (Ψ := Is (.string s)) (by simp [ho, Op.operands]) hx hl
  have h2 : a.eval y = .int k i := looks_op (Ψ := Is (.int k i)) (by simp [ho, Op.operands]) hy hl
  unfold does execOp
  simp only [ho, h1, h2, Option.map_none, Option.map_some, Sem.run_bind, run_sliceAt_string w t _ _ _ _ ht]
  rw [run_slice_string_from_if w t s k i ht, if_pos ⟨hi, hs⟩, hc]
  exact ⟨Gr.refl w, rfl⟩
end

theorem add_i64 (t : TypeId) (a b : Int) (h0 : -9223372036854775808 ≤ a + b) (h1 : a + b ≤ 9223372036854775807) : binOp .add t (.int .i64 a) (.int .i64 b) = pure (.int .i64 (a + b)) := by
  rw [binOp_add]
  unfold Op.intArith
  have : IntKind.i64.wrap (a + b) = a + b := by simp [IntKind.wrap, IntKind.bits, IntKind.signed]; omega
  simp only [this]

set_option maxHeartbeats 1000000 in
theorem piece_ok (b : UInt8) (hb : 97 ≤ b.toNat ∧ b.toNat ≤ 122) (i : Nat) (hi : i ≤ 9999) (w : World) (ht : TabW w) :
    Calls Tryd.prog 28 #[.int .u8 b.toNat, .int .i64 i] w fun e w' => e = .returned (.string (pname b i)) ∧ Gr w w' := by
  have HT := hide ht
  have hr := rune_text hb
  have hc : ∀ w, (convert 21 9 (.int .i32 (b.toNat : Int))).run Tryd.prog w = .ok (.string ⟨#[b]⟩) w := fun w => by
    rw [← hr]
    rfl
  have hb2 := b.toNat_lt
  go_enter Tryd.func28, Tryd.ntmps28
  have hadd := fun t => add_i64 t 10000 (i : Int) (by omega) (by omega)
  go_wp2_with (go_at_call 45; refine (Tryd.strconv_Itoa (10000 + (i : Int)) (by omega) (by omega) _ (HT.out.gr (Gr.refl w))).mono ?_; rintro e w1 ⟨rfl, k, os, rfl⟩; rw [itoa5 hi])
  go_wp2_with fail
  go_ret
  exact ⟨rfl, gr_grow w _ _⟩

end Go.Proofs.YtkcfieoflkhdpaaDoor.WalName
