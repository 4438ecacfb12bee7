/-
  The walk of 'DiskCut'.
-/
import Derived.Test.YteflmockckmciaaDiskBegun
import Derived.Test.YteflmockckmciaaQuietIf
namespace Go.Proofs.Yteflmockckmciaa
open Go Go.RowKit MapS DiskMem DiskFile DiskHit DiskFind DiskBegin DiskOps DiskApp DiskList DiskCrash DiskCopy KeyMath
set_option maxRecDepth 100000

/-- one file, f -/
def oneF (f : FileT) : Fs := [([102], f)]
theorem may_f : mayK ⟨#[102]⟩ = true := by decide
theorem app_one {room : Nat} {l : List UInt8} (h : l.length ≤ room) : appendF room [] ⟨#[102]⟩ l = (0, oneF ⟨l, 0⟩) := by
  unfold appendF
  rw [if_pos may_f, if_neg (by simp [usedF]; omega)]
  rfl
theorem app_more {room : Nat} {l : List UInt8} {f : FileT} (h : f.b.length + l.length ≤ room) : appendF room (oneF f) ⟨#[102]⟩ l = (0, oneF ⟨f.b ++ l, f.sure⟩) := by
  unfold appendF
  rw [if_pos may_f, if_neg (by simp [usedF, oneF]; omega)]
  rfl
theorem cut_one {f : FileT} {k : Nat} (h : k ≤ f.b.length) : cutF (oneF f) [102] k = (0, oneF ⟨f.b.take k, k⟩) := by
  have e : cutF (oneF f) [102] k = if (k : Int) < 0 ∨ (f.b.length : Int) < k then (1, oneF f) else (0, oneF ⟨f.b.take (k : Int).toNat, (k : Int).toNat⟩) := rfl
  rw [e, if_neg (by omega)]
  rfl
theorem crash_one (zs : List Int) (f : FileT) : crashF zs (oneF f) = oneF (hitF f (zs.headD 0)) := rfl
theorem get_one (f : FileT) : getE (oneF f) (⟨#[102]⟩ : ByteArray).data.toList = some f := rfl
theorem used_one (f : FileT) : usedF (oneF f) = f.b.length := by simp [usedF, oneF]
theorem hit_sure (b : List UInt8) : hitF ⟨b, b.length⟩ 0 = ⟨b, b.length⟩ := by simp [hitF]

theorem ints_nil (k : IntKind) (w : World) (A : Option Addr) (c : Nat) (hc : c ≤ maxLen) : Ints k w A c [] := ⟨fun j hj => absurd hj (by simp), Nat.zero_le _, hc, by simp⟩
/-- a copy is a disk of the caller's -/
theorem use_copy {w w' : World} {c room : Nat} {F : Fs} (h : DiskIs (fun i => w.heap.size ≤ i ∧ i < w'.heap.size) w' c room F) : Use w.heap.size (fun i => w.heap.size ≤ i ∧ i < w'.heap.size) w' c room F := ⟨h, fun _ hi => hi.1, fun _ hi => hi.2⟩

/-- an operation of a quiet region, by its run -/
theorem quiet_any {P : Program} {ops : Array Oper} {C : World → Prop} {Q : Act → Prop} {a : Act} {o : Oper} {rest : List Oper} (hw : Region.wanted o (yielded ops a.tmps) = true) {u : Value} (hc : ∀ w, C w → (execOp a.eval o).run P w = .ok (.value u) w) (h : wpQuiet P ops C Q rest (a.put o.dst u)) : wpQuiet P ops C Q (o :: rest) a := by
  unfold wpQuiet
  rw [if_pos hw]
  refine ⟨u, fun w hw => ?_, h⟩
  unfold Oper.quietAt
  rw [hc w hw]
  simp [Oper.quietUpon]
theorem bs_app (a b : List UInt8) : bs (a ++ b) = bs a ++ bs b := by
  apply ByteArray.ext
  simp [bs]
theorem bs_cut (a : List UInt8) (m : Nat) : (bs a).extract 0 m = bs (a.take m) := by
  have h := Lib.extract_data (bs a) 0 m
  rw [← bs_of ((bs a).extract 0 m)]
  rw [h, bs_list]
  rfl
theorem run_add_bs (P : Program) (w : World) (t : TypeId) (x y : List UInt8) (h : x.length + y.length ≤ 1000000000) : (binOp .add t (.string (bs x)) (.string (bs y))).run P w = .ok (.string (bs (x ++ y))) w := by
  have h1 : (bs x).size + (bs y).size ≤ 9223372036854775807 := by rw [bs_size, bs_size]; omega
  rw [bs_app]
  simp [go_sem, h1]

theorem run_cut_bs {P : Program} (w : World) {t : TypeId} (h : P.underlying t = some .string) (x : List UInt8) (m : Nat) (hm : m ≤ x.length) : (Instr.sliceAt t (.string (bs x)) none (some (.int .i64 (m : Int))) none).run P w = .ok (.string (bs (x.take m))) w := by
  rw [run_sliceAt_string w t _ _ _ _ h, run_slice_string_h w t (bs x) h .i64 (m : Int) (by omega) (by rw [bs_size]; omega), Int.toNat_natCast, bs_cut]

set_option maxHeartbeats 1000000 in
theorem walk_DiskCut (w : World) (A : Option Addr) (n c : Nat) (a : List UInt8) (hn : n = a.length) (ha : By w A c a) (B : Option Addr) (m d : Nat) (b : List UInt8) (hm : m = b.length) (hb : By w B d b) (x : Int) (hx : (Lit.int .u8 x).wf = true) (keep : Int) (hkeep : (Lit.int .i64 keep).wf = true) :
    Calls Try.prog 6 #[.slice A n c, .slice B m d, .int .u8 x, .int .i64 keep] w fun e w' => e = .returned (.bool true) ∧ Gr w w' := by
  subst hn
  subst hm
  have hx2 : 0 ≤ x ∧ x ≤ 255 := by simpa [Lit.wf, IntKind.min, IntKind.max, IntKind.signed, IntKind.bits] using hx
  have hk2 : -9223372036854775808 ≤ keep ∧ keep ≤ 9223372036854775807 := by simpa [Lit.wf, IntKind.min, IntKind.max, IntKind.signed, IntKind.bits] using hkeep
  have hac := ha.le
  have hbc := hb.le
  have hcm := ha.max
  have hdm := hb.max
  unfold maxLen at hcm hdm
  have HA := hide ha
  have HB := hide hb
  have HW := hide hkeep
  clear ha hb hx hkeep
  by_cases hbig : (100 : Int) < (a.length : Int)
  · have d1 : decide ((100 : Int) < (a.length : Int)) = true := decide_eq_true hbig
    go_enter Try.func6, Try.ntmps6
    go_wp2_with fail
    refine (begun_ok _).mono ?_
    rintro e w1 ⟨rfl, hg1⟩
    have G := hide hg1
    clear hg1
    go_wp2_with fail
    go_ret
    exact ⟨rfl, G.out⟩
  · have d1 : decide ((100 : Int) < (a.length : Int)) = false := decide_eq_false hbig
    by_cases hbig2 : (100 : Int) < (b.length : Int)
    · have d2 : decide ((100 : Int) < (b.length : Int)) = true := decide_eq_true hbig2
      go_enter Try.func6, Try.ntmps6
      go_wp2_with fail
      refine (begun_ok _).mono ?_
      rintro e w1 ⟨rfl, hg1⟩
      have G := hide hg1
      clear hg1
      go_wp2_with fail
      go_ret
      exact ⟨rfl, G.out⟩
    · have d2 : decide ((100 : Int) < (b.length : Int)) = false := decide_eq_false hbig2
      obtain ⟨k, hk⟩ : ∃ k : Nat, x % ((a.length : Int) + 1) = k := ⟨_, (Int.toNat_of_nonneg (Int.emod_nonneg _ (by omega))).symm⟩
      have hkl : (k : Int) ≤ a.length := by have := Int.emod_lt_of_pos x (show (0 : Int) < (a.length : Int) + 1 by omega); omega
      go_enter Try.func6, Try.ntmps6
      go_wp2_with fail
      refine (begun_ok _).mono ?_
      rintro e w1 ⟨rfl, hg1⟩
      have G1 := hide hg1
      clear hg1
      go_wp2_with fail
      refine (new_ok 1000 _).mono ?_
      rintro e w2 ⟨rfl, hg2, hb2, hs2⟩
      have u2 := use_new (room := 1000) (by omega) hb2 hs2
      unfold ptr
      obtain ⟨g, hgd⟩ : ∃ g, g = w1.heap.size := ⟨_, rfl⟩
      rw [← hgd] at u2 ⊢
      have U2 := hide u2
      have G2 := hide hg2
      have L2 := hide (show g ≤ w2.heap.size by rw [hgd]; exact hg2.size)
      have HGD := hide hgd
      clear hg2 hb2 hs2 hgd u2
      go_wp2_with fail
      have hga : ∀ (A : Option Addr) (c : Nat) (a : List UInt8), By w A c a → ∀ ad, 0 < a.length → A = some ad → ad.block < g := fun A c a hb ad hl hA => by
        have h1 := hb.rd.lt hl hA
        have h2 := G1.out.size
        have h3 := HGD.out
        omega
      have HGA := hide hga
      clear hga
      have G12 := hide (G1.out.trans G2.out)
      refine (use_append U2.out L2.out (Gr.refl w2) _ (by decide) A a.length c a rfl (HA.out.gr G12.out) (fun ad hl hA => .inl (HGA.out A c a HA.out ad hl hA)) (by simp) (by simp [usedF]; omega) (app_one (by omega))).mono ?_
      rintro e w3 ⟨rfl, u3, o3⟩
      have U3 := hide u3
      have L3 := hide (Nat.le_trans L2.out o3.size)
      have LW := hide (Nat.le_trans G1.out.size (by rw [HGD.out]; exact Nat.le_refl _ : w1.heap.size ≤ g))
      have G3 := hide (gr_only G12.out o3 (fun i hi => Nat.le_trans LW.out (U2.out.lo i hi)))
      clear u3 o3
      go_wp2_with fail
      refine (use_cut U3.out L3.out _ (by decide) k (by omega) (cut_one (f := ⟨a, 0⟩) (by simp only; omega))).mono ?_
      rintro e w4 ⟨rfl, u4, o4⟩
      have U4 := hide u4
      have L4 := hide (Nat.le_trans L3.out o4.size)
      have G4 := hide (gr_only G3.out o4 (fun i hi => Nat.le_trans LW.out (U3.out.lo i hi)))
      clear u4 o4
      obtain ⟨t, ht⟩ : ∃ t, t = a.take k := ⟨_, rfl⟩
      have htl : t.length = k := by rw [ht, List.length_take]; omega
      have HT := hide ht
      have HTL := hide htl
      have u4 := U4.out
      rw [show (⟨(⟨a, 0⟩ : FileT).b.take k, k⟩ : FileT) = ⟨t, t.length⟩ from by rw [htl, ht]] at u4
      clear U4
      have U4 := hide u4
      clear u4 ht htl
      go_wp2_with fail
      refine (Copy_ok U4.out.is (by simp [oneF]) (by rw [used_one, HTL.out]; omega)).mono ?_
      rintro e w5 ⟨c', rfl, hc5, hg5, hd5⟩
      have C5 := hide (use_copy hd5)
      have U5 := hide (U4.out.gr hg5)
      have L5 := hide (Nat.le_trans L4.out hg5.size)
      have G5 := hide (G4.out.trans hg5)
      have G45 := hide hg5
      unfold ptr
      clear hc5 hg5 hd5
      go_wp2_with fail
      refine (use_crash C5.out G45.out.size (Gr.refl w5) none 0 0 [] rfl (ints_nil _ _ _ _ (Nat.zero_le _)) (fun ad hl _ => absurd hl (by simp)) (by simp [oneF]) (crash_one [] _)).mono ?_
      rintro e w6 ⟨rfl, c6, o6⟩
      rw [show (([] : List Int).headD 0) = 0 from rfl, hit_sure] at c6
      have C6 := hide c6
      have U6 := hide (U5.out.only o6 (fun i hi e => by
        have h1 := U4.out.hi i hi
        have h2 := e.1
        omega))
      have L6 := hide (Nat.le_trans L5.out o6.size)
      have G6 := hide (gr_only G5.out o6 (fun i hi => Nat.le_trans G4.out.size hi.1))
      clear c6 o6
      go_wp2_with fail
      refine (Read_ok (s := ⟨#[102]⟩) C6.out.is (by decide)).mono ?_
      rintro e w7 ⟨hg7, hr7⟩
      rw [get_one] at hr7
      obtain ⟨v7, rfl, ho7⟩ := hr7
      simp only at ho7
      have U7 := hide (U6.out.gr hg7)
      have L7 := hide (Nat.le_trans L6.out hg7.size)
      have G7 := hide (G6.out.trans hg7)
      obtain ⟨A7, c7, rfl, _⟩ := ho7.by_
      have X7 := hide ho7
      have S6 := hide U6.out.hi
      clear hg7 ho7
      go_wp2_with fail
      have HGW := hide (Nat.le_trans G1.out.size (by rw [HGD.out]; exact Nat.le_refl _ : w1.heap.size ≤ g))
      refine (use_append U7.out L7.out (Gr.refl w7) _ (by decide) B b.length d b rfl (HB.out.gr G7.out) (fun ad hl hA => .inl (HGA.out B d b HB.out ad hl hA)) (by simp [oneF]) (by rw [used_one, HTL.out]; omega) (app_more (by simp only; rw [HTL.out]; omega))).mono ?_
      rintro e w8 ⟨rfl, u8, o8⟩
      have U8 := hide u8
      have L8 := hide (Nat.le_trans L7.out o8.size)
      have G8 := hide (gr_only G7.out o8 (fun i hi => Nat.le_trans LW.out (U7.out.lo i hi)))
      have X8 := hide (OwnE.only X7.out o8 (fun j hj hi => by
        have h1 := (World.ownsRow.lt X7.out j hj).1
        have h2 := S6.out j hi
        omega))
      have S8 := hide (show ∀ j, (Value.slice A7 t.length c7).ownBlock = some j → ¬ ext _ w7 w8 j from fun j hj hi => by
        have h0 := World.ownsRow.lt X7.out j hj
        rcases hi with hi | hi
        · have h2 := S6.out j hi
          omega
        · omega)
      clear u8 o8
      go_wp2_with fail
      refine (use_crash_lit (m := (0, 0)) (e := 3) U8.out L8.out 1 1 [keep] rfl rfl (by simp) (by intro z hz; simp at hz; subst hz; exact HW.out) (by simp [oneF]) (crash_one [keep] _)).mono ?_
      rintro e w9 ⟨rfl, u9, o9⟩
      have U9 := hide u9
      have L9 := hide (Nat.le_trans L8.out o9.size)
      have G9 := hide (gr_only G8.out o9 (fun i hi => Nat.le_trans LW.out (U8.out.lo i hi)))
      have X9 := hide (OwnE.only X8.out o9 S8.out)
      clear u9 o9 S8
      go_wp2_with fail
      refine (Read_ok (s := ⟨#[102]⟩) U9.out.is (by decide)).mono ?_
      rintro e w10 ⟨hg10, hr10⟩
      rw [get_one] at hr10
      obtain ⟨v10, rfl, ho10⟩ := hr10
      obtain ⟨f, hf⟩ : ∃ f, f = hitF ⟨t ++ b, t.length⟩ keep := ⟨_, rfl⟩
      have hfb : f.b = (t ++ b).take (k + min keep.toNat b.length) := by
        rw [hf, ← HTL.out]
        unfold hitF
        simp
      have ho10' : OwnE 5 w10 w9.heap.size v10 f.b := by rw [hf]; exact ho10
      have hfl : f.b.length = k + min keep.toNat b.length := by
        rw [hfb, List.length_take, List.length_append, HTL.out]
        omega
      have U10 := hide (show Use g _ w10 g 1000 (oneF f) by rw [hf]; exact U9.out.gr hg10)
      have G10 := hide (G9.out.trans hg10)
      have X10 := hide (X9.out.gr hg10)
      have HFB := hide hfb
      have HFL := hide hfl
      obtain ⟨A10, c10, rfl, hby10⟩ := ho10'.by_
      have Y10 := hide hby10
      clear hg10 ho10 ho10' hf hfb hfl hby10
      obtain ⟨A7', c7', e7, x10⟩ := X10.out.by_
      injection e7 with e7 _ e7'
      subst e7
      subst e7'
      have XX := hide x10
      clear x10
      obtain ⟨m, hm⟩ : ∃ m : Nat, (k : Int) + min (max keep 0) (b.length : Int) = m := ⟨_, (Int.toNat_of_nonneg (by omega)).symm⟩
      have hmk : m = k + min keep.toNat b.length := by omega
      have HM := hide hm
      have HMK := hide hmk
      clear hmk
      go_wp2_with fail
      have hkc : (k : Int) ≤ (c : Int) := by omega
      clear hm
      have cx : ∀ q, (convert 28 9 (.slice A7 t.length c7)).run Try.prog (w10.drewN q) = .ok (.string (bs t)) (w10.drewN q) := fun q => run_conv (w10.drewN q) _ _ _ Try.underlying28 Try.underlying5 Try.underlying9 _ _ rfl (XX.out.rd.drewN q)
      have ca : ∀ q, (convert 28 9 (.slice A k c)).run Try.prog (w10.drewN q) = .ok (.string (bs t)) (w10.drewN q) := fun q => by
        have h1 := (HA.out.gr G10.out).take k
        rw [← HT.out] at h1
        exact run_conv (w10.drewN q) _ _ _ Try.underlying28 Try.underlying5 Try.underlying9 _ _ HTL.out (h1.rd.drewN q)
      have cy : ∀ q, (convert 28 9 (.slice A10 f.b.length c10)).run Try.prog (w10.drewN q) = .ok (.string (bs f.b)) (w10.drewN q) := fun q => run_conv (w10.drewN q) _ _ _ Try.underlying28 Try.underlying5 Try.underlying9 _ _ rfl (Y10.out.rd.drewN q)
      have cb : ∀ q, (convert 28 9 (.slice B b.length d)).run Try.prog (w10.drewN q) = .ok (.string (bs b)) (w10.drewN q) := fun q => run_conv (w10.drewN q) _ _ _ Try.underlying28 Try.underlying5 Try.underlying9 _ _ rfl ((HB.out.gr G10.out).rd.drewN q)
      have CX := hide cx
      have CA := hide ca
      have CY := hide cy
      have CB := hide cb
      clear cx ca cy cb
      refine wp_region_quiet_lit (by kernel_rfl) (by kernel_rfl) ?_
      repeat (go_big_quiet_step (fail))
      refine quiet_conv_if (by rfl) 28 9 (.tmp 85) rfl rfl (fun w' ⟨n, hw'⟩ => by rw [hw']; exact CX.out _) ?_
      simp only [Act.put, List.setIfInBounds_toArray, List.set_cons_zero, List.set_cons_succ]
      repeat (go_big_quiet_step (fail))
      refine quiet_conv_if (by rfl) 28 9 (.tmp 89) rfl rfl (fun w' ⟨n, hw'⟩ => by rw [hw']; exact CA.out _) ?_
      simp only [Act.put, List.setIfInBounds_toArray, List.set_cons_zero, List.set_cons_succ]
      repeat (go_big_quiet_step (fail))
      refine quiet_conv_if (by rfl) 28 9 (.tmp 97) rfl rfl (fun w' ⟨n, hw'⟩ => by rw [hw']; exact CY.out _) ?_
      simp only [Act.put, List.setIfInBounds_toArray, List.set_cons_zero, List.set_cons_succ]
      repeat (go_big_quiet_step (fail))
      refine quiet_conv_if (by rfl) 28 9 (.tmp 101) rfl rfl (fun w' ⟨n, hw'⟩ => by rw [hw']; exact CA.out _) ?_
      simp only [Act.put, List.setIfInBounds_toArray, List.set_cons_zero, List.set_cons_succ]
      repeat (go_big_quiet_step (fail))
      refine quiet_conv_if (by rfl) 28 9 (.tmp 103) rfl rfl (fun w' ⟨n, hw'⟩ => by rw [hw']; exact CB.out _) ?_
      simp only [Act.put, List.setIfInBounds_toArray, List.set_cons_zero, List.set_cons_succ]
      refine quiet_any (by rfl) (u := .string (bs (t ++ b))) (fun w' _ => ?_) ?_
      · have h1 := run_add_bs Try.prog w' 9 t b (by have := HTL.out; omega)
        simp [execOp, Act.eval, h1, eqGuard]
      simp only [Act.put, List.setIfInBounds_toArray, List.set_cons_zero, List.set_cons_succ]
      repeat (go_big_quiet_step (fail))
      refine quiet_any (by rfl) (u := .string (bs f.b)) (fun w' _ => ?_) ?_
      · have h1 := run_cut_bs (P := Try.prog) w' Try.underlying9 (t ++ b) m (by have := HTL.out; have := HMK.out; rw [List.length_append]; omega)
        have h2 : (t ++ b).take m = f.b := by rw [HMK.out]; exact HFB.out.symm
        rw [h2] at h1
        simp [execOp, Act.eval, h1]
      simp only [Act.put, List.setIfInBounds_toArray, List.set_cons_zero, List.set_cons_succ]
      have huse : ∀ q, Calls Try.prog 21 #[.pointer (some ⟨g, 0, none⟩)] (w10.drewN q) fun e w' => e = .returned (.int .i64 (m : Int)) ∧ w' = w10.drewN q := fun q => by
        refine (Used_ok (U10.out.is.gr ((Gr.refl w10).drewN q))).mono ?_
        rintro e w' ⟨rfl, rfl⟩
        rw [used_one, HFL.out, HMK.out]
        exact ⟨rfl, rfl⟩
      have HUSE := hide huse
      clear huse
      repeat (go_big_quiet_step ((exact Calls.quiet_of_same (HUSE.out _))))
      refine wpQuiet_nil ?_
      rintro _ ⟨nq, rfl⟩
      go_wp2_with fail
      go_ret
      exact ⟨rfl, G10.out.drewN _⟩

end Go.Proofs.Yteflmockckmciaa
