/-
  The walk of 'DiskKeeps'.
-/
import Derived.Test.YteflmockckmciaaDiskKeepMath
namespace Go.Proofs.Yteflmockckmciaa
open Go Go.RowKit MapS DiskMem DiskFile DiskHit DiskFind DiskBegin DiskOps DiskApp DiskList DiskCrash DiskCopy KeyMath
set_option maxRecDepth 100000

def arr3 (al : Nat → List UInt8) : Array Value := #[.string (bs (al 0)), .string (bs (al 1)), .string (bs (al 2))]
/-- two disks, side by side -/
structure KpAt (w wr : World) (ga gb g7 g8 : Nat) (Sa Sb : Nat → Prop) (F : Fs) (al su : Nat → List UInt8) : Prop where
  gr : Gr w wr
  a : Use w.heap.size Sa wr ga 1048576 F
  b : Use w.heap.size Sb wr gb 1048576 F
  ab : ∀ j, Sa j → ¬ Sb j
  b7 : Bl wr g7 51 (arr3 al)
  b8 : Bl wr g8 51 (arr3 su)
  n7 : ¬ Sa g7 ∧ ¬ Sb g7
  n8 : ¬ Sa g8 ∧ ¬ Sb g8
  ne : g7 ≠ g8
  l7 : w.heap.size ≤ g7
  l8 : w.heap.size ≤ g8

/-- the first one has done something -/
theorem KpAt.da {w wr w' : World} {ga gb g7 g8 : Nat} {Sa Sb : Nat → Prop} {F F' : Fs} {al su : Nat → List UInt8} (h : KpAt w wr ga gb g7 g8 Sa Sb F al su) {e : Ending} {r : Int} (hd : Done w.heap.size Sa wr ga 1048576 r F' e w') :
    Use w.heap.size (ext Sa wr w') w' ga 1048576 F' ∧ Use w.heap.size Sb w' gb 1048576 F ∧ (∀ j, ext Sa wr w' j → ¬ Sb j) ∧ Gr w w' ∧ Bl w' g7 51 (arr3 al) ∧ Bl w' g8 51 (arr3 su) ∧ ¬ ext Sa wr w' g7 ∧ ¬ ext Sa wr w' g8 := by
  obtain ⟨_, h1, h2⟩ := hd
  refine ⟨h1, h.b.only h2 (fun i hi hj => h.ab i hj hi), fun j hj hb => ?_, gr_only h.gr h2 h.a.lo, h2.bl h.b7 h.n7.1, h2.bl h.b8 h.n8.1, fun hj => ?_, fun hj => ?_⟩
  · rcases hj with hj | hj
    · exact h.ab j hj hb
    · have := h.b.hi j hb
      omega
  · have := h.b7.lt
    rcases hj with hj | hj
    · exact h.n7.1 hj
    · omega
  · have := h.b8.lt
    rcases hj with hj | hj
    · exact h.n8.1 hj
    · omega
/-- both have done the same -/
theorem KpAt.both {w wr w1 w2 : World} {ga gb g7 g8 : Nat} {Sa Sb : Nat → Prop} {F F' : Fs} {al su : Nat → List UInt8} (h : KpAt w wr ga gb g7 g8 Sa Sb F al su) {e e' : Ending} {r r' : Int} (hd : Done w.heap.size Sa wr ga 1048576 r F' e w1) (hd2 : Done w.heap.size Sb w1 gb 1048576 r' F' e' w2) :
    KpAt w w2 ga gb g7 g8 (ext Sa wr w1) (ext Sb w1 w2) F' al su := by
  obtain ⟨a1, a2, a3, a4, a5, a6, a7, a8⟩ := h.da hd
  obtain ⟨_, h1, h2⟩ := hd2
  have hsz := hd.2.2.size
  refine ⟨gr_only a4 h2 a2.lo, a1.only h2 a3, h1, fun j hj hb => ?_, h2.bl a5 h.n7.2, h2.bl a6 h.n8.2, ⟨a7, fun hj => ?_⟩, ⟨a8, fun hj => ?_⟩, h.ne, h.l7, h.l8⟩
  · rcases hb with hb | hb
    · exact a3 j hj hb
    · have := a1.hi j hj
      omega
  · have := a5.lt
    rcases hj with hj | hj
    · exact h.n7.2 hj
    · omega
  · have := a6.lt
    rcases hj with hj | hj
    · exact h.n8.2 hj
    · omega
theorem KpAt.to_gr {w wr w' : World} {ga gb g7 g8 : Nat} {Sa Sb : Nat → Prop} {F : Fs} {al su : Nat → List UInt8} (h : KpAt w wr ga gb g7 g8 Sa Sb F al su) (hg : Gr wr w') : KpAt w w' ga gb g7 g8 Sa Sb F al su :=
  ⟨h.gr.trans hg, h.a.gr hg, h.b.gr hg, h.ab, h.b7.gr hg, h.b8.gr hg, h.n7, h.n8, h.ne, h.l7, h.l8⟩
/-- a cell of the array of all -/
theorem KpAt.set7 {w wr : World} {ga gb g7 g8 : Nat} {Sa Sb : Nat → Prop} {F : Fs} {al su : Nat → List UInt8} (h : KpAt w wr ga gb g7 g8 Sa Sb F al su) {k : Nat} (hk : k < 3) (l : List UInt8) : KpAt w (wr.setCell ⟨g7, k, none⟩ (.string (bs l))) ga gb g7 g8 Sa Sb F (updL al k l) su := by
  have o : Only (onB g7) wr (wr.setCell ⟨g7, k, none⟩ (.string (bs l))) := (Only.refl _ _).set1 k _
  refine ⟨gr_only h.gr o (fun i hi => by rw [show i = g7 from hi]; exact h.l7), h.a.only o (fun i hi e => h.n7.1 (by rw [← show i = g7 from e]; exact hi)), h.b.only o (fun i hi e => h.n7.2 (by rw [← show i = g7 from e]; exact hi)), h.ab, ?_, o.bl h.b8 (fun e => h.ne (show g8 = g7 from e).symm), h.n7, h.n8, h.ne, h.l7, h.l8⟩
  have := h.b7.put k (.string (bs l))
  rcases lt3 hk with rfl | rfl | rfl <;> exact this
theorem KpAt.set8 {w wr : World} {ga gb g7 g8 : Nat} {Sa Sb : Nat → Prop} {F : Fs} {al su : Nat → List UInt8} (h : KpAt w wr ga gb g7 g8 Sa Sb F al su) {k : Nat} (hk : k < 3) (l : List UInt8) : KpAt w (wr.setCell ⟨g8, k, none⟩ (.string (bs l))) ga gb g7 g8 Sa Sb F al (updL su k l) := by
  have o : Only (onB g8) wr (wr.setCell ⟨g8, k, none⟩ (.string (bs l))) := (Only.refl _ _).set1 k _
  refine ⟨gr_only h.gr o (fun i hi => by rw [show i = g8 from hi]; exact h.l8), h.a.only o (fun i hi e => h.n8.1 (by rw [← show i = g8 from e]; exact hi)), h.b.only o (fun i hi e => h.n8.2 (by rw [← show i = g8 from e]; exact hi)), h.ab, o.bl h.b7 (fun e => h.ne (show g7 = g8 from e)), ?_, h.n7, h.n8, h.ne, h.l7, h.l8⟩
  have := h.b8.put k (.string (bs l))
  rcases lt3 hk with rfl | rfl | rfl <;> exact this

theorem Use.lower {lo lo' : Nat} {S : Nat → Prop} {w : World} {d room : Nat} {F : Fs} (h : Use lo S w d room F) (hl : lo' ≤ lo) : Use lo' S w d room F := ⟨h.is, fun i hi => Nat.le_trans hl (h.lo i hi), h.hi⟩
/-- the world of a round: i texts are in -/
def Kp (w : World) (ga gb g7 g8 i : Nat) (wr : World) : Prop := ∃ Sa Sb o al su, KpAt w wr ga gb g7 g8 Sa Sb (tri o) al su ∧ Know3 o al su ∧ usedF (tri o) ≤ 60 * i ∧ ∀ k, k < 3 → (al k).length ≤ 60 * i

theorem kp_mk {w wr : World} {ga gb g7 g8 i : Nat} {Sa Sb : Nat → Prop} {o : Nat → Option FileT} {al su : Nat → List UInt8} (h : KpAt w wr ga gb g7 g8 Sa Sb (tri o) al su) (hk : Know3 o al su) (hu : usedF (tri o) ≤ 60 * i) (ha : ∀ k, k < 3 → (al k).length ≤ 60 * i) : Kp w ga gb g7 g8 i wr := ⟨Sa, Sb, o, al, su, h, hk, hu, ha⟩
theorem name_cell (w : World) {k : Nat} (hk : k < 3) : (w.alloc (.cells #[.string ⟨#[120]⟩, .string ⟨#[121]⟩, .string ⟨#[122]⟩] 9)).cell? ⟨w.heap.size, k, none⟩ = some (.string (bs (nm k))) := by
  have h := (Bl.new w 9 #[.string ⟨#[120]⟩, .string ⟨#[121]⟩, .string ⟨#[122]⟩]).cell k
  rw [h]
  rcases lt3 hk with rfl | rfl | rfl <;> rfl

theorem arr3_at (al : Nat → List UInt8) {k : Nat} (hk : k < 3) : (arr3 al)[k]? = some (.string (bs (al k))) := by rcases lt3 hk with rfl | rfl | rfl <;> rfl
theorem nm_may {k : Nat} (hk : k < 3) : mayK (bs (nm k)) = true := by rcases lt3 hk with rfl | rfl | rfl <;> decide
theorem nm_size {k : Nat} (hk : k < 3) : (bs (nm k)).size = 1 := by rcases lt3 hk with rfl | rfl | rfl <;> rfl

set_option maxHeartbeats 2000000 in
theorem walk_DiskKeeps (w : World) (A : Option Addr) (n c : Nat) (ls : List (List UInt8)) (hn : n = ls.length) (hl : Rws w A c ls) (B : Option Addr) (m d : Nat) (ins : List UInt8) (hm : m = ins.length) (hi : By w B d ins) :
    Calls Try.prog 5 #[.slice A n c, .slice B m d] w fun e w' => e = .returned (.bool true) ∧ Gr w w' := by
  subst hn
  subst hm
  have hac := hl.le
  have hbc := hi.le
  have hcm := hl.max
  have hdm := hi.max
  unfold maxLen at hcm hdm
  have HL := hide hl
  have HI := hide hi
  clear hl hi
  by_cases hbig : (20 : Int) < (ls.length : Int)
  · have d1 : decide ((20 : Int) < (ls.length : Int)) = true := decide_eq_true hbig
    go_enter Try.func5, Try.ntmps5
    go_wp2_with fail
    refine (begun_ok _).mono ?_
    rintro e w1 ⟨rfl, hg1⟩
    have G := hide hg1
    clear hg1
    go_wp2_with fail
    go_ret
    exact ⟨rfl, G.out⟩
  · have d1 : decide ((20 : Int) < (ls.length : Int)) = false := decide_eq_false hbig
    by_cases hfew : (ins.length : Int) < (ls.length : Int)
    · have d2 : decide ((ins.length : Int) < (ls.length : Int)) = true := decide_eq_true hfew
      have d3 : decide (ins.length < ls.length) = true := decide_eq_true (by omega)
      go_enter Try.func5, Try.ntmps5
      go_wp2_with fail
      refine (begun_ok _).mono ?_
      rintro e w1 ⟨rfl, hg1⟩
      have G := hide hg1
      clear hg1
      go_wp2_with fail
      go_ret
      exact ⟨rfl, G.out⟩
    · have d2 : decide ((ins.length : Int) < (ls.length : Int)) = false := decide_eq_false hfew
      have d3 : decide (ins.length < ls.length) = false := decide_eq_false (by omega)
      go_enter Try.func5, Try.ntmps5
      go_wp2_with fail
      refine (begun_ok _).mono ?_
      rintro e w1 ⟨rfl, hg1⟩
      have G1 := hide hg1
      clear hg1
      go_wp2_with fail
      refine (new_ok 1048576 _).mono ?_
      rintro e w2 ⟨rfl, hg2, hb2, hs2⟩
      have u2 := use_new (room := 1048576) (by omega) hb2 hs2
      have U2 := hide u2
      have G2 := hide hg2
      have S2 := hide hs2
      unfold ptr
      clear hg2 hb2 hs2 u2
      go_wp2_with fail
      refine (new_ok 1048576 _).mono ?_
      rintro e w3 ⟨rfl, hg3, hb3, hs3⟩
      have u3 := use_new (room := 1048576) (by omega) hb3 hs3
      have U3 := hide u3
      have G3 := hide hg3
      have S3 := hide hs3
      unfold ptr
      clear hg3 hb3 hs3 u3
      have hstart : Kp w w1.heap.size w2.heap.size w3.heap.size (w3.heap.size + 1) 0 ((w3.alloc (.cells #[.string ⟨#[]⟩, .string ⟨#[]⟩, .string ⟨#[]⟩] 51)).alloc (.cells #[.string ⟨#[]⟩, .string ⟨#[]⟩, .string ⟨#[]⟩] 51)) := by
        have s2 := S2.out
        have s3 := S3.out
        have gg : Gr w3 ((w3.alloc (.cells #[.string ⟨#[]⟩, .string ⟨#[]⟩, .string ⟨#[]⟩] 51)).alloc (.cells #[.string ⟨#[]⟩, .string ⟨#[]⟩, .string ⟨#[]⟩] 51)) := ((Gr.refl w3).alloc _).alloc _
        have g1 := G1.out.size
        refine ⟨onB w1.heap.size, onB w2.heap.size, fun _ => none, fun _ => [], fun _ => [], ⟨((G1.out.trans G2.out).trans G3.out).trans gg, ((U2.out.gr G3.out).gr gg).lower g1, (U3.out.gr gg).lower (Nat.le_trans g1 G2.out.size), ?_, (Bl.new w3 _ _).gr ((Gr.refl _).alloc _), ?_, ?_, ?_, ?_, ?_, ?_⟩, know_start, by simp [tri_none, usedF], fun k hk => by simp⟩
        · intro j h1 h2
          have e1 : j = w1.heap.size := h1
          have e2 : j = w2.heap.size := h2
          omega
        · have := Bl.new (w3.alloc (.cells #[.string ⟨#[]⟩, .string ⟨#[]⟩, .string ⟨#[]⟩] 51)) 51 #[.string ⟨#[]⟩, .string ⟨#[]⟩, .string ⟨#[]⟩]
          simp only [World.size_alloc] at this
          exact this
        · exact ⟨fun e => by have e1 : w3.heap.size = w1.heap.size := e; omega, fun e => by have e1 : w3.heap.size = w2.heap.size := e; omega⟩
        · exact ⟨fun e => by have e1 : w3.heap.size + 1 = w1.heap.size := e; omega, fun e => by have e1 : w3.heap.size + 1 = w2.heap.size := e; omega⟩
        · omega
        · omega
        · omega
      have HS := hide hstart
      clear hstart
      go_wp2_with fail
      generalize w1.heap.size = ga at *
      generalize w2.heap.size = gb at *
      generalize hg8 : w3.heap.size + 1 = g8 at *
      generalize w3.heap.size = g7 at *
      clear hg8 S2 S3 U2 U3 G2 G3 G1
      go_loopw [9] (fun i wr => ∃ j : Nat, i = .int .i64 j ∧ j ≤ ls.length ∧ Hid (Kp w ga gb g7 g8 j wr)) (fun i _ => ls.length - (intOf i).toNat)
      case atStart => exact ⟨0, rfl, by omega, HS⟩
      case round =>
        obtain ⟨j, rfl, hj, hkp⟩ := hrel
        by_cases hlt : j < ls.length
        · obtain ⟨ad, rfl, B1, k1, hcl, hby⟩ := HL.out.rd j hlt
          obtain ⟨ad2, rfl, hcb⟩ := HI.out.rd j (by omega)
          obtain ⟨l, hl⟩ : ∃ l, ls[j] = l := ⟨_, rfl⟩
          obtain ⟨b, hb⟩ : ∃ b, ins[j]'(by omega) = b := ⟨_, rfl⟩
          rw [hl] at hcl hby
          rw [hb] at hcb
          unfold bv at hcb
          clear hl hb
          have HCL := hide hcl
          have HCB := hide hcb
          have HBY := hide hby
          have hbk := hby.le
          have hkm := hby.max
          unfold maxLen at hkm
          obtain ⟨Sa, Sb, o, al, su, hk3, hkn, hus, hal⟩ := hkp.out
          have K3 := hide hk3
          have KN := hide hkn
          have US := hide hus
          have AL := hide hal
          have e1 := gr_cell hk3.gr _ _ hcl
          have e2 := gr_cell hk3.gr _ _ hcb
          have e1a := fun o => gr_cell ((Gr.refl wr).alloc o) _ _ e1
          clear hcl hcb hby hk3 hkn hus hal
          by_cases h60 : (60 : Int) < (l.length : Int)
          · have d4 : decide ((60 : Int) < (l.length : Int)) = true := decide_eq_true h60
            go_wp2_with fail
            go_ret
            exact ⟨rfl, K3.out.gr⟩
          · have d4 : decide ((60 : Int) < (l.length : Int)) = false := decide_eq_false h60
            obtain ⟨k, hkb⟩ : ∃ k : Nat, (b.toNat : Int) % 3 = k := ⟨b.toNat % 3, by omega⟩
            have hk : k < 3 := by omega
            have KA := hide (know_app KN.out (sures_tri K3.out.a.is) hk l)
            have KY := hide (know_sync KA.out hk)
            rw [show updL al k (al k ++ l) k = al k ++ l from by simp [updL]] at KY
            have AY : Hid (∀ i, i < 3 → (updL al k (al k ++ l) i).length ≤ 60 * (j + 1)) := hide fun i hi => by
              unfold updL
              have h1 := AL.out i hi
              have h2 := AL.out k hk
              split
              · rw [List.length_append]; omega
              · omega
            have hx := fun (wz : World) => name_cell wz hk
            go_wp2_with fail
            have hsz0 : w.heap.size ≤ wr.heap.size := K3.out.gr.size
            have hgb : ∀ ad', 0 < l.length → B1 = some ad' → ad'.block < w.heap.size := fun ad' hl hA => HBY.out.rd.lt hl hA
            have hnm := nm_size hk
            refine (use_append K3.out.a hsz0 ((Gr.refl wr).alloc _) (bs (nm k)) (by omega) B1 l.length k1 l rfl ((HBY.out.gr K3.out.gr).gr ((Gr.refl wr).alloc _)) (fun ad' hl hA => .inl (hgb ad' hl hA)) (by have := len_tri o; omega) (by have := US.out; omega) (app_tri hk (bs_list _) (nm_may hk) (by have := US.out; omega))).mono ?_
            rintro e w4 hd4
            obtain ⟨a4, b4, ab4, g4, _, _, _, _⟩ := K3.out.da hd4
            have HD4 := hide hd4
            obtain ⟨rfl, _⟩ := hd4
            have B4 := hide b4
            have G4 := hide g4
            have e3 := gr_cell g4 _ _ HCL.out
            clear e1 e1a e2 a4 b4 ab4 g4 hx
            go_wp2_with fail
            have hsz4 : w.heap.size ≤ w4.heap.size := G4.out.size
            refine (use_append B4.out hsz4 (Gr.refl w4) (bs (nm k)) (by omega) B1 l.length k1 l rfl (HBY.out.gr G4.out) (fun ad' hl hA => .inl (hgb ad' hl hA)) (by have := len_tri o; omega) (by have := US.out; omega) (app_tri hk (bs_list _) (nm_may hk) (by have := US.out; omega))).mono ?_
            rintro e w5 hd5
            have k5 := K3.out.both HD4.out hd5
            obtain ⟨rfl, _⟩ := hd5
            have K5 := hide k5
            have e5 := gr_cell k5.gr _ _ HCL.out
            have e6 := gr_cell k5.gr _ _ HCB.out
            have c7 := k5.b7.cell k
            have f7 := k5.b7.frozen k
            rw [arr3_at al hk] at c7
            have hk3 : (k : Int) < 3 := by omega
            have hk0 : (0 : Int) ≤ k := by omega
            have hcv : (convert 28 9 (.slice B1 l.length k1)).run Try.prog w5.drew = .ok (.string (bs l)) w5.drew :=
              run_conv w5.drew 28 9 5 Try.underlying28 Try.underlying5 Try.underlying9 _ _ rfl ((HBY.out.gr k5.gr).rd.drewN 1)
            have HCV := hide hcv
            clear hcv
            have hss : (al k).length + l.length ≤ 1000000000 := by have := AL.out k hk; omega
            have HSS := hide hss
            clear hss
            clear e3 k5
            go_wp2_with fail
            go_still_tail 11, (by kernel_rfl)
            refine still_conv (by rfl) 28 9 (.tmp 74) rfl rfl HCV.out ?_
            simp only [Act.put, List.setIfInBounds_toArray, List.set_cons_zero, List.set_cons_succ]
            refine still_any (by rfl) (u := .string (bs (al k ++ l))) ?_ ?_
            · have h1 := fun wz => run_add_bs Try.prog wz 9 (al k) l HSS.out
              simp [execOp, Act.eval, h1, eqGuard]
            simp only [Act.put, List.setIfInBounds_toArray, List.set_cons_zero, List.set_cons_succ]
            repeat still_step
            refine wpStill_nil ?_
            change wpList _ _ _ _ _ w5.drew
            have k6 := K5.out.set7 hk (al k ++ l)
            have K6 := hide k6
            clear k6 e5 e6
            go_upto_region 17 with (fail)
            have k6 := K6.out.to_gr ((Gr.refl _).drew)
            generalize (w5.setCell ⟨g7, k, none⟩ (.string (bs (al k ++ l)))).drew = w6 at k6 ⊢
            have e7 := gr_cell k6.gr _ _ HCB.out
            clear K6
            have K6 := hide k6
            clear k6
            by_cases hs : (b.toNat : Int) / 3 % 256 % 3 = 0
            · have hs2 : ((b.toNat : Int) / 3 % 256 % 3 == 0) = true := by simp [hs]
              clear hs
              go_wp2_with fail
              have hsy := sync_tri (o := o) hk (appO o k l)
              have hms : (bs (nm k)).size ≤ maxLen := by unfold maxLen; omega
              refine (use_sync K6.out.a K6.out.gr.size (bs (nm k)) hms (by rw [bs_list, hsy])).mono ?_
              rintro e w7 hd7
              obtain ⟨a7, b7, ab7, g7', _, _, _, _⟩ := K6.out.da hd7
              have HD7 := hide hd7
              obtain ⟨rfl, _⟩ := hd7
              have B7 := hide b7
              have G7 := hide g7'
              clear a7 b7 ab7 g7' e7
              go_wp2_with fail
              refine (use_sync B7.out G7.out.size (bs (nm k)) hms (by rw [bs_list, hsy])).mono ?_
              rintro e w8 hd8
              have k8 := K6.out.both HD7.out hd8
              obtain ⟨rfl, _⟩ := hd8
              have c7 := k8.b7.cell k
              have c8 := k8.b8.cell k
              have f8 := k8.b8.frozen k
              rw [arr3_at _ hk] at c7 c8
              rw [show updL al k (al k ++ l) k = al k ++ l from by simp [updL]] at c7
              have K8 := hide (k8.set8 hk (al k ++ l))
              clear k8
              go_wp2_with fail
              go_roundw
              case rel => exact ⟨j + 1, by go_num, by omega, hide (kp_mk K8.out KY.out (by rw [used_app (o := o) hk l ⟨(appO o k l).b, (appO o k l).b.length⟩ rfl]; have := US.out; omega) AY.out)⟩
              case measure => simp [intOf]; omega
            · have hs2 : ((b.toNat : Int) / 3 % 256 % 3 == 0) = false := by simpa using hs
              clear hs
              go_wp2_with fail
              go_roundw
              case rel => exact ⟨j + 1, by go_num, by omega, hide (kp_mk K6.out KA.out (by rw [used_app (o := o) hk l (appO o k l) rfl]; have := US.out; omega) AY.out)⟩
              case measure => simp [intOf]; omega
        · obtain rfl : j = ls.length := by omega
          obtain ⟨Sa, Sb, o, al, su, hk3, hkn, hus, hal⟩ := hkp.out
          have K3 := hide hk3
          have KN := hide hkn
          have hlen := hide (len_tri o)
          have AL := hide hal
          clear hk3 hkn hus hal
          go_wp2_with fail
          refine (use_crash_lit (m := (0, 0)) (e := 3) K3.out.a K3.out.gr.size 3 3 [1048576, 1048576, 1048576] rfl rfl (by decide) (by decide) (by have := hlen.out; omega) (crash_great o)).mono ?_
          rintro e w4 ⟨rfl, u4, o4⟩
          have U4 := hide u4
          have B4 := hide (K3.out.b.only o4 (fun i hi hj => K3.out.ab i hj hi))
          have G4 := hide (gr_only K3.out.gr o4 K3.out.a.lo)
          have Z7 := hide (o4.bl K3.out.b7 K3.out.n7.1)
          have Z8 := hide (o4.bl K3.out.b8 K3.out.n8.1)
          have AB := hide (show ∀ i, ext Sa wr w4 i → ¬ Sb i from fun i hi hb => by
            rcases hi with hi | hi
            · exact K3.out.ab i hi hb
            · have := K3.out.b.hi i hb
              omega)
          clear u4 o4
          go_wp2_with fail
          refine (use_crash B4.out G4.out.size (Gr.refl w4) none 0 0 [] rfl (ints_nil _ _ _ _ (Nat.zero_le _)) (fun ad hl _ => absurd hl (by simp)) (by have := hlen.out; omega) (crash_none o)).mono ?_
          rintro e w5 ⟨rfl, u5, o5⟩
          have U5 := hide u5
          have V5 := hide (U4.out.only o5 AB.out)
          have G5 := hide (gr_only G4.out o5 B4.out.lo)
          have Y7 := hide (o5.bl Z7.out K3.out.n7.2)
          have Y8 := hide (o5.bl Z8.out K3.out.n8.2)
          have KG := hide (fun k (hk : k < 3) => know_great KN.out (sures_tri K3.out.a.is) (fun k hk => by have := AL.out k hk; omega) hk)
          have KO := hide (fun k (hk : k < 3) => know_none KN.out hk)
          clear u5 o5
          go_wp2_with fail
          clear U4 B4 G4 Z7 Z8 AB K3 KN hlen AL
          go_loopw [12] (fun i wr => ∃ k : Nat, i = .int .i64 k ∧ k ≤ 3 ∧ Hid (Gr w5 wr)) (fun i _ => 3 - (intOf i).toNat)
          case atStart => exact ⟨0, rfl, by omega, hide (Gr.refl _)⟩
          case round =>
            obtain ⟨k, rfl, hk3, hgr⟩ := hrel
            by_cases hk : k < 3
            · have hx := fun (wz : World) => name_cell wz hk
              have hkI : (k : Int) < 3 := by omega
              have hk0 : (0 : Int) ≤ k := by omega
              have hms : (bs (nm k)).size ≤ maxLen := by rw [nm_size hk]; decide
              go_wp2_with fail
              have va := (V5.out.gr hgr.out).gr ((Gr.refl wr).alloc (.cells #[.string ⟨#[120]⟩, .string ⟨#[121]⟩, .string ⟨#[122]⟩] 9))
              refine (Read_has va.is hms).mono ?_
              rintro e w6 ⟨hg6, A1, n1, c1, ok1, rfl, hn1, hr1⟩
              rw [bs_list, get_tri hk, KG.out k hk] at hn1 hr1
              have ub := (U5.out.gr hgr.out).gr ((Gr.refl _).alloc _ |>.trans hg6)
              have UB := hide ub
              have G6 := hide (hgr.out.trans ((Gr.refl _).alloc _ |>.trans hg6))
              have H1 := hide hr1
              clear va ub hr1
              go_wp2_with fail
              have vb := UB.out.gr ((Gr.refl w6).alloc (.cells #[.string ⟨#[120]⟩, .string ⟨#[121]⟩, .string ⟨#[122]⟩] 9))
              refine (Read_has vb.is hms).mono ?_
              rintro e w7 ⟨hg7, A2, n2, c2, ok2, rfl, hn2, hr2⟩
              rw [bs_list, get_tri hk, KO.out k hk] at hn2 hr2
              have g7' := ((Gr.refl w6).alloc (.cells #[.string ⟨#[120]⟩, .string ⟨#[121]⟩, .string ⟨#[122]⟩] 9)).trans hg7
              have G7 := hide (G6.out.trans g7')
              have hq1 := H1.out.gr g7'
              have c7 := (Y7.out.gr G7.out).cell k
              have c8 := (Y8.out.gr G7.out).cell k
              rw [arr3_at _ hk] at c7 c8
              clear vb hg7 UB H1
              subst hn1 hn2
              go_wp2_with fail
              have cx : ∀ q, (convert 28 9 (.slice A1 (al k).length c1)).run Try.prog (w7.drewN q) = .ok (.string (bs (al k))) (w7.drewN q) := fun q => run_conv (w7.drewN q) _ _ _ Try.underlying28 Try.underlying5 Try.underlying9 _ _ rfl (hq1.drewN q)
              have cy : ∀ q, (convert 28 9 (.slice A2 (su k).length c2)).run Try.prog (w7.drewN q) = .ok (.string (bs (su k))) (w7.drewN q) := fun q => run_conv (w7.drewN q) _ _ _ Try.underlying28 Try.underlying5 Try.underlying9 _ _ rfl (hr2.drewN q)
              have CX := hide cx
              have CY := hide cy
              clear cx cy hx hq1 hr2
              refine wp_region_quiet_lit (by kernel_rfl) (by kernel_rfl) ?_
              repeat (go_big_quiet_step (fail))
              refine quiet_conv_if (by rfl) 28 9 (.tmp 123) rfl rfl (fun w' ⟨n, hw'⟩ => by rw [hw']; exact CX.out _) ?_
              simp only [Act.put, List.setIfInBounds_toArray, List.set_cons_zero, List.set_cons_succ]
              repeat (go_big_quiet_step (fail))
              refine quiet_conv_if (by rfl) 28 9 (.tmp 130) rfl rfl (fun w' ⟨n, hw'⟩ => by rw [hw']; exact CY.out _) ?_
              simp only [Act.put, List.setIfInBounds_toArray, List.set_cons_zero, List.set_cons_succ]
              repeat (go_big_quiet_step (fail))
              refine wpQuiet_nil ?_
              rintro _ ⟨nq, rfl⟩
              go_wp2_with fail
              go_roundw
              case rel => exact ⟨k + 1, by go_num, by omega, hide (hgr.out.trans (((Gr.refl wr).alloc _).trans hg6) |>.trans g7' |>.drewN _)⟩
              case measure => simp [intOf]; omega
            · obtain rfl : k = 3 := by omega
              go_wp2_with fail
              go_ret
              exact ⟨rfl, G5.out.trans hgr.out⟩

end Go.Proofs.Yteflmockckmciaa
