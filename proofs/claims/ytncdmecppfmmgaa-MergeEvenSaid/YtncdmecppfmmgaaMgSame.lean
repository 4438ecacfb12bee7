/-
  The document's SamePlaces and First by their contracts.
-/
import Derived.Test.YtncdmecppfmmgaaMgMem
import Derived.Test.YtncdmecppfmmgaaTxnSame
import Derived.StillTailTactics
namespace Go.Proofs.Ytncdmecppfmmgaa
open Go Go.RowKit TxnMath KeyMath MsgMath EpMath MgMath
set_option maxRecDepth 100000

/-- a place whose rows are not too long -/
def PlBnd (p : PlaceT) : Prop := p.t.reads.length ≤ 1000000000 ∧ p.t.writes.length ≤ 1000000000

set_option maxHeartbeats 2000000 in
theorem SamePlaces_ok (v u : Value) (ps qs : List PlaceT) (w : World) (hv : PlX w v ps) (hu : PlX w u qs) (hl : ps.length ≤ 1000000) (hb : ∀ p ∈ ps, PlBnd p) (hpq : ps = qs) :
    Calls Try.prog 13 #[v, u] w fun e w' => e = .returned (.bool true) ∧ Gr w w' := by
  subst hpq
  have HV := hide hv
  have HU := hide hu
  have HB := hide hb
  obtain ⟨A, c, rfl, _⟩ := hv.is
  obtain ⟨B, d, rfl, _⟩ := hu.is
  clear hv hu hb
  go_enter Try.func13, Try.ntmps13
  go_wp2_with fail
  go_loopw [5] (fun i wr => ∃ k : Nat, i = .int .i64 k ∧ k ≤ ps.length ∧ Hid (Gr w wr)) (fun i _ => ps.length - (intOf i).toNat)
  case atStart => exact ⟨0, rfl, by omega, Gr.refl w⟩
  case round =>
    obtain ⟨k, rfl, hk, HR⟩ := hrel
    by_cases hlt : k < ps.length
    · have hlt' : (k : Int) < (ps.length : Int) := by omega
      obtain ⟨ad, c', p, e1, hp, a0, a1, a2, a3, a4, a5⟩ := (HV.out.gr HR.out).at_ hlt
      obtain ⟨bd, d', q, e2, hq, b0, b1, b2, b3, b4, b5⟩ := (HU.out.gr HR.out).at_ hlt
      simp only [Value.slice.injEq, true_and] at e1 e2
      obtain ⟨rfl, rfl⟩ := e1
      obtain ⟨rfl, rfl⟩ := e2
      have hbn := HB.out _ (List.getElem_mem hlt)
      have HC := hide (fun w' (h : Gr wr w') => SameTxn_ok (.agg (txC ps[k].t p).toArray) (.agg (txC ps[k].t q).toArray) ps[k].t ps[k].t w' (hp.gr h).txAt (hq.gr h).txAt hbn.1 hbn.1 hbn.2)
      rw [decide_eq_true rfl] at HC
      obtain ⟨A2, c2, e3, _⟩ := hp.rd.1.is
      obtain ⟨B2, d2, e4, _⟩ := hp.wr.1.is
      obtain ⟨A3, c3, e5, _⟩ := hq.rd.1.is
      obtain ⟨B3, d3, e6, _⟩ := hq.wr.1.is
      obtain ⟨p1, p2⟩ := p
      obtain ⟨q1, q2⟩ := q
      simp only at e3 e4 e5 e6
      subst e3 e4 e5 e6
      obtain ⟨x, hxk⟩ : ∃ x, ps[k]'hlt = x := ⟨_, rfl⟩
      simp only [hxk] at a0 a1 a2 a3 a4 a5 b0 b1 b2 b3 b4 b5 HC
      clear hxk hp hq hbn
      change Hid (∀ w', Gr wr w' → Calls _ _ #[.agg #[.int .i64 x.t.ses, .int .i64 x.t.seq, _, _], .agg #[.int .i64 x.t.ses, .int .i64 x.t.seq, _, _]] _ _) at HC
      generalize x.t.ses = z1 at *
      generalize x.t.seq = z2 at *
      generalize (x.part : Int) = z3 at *
      generalize x.index = z4 at *
      go_wp2_with fail
      go_still_tail 35, (by kernel_rfl)
      change wpList _ _ _ _ _ wr.drew
      go_wp2_with fail
      refine (HC.out _ (Gr.refl wr).drew).mono ?_
      rintro e w3 ⟨rfl, hg3⟩
      have HR3 := hide (HR.out.trans ((Gr.refl wr).drew.trans hg3))
      clear hg3 a0 a1 a2 a3 a4 a5 b0 b1 b2 b3 b4 b5 HC
      go_wp2_with fail
      go_roundw
      case rel => exact ⟨k + 1, by go_num, by omega, HR3⟩
      case measure => simp [intOf]; omega
    · obtain rfl : k = ps.length := by omega
      go_wp2_with fail
      go_ret
      exact ⟨rfl, HR.out⟩

/-- where a session's number comes first -/
def firstL (ses seq : Int) : List PlaceT → Nat → Nat
  | [], _ => 0
  | p :: ps, k => if p.t.ses = ses ∧ p.t.seq = seq then k + 1 else firstL ses seq ps (k + 1)
theorem first_at {ses seq : Int} {ps : List PlaceT} {k : Nat} (h : k < ps.length) : firstL ses seq (ps.drop k) k = if ps[k].t.ses = ses ∧ ps[k].t.seq = seq then k + 1 else firstL ses seq (ps.drop (k + 1)) (k + 1) := by
  rw [List.drop_eq_getElem_cons h, firstL]

set_option maxHeartbeats 2000000 in
theorem RefFirst_ok (v : Value) (ps : List PlaceT) (ses seq : Int) (w : World) (hv : PlX w v ps) (hl : ps.length ≤ 1000000) :
    Calls Try.prog 17 #[v, .int .i64 ses, .int .i64 seq] w fun e w' => e = .returned (.int .i64 (firstL ses seq ps 0 : Nat)) ∧ w' = w := by
  have HV := hide hv
  obtain ⟨A, c, rfl, _⟩ := hv.is
  clear hv
  go_enter Try.func17, Try.ntmps17
  go_wp2_with fail
  go_loopw [7] (fun i wr => ∃ k : Nat, i = .int .i64 k ∧ k ≤ ps.length ∧ Hid (firstL ses seq ps 0 = firstL ses seq (ps.drop k) k) ∧ wr = w) (fun i _ => ps.length - (intOf i).toNat)
  case atStart => exact ⟨0, rfl, by omega, rfl, rfl⟩
  case round =>
    obtain ⟨k, rfl, hk, HF, rfl⟩ := hrel
    by_cases hlt : k < ps.length
    · have hlt' : (k : Int) < (ps.length : Int) := by omega
      obtain ⟨ad, c', p, e1, _, _, _, a2, a3, _, _⟩ := HV.out.at_ hlt
      simp only [Value.slice.injEq, true_and] at e1
      obtain ⟨rfl, rfl⟩ := e1
      have HA := hide (first_at (ses := ses) (seq := seq) hlt)
      generalize ps[k].t.ses = z1 at a2 HA
      generalize ps[k].t.seq = z2 at a3 HA
      by_cases h1 : z1 = ses
      · by_cases h2 : z2 = seq
        · have HE := hide (HF.out.trans (HA.out.trans (if_pos ⟨h1, h2⟩)))
          subst h1 h2
          clear HF HA
          go_wp2_with fail
          go_ret
          exact ⟨by rw [HE.out]; push_cast; rfl, rfl⟩
        · have HE := hide (HF.out.trans (HA.out.trans (if_neg fun h => h2 h.2)))
          have hb : (z2 == seq) = false := beq_no h2
          subst h1
          clear HF HA
          go_wp2_with fail
          go_roundw
          case rel => exact ⟨k + 1, by go_num, by omega, HE, trivial⟩
          case measure => simp [intOf]; omega
      · have HE := hide (HF.out.trans (HA.out.trans (if_neg fun h => h1 h.1)))
        have hb : (z1 == ses) = false := beq_no h1
        clear HF HA
        go_wp2_with fail
        go_roundw
        case rel => exact ⟨k + 1, by go_num, by omega, HE, trivial⟩
        case measure => simp [intOf]; omega
    · obtain rfl : k = ps.length := by omega
      have HE := hide (HF.out.trans (by rw [List.drop_length]; rfl : firstL ses seq (ps.drop ps.length) ps.length = 0))
      clear HF
      go_wp2_with fail
      go_ret
      exact ⟨by rw [HE.out]; rfl, rfl⟩

end Go.Proofs.Ytncdmecppfmmgaa

/-
  merge's First by its contract.
-/
namespace Go.Proofs.Ytncdmecppfmmgaa
open Go Go.RowKit TxnMath KeyMath MsgMath EpMath MgMath
set_option maxRecDepth 100000

set_option maxHeartbeats 2000000 in
theorem First_ok (v : Value) (ps : List PlaceT) (ses seq : Int) (w : World) (hv : PlX w v ps) (hl : ps.length ≤ 1000000) :
    Calls Try.prog 16 #[v, .int .i64 ses, .int .i64 seq] w fun e w' => e = .returned (.int .i64 (firstL ses seq ps 0 : Nat)) ∧ Gr w w' := by
  have HV := hide hv
  obtain ⟨A, c, rfl, _⟩ := hv.is
  clear hv
  go_enter Try.func16, Try.ntmps16
  go_wp2_with fail
  go_loopw [11] (fun i wr => ∃ k : Nat, i = .int .i64 k ∧ k ≤ ps.length ∧ Hid (firstL ses seq ps 0 = firstL ses seq (ps.drop k) k) ∧ Hid (Gr w wr)) (fun i _ => ps.length - (intOf i).toNat)
  case atStart => exact ⟨0, rfl, by omega, rfl, Gr.refl _⟩
  case round =>
    obtain ⟨k, rfl, hk, HF, HG⟩ := hrel
    by_cases hlt : k < ps.length
    · have hlt' : (k : Int) < (ps.length : Int) := by omega
      obtain ⟨ad, c', p, e1, hrx, a0, a1, a2, a3, a4, a5⟩ := (HV.out.gr HG.out).at_ hlt
      simp only [Value.slice.injEq, true_and] at e1
      obtain ⟨rfl, rfl⟩ := e1
      have HA := hide (first_at (ses := ses) (seq := seq) hlt)
      obtain ⟨A1, c1, e4⟩ := hrx.rd.sl
      obtain ⟨A2, c2, e5⟩ := hrx.wr.sl
      rw [e4] at a4
      rw [e5] at a5
      clear hrx e4 e5
      generalize ps[k].t.ses = z1 at a2 HA
      generalize ps[k].t.seq = z2 at a3 HA
      generalize ps[k].index = z3 at a1
      generalize ps[k].part = z4 at a0
      generalize (ps[k].t.reads.map rdC).length = m1 at a4
      generalize (ps[k].t.writes.map wrC).length = m2 at a5
      by_cases h1 : z1 = ses
      · by_cases h2 : z2 = seq
        · have HE := hide (HF.out.trans (HA.out.trans (if_pos ⟨h1, h2⟩)))
          subst h1 h2
          clear HF HA
          go_wp2_with fail
          go_ret
          exact ⟨by rw [HE.out]; push_cast; rfl, HG.out.trans ((Gr.refl _).alloc _)⟩
        · have HE := hide (HF.out.trans (HA.out.trans (if_neg fun h => h2 h.2)))
          have hb : (z2 == seq) = false := beq_no h2
          subst h1
          clear HF HA
          go_wp2_with fail
          go_roundw
          case rel => exact ⟨k + 1, by go_num, by omega, HE, HG.out.trans ((Gr.refl _).alloc _)⟩
          case measure => simp [intOf]; omega
      · have HE := hide (HF.out.trans (HA.out.trans (if_neg fun h => h1 h.1)))
        have hb : (z1 == ses) = false := beq_no h1
        clear HF HA
        go_wp2_with fail
        go_roundw
        case rel => exact ⟨k + 1, by go_num, by omega, HE, HG.out.trans ((Gr.refl _).alloc _)⟩
        case measure => simp [intOf]; omega
    · obtain rfl : k = ps.length := by omega
      have HE := hide (HF.out.trans (by rw [List.drop_length]; rfl : firstL ses seq (ps.drop ps.length) ps.length = 0))
      clear HF
      go_wp2_with fail
      go_ret
      exact ⟨by rw [HE.out]; rfl, HG.out⟩

end Go.Proofs.Ytncdmecppfmmgaa
