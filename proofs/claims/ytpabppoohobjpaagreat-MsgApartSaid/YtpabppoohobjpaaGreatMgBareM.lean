/-
  The document's bare and MayMsg, of letters: no program's run.
-/
import Derived.Test.YtpabppoohobjpaaGreatMgRefSame
import Derived.Test.YtpabppoohobjpaaGreatHandRd
import Derived.Test.YtpabppoohobjpaaGreatMgUnnamed
namespace Go.Proofs.YtpabppoohobjpaaGreat
open Go Go.RowKit TxnMath KeyMath MsgMath
set_option maxRecDepth 100000

theorem kind_cases {k : Int} (h1 : 1 ≤ k) (h9 : k ≤ 9) : k = 1 ∨ k = 2 ∨ k = 3 ∨ k = 4 ∨ k = 5 ∨ k = 6 ∨ k = 7 ∨ k = 8 ∨ k = 9 := by omega
theorem erN (s : Unit) (z : Int) : MsgMath.eraser.num s z = (0, ()) := rfl
theorem erF (s : Unit) (z : Bool) : MsgMath.eraser.flag s z = (false, ()) := rfl
theorem erT (s : Unit) (z : ByteArray) : MsgMath.eraser.text s z = (nothing, ()) := rfl
theorem erX (s : Unit) (z : TxT) : MsgMath.eraser.txn s z = (noTxn, ()) := rfl
theorem rest_bare (m : MsgT) (h1 : 1 ≤ m.kind) (h9 : m.kind ≤ 9) : restOf m = noMsg ↔ m = bareM m := by
  obtain ⟨k, f, t, p, te, ix, lt, co, ok, en, tx, se, sq, po, sh, sp, fk, tk, ke, go, er⟩ := m
  simp only at h1 h9
  rcases kind_cases h1 h9 with h | h | h | h | h | h | h | h | h
  all_goals
    subst h
    simp [restOf, Hand.head, Hand.body, Hand.run, named, askRead, headF, Hand.fld, erN, erF, erT, erX, erase_list, bareM, noMsg]

end Go.Proofs.YtpabppoohobjpaaGreat

/-
  The document's MayMsg by its contract.
-/
namespace Go.Proofs.YtpabppoohobjpaaGreat
open Go Go.RowKit TxnMath KeyMath MsgMath
set_option maxRecDepth 100000

/-- a head that may not be -/
def badHead (m : MsgT) : Bool := (((((((((decide (m.kind < 1)) || (decide (m.kind > 9))) || (decide (m.frm < 1))) || (decide (m.frm > 5))) || (decide (m.to < 1))) || (decide (m.to > 5))) || (m.frm == m.to)) || (decide (m.part < 0))) || (decide (m.part ≥ 3)))
def nums8 (m : MsgT) : List Int := [m.term, m.index, m.logTerm, m.commit, m.ses, m.seq, m.pos, m.shard]
def entQ (e : EntT) : Bool := mayEntR e && okN e.term
def tailR (m : MsgT) : Bool :=
  decide (m.shard < 3) && decide ((m.entries.length : Int) ≤ 4) && (!(m.kind == 5) || mayT m.t) && decide ((m.keys.length : Int) ≤ 6) && risingK m.keys && decide ((m.fromKey.size : Int) ≤ 8) && decide ((m.toKey.size : Int) ≤ 8) &&
    decide ((m.got.length : Int) ≤ 64) && risingK (m.got.map (·.key)) && decide (m.err ≥ 0) && decide (m.err ≤ 6)
theorem head_bad (m : MsgT) : badHead m = !headB m := by
  rw [Bool.eq_iff_iff]
  simp only [badHead, headB, Bool.or_eq_true, Bool.not_eq_true', Bool.and_eq_false_iff, decide_eq_true_eq, decide_eq_false_iff_not, beq_iff_eq, Bool.not_eq_false', gt_iff_lt, ge_iff_le]
  omega
theorem nums_all {m : MsgT} (hh : headB m = true) (he : 0 ≤ m.err ∧ m.err ≤ 6) : (nums13 m).all okN = (nums8 m).all okN := by
  unfold headB at hh
  simp only [Bool.and_eq_true, decide_eq_true_eq] at hh
  obtain ⟨⟨h1, h2⟩, ⟨h3, h4⟩, ⟨h5, h6⟩, ⟨h7, h8⟩, _⟩ := hh
  have k1 : okN m.kind = true := by unfold okN; simp; omega
  have k2 : okN m.frm = true := by unfold okN; simp; omega
  have k3 : okN m.to = true := by unfold okN; simp; omega
  have k4 : okN m.part = true := by unfold okN; simp; omega
  have k5 : okN m.err = true := by unfold okN; simp; omega
  simp [nums13, nums8, k1, k2, k3, k4, k5]
theorem may_ref (m : MsgT) : mayM m = (!badHead m && decide (m = bareM m) && (nums8 m).all okN && m.entries.all entQ && m.got.all rdB && tailR m) := by
  rw [head_bad, Bool.not_not]
  unfold mayM
  cases hh : headB m
  · rfl
  · have hk : 1 ≤ m.kind ∧ m.kind ≤ 9 := by
      unfold headB at hh
      simp only [Bool.and_eq_true, decide_eq_true_eq] at hh
      omega
    have hrb : decide (restOf m = noMsg) = decide (m = bareM m) := by rw [decide_eq_decide]; exact rest_bare m hk.1 hk.2
    rw [hrb]
    have hee : entB = entQ := by funext e; unfold entB entQ mayEntR; rw [Bool.and_comm]
    by_cases he : 0 ≤ m.err ∧ m.err ≤ 6
    · unfold bodyB tailR
      rw [nums_all hh he, hee, decide_eq_true (show m.err ≥ 0 from he.1), decide_eq_true he.2]
      simp only [Bool.true_and, Bool.and_true]
      rw [Bool.eq_iff_iff]
      simp only [Bool.and_eq_true]
      constructor
      · rintro ⟨⟨⟨⟨⟨⟨⟨⟨⟨⟨⟨⟨a1, a2⟩, a3⟩, a4⟩, a5⟩, a6⟩, a7⟩, a8⟩, a9⟩, a10⟩, a11⟩, a12⟩, a13⟩
        exact ⟨⟨⟨⟨a13, a1⟩, a4⟩, a11⟩, ⟨⟨⟨⟨⟨⟨⟨⟨a2, a3⟩, a5⟩, a8⟩, a9⟩, a6⟩, a7⟩, a10⟩, a12⟩⟩
      · rintro ⟨⟨⟨⟨a13, a1⟩, a4⟩, a11⟩, ⟨⟨⟨⟨⟨⟨⟨⟨a2, a3⟩, a5⟩, a8⟩, a9⟩, a6⟩, a7⟩, a10⟩, a12⟩⟩
        exact ⟨⟨⟨⟨⟨⟨⟨⟨⟨⟨⟨⟨a1, a2⟩, a3⟩, a4⟩, a5⟩, a6⟩, a7⟩, a8⟩, a9⟩, a10⟩, a11⟩, a12⟩, a13⟩
    · have hb : bodyB m = false := by
        rw [Bool.eq_false_iff]
        intro h
        unfold bodyB at h
        simp only [Bool.and_eq_true, decide_eq_true_eq] at h
        have h0 : (nums13 m).all okN = true := h.1.1.1.1.1.1.1.1.1.1.1.1
        have h2 := h.1.1.1.1.1.1.1.1.1.1.2
        have := List.all_eq_true.1 h0 m.err (by simp [nums13])
        unfold okN at this
        simp only [Bool.and_eq_true, decide_eq_true_eq] at this
        exact he ⟨this.1, h2⟩
      have ht : tailR m = false := by
        rw [Bool.eq_false_iff]
        intro h
        unfold tailR at h
        simp only [Bool.and_eq_true, decide_eq_true_eq] at h
        exact he ⟨h.1.2, h.2⟩
      rw [hb, ht]
      simp

end Go.Proofs.YtpabppoohobjpaaGreat
