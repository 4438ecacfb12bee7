/-
  The document's bare and MayMsg, of letters: no program's run.
-/
import Derived.Test.YtpabppoohobjpaaGreatMgRefSame
import Derived.Test.YtpabppoohobjpaaGreatHandRd
import Derived.Test.YtpabppoohobjpaaGreatMgUnnamed
namespace Go.Proofs.YtpabppoohobjpaaGreat
open Go Go.RowKit TxnMath KeyMath MsgMath
set_option maxRecDepth 100000

theorem kind_cases {k : Int} (h1 : 1 ≤ k) (h9 : k ≤ 9) : k = 1 ∨ k = 2 ∨ k = 3 ∨ k = 4 ∨ k = 5 ∨ k = 6 ∨ k = 7 ∨ k = 8 ∨ k = 9 := by omega
theorem erN (s : Unit) (z : Int) : MsgMath.eraser.num s z = (0, ()) := rfl
theorem erF (s : Unit) (z : Bool) : MsgMath.eraser.flag s z = (false, ()) := rfl
theorem erT (s : Unit) (z : ByteArray) : MsgMath.eraser.text s z = (nothing, ()) := rfl
theorem erX (s : Unit) (z : TxT) : MsgMath.eraser.txn s z = (noTxn, ()) := rfl
theorem rest_bare (m : MsgT) (h1 : 1 ≤ m.kind) (h9 : m.kind ≤ 9) : restOf m = noMsg ↔ m = bareM m := by
  obtain ⟨k, f, t, p, te, ix, lt, co, ok, en, tx, se, sq, po, sh, sp, fk, tk, ke, go, er⟩ := m
  simp only at h1 h9
  rcases kind_cases h1 h9 with h | h | h | h | h | h | h | h | h
  all_goals
    subst h
    simp [restOf, Hand.head, Hand.body, Hand.run, named, askRead, headF, Hand.fld, erN, erF, erT, erX, erase_list, bareM, noMsg]

end Go.Proofs.YtpabppoohobjpaaGreat

/-
  The document's MayMsg by its contract.
-/
namespace Go.Proofs.YtpabppoohobjpaaGreat
open Go Go.RowKit TxnMath KeyMath MsgMath
set_option maxRecDepth 100000

/-- a head that may not be -/
def badHead (m : MsgT) : Bool := (((((((((decide (m.kind < 1)) || (decide (m.kind > 9))) || (decide (m.frm < 1))) || (decide (m.frm > 5))) || (decide (m.to < 1))) || (decide (m.to > 5))) || (m.frm == m.to)) || (decide (m.part < 0))) || (decide (m.part ≥ 3)))
def nums8 (m : MsgT) : List Int := [m.term, m.index, m.logTerm, m.commit, m.ses, m.seq, m.pos, m.shard]
def entQ (e : EntT) : Bool := mayEntR e && okN e.term
def tailR (m : MsgT) : Bool :=
  decide (m.shard < 3) && decide ((m.entries.length : Int) ≤ 4) && (!(m.kind == 5) || mayT m.t) && decide ((m.keys.length : Int) ≤ 6) && risingK m.keys && decide ((m.fromKey.size : Int) ≤ 8) && decide ((m.toKey.size : Int) ≤ 8) &&
    decide ((m.got.length : Int) ≤ 64) && risingK (m.got.map (·.key)) && decide (m.err ≥ 0) && decide (m.err ≤ 6)
theorem head_bad (m : MsgT) : badHead m = !headB m := by
  rw [Bool.eq_iff_iff]
  simp only [badHead, headB, Bool.or_eq_true, Bool.not_eq_true', Bool.and_eq_false_iff, decide_eq_true_eq, decide_eq_false_iff_not, beq_iff_eq, Bool.not_eq_false', gt_iff_lt, ge_iff_le]
  omega
theorem nums_all {m : MsgT} (hh : headB m = true) (he : 0 ≤ m.err ∧ m.err ≤ 6) : (nums13 m).all okN = (nums8 m).all okN := by
  unfold headB at hh
  simp only [Bool.and_eq_true, decide_eq_true_eq] at hh
  obtain ⟨⟨h1, h2⟩, ⟨h3, h4⟩, ⟨h5, h6⟩, ⟨h7, h8⟩, _⟩ := hh
  have k1 : okN m.kind = true := by unfold okN; simp; omega
  have k2 : okN m.frm = true := by unfold okN; simp; omega
  have k3 : okN m.to = true := by unfold okN; simp; omega
  have k4 : okN m.part = true := by unfold okN; simp; omega
  have k5 : okN m.err = true := by unfold okN; simp; omega
  simp [nums13, nums8, k1, k2, k3, k4, k5]
theorem may_ref (m : MsgT) : mayM m = (!badHead m && decide (m = bareM m) && (nums8 m).all okN && m.entries.all entQ && m.got.all rdB && tailR m) := by
  rw [head_bad, Bool.not_not]
  unfold mayM
  cases hh : headB m
  · rfl
  · have hk : 1 ≤ m.kind ∧ m.kind ≤ 9 := by
      unfold headB at hh
      simp only [Bool.and_eq_true, decide_eq_true_eq] at hh
      omega
    have hrb : decide (restOf m = noMsg) = decide (m = bareM m) := by rw [decide_eq_decide]; exact rest_bare m hk.1 hk.2
    rw [hrb]
    have hee : entB = entQ := by funext e; unfold entB entQ mayEntR; rw [Bool.and_comm]
    by_cases he : 0 ≤ m.err ∧ m.err ≤ 6
    · unfold bodyB tailR
      rw [nums_all hh he, hee, decide_eq_true (show m.err ≥ 0 from he.1), decide_eq_true he.2]
      simp only [Bool.true_and, Bool.and_true]
      rw [Bool.eq_iff_iff]
      simp only [Bool.and_eq_true]
      constructor
      · rintro ⟨⟨⟨⟨⟨⟨⟨⟨⟨⟨⟨⟨a1, a2⟩, a3⟩, a4⟩, a5⟩, a6⟩, a7⟩, a8⟩, a9⟩, a10⟩, a11⟩, a12⟩, a13⟩
        exact ⟨⟨⟨⟨a13, a1⟩, a4⟩, a11⟩, ⟨⟨⟨⟨⟨⟨⟨⟨a2, a3⟩, a5⟩, a8⟩, a9⟩, a6⟩, a7⟩, a10⟩, a12⟩⟩
      · rintro ⟨⟨⟨⟨a13, a1⟩, a4⟩, a11⟩, ⟨⟨⟨⟨⟨⟨⟨⟨a2, a3⟩, a5⟩, a8⟩, a9⟩, a6⟩, a7⟩, a10⟩, a12⟩⟩
        exact ⟨⟨⟨⟨⟨⟨⟨⟨⟨⟨⟨⟨a1, a2⟩, a3⟩, a4⟩, a5⟩, a6⟩, a7⟩, a8⟩, a9⟩, a10⟩, a11⟩, a12⟩, a13⟩
    · have hb : bodyB m = false := by
        rw [Bool.eq_false_iff]
        intro h
        unfold bodyB at h
        simp only [Bool.and_eq_true, decide_eq_true_eq] at h
        have h0 : (nums13 m).all okN = true := h.1.1.1.1.1.1.1.1.1.1.1.1
        have h2 := h.1.1.1.1.1.1.1.1.1.1.2
        have := List.all_eq_true.1 h0 m.err (by simp [nums13])
        unfold okN at this
        simp only [Bool.and_eq_true, decide_eq_true_eq] at this
        exact he ⟨this.1, h2⟩
      have ht : tailR m = false := by
        rw [Bool.eq_false_iff]
        intro h
        unfold tailR at h
        simp only [Bool.and_eq_true, decide_eq_true_eq] at h
        exact he ⟨h.1.2, h.2⟩
      rw [hb, ht]
      simp

end Go.Proofs.YtpabppoohobjpaaGreat

/-
  A letter that may be comes back from its bytes.
-/
namespace Go.Proofs.YtpabppoohobjpaaGreat
open Go Go.RowKit TxnMath KeyMath MsgMath NumPlain
set_option maxRecDepth 100000

def encEn (e : EntT) : List UInt8 := putZ e.term ++ putZ (if e.shut then 1 else 0) ++ (if e.shut then [] else putTx e.t)
def encRd (x : RdT) : List UInt8 := txtOf x.key ++ putZ x.ver ++ txtOf x.val ++ putZ (if x.there then 1 else 0)
/-- the bytes of one field -/
def encF (m : MsgT) : Fld → List UInt8
  | .kind => putZ m.kind
  | .frm => putZ m.frm
  | .to => putZ m.to
  | .part => putZ m.part
  | .term => putZ m.term
  | .index => putZ m.index
  | .logTerm => putZ m.logTerm
  | .commit => putZ m.commit
  | .ok => putZ (if m.ok then 1 else 0)
  | .entries => putZ m.entries.length ++ m.entries.flatMap encEn
  | .t => putTx m.t
  | .ses => putZ m.ses
  | .seq => putZ m.seq
  | .pos => putZ m.pos
  | .shard => putZ m.shard
  | .span => putZ (if m.span then 1 else 0)
  | .fromKey => txtOf m.fromKey
  | .toKey => txtOf m.toKey
  | .keys => putZ m.keys.length ++ m.keys.flatMap txtOf
  | .got => putZ m.got.length ++ m.got.flatMap encRd
  | .err => putZ m.err
theorem many_write {α : Type} {one : List UInt8 → α → α × List UInt8} {enc : α → List UInt8} (h : ∀ s x, one s x = (x, s ++ enc x)) : ∀ (l : List α) (s : List UInt8), many one s l = (l, s ++ l.flatMap enc)
  | [], s => by simp [many]
  | x :: l, s => by simp [many, h, many_write h l]
theorem wr_entry (s : List UInt8) (e : EntT) : MsgMath.writer.entry s e = (e, s ++ encEn e) := by
  obtain ⟨a, b, t⟩ := e
  cases b <;> simp [Hand.entry, MsgMath.writer, encEn]
theorem wr_read (s : List UInt8) (x : RdT) : MsgMath.writer.read s x = (x, s ++ encRd x) := by
  obtain ⟨k, v, y, b⟩ := x
  cases b <;> simp [Hand.read, MsgMath.writer, encRd]
theorem wr_list {α : Type} (zero : α) {one : List UInt8 → α → α × List UInt8} {enc : α → List UInt8} (h : ∀ s x, one s x = (x, s ++ enc x)) (most : Nat) (s : List UInt8) (l : List α) : MsgMath.writer.list zero one most s l = (l, s ++ (putZ l.length ++ l.flatMap enc)) := by
  unfold Hand.list
  have e : MsgMath.writer.size s l.length most = (l.length, s ++ putZ l.length) := rfl
  rw [e]
  show many one (s ++ putZ l.length) (sized zero l.length l) = _
  rw [show sized zero l.length l = l by simp [sized], many_write h, List.append_assoc]
theorem wr_fld (f : Fld) (s : List UInt8) (m : MsgT) : MsgMath.writer.fld f s m = (m, s ++ encF m f) := by
  cases f with
  | entries =>
    simp only [Hand.fld, encF]
    rw [wr_list noEnt wr_entry]
  | keys =>
    simp only [Hand.fld, encF]
    rw [wr_list nothing (one := MsgMath.writer.text) (enc := txtOf) (fun _ _ => rfl)]
  | got =>
    simp only [Hand.fld, encF]
    rw [wr_list noRd wr_read]
  | _ => rfl
theorem wr_run : ∀ (fs : List Fld) (s : List UInt8) (m : MsgT), MsgMath.writer.run fs s m = (m, s ++ fs.flatMap (encF m))
  | [], s, m => by simp [Hand.run]
  | f :: fs, s, m => by
    unfold Hand.run
    rw [wr_fld]
    simp only [wr_run fs, List.flatMap_cons, List.append_assoc]
theorem encM_is (m : MsgT) : encM m = headF.flatMap (encF m) ++ (named m.kind).flatMap (encF m) := by
  unfold encM Hand.body Hand.head
  rw [wr_run, wr_run]
  simp

/-! Read again. -/
theorem next_put {z : Int} (h : okN z = true) (r : List UInt8) : nextN (putZ z ++ r) = (z, r) := by
  unfold okN at h
  simp only [Bool.and_eq_true, decide_eq_true_eq] at h
  unfold nextN putZ
  rw [if_neg (by omega), show putN z.toNat = natOf z from rfl, numOf_put h.1 (by omega)]
  rfl
theorem next_flag (b : Bool) (r : List UInt8) : nextN (putZ (if b then 1 else 0) ++ r) = ((if b then 1 else 0 : Int), r) := next_put (by cases b <;> decide) r
theorem next_nat {n : Nat} (h : n ≤ 1000) (r : List UInt8) : nextN (putZ (n : Int) ++ r) = ((n : Int), r) := next_put (by unfold okN; simp; omega) r
theorem text_put {s : ByteArray} (h : s.size ≤ 255) (r : List UInt8) (x : ByteArray) : MsgMath.reader.text (txtOf s ++ r) x = (s, r) := by
  show takeOr nothing _ (textOf (txtOf s ++ r)) = _
  rw [textOf_put h]
  rfl
theorem txn_put {t : TxT} (h : mayT t = true) (hv : VersOk t) (r : List UInt8) (x : TxT) : MsgMath.reader.txn (putTx t ++ r) x = (t, r) := by
  show takeOr noTxn _ (txOf (putTx t ++ r)) = _
  unfold putTx
  rw [if_pos h, txOf_put h hv]
  rfl
theorem num_put {z : Int} (h : okN z = true) (r : List UInt8) (x : Int) : MsgMath.reader.num (putZ z ++ r) x = (z, r) := next_put h r
theorem flag_put (b : Bool) (r : List UInt8) (x : Bool) : MsgMath.reader.flag (putZ (if b then 1 else 0) ++ r) x = (b, r) := by
  show ((nextN _).1 == 1, (nextN _).2) = _
  rw [next_flag]
  cases b <;> rfl
theorem rd_entry {e : EntT} (h : entB e = true) (hv : VersOk e.t) (r : List UInt8) : MsgMath.reader.entry (encEn e ++ r) noEnt = (e, r) := by
  obtain ⟨a, b, t⟩ := e
  unfold entB at h
  simp only [Bool.and_eq_true] at h
  obtain ⟨h1, h2⟩ := h
  unfold encEn Hand.entry
  simp only [List.append_assoc]
  rw [num_put h1]
  simp only
  rw [flag_put]
  cases b
  · simp only [Bool.false_eq_true, if_false] at h2 ⊢
    rw [txn_put h2 hv]
  · simp only [if_true] at h2 ⊢
    rw [of_decide_eq_true h2]
    rfl
theorem rd_read {x : RdT} (h : rdB x = true) (hk : x.key.size ≤ 255) (r : List UInt8) : MsgMath.reader.read (encRd x ++ r) noRd = (x, r) := by
  obtain ⟨k, v, y, b⟩ := x
  unfold rdB at h
  simp only [Bool.and_eq_true, decide_eq_true_eq] at h
  unfold encRd Hand.read
  simp only [List.append_assoc]
  rw [text_put hk]
  simp only
  rw [num_put h.1]
  simp only
  rw [text_put (by omega)]
  simp only
  rw [flag_put]
theorem many_read {α : Type} {one : List UInt8 → α → α × List UInt8} {enc : α → List UInt8} {zero : α} : ∀ (l : List α), (∀ x ∈ l, ∀ r, one (enc x ++ r) zero = (x, r)) → ∀ r, many one (l.flatMap enc ++ r) (List.replicate l.length zero) = (l, r)
  | [], _, r => by simp [many]
  | x :: l, h, r => by
    rw [List.flatMap_cons, List.append_assoc, List.length_cons, List.replicate_succ, many, h x (by simp)]
    simp only
    rw [many_read l (fun y hy => h y (by simp [hy]))]
theorem rd_list {α : Type} {one : List UInt8 → α → α × List UInt8} {enc : α → List UInt8} {zero : α} {most : Nat} {l : List α} (h : ∀ x ∈ l, ∀ r, one (enc x ++ r) zero = (x, r)) (hm : l.length ≤ most) (h1 : l.length ≤ 1000) (r : List UInt8) :
    MsgMath.reader.list zero one most (putZ l.length ++ l.flatMap enc ++ r) [] = (l, r) := by
  unfold Hand.list
  have e : MsgMath.reader.size (putZ l.length ++ l.flatMap enc ++ r) 0 most = (l.length, l.flatMap enc ++ r) := by
    show (if (most : Int) < (nextN _).1 then 0 else (nextN _).1.toNat, (nextN _).2) = _
    rw [List.append_assoc, next_nat h1]
    simp only [Int.toNat_natCast]
    rw [if_neg (by omega)]
  rw [show ([] : List α).length = 0 from rfl, e]
  show many one (l.flatMap enc ++ r) (sized zero l.length []) = _
  rw [show sized zero l.length ([] : List α) = List.replicate l.length zero by
    unfold sized
    split
    · rename_i hz
      rw [show l.length = 0 from hz]
      rfl
    · rfl]
  exact many_read l h r

/-- what each field of a letter must be to come back -/
structure BackOk (m : MsgT) : Prop where
  nums : ∀ z ∈ nums13 m, okN z = true
  ent : ∀ e ∈ m.entries, entB e = true ∧ VersOk e.t
  en : m.entries.length ≤ 4
  fk : m.fromKey.size ≤ 255
  tk : m.toKey.size ≤ 255
  ks : ∀ s ∈ m.keys, s.size ≤ 255
  kn : m.keys.length ≤ 6
  got : ∀ x ∈ m.got, rdB x = true ∧ x.key.size ≤ 255
  gn : m.got.length ≤ 64
  t : m.kind = 5 → mayT m.t = true ∧ VersOk m.t
theorem back_ok {m : MsgT} (h : mayM m = true) (hv : MsgVers m) : BackOk m := by
  unfold mayM at h
  simp only [Bool.and_eq_true] at h
  have hb := h.1.2
  unfold bodyB at hb
  simp only [Bool.and_eq_true, decide_eq_true_eq] at hb
  obtain ⟨⟨⟨⟨⟨⟨⟨⟨⟨⟨⟨⟨h0, h1⟩, h2⟩, h3⟩, h4⟩, h5⟩, h6⟩, h7⟩, h8⟩, h9⟩, h10⟩, h11⟩, h12⟩ := hb
  have hk9 := rising_may h9
  have hk12 := rising_may h12
  exact ⟨fun z hz => List.all_eq_true.1 h0 z hz, fun e he => ⟨List.all_eq_true.1 h4 e he, hv.ent e he⟩, by omega, by omega, by omega, fun s hs => by have := mayK_size (hk9 s hs); omega, by omega,
    fun x hx => ⟨List.all_eq_true.1 h11 x hx, by have := mayK_size (hk12 x.key (List.mem_map.2 ⟨x, hx, rfl⟩)); omega⟩, by omega, fun hk => ⟨by rw [hk] at h5; simpa using h5, hv.t⟩⟩
/-- the field is put over -/
def setF (m d : MsgT) : Fld → MsgT
  | .kind => { d with kind := m.kind }
  | .frm => { d with frm := m.frm }
  | .to => { d with to := m.to }
  | .part => { d with part := m.part }
  | .term => { d with term := m.term }
  | .index => { d with index := m.index }
  | .logTerm => { d with logTerm := m.logTerm }
  | .commit => { d with commit := m.commit }
  | .ok => { d with ok := m.ok }
  | .entries => { d with entries := m.entries }
  | .t => { d with t := m.t }
  | .ses => { d with ses := m.ses }
  | .seq => { d with seq := m.seq }
  | .pos => { d with pos := m.pos }
  | .shard => { d with shard := m.shard }
  | .span => { d with span := m.span }
  | .fromKey => { d with fromKey := m.fromKey }
  | .toKey => { d with toKey := m.toKey }
  | .keys => { d with keys := m.keys }
  | .got => { d with got := m.got }
  | .err => { d with err := m.err }
/-- the field's row has nothing in it -/
def blank (d : MsgT) : Fld → Bool
  | .entries => d.entries.isEmpty
  | .keys => d.keys.isEmpty
  | .got => d.got.isEmpty
  | _ => true
theorem rd_fld {m d : MsgT} {f : Fld} (h : BackOk m) (hf : f = .t → m.kind = 5) (hd : blank d f = true) (r : List UInt8) : MsgMath.reader.fld f (encF m f ++ r) d = (setF m d f, r) := by
  have hn : ∀ z, z ∈ nums13 m → ∀ x, MsgMath.reader.num (putZ z ++ r) x = (z, r) := fun z hz x => num_put (h.nums z hz) r x
  cases f with
  | entries =>
    have hd' : d.entries = [] := by simpa [blank] using hd
    simp only [Hand.fld, encF, setF]
    rw [hd', rd_list (l := m.entries) (fun e he r => rd_entry (h.ent e he).1 (h.ent e he).2 r) h.en (by have := h.en; omega)]
  | keys =>
    have hd' : d.keys = [] := by simpa [blank] using hd
    simp only [Hand.fld, encF, setF]
    rw [hd', rd_list (l := m.keys) (fun s hs r => text_put (h.ks s hs) r _) h.kn (by have := h.kn; omega)]
  | got =>
    have hd' : d.got = [] := by simpa [blank] using hd
    simp only [Hand.fld, encF, setF]
    rw [hd', rd_list (l := m.got) (fun x hx r => rd_read (h.got x hx).1 (h.got x hx).2 r) h.gn (by have := h.gn; omega)]
  | t =>
    simp only [Hand.fld, encF, setF]
    rw [txn_put (h.t (hf rfl)).1 (h.t (hf rfl)).2]
  | fromKey => simp only [Hand.fld, encF, setF]; rw [text_put h.fk]
  | toKey => simp only [Hand.fld, encF, setF]; rw [text_put h.tk]
  | ok => simp only [Hand.fld, encF, setF]; rw [flag_put]
  | span => simp only [Hand.fld, encF, setF]; rw [flag_put]
  | _ => simp only [Hand.fld, encF, setF]; rw [hn _ (by simp [nums13])]
theorem blank_set {m d : MsgT} {f g : Fld} (h : blank d g = true) (hne : g ≠ f) : blank (setF m d f) g = true := by
  cases g <;> first | rfl | (cases f <;> first | exact h | exact absurd rfl hne)
theorem rd_run {m : MsgT} (h : BackOk m) (r : List UInt8) : ∀ (fs : List Fld) (d : MsgT), fs.Nodup → (∀ f ∈ fs, f = .t → m.kind = 5) → (∀ f ∈ fs, blank d f = true) → MsgMath.reader.run fs (fs.flatMap (encF m) ++ r) d = (fs.foldl (fun d f => setF m d f) d, r)
  | [], d, _, _, _ => by simp [Hand.run]
  | f :: fs, d, hn, ht, hd => by
    rw [List.nodup_cons] at hn
    unfold Hand.run
    rw [List.flatMap_cons, List.append_assoc, rd_fld h (ht f (by simp)) (hd f (by simp))]
    rw [List.foldl_cons]
    exact rd_run h r fs _ hn.2 (fun g hg => ht g (by simp [hg])) (fun g hg => blank_set (hd g (by simp [hg])) (fun e => hn.1 (e ▸ hg)))
theorem read_enc {m : MsgT} (h : mayM m = true) (hv : MsgVers m) : readM (encM m) = m := by
  have hb := back_ok h hv
  have hh : 1 ≤ m.kind ∧ m.kind ≤ 9 := by
    unfold mayM at h
    simp only [Bool.and_eq_true] at h
    have h1 := h.1.1
    unfold headB at h1
    simp only [Bool.and_eq_true, decide_eq_true_eq] at h1
    omega
  have hm : m = bareM m := by
    unfold mayM at h
    simp only [Bool.and_eq_true, decide_eq_true_eq] at h
    exact (rest_bare m hh.1 hh.2).1 h.2
  have h1 := rd_run hb ((named m.kind).flatMap (encF m)) headF noMsg (by decide) (fun f hf e => by subst e; simp [headF] at hf) (fun f hf => by cases f <;> rfl)
  have hk : (headF.foldl (fun d f => setF m d f) noMsg).kind = m.kind := rfl
  have h2 := rd_run hb [] (named m.kind) (headF.foldl (fun d f => setF m d f) noMsg)
    (by rcases kind_cases hh.1 hh.2 with e | e | e | e | e | e | e | e | e <;> rw [e] <;> decide)
    (fun f hf e => by
      subst e
      rcases kind_cases hh.1 hh.2 with e | e | e | e | e | e | e | e | e <;> rw [e] at hf <;> first | exact e | (exfalso; revert hf; decide))
    (fun f hf => by cases f <;> rfl)
  rw [List.append_nil] at h2
  have e3 : readM (encM m) = (named m.kind).foldl (fun d f => setF m d f) (headF.foldl (fun d f => setF m d f) noMsg) := by
    unfold readM
    rw [encM_is]
    have e1 : MsgMath.reader.head (headF.flatMap (encF m) ++ (named m.kind).flatMap (encF m)) noMsg = (headF.foldl (fun d f => setF m d f) noMsg, (named m.kind).flatMap (encF m)) := h1
    rw [e1]
    show (MsgMath.reader.run (named _) _ _).1 = _
    rw [hk, h2]
  rw [e3]
  have hfin : (named m.kind).foldl (fun d f => setF m d f) (headF.foldl (fun d f => setF m d f) noMsg) = bareM m := by
    unfold bareM
    rcases kind_cases hh.1 hh.2 with e | e | e | e | e | e | e | e | e <;> simp [e, named, headF, askRead, setF]
  rw [hfin]
  exact hm.symm
/-- letters that may be and have one text are one -/
theorem enc_inj {a b : MsgT} (ha : mayM a = true) (hb : mayM b = true) (va : MsgVers a) (vb : MsgVers b) (h : encM a = encM b) : a = b := by rw [← read_enc ha va, ← read_enc hb vb, h]
theorem put_pos {m : MsgT} (h : mayM m = true) (hv : MsgVers m) : 0 < (putM m).length := by
  unfold putM
  rw [h]
  show 0 < (encM m).length
  rcases Nat.eq_zero_or_pos (encM m).length with h0 | h0
  · have e := List.eq_nil_of_length_eq_zero h0
    have h1 := read_enc h hv
    rw [e] at h1
    rw [← h1] at h
    have : mayM (readM []) = false := by decide +kernel
    rw [this] at h
    cases h
  · exact h0
theorem put_same {a b : MsgT} (ha : mayM a = true) (hb : mayM b = true) (va : MsgVers a) (vb : MsgVers b) : decide (bs (putM a) = bs (putM b)) = decide (a = b) := by
  rw [decide_eq_decide]
  constructor
  · intro h
    have h1 := bs_inj h
    unfold putM at h1
    rw [ha, hb] at h1
    exact enc_inj ha hb va vb h1
  · intro h
    rw [h]

end Go.Proofs.YtpabppoohobjpaaGreat
