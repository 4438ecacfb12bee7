/-
  Where a run of deeds is, in memory: the wal, the disk, the row of what was appended; what each deed makes of it.
-/
import Derived.Test.YtkcfieoflkhdpaaDoorWalDeeds
import Derived.Test.YtkcfieoflkhdpaaDoorWalMath2
import Derived.Test.YtkcfieoflkhdpaaDoorMineV
import Derived.Test.YtkcfieoflkhdpaaDoorDiskList
namespace Go.Proofs.YtkcfieoflkhdpaaDoor
open Go Go.RowKit MapS DiskMem DiskHit DiskBegin DiskOps DiskApp DiskCrash KeyMath WalName WalObj WalDo WalWalk WalRead WalOpen WalMath WalBegun FrameMath
set_option maxRecDepth 100000

def strV (l : List UInt8) : Value := .string (bs l)
def strsV (ls : List (List UInt8)) : List Value := ls.map strV
theorem strsV_len (ls : List (List UInt8)) : (strsV ls).length = ls.length := by simp [strsV]
theorem strsV_app (a c : List (List UInt8)) : strsV (a ++ c) = strsV a ++ strsV c := by simp [strsV]
theorem strsV_at {ls : List (List UInt8)} {k : Nat} (h : k < ls.length) : (strsV ls)[k]? = some (strV ls[k]) := by simp [strsV, h]

/-- the row of texts, whose block is none of the disk's, nor the wal's -/
structure RowS (lo : Nat) (S : Nat → Prop) (g : Nat) (wr : World) (v : Value) (rs : List (List UInt8)) : Prop where
  own : OwnV 9 wr lo v (strsV rs)
  off : ∀ k, v.ownBlock = some k → ¬ S k ∧ k ≠ g
theorem RowS.gr {lo : Nat} {S : Nat → Prop} {g : Nat} {w w' : World} {v : Value} {rs : List (List UInt8)} (h : RowS lo S g w v rs) (hg : Gr w w') : RowS lo S g w' v rs := ⟨h.own.gr hg, h.off⟩
theorem RowS.is {lo : Nat} {S : Nat → Prop} {g : Nat} {w : World} {v : Value} {rs : List (List UInt8)} (h : RowS lo S g w v rs) : ∃ A c, v = .slice A rs.length c ∧ rs.length ≤ c := by
  obtain ⟨A, c, h1, h2, _⟩ := h.own.is
  rw [strsV_len] at h1 h2
  exact ⟨A, c, h1, h2⟩

/-- what is ahead of a disk's blocks: blocks of another one -/
theorem wst_only {lo : Nat} {S T : Nat → Prop} {w w' : World} {d room : Nat} {F : Fs} {g : Nat} {b : UInt8} {size n : Nat} (h : WSt lo S w d room F g b size n) (ho : Only T w w') (hS : ∀ i, S i → ¬ T i) (hg : ¬ T g) (ht : ¬ T tabG) : WSt lo S w' d room F g b size n :=
  ⟨h.use.only ho hS, h.wal.only ho hg, h.gS, h.tab.only ho ht, h.tl, h.lo⟩

/-- where it is: v the row of rs, ls what is on the disk -/
structure AllAt (w wr : World) (d n j g : Nat) (v : Value) (rs ls : List (List UInt8)) (sure : Nat) : Prop where
  gr : Gr w wr
  len : ls.length ≤ j
  small : ∀ r ∈ rs, r.length ≤ 100
  ex : ∃ S F fs, WSt w.heap.size S wr d 1048576 F g 114 n fs.length ∧ Pcs F 114 fs ∧ Ris F ∧ usedF F ≤ j * 106 ∧ F.length ≤ j ∧ fs.length ≤ j ∧ AInv n fs ls sure ∧ RowS w.heap.size S g wr v rs
theorem AllAt.gr_ {w wr wz : World} {d n j g : Nat} {v : Value} {rs ls : List (List UInt8)} {sure : Nat} (h : AllAt w wr d n j g v rs ls sure) (hg : Gr wr wz) : AllAt w wz d n j g v rs ls sure := by
  obtain ⟨S, F, fs, h1, h2, h3, h4, h5, h6, h7, h8⟩ := h.ex
  exact ⟨h.gr.trans hg, h.len, h.small, S, F, fs, h1.gr hg, h2, h3, h4, h5, h6, h7, h8.gr hg⟩
theorem AllAt.more {w wr : World} {d n j g : Nat} {v : Value} {rs ls : List (List UInt8)} {sure : Nat} (h : AllAt w wr d n j g v rs ls sure) : AllAt w wr d n (j + 1) g v rs ls sure := by
  obtain ⟨S, F, fs, h1, h2, h3, h4, h5, h6, h7, h8⟩ := h.ex
  exact ⟨h.gr, Nat.le_succ_of_le h.len, h.small, S, F, fs, h1, h2, h3, by omega, by omega, by omega, h7, h8⟩
theorem AllAt.is {w wr : World} {d n j g : Nat} {v : Value} {rs ls : List (List UInt8)} {sure : Nat} (h : AllAt w wr d n j g v rs ls sure) : ∃ A c, v = .slice A rs.length c ∧ rs.length ≤ c := by
  obtain ⟨S, F, fs, h1, h2, h3, h4, h5, h6, h7, h8⟩ := h.ex
  exact h8.is
theorem AllAt.own {w wr : World} {d n j g : Nat} {v : Value} {rs ls : List (List UInt8)} {sure : Nat} (h : AllAt w wr d n j g v rs ls sure) : OwnV 9 wr w.heap.size v (strsV rs) := by
  obtain ⟨S, F, fs, h1, h2, h3, h4, h5, h6, h7, h8⟩ := h.ex
  exact h8.own
theorem info_s : ∃ i, Tryd.prog.info? 9 = some i ∧ i.zero = some (.string ⟨#[]⟩) ∧ i.size = 1 ∧ i.bytes = 16 := info_parts (by kernel_rfl)
/-- the row's cells -/
theorem AllAt.cell {w wr : World} {d n j g : Nat} {A : Option Addr} {m c : Nat} {rs ls : List (List UInt8)} {sure : Nat} (h : AllAt w wr d n j g (.slice A m c) rs ls sure) {k : Nat} (hk : k < rs.length) : ∃ ad, A = some ad ∧ wr.cell? (ad.add k) = some (.string (bs rs[k])) := by
  obtain ⟨S, F, fs, h1, h2, h3, h4, h5, h6, h7, h8⟩ := h.ex
  have hv := Mine.vs_own h8.own
  obtain ⟨ad, e1, e2⟩ := hv.rd k (by rw [strsV_len]; exact hk)
  exact ⟨ad, e1, by rw [e2]; simp [strsV, strV]⟩

/-- what a call of the wal's has done -/
theorem AllAt.done {w wr w1 w2 : World} {S : Nat → Prop} {d n j g : Nat} {v : Value} {rs ls ls' : List (List UInt8)} {sure sure' : Nat} {F : Fs} {fs fs' : List FileT} {x : Int × Fs × Nat} {e : Ending}
    (h : AllAt w wr d n j g v rs ls sure) (h1 : WSt w.heap.size S wr d 1048576 F g 114 n fs.length) (h8 : RowS w.heap.size S g wr v rs) (hg : Gr wr w1) (hd : WDone w.heap.size S w1 d 1048576 g 114 n x e w2) {k : Nat}
    (hx : x.2.2 = fs'.length) (hp : Pcs x.2.1 114 fs') (hr : Ris x.2.1) (hu : usedF x.2.1 ≤ k * 106) (hF : x.2.1.length ≤ k) (hf : fs'.length ≤ k) (hi : AInv n fs' ls' sure') (hl : ls'.length ≤ k) : AllAt w w2 d n k g v rs ls' sure' := by
  have hst := hd.2.1
  rw [hx] at hst
  refine ⟨gr_done (h1.gr hg) (Nat.le_refl _) (h.gr.trans hg) hd, hl, h.small, _, _, fs', hst, hp, hr, hu, hF, hf, hi, OwnV.only (h8.own.gr hg) hd.2.2 (fun k hk e => ?_), fun k hk => ⟨fun e => ?_, (h8.off k hk).2⟩⟩
  · rcases e with e | e
    · exact (h8.off k hk).1 e
    · exact (h8.off k hk).2 e
  · rcases e with e | e
    · exact (h8.off k hk).1 e
    · have := (World.ownsRow.lt (h8.own.gr hg) k hk).2
      omega

/-- Sync -/
theorem AllAt.sync {w wr : World} {d n j g : Nat} {v : Value} {rs ls : List (List UInt8)} {sure : Nat} (h : AllAt w wr d n j g v rs ls sure) (hj : j ≤ 1000) :
    Calls Tryd.prog 8 #[.pointer (some ⟨g, 0, none⟩)] wr fun e w2 => e = .returned (.int .i64 0) ∧ AllAt w w2 d n j g v rs ls ls.length := by
  obtain ⟨S, F, fs, h1, h2, h3, h4, h5, h6, h7, h8⟩ := h.ex
  have hs := sync_ok (b := 114) (by decide) (by omega) h1
  rcases List.eq_nil_or_concat fs with rfl | ⟨gs, f, rfl⟩
  · have e1 : syncW F 114 0 = (0, F) := by unfold syncW; rw [if_pos rfl]
    simp only [List.length_nil] at hs
    rw [e1] at hs
    obtain ⟨e2, e3⟩ := h7.nil rfl
    subst e2 e3
    exact hs.mono fun e w2 hd => ⟨hd.1, h.done h1 h8 (Gr.refl _) hd (fs' := []) rfl h2 h3 h4 h5 h6 h7 (Nat.zero_le _)⟩
  · rw [List.concat_eq_append] at h1 h2 h6 h7 hs
    have e1 := sync_last h2
    have hlen : (gs ++ [f]).length = gs.length + 1 := by simp
    rw [hlen] at hs
    rw [e1] at hs
    have hz : getE F (pieceL 114 (gs.length + 1)) = some f := by rw [h2.at_ gs.length (by simp)]; simp
    refine hs.mono fun e w2 hd => ⟨hd.1, ?_⟩
    rw [hlen] at h6
    refine h.done h1 h8 (Gr.refl _) hd (fs' := gs ++ [⟨f.b, f.b.length⟩]) (by simp) (h2.put h3 _) (h3.put _ _) ?_ (by simp only; rw [put_len h3 hz]; exact h5) (by simpa using h6) h7.sync h.len
    have := put_used h3 (pieceL 114 (gs.length + 1)) ⟨f.b, f.b.length⟩
    rw [hz] at this
    simp only [Option.getD_some] at this
    simp only
    omega

/-- Append -/
theorem AllAt.add {w wr w1 : World} {d n j g : Nat} {v : Value} {rs ls : List (List UInt8)} {sure : Nat} (h : AllAt w wr d n j g v rs ls sure) (hj : j ≤ 1000) (hn : 1 ≤ n) (hg : Gr wr w1) {A : Option Addr} {m c : Nat} {l : List UInt8} (hm : m = l.length) (hl : l.length ≤ 100) (hb : By w1 A c l) :
    Calls Tryd.prog 11 #[.pointer (some ⟨g, 0, none⟩), .slice A m c] w1 fun e w2 => e = .returned (.int .i64 0) ∧ AllAt w w2 d n (j + 1) g v rs (ls ++ [l]) sure ∧ ∀ k t cs, wr.heap.size ≤ k → Bl w1 k t cs → Bl w2 k t cs := by
  obtain ⟨S, F, fs, h1, h2, h3, h4, h5, h6, h7, h8⟩ := h.ex
  have hst := h1.gr hg
  obtain ⟨F', e1, a1⟩ := append_yes (room := 1048576) (size := n) (l := l) (b := 114) (by decide) h3 h2 (by omega) (by omega) (by omega)
  have ha := append_ok (b := 114) (by decide) (by omega) hst A m c l hm hb (by omega) (by omega) (by omega)
  rw [e1] at ha
  refine ha.mono fun e w2 hd => ⟨hd.1, ?_, fun k t cs hk hbk => hd.2.2.bl hbk (fun e => ?_)⟩
  · refine h.done h1 h8 hg hd (fs' := addP n fs l) rfl a1.pcs a1.ris ?_ ?_ ?_ (h7.add hn (by omega)) ?_
    · have := a1.used; simp only; omega
    · have := a1.len; simp only; omega
    · have := (addP_len n fs l).1; omega
    · have := h.len; simp; omega
  · rcases e with e | e
    · have := h1.use.hi _ e
      omega
    · have := Bl.lt h1.wal
      omega

/-- the row takes it -/
theorem AllAt.push {w wr w3 : World} {d n j g : Nat} {v v' : Value} {rs ls : List (List UInt8)} {sure : Nat} (h : AllAt w wr d n j g v rs ls sure) {l : List UInt8} (hl : l.length ≤ 100) (ho : OwnV 9 w3 w.heap.size v' (strsV rs ++ [strV l])) (hp : Put1 wr w3 v v') :
    AllAt w w3 d n j g v' (rs ++ [l]) ls sure := by
  obtain ⟨S, F, fs, h1, h2, h3, h4, h5, h6, h7, h8⟩ := h.ex
  have hlt := World.ownsRow.lt h8.own
  have hon : Only (fun i => v.ownBlock = some i) wr w3 := Only.of_row hp.1 fun k hk => hk
  refine ⟨?_, h.len, fun r hr => ?_, S, F, fs, wst_only h1 hon (fun i hi e => (h8.off i e).1 hi) (fun e => (h8.off _ e).2 rfl) (fun e => ?_), h2, h3, h4, h5, h6, h7, by rw [strsV_app]; exact ho, fun k hk => ?_⟩
  · exact gr_only h.gr hon fun i hi => (hlt i hi).1
  · rw [List.mem_append, List.mem_singleton] at hr
    rcases hr with hr | rfl
    · exact h.small r hr
    · exact hl
  · have := (hlt _ e).1
    have := h1.tl
    omega
  · rcases hp.2 with e | ⟨q, e, hq⟩
    · rw [e] at hk
      exact h8.off k hk
    · rw [e] at hk
      injection hk with hk
      subst hk
      exact ⟨fun hs => by have := h1.use.hi _ hs; omega, fun e2 => by have := Bl.lt h1.wal; omega⟩

/-- the row is cut -/
theorem AllAt.cut {w wr : World} {d n j g : Nat} {A : Option Addr} {m c : Nat} {rs ls : List (List UInt8)} {sure k : Nat} (h : AllAt w wr d n j g (.slice A m c) rs ls sure) (hk : k ≤ rs.length) : AllAt w wr d n j g (.slice A k c) (rs.take k) ls sure := by
  obtain ⟨S, F, fs, h1, h2, h3, h4, h5, h6, h7, h8⟩ := h.ex
  refine ⟨h.gr, h.len, fun r hr => h.small r (List.mem_of_mem_take hr), S, F, fs, h1, h2, h3, h4, h5, h6, h7, ?_, fun q hq => h8.off q (by
    cases A with
    | none => simp [Value.ownBlock] at hq
    | some a => simpa [Value.ownBlock] using hq)⟩
  have ho := h8.own
  unfold OwnV at ho ⊢
  rw [strsV_len] at ho ⊢
  refine ⟨by simp [strsV_len], ?_⟩
  rcases ho.2 with ⟨h', hz⟩ | ⟨g', cap', cur, h', hb, hg, hnc, hcm, hcs, htake⟩
  · injection h' with e1 e2 e3
    subst e1 e3
    obtain rfl : k = 0 := by omega
    exact .inl ⟨rfl, by simp⟩
  · simp only [Value.slice.injEq] at h'
    obtain ⟨rfl, _, rfl⟩ := h'
    refine .inr ⟨g', c, cur, by rw [List.length_take, Nat.min_eq_left hk], hb, hg, by rw [List.length_take]; omega, hcm, hcs, ?_⟩
    rw [List.length_take, Nat.min_eq_left hk]
    have : cur.toList.take (k * 1) = (cur.toList.take (rs.length * 1)).take k := by rw [List.take_take, Nat.mul_one, Nat.mul_one, Nat.min_eq_left hk]
    rw [this, htake]
    simp [strsV]

/-- behind a crash -/
structure CrAt (a z : Nat) (w wr : World) (d n j : Nat) (v : Value) (rs ls : List (List UInt8)) (sure : Nat) : Prop where
  gr : Gr w wr
  len : ls.length ≤ j
  small : ∀ r ∈ rs, r.length ≤ 100
  ex : ∃ S F fs zs, Use w.heap.size S wr d 1048576 (crashF zs F) ∧ TabW wr ∧ tabG < w.heap.size ∧ Pcs F 114 fs ∧ Ris F ∧ usedF F ≤ j * 106 ∧ F.length ≤ j ∧ fs.length ≤ j ∧ AInv n fs ls sure ∧ OwnV 9 wr w.heap.size v (strsV rs) ∧ (∀ k, v.ownBlock = some k → ¬ S k) ∧ ∀ i, a ≤ i → i < z → ¬ S i

theorem AllAt.crash {w wr w1 : World} {d n j g : Nat} {v : Value} {rs ls : List (List UInt8)} {sure : Nat} (h : AllAt w wr d n j g v rs ls sure) (hj : j ≤ 1000) (hg : Gr wr w1) (A : Option Addr) (m c : Nat) (zs : List Int) (hm : m = zs.length) (hi : Ints .i64 w1 A c zs) (ha : ∀ ad, 0 < zs.length → A = some ad → ad.block < w.heap.size) :
    Calls Tryd.prog 9 #[.pointer (some ⟨d, 0, none⟩), .slice A m c] w1 fun e w2 => e = .returned (.tuple #[]) ∧ CrAt wr.heap.size w1.heap.size w w2 d n j v rs ls sure ∧ ∀ k t cs, wr.heap.size ≤ k → Bl w1 k t cs → Bl w2 k t cs := by
  obtain ⟨S, F, fs, h1, h2, h3, h4, h5, h6, h7, h8⟩ := h.ex
  have h1g := h1.gr hg
  refine (use_crash h1g.use h1g.loS (Gr.refl w1) A m c zs hm hi (fun ad hl e => .inl (ha ad hl e)) (by omega) rfl).mono fun e w2 hd => ⟨hd.1, ?_, fun k t cs hk hb => ?_⟩
  · have hon : Only S w1 w2 := hd.2.2
    refine ⟨gr_only (h.gr.trans hg) hon h1.use.lo, h.len, h.small, _, F, fs, zs, hd.2.1, h1g.tab.only hon h1g.tS, h1.tl, h2, h3, h4, h5, h6, h7, OwnV.only (h8.own.gr hg) hon fun k hk => (h8.off k hk).1, fun k hk e => ?_, fun i hi hz e => ?_⟩
    · rcases e with e | e
      · exact (h8.off k hk).1 e
      · have := (World.ownsRow.lt (h8.own.gr hg) k hk).2
        omega
    · rcases e with e | e
      · have := h1.use.hi _ e
        omega
      · omega
  · exact hd.2.2.bl hb fun e => by have := h1.use.hi _ e; omega

/-- what Open tells -/
structure OpAt (w wr : World) (d n j : Nat) (v : Value) (rs ls : List (List UInt8)) (sure k : Nat) (e : Ending) : Prop where
  ex : ∃ g A c, e = .returned (.tuple #[ptr g, .slice A k c, .int .i64 0]) ∧ AllAt w wr d n j g v rs (ls.take k) sure ∧ Rws wr A c (ls.take k)
  le : k ≤ ls.length

theorem opened {w wr w2 : World} {S S' : Nat → Prop} {d n j g : Nat} {v : Value} {rs ls' : List (List UInt8)} {sure' : Nat} {F' : Fs} {fs' : List FileT} (hgr : Gr w wr) (hlow : ∀ i, S i → w.heap.size ≤ i) (hown : OwnV 9 wr w.heap.size v (strsV rs)) (hoff : ∀ k, v.ownBlock = some k → ¬ S k) (hsm : ∀ r ∈ rs, r.length ≤ 100)
    (hst : WSt w.heap.size S' w2 d 1048576 F' g 114 n fs'.length) (hS : ∀ i, S' i → S i ∨ wr.heap.size ≤ i) (hlo : wr.heap.size ≤ g) (hon : Only S wr w2) (hp : Pcs F' 114 fs') (hr : Ris F') (hu : usedF F' ≤ j * 106) (hF : F'.length ≤ j) (hf : fs'.length ≤ j) (hi : AInv n fs' ls' sure') (hl : ls'.length ≤ j) : AllAt w w2 d n j g v rs ls' sure' := by
  have hlt := World.ownsRow.lt hown
  refine ⟨gr_only hgr hon hlow, hl, hsm, S', F', fs', hst, hp, hr, hu, hF, hf, hi, OwnV.only hown hon hoff, fun k hk => ⟨fun e => ?_, fun e => ?_⟩⟩
  · rcases hS k e with e | e
    · exact hoff k hk e
    · have := (hlt k hk).2; omega
  · have := (hlt k hk).2; omega

theorem AllAt.open {w wr w1 : World} {d n j g : Nat} {v : Value} {rs ls : List (List UInt8)} {sure : Nat} (h : AllAt w wr d n j g v rs ls sure) (_ : j ≤ 1000) (h1n : 1 ≤ n) (hn : n ≤ 60000) (hg : Gr wr w1) :
    Calls Tryd.prog 7 #[.pointer (some ⟨d, 0, none⟩), .int .u8 114, .int .i64 n] w1 fun e w2 => OpAt w w2 d n j v rs ls sure ls.length e ∧ ∀ i t cs, wr.heap.size ≤ i → Bl w1 i t cs → Bl w2 i t cs := by
  obtain ⟨S, F, fs, h0, h2, h3, h4, h5, h6, h7, h80⟩ := h.ex
  have h1 := h0.gr hg
  have h8 := h80.gr hg
  have ho := open_ok h1.tl h1.loS h1.use h1.tab (small_of h1.use (by omega)) 114 (by decide) n h1n hn
  rw [h7.open h2] at ho
  refine Calls.mono (show Calls Tryd.prog 7 #[.pointer (some ⟨d, 0, none⟩), .int .u8 114, .int .i64 n] w1 _ from ho) fun e w2 hd => ?_
  obtain ⟨g2, A, c, S', he, hst, hS, hlo, hon, hrw⟩ := hd
  exact ⟨⟨⟨g2, A, c, he, by rw [List.take_length]; exact opened (h.gr.trans hg) h1.use.lo h8.own (fun k hk => (h8.off k hk).1) h.small hst hS hlo hon h2 h3 h4 h5 h6 h7 h.len, by rw [List.take_length]; exact hrw.toRws⟩, Nat.le_refl _⟩, fun i t cs hi hb => hon.bl hb fun e => by have := h0.use.hi _ e; omega⟩

theorem CrAt.open {a z : Nat} {w wr w1 : World} {d n j : Nat} {v : Value} {rs ls : List (List UInt8)} {sure : Nat} (h : CrAt a z w wr d n j v rs ls sure) (_ : j ≤ 1000) (h1n : 1 ≤ n) (hn : n ≤ 60000) (hg : Gr wr w1) :
    Calls Tryd.prog 7 #[.pointer (some ⟨d, 0, none⟩), .int .u8 114, .int .i64 n] w1 fun e w2 => ∃ k, sure ≤ k ∧ OpAt w w2 d n j v rs ls k k e ∧ ∀ i t cs, a ≤ i → i < z → Bl w1 i t cs → Bl w2 i t cs := by
  obtain ⟨S, F, fs, zs, h1, h1t, h1l, h2, h3, h4, h5, h6, h7, h8, h9, h10⟩ := h.ex
  obtain ⟨F', fs', k, q1, q2, q3, q4, q5, q6, q7, q8, q9⟩ := h7.crash h3 h2 zs
  have hu := h1.gr hg
  have hws : w.heap.size ≤ wr.heap.size := h.gr.size
  have ho := open_ok h1l (Nat.le_trans hws hg.size) hu (h1t.gr hg) (small_of hu (by omega)) 114 (by decide) n h1n hn
  rw [q1] at ho
  refine Calls.mono (show Calls Tryd.prog 7 #[.pointer (some ⟨d, 0, none⟩), .int .u8 114, .int .i64 n] w1 _ from ho) fun e w2 hd => ⟨k, q3, ?_⟩
  obtain ⟨g2, A, c, S', he, hst, hS, hlo, hon, hrw⟩ := hd
  have hkl : (ls.take k).length = k := by rw [List.length_take]; omega
  simp only [hkl] at he
  refine ⟨⟨⟨g2, A, c, he, opened (h.gr.trans hg) hu.lo (h8.gr hg) h9 h.small (by rw [q2]; exact hst) hS hlo hon q6 q7 (by omega) (by omega) (by omega) q5 (by have := h.len; omega), hrw.toRws⟩, q4⟩, fun i t cs hi hz hb => hon.bl hb (h10 i hi hz)⟩

/-! files and pieces -/
theorem pigeon : ∀ (F : Fs) (n : Nat) (f : Nat → List UInt8), (∀ i j, i < n → j < n → f i = f j → i = j) → (∀ i, i < n → ∃ p ∈ F, p.1 = f i) → n ≤ F.length
  | [], n, f, _, h => by
    rcases Nat.eq_zero_or_pos n with rfl | h0
    · exact Nat.le_refl _
    · obtain ⟨p, hp, _⟩ := h 0 h0; cases hp
  | p :: r, n, f, hi, h => by
    by_cases he : ∃ i, i < n ∧ p.1 = f i
    · obtain ⟨i0, h0, e0⟩ := he
      have := pigeon r (n - 1) (fun i => if i < i0 then f i else f (i + 1)) (fun i j hin hjn e => by
        split at e <;> split at e
        · exact hi i j (by omega) (by omega) e
        · have := hi i (j + 1) (by omega) (by omega) e; omega
        · have := hi (i + 1) j (by omega) (by omega) e; omega
        · have := hi (i + 1) (j + 1) (by omega) (by omega) e; omega) (fun i hin => by
        split
        · rename_i hlt
          obtain ⟨q, hq, e⟩ := h i (by omega)
          rcases List.mem_cons.1 hq with rfl | hq
          · have := hi i i0 (by omega) h0 (by rw [← e, ← e0]); omega
          · exact ⟨q, hq, e⟩
        · rename_i hlt
          obtain ⟨q, hq, e⟩ := h (i + 1) (by omega)
          rcases List.mem_cons.1 hq with rfl | hq
          · have := hi (i + 1) i0 (by omega) h0 (by rw [← e, ← e0]); omega
          · exact ⟨q, hq, e⟩)
      rw [List.length_cons]
      omega
    · have := pigeon r n f hi (fun i hin => by
        obtain ⟨q, hq, e⟩ := h i hin
        rcases List.mem_cons.1 hq with rfl | hq
        · exact absurd ⟨i, hin, e⟩ he
        · exact ⟨q, hq, e⟩)
      rw [List.length_cons]
      omega
theorem pcs_files {F : Fs} {b : UInt8} {fs : List FileT} (h : Pcs F b fs) (hr : Ris F) : fs.length ≤ F.length := by
  have hl := h.len
  refine pigeon F fs.length (fun i => pieceL b (i + 1)) (fun i j hi hj e => ?_) (fun i hi => ⟨_, (mem_getE hr).1 (h.at_ i hi), rfl⟩)
  have := (pieceL_inj (by omega) (by omega) e).2
  omega

/-- how many pieces there are, and files -/
theorem AllAt.count {w wr : World} {d n j g : Nat} {v : Value} {rs ls : List (List UInt8)} {sure : Nat} (h : AllAt w wr d n j g v rs ls sure) (hj : j ≤ 1000) :
    ∃ p q : Nat, (cntL n ls).1 ≤ p ∧ (cntL n ls).1 ≤ q ∧ p ≤ 1000 ∧ q ≤ 1000 ∧ Calls Tryd.prog 13 #[.pointer (some ⟨g, 0, none⟩)] wr (fun e w' => e = .returned (.int .i64 p) ∧ w' = wr) ∧
      Calls Tryd.prog 14 #[ptr d] wr (fun e w' => ∃ A c, e = .returned (.slice A q c) ∧ Gr wr w') := by
  obtain ⟨S, F, fs, h1, h2, h3, h4, h5, h6, h7, h8⟩ := h.ex
  have hf := pcs_files h2 h3
  have hc := h7.cnt
  refine ⟨fs.length, F.length, hc, Nat.le_trans hc hf, by omega, by omega, pieces_ok g d 114 n fs.length wr h1.wal, (DiskList.List_ok h1.use.is (by omega)).mono ?_⟩
  rintro e w' ⟨u, he, hg, ho⟩
  obtain ⟨A, c, hv, _⟩ := ho.is
  have hn : (DiskList.nameV F).length = F.length := by simp [DiskList.nameV]
  rw [hn] at hv
  exact ⟨A, c, by rw [he, hv], hg⟩

end Go.Proofs.YtkcfieoflkhdpaaDoor
