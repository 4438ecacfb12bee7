/-
  What a disk answers, and what becomes of its files: Append, Sync, Cut, Read, Used.
-/
import Derived.Test.YtkcfieoflkhdpaaDoorDiskBegin
namespace Go.Proofs.YtkcfieoflkhdpaaDoor.DiskOps
open Go Go.RowKit MapS DiskMem DiskFile DiskHit DiskFind DiskBegin KeyMath
set_option maxRecDepth 100000

/-- a disk's answer, and its files -/
def Does (S : Nat → Prop) (w : World) (d room : Nat) (r : Int) (F : Fs) (e : Ending) (w' : World) : Prop := e = .returned (.int .i64 r) ∧ Only S w w' ∧ DiskIs (ext S w w') w' d room F
theorem Does.same {S : Nat → Prop} {w : World} {d room : Nat} {F : Fs} (h : DiskIs S w d room F) (r : Int) : Does S w d room r F (.returned (.int .i64 r)) w := ⟨rfl, Only.refl _ _, h.mono fun _ hi => .inl hi⟩

theorem put_put {α : Type} {F : KV α} (h : Ris F) (s : List UInt8) (x y : α) : putE s y (putE s x F) = putE s y F := by
  refine getE_ext ((h.put _ _).put _ _) (h.put _ _) fun k => ?_
  rw [getE_put (h.put _ _), getE_put h, getE_put h]
  by_cases e : k = s <;> simp [e]
theorem put_same {α : Type} {F : KV α} (h : Ris F) {s : List UInt8} {x : α} (hx : getE F s = some x) : putE s x F = F := by
  refine getE_ext (h.put _ _) h fun k => ?_
  rw [getE_put h]
  by_cases e : k = s
  · rw [if_pos e, e, hx]
  · rw [if_neg e]
theorem found_some {es : List DEnt} {s : ByteArray} {f : FileT} (h : getE (es.map abs1) s.data.toList = some f) : ∃ en, found es s = some en ∧ en.f = f := by
  rw [abs_eq] at h
  obtain ⟨en, h1, h2⟩ := Option.map_eq_some_iff.1 h
  exact ⟨en, h1, h2⟩
theorem found_no {es : List DEnt} {s : ByteArray} (h : getE (es.map abs1) s.data.toList = none) : found es s = none := by
  rw [abs_eq, Option.map_eq_none_iff] at h
  exact h
theorem len_abs {es : List DEnt} : (es.map abs1).length = es.length := by simp
theorem used_put {l r : List DEnt} {en : DEnt} {f' : FileT} : usedF ((l ++ { en with f := f' } :: r).map abs1) + en.f.b.length = usedF ((l ++ en :: r).map abs1) + f'.b.length := by
  rw [used_swap, used_swap]
  simp only
  omega

/-- what a change has done, file by file -/
theorem change_is {S X : Nat → Prop} {w : World} {d room : Nat} {F : Fs} (h : DiskIs S w d room F) {s : ByteArray} (hs : s.size ≤ maxLen) {f : FileT} (hf : getE F s.data.toList = some f)
    (K : FuncId) (recv : Array Value) {fn : Func} (hfn : Tryd.prog.funcs[K]? = some fn) (hg : (fn.name == "runtime.NumGoroutine") = false) (hb : fn.body.isNone = false) (code : Int) (f' : FileT) (Q : World → Prop)
    (hX : ∀ i, X i → ¬ S i) (hroom : f'.b.length + usedF F ≤ room + f.b.length) (hQ : ∀ w1 u, Q w1 → Q (w1.setCell ⟨d, 1, none⟩ u).drew)
    (hc : ∀ g v, FileAt w g v f → S g → Calls Tryd.prog K (recv ++ #[ptr g]) w (Turned X w g v code f' Q)) :
    Calls Tryd.prog 20 #[ptr d, .string s, .func (.func K) recv #[]] w fun e w' => e = .returned (.int .i64 code) ∧ Only (fun i => S i ∨ X i) w w' ∧ Q w' ∧ DiskIs (ext S w w') w' d room (putE s.data.toList f' F) := by
  obtain ⟨es, m, rfl, hd⟩ := h
  obtain ⟨l, r, en, rfl, hn, rfl⟩ := get_split hd.ris hf
  have he := hd.ent en (by simp)
  refine (change_ok hd hs hn K recv hfn hg hb code f' Q hX (by rw [used_swap] at hroom; omega) hQ (hc en.g en.v he.file he.g)).mono ?_
  rintro e w' ⟨v', h1, h2, h3, h4⟩
  refine ⟨h1, h2, h3, _, _, ?_, h4⟩
  have hr := hd.ris
  rw [List.map_append, List.map_cons] at hr ⊢
  rw [List.map_append, List.map_cons]
  have := put_split (y := f') (show Ris (l.map abs1 ++ (en.name, en.f) :: r.map abs1) from hr)
  rw [← hn]
  exact this.symm

theorem turned_triv {S : Nat → Prop} {w w' : World} {d room : Nat} {F : Fs} {e : Ending} {r : Int} (h : e = .returned (.int .i64 r) ∧ Only (fun i => S i ∨ noB i) w w' ∧ triv w' ∧ DiskIs (ext S w w') w' d room F) : Does S w d room r F e w' :=
  ⟨h.1, h.2.1.mono fun _ _ hi => hi.elim id (fun hh => hh.elim), h.2.2.2⟩

/-! Sync, Cut -/
def syncF (F : Fs) (s : List UInt8) : Int × Fs := match getE F s with | none => (6, F) | some f => (0, putE s ⟨f.b, f.b.length⟩ F)
def cutF (F : Fs) (s : List UInt8) (n : Int) : Int × Fs := match getE F s with | none => (6, F) | some f => if n < 0 ∨ (f.b.length : Int) < n then (1, F) else (0, putE s ⟨f.b.take n.toNat, n.toNat⟩ F)

theorem change_none {S : Nat → Prop} {w : World} {d room : Nat} {F : Fs} (h : DiskIs S w d room F) {s : ByteArray} (hs : s.size ≤ maxLen) (hf : getE F s.data.toList = none) (t : Value) :
    Calls Tryd.prog 20 #[ptr d, .string s, t] w (Does S w d room 6 F) := by
  have h0 := h
  obtain ⟨es, m, rfl, hd⟩ := h
  refine (change_no hd hs (found_no hf) t).mono ?_
  rintro e w' ⟨rfl, rfl⟩
  exact Does.same h0 6

set_option maxHeartbeats 400000 in
theorem Sync_ok {S : Nat → Prop} {w : World} {d room : Nat} {F : Fs} (h : DiskIs S w d room F) {s : ByteArray} (hs : s.size ≤ maxLen) :
    Calls Tryd.prog 18 #[ptr d, .string s] w (Does S w d room (syncF F s.data.toList).1 (syncF F s.data.toList).2) := by
  have HC : Hid (Calls Tryd.prog 20 #[ptr d, .string s, .func (.func 33) #[] #[]] w (Does S w d room (syncF F s.data.toList).1 (syncF F s.data.toList).2)) := by
    unfold syncF
    cases hf : getE F s.data.toList with
    | none => exact hide (change_none h hs hf _)
    | some f =>
      exact hide ((change_is (X := noB) h hs hf 33 #[] Tryd.func33 (by kernel_rfl) (by kernel_rfl) 0 ⟨f.b, f.b.length⟩ triv (fun _ hi => hi.elim) (by simp only; have := h; obtain ⟨es, m, rfl, hd⟩ := h; have := hd.hused; omega) (fun _ _ _ => trivial) (fun g v hfa _ => sync_ok g v f w hfa)).mono fun e w' => turned_triv)
  clear h
  unfold ptr at *
  go_enter Tryd.func18, Tryd.ntmps18
  go_wp2_with fail
  refine HC.out.mono ?_
  rintro e w' ⟨rfl, h2, h3⟩
  have H2 := hide h2
  have H3 := hide h3
  clear h2 h3
  go_wp2_with fail
  go_ret
  exact ⟨rfl, H2.out, H3.out⟩

set_option maxHeartbeats 400000 in
theorem Cut_ok {S : Nat → Prop} {w : World} {d room : Nat} {F : Fs} (h : DiskIs S w d room F) {s : ByteArray} (hs : s.size ≤ maxLen) (n : Int) (hn : -9223372036854775808 ≤ n ∧ n ≤ 9223372036854775807) :
    Calls Tryd.prog 31 #[ptr d, .string s, .int .i64 n] w (Does S w d room (cutF F s.data.toList n).1 (cutF F s.data.toList n).2) := by
  have hu : usedF F ≤ room := by obtain ⟨es, m, rfl, hd⟩ := h; exact hd.hused
  have HC : Hid (Calls Tryd.prog 20 #[ptr d, .string s, .func (.func 32) #[.int .i64 n] #[]] w (Does S w d room (cutF F s.data.toList n).1 (cutF F s.data.toList n).2)) := by
    unfold cutF
    cases hf : getE F s.data.toList with
    | none => exact hide (change_none h hs hf _)
    | some f =>
      by_cases hc : n < 0 ∨ (f.b.length : Int) < n
      · have hp := put_same h.ris hf
        have := (change_is (X := noB) h hs hf 32 #[.int .i64 n] Tryd.func32 (by kernel_rfl) (by kernel_rfl) 1 f triv (fun _ hi => hi.elim) (by omega) (fun _ _ _ => trivial) (fun g v hfa _ => by have h1 := cut_ok g v f n hn w hfa; rw [if_pos hc] at h1; exact h1)).mono fun e w' => turned_triv
        rw [hp] at this
        simp only [if_pos hc]
        exact hide this
      · simp only [if_neg hc]
        have hlen : (f.b.take n.toNat).length = n.toNat := by rw [List.length_take]; omega
        exact hide ((change_is (X := noB) h hs hf 32 #[.int .i64 n] Tryd.func32 (by kernel_rfl) (by kernel_rfl) 0 ⟨f.b.take n.toNat, n.toNat⟩ triv (fun _ hi => hi.elim) (by simp only; omega) (fun _ _ _ => trivial) (fun g v hfa _ => by have h1 := cut_ok g v f n hn w hfa; rw [if_neg hc] at h1; exact h1)).mono fun e w' => turned_triv)
  clear h
  unfold ptr at *
  go_enter Tryd.func31, Tryd.ntmps31
  go_wp2_with fail
  refine HC.out.mono ?_
  rintro e w' ⟨rfl, h2, h3⟩
  have H2 := hide h2
  have H3 := hide h3
  clear h2 h3
  go_wp2_with fail
  go_ret
  exact ⟨rfl, H2.out, H3.out⟩

/-! Read, Used -/
def ReadV (w : World) (o : Option FileT) (e : Ending) (w' : World) : Prop :=
  Gr w w' ∧ match o with | none => e = .returned (.tuple #[.slice none 0 0, .bool false]) | some f => ∃ v, e = .returned (.tuple #[v, .bool true]) ∧ OwnE 5 w' w.heap.size v f.b

set_option maxHeartbeats 400000 in
theorem Read_ok {S : Nat → Prop} {w : World} {d room : Nat} {F : Fs} (h : DiskIs S w d room F) {s : ByteArray} (hs : s.size ≤ maxLen) :
    Calls Tryd.prog 29 #[ptr d, .string s] w (ReadV w (getE F s.data.toList)) := by
  obtain ⟨es, m, rfl, hd⟩ := h
  have HF := hide (find_ok hd hs)
  cases hf : getE (es.map abs1) s.data.toList with
  | none =>
    rw [found_no hf] at HF
    clear hd hf
    unfold ptr foundV at *
    go_enter Tryd.func29, Tryd.ntmps29
    go_wp2_with fail
    refine HF.out.mono ?_
    rintro e w' ⟨rfl, rfl⟩
    go_wp2_with fail
    go_ret2
    exact ⟨Gr.refl _, rfl⟩
  | some f =>
    obtain ⟨l, r, en, rfl, hn, rfl⟩ := get_split hd.ris hf
    have hfo : found (l ++ en :: r) s = some en := by unfold found; rw [← hn]; exact find_split hd.ris
    rw [hfo] at HF
    have he := (hd.ent en (by simp)).file
    obtain ⟨A, c, hv, hby⟩ := he.own.by_
    have c0 := he.bl.cell 0
    rw [hv] at c0
    simp only [List.getElem?_toArray, List.getElem?_cons_zero] at c0
    have HCL := hide (clone_ok A en.f.b.length c en.f.b rfl w hby he.max)
    clear hd hf hfo he hv hby hn
    unfold ptr foundV at *
    go_enter Tryd.func29, Tryd.ntmps29
    go_wp2_with fail
    refine HF.out.mono ?_
    rintro e w' ⟨rfl, rfl⟩
    unfold ptr
    go_wp2_with fail
    refine HCL.out.mono ?_
    rintro e w' ⟨v, rfl, ho, hg⟩
    obtain ⟨A1, c1, rfl, _⟩ := ho.by_
    have HO := hide ho
    have HG := hide hg
    clear ho hg c0
    go_wp2_with fail
    go_ret2
    exact ⟨HG.out, _, rfl, HO.out⟩

/-! Append -/
def appendF (room : Nat) (F : Fs) (s : ByteArray) (l : List UInt8) : Int × Fs :=
  if mayK s = true then if room < usedF F + l.length then (3, F) else (0, putE s.data.toList ⟨((getE F s.data.toList).getD f0).b ++ l, ((getE F s.data.toList).getD f0).sure⟩ F) else (1, F)

end Go.Proofs.YtkcfieoflkhdpaaDoor.DiskOps
