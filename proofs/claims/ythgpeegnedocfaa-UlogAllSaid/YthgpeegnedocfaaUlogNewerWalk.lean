/-
  The walk of 'UlogNewer'.
-/
import Derived.Test.YthgpeegnedocfaaUlogBegun
namespace Go.Proofs.Ythgpeegnedocfaa
open Go Go.RowKit TxnMath KeyMath MsgMath
set_option maxRecDepth 100000

theorem u8_nat {a : Int} (h : (Lit.int .u8 a).wf = true) : ∃ k : Nat, a = (k : Int) ∧ k < 256 := by
  have h0 : 0 ≤ a ∧ a ≤ 255 := by simpa [Lit.wf, IntKind.min, IntKind.max, IntKind.signed, IntKind.bits] using h
  exact ⟨a.toNat, by omega, by omega⟩
theorem newer_self (l : List EntT) : newerL l l.length (termL l l.length) = true := by simp [newerL]
theorem newer_two (l k : List EntT) : (newerL l k.length (termL k k.length) || newerL k l.length (termL l l.length)) = true := by
  unfold newerL
  by_cases h1 : termL l l.length < termL k k.length
  · simp [h1]
  · by_cases h2 : termL k k.length < termL l l.length
    · simp [h2]
    · have h3 : termL l l.length = termL k k.length := by omega
      by_cases h4 : (l.length : Int) ≤ (k.length : Int)
      · simp [h3, h4]
      · have h5 : (k.length : Int) ≤ (l.length : Int) := by omega
        simp [h3, h5]
theorem term_more (l : List EntT) (e : EntT) : termL (l ++ [e]) ((l ++ [e]).length : Nat) = e.term := by
  have h : l.length < (l ++ [e]).length := by simp
  have := term_at h
  rw [show (((l ++ [e]).length : Nat) : Int) = (l.length : Int) + 1 by simp, this]
  simp
theorem newer_more (l : List EntT) (t : Int) (h : t = termL l l.length + 1) : newerL l ((l ++ [sealE t]).length : Nat) (termL (l ++ [sealE t]) ((l ++ [sealE t]).length : Nat)) = true ∧ newerL (l ++ [sealE t]) l.length (termL l l.length) = false := by
  have ht := term_more l (sealE t)
  have e1 : (sealE t).term = t := rfl
  rw [e1] at ht
  unfold newerL
  rw [ht]
  constructor
  · have : termL l l.length < t := by omega
    simp [this]
  · have h1 : ¬ t < termL l l.length := by omega
    have h2 : ¬ termL l l.length = t := by omega
    simp [h1, h2]
theorem term_le {l : List EntT} {M : Int} (h : ∀ e ∈ l, 1 ≤ e.term ∧ e.term ≤ M) (hM : 0 ≤ M) (i : Int) : 0 ≤ termL l i ∧ termL l i ≤ M := by
  unfold termL
  split
  · cases hg : l[(i - 1).toNat]? with
    | none => simpa using hM
    | some e =>
      have := h e (List.mem_of_getElem? hg)
      simp only [Option.map_some, Option.getD_some]
      omega
  · exact ⟨by omega, hM⟩
theorem logP_hi (l : List UInt8) (n k : Nat) : ∀ e ∈ (logP l n k).1, 1 ≤ e.term ∧ e.term ≤ (k : Int) + 1 := fun e he => by
  obtain ⟨_, h2, h3⟩ := logP_term l n k
  have := h3 e he
  omega

set_option maxHeartbeats 2000000 in
theorem walk_UlogNewer (w : World) (A : Option Addr) (n c : Nat) (l : List UInt8) (hn : n = l.length) (hby : By w A c l) (B : Option Addr) (m d : Nat) (r : List UInt8) (hm : m = r.length) (hbr : By w B d r)
    (a : Int) (ha : (Lit.int .u8 a).wf = true) (b : Int) (hb : (Lit.int .u8 b).wf = true) :
    Calls Try.prog 5 #[.slice A n c, .slice B m d, .int .u8 a, .int .u8 b] w fun e w' => e = .returned (.bool true) ∧ Gr w w' := by
  subst hn hm
  have HBY := hide hby
  have HBR := hide hbr
  clear hby hbr
  obtain ⟨na, rfl, hna⟩ := u8_nat ha
  obtain ⟨nb, rfl, hnb⟩ := u8_nat hb
  clear ha hb
  by_cases h1 : (80 : Int) < (l.length : Int)
  · go_enter Try.func5, Try.ntmps5
    go_wp2_with fail
    refine (begun_ok _).mono ?_
    rintro e w1 ⟨rfl, hg1⟩
    go_wp2_with fail
    go_ret
    exact ⟨rfl, hg1⟩
  by_cases h2 : (80 : Int) < (r.length : Int)
  · go_enter Try.func5, Try.ntmps5
    go_wp2_with fail
    refine (begun_ok _).mono ?_
    rintro e w1 ⟨rfl, hg1⟩
    go_wp2_with fail
    go_ret
    exact ⟨rfl, hg1⟩
  obtain ⟨ka, hka⟩ : ∃ k, na % 9 = k := ⟨_, rfl⟩
  obtain ⟨kb, hkb⟩ : ∃ k, nb % 9 = k := ⟨_, rfl⟩
  have ea : (na : Int) % 9 = (ka : Int) := by omega
  have eb : (nb : Int) % 9 = (kb : Int) := by omega
  have hka9 : ka < 9 := by omega
  have hkb9 : kb < 9 := by omega
  have HL := hide (logP_hi l 0 ka)
  have HK := hide (logP_hi r 0 kb)
  have HLL := hide (logP_len l 0 ka)
  have HKL := hide (logP_len r 0 kb)
  clear hka hkb
  go_enter Try.func5, Try.ntmps5
  go_wp2_with fail
  refine (begun_ok _).mono ?_
  rintro e w1 ⟨rfl, hg1⟩
  go_wp2_with fail
  refine (Made_ok A c l w1 (HBY.out.gr hg1)).mono ?_
  rintro e w2 ⟨rfl, hg2, hpk⟩
  have hgw1 := hg1.size
  have hg12 := hg1.trans hg2
  go_wp2_with fail
  refine (Log_ok w1.heap.size A c l 0 ka (by omega) (by omega) w2 hpk).mono ?_
  rintro e w3 ⟨lv, rfl, hlo, hb3, _⟩
  have hx := hlo.entsX
  clear hlo hpk
  generalize (logP l 0 ka).1 = L at hx HL HLL
  obtain ⟨lA, lc, rfl⟩ := hx.is
  rw [HLL.out] at hx ⊢
  have HX := hide hx
  have hg3 : Gr w w3 := hg12.fresh hb3 hgw1
  clear hx hb3 hg1 hg2 hg12 hgw1
  go_wp2_with fail
  refine (Made_ok B d r w3 (HBR.out.gr hg3)).mono ?_
  rintro e w4 ⟨rfl, hg4, hpk⟩
  have hgw3 := hg3.size
  have hg34 := hg3.trans hg4
  go_wp2_with fail
  refine (Log_ok w3.heap.size B d r 0 kb (by omega) (by omega) w4 hpk).mono ?_
  rintro e w5 ⟨kv, rfl, hko, hb5, _⟩
  have hy := hko.entsX
  clear hko hpk
  generalize (logP r 0 kb).1 = R at hy HK HKL
  obtain ⟨rA, rc, rfl⟩ := hy.is
  rw [HKL.out] at hy ⊢
  have HY := hide hy
  have hg5 : Gr w w5 := hg34.fresh hb5 hgw3
  have hg35 : Gr w3 w5 := hg4.fresh hb5 (Nat.le_refl _)
  replace HX := hide (HX.out.gr hg35)
  clear hy hb5 hg3 hg4 hg34 hg35 hgw3
  have HTK := hide (fun W (h : Gr w5 W) => Term_ok _ R kb W (HY.out.gr h) (by have := HKL.out; omega))
  have HTL := hide (fun W (h : Gr w5 W) => Term_ok _ L ka W (HX.out.gr h) (by have := HLL.out; omega))
  have HB1 := hide (term_le HL.out (by omega) ka)
  have HN1 := hide (fun W (h : Gr w5 W) (i t : Int) => Newer_ok _ L i t W (HX.out.gr h) (by have := HLL.out; omega))
  have HN2 := hide (fun W (h : Gr w5 W) (i t : Int) => Newer_ok _ R i t W (HY.out.gr h) (by have := HKL.out; omega))
  have HTWO := hide (newer_two L R)
  have HSELF := hide (newer_self L)
  have HMORE := hide (newer_more L)
  have HTM := hide (term_more L)
  rw [HKL.out, HLL.out] at HTWO
  rw [HLL.out] at HSELF HMORE
  generalize termL R kb = tk at HTK HTWO
  generalize htl : termL L ka = tl at HTL HTWO HSELF HMORE HB1
  go_wp2_with fail
  refine (HTK.out w5 (Gr.refl _)).mono ?_
  rintro e w6 ⟨rfl, hw6⟩
  rw [hw6]
  clear hw6
  go_wp2_with fail
  refine (HN1.out w5 (Gr.refl _) kb tk).mono ?_
  rintro e w6 ⟨rfl, hw6⟩
  rw [hw6]
  clear hw6
  go_wp2_with fail
  refine (HTL.out w5 (Gr.refl _)).mono ?_
  rintro e w6 ⟨rfl, hw6⟩
  rw [hw6]
  clear hw6
  go_wp2_with fail
  refine (HN2.out w5 (Gr.refl _) ka tl).mono ?_
  rintro e w6 ⟨rfl, hw6⟩
  rw [hw6]
  clear hw6
  have HM1 := hide (HMORE.out (tl + 1) rfl)
  have HTM1 := hide (HTM.out (sealE (tl + 1)))
  have hml : (L ++ [sealE (tl + 1)]).length = ka + 1 := by rw [List.length_append, HLL.out]; rfl
  have HML := hide hml
  rw [hml] at HM1 HTM1
  rw [show (sealE (tl + 1)).term = tl + 1 from rfl] at HTM1
  rw [HTM1.out] at HM1
  have hwt : IntKind.i64.wrap (tl + 1) = tl + 1 := IntWalk.i64_in _ (by have := HB1.out; omega)
  generalize newerL L kb tk = b1 at HTWO ⊢
  generalize newerL R ka tl = b2 at HTWO ⊢
  clear HTK HN2 htl hml HMORE HTM HY HK HKL
  go_wp2_with (at_builtin; refine pause ?_)
  refine hide ?_
  refine wpList_appEnt rfl _ (.tmp 53) rfl (X := fun j => j < w5.heap.size) (B := w5.heap.size) rfl (ownEnt_empty _ _ (Nat.le_refl _)) ((HX.out.below.gr ((Gr.refl w5).alloc _)).wide fun j hj => ⟨hj, fun e => by injection e with e; simp only at e; omega⟩) ((Gr.refl w5).alloc _).size rfl (by have := HLL.out; simp only [List.length_nil]; omega) ?_
  intro v8 w8 ho8 hp8
  rw [List.nil_append] at ho8
  have hg8 : Gr w5 w8 := own_more (w := w5) ((Gr.refl w5).alloc _) (ownEnt_empty (fun _ => True) w5 (Nat.le_refl _)) (Nat.le_refl _) (Gr.refl _) hp8
  obtain ⟨A8, c8, hv8⟩ := ho8.is
  rw [HLL.out] at hv8
  subst hv8
  have HO8 := hide ho8
  clear ho8 hp8
  go_wp2_with fail
  refine (HTL.out w8 hg8).mono ?_
  rintro e w6 ⟨rfl, hw6⟩
  rw [hw6]
  clear hw6
  go_wp2_with (at_builtin; refine pause ?_)
  refine hide ?_
  refine wpList_pushEnt rfl (.tmp 54) (.tmp 61) rfl (sealE (tl + 1)) (.slice none 0 0, .slice none 0 0) rfl rfl HO8.out (RowsX.none_ _ _) hg8.size rfl (by have := HLL.out; omega) ?_
  intro v9 w9 ho9 hp9
  have hg9 : Gr w5 w9 := own_more hg8 HO8.out (Nat.le_refl _) (Gr.refl _) hp9
  obtain ⟨A9, c9, hv9⟩ := ho9.is
  rw [HML.out] at hv9
  subst hv9
  have HM9 := hide ho9.entsX
  have HTL9 := hide (HTL.out w9 hg9)
  have HNS := hide (HN1.out w9 hg9 ka tl)
  rw [HSELF.out] at HNS
  have HNM := hide (HN1.out w9 hg9 ((ka + 1 : Nat) : Int) (tl + 1))
  rw [HM1.out.1] at HNM
  have HTM9 := hide (Term_ok _ _ ((ka + 1 : Nat) : Int) w9 HM9.out (by have := HML.out; omega))
  rw [HTM1.out] at HTM9
  have HNM2 := hide (Newer_ok _ _ ka tl w9 HM9.out (by have := HML.out; omega))
  rw [HM1.out.2] at HNM2
  have HFIN := hide (hg5.trans hg9)
  clear ho9 hp9 hg8 hg9 HO8 HTL HN1 hwt
  have hbb : b1 = true ∨ b1 = false ∧ b2 = true := by
    have := HTWO.out
    cases b1
    · exact .inr ⟨rfl, by simpa using this⟩
    · exact .inl rfl
  rcases hbb with hb1 | ⟨hb1, hb2⟩
  all_goals
    subst hb1
    try subst hb2
    go_wp2_with fail
    refine HTL9.out.mono ?_
    rintro e w6 ⟨rfl, hw6⟩
    rw [hw6]
    clear hw6
    go_wp2_with fail
    refine HNS.out.mono ?_
    rintro e w6 ⟨rfl, hw6⟩
    rw [hw6]
    clear hw6
    go_wp2_with fail
    refine HTM9.out.mono ?_
    rintro e w6 ⟨rfl, hw6⟩
    rw [hw6]
    clear hw6
    go_wp2_with fail
    refine HNM.out.mono ?_
    rintro e w6 ⟨rfl, hw6⟩
    rw [hw6]
    clear hw6
    go_wp2_with fail
    refine HTL9.out.mono ?_
    rintro e w6 ⟨rfl, hw6⟩
    rw [hw6]
    clear hw6
    go_wp2_with fail
    refine HNM2.out.mono ?_
    rintro e w6 ⟨rfl, hw6⟩
    rw [hw6]
    clear hw6
    go_wp2_with fail
    go_ret
    exact ⟨rfl, HFIN.out⟩

end Go.Proofs.Ythgpeegnedocfaa
