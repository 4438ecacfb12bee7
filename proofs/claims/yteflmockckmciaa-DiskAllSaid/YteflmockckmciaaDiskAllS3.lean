/-
  The switch of 'DiskAll': Crash.
-/
import Derived.Test.YteflmockckmciaaDiskAllFr
namespace Go.Proofs.Yteflmockckmciaa
open Go Go.RowKit MapS DiskMem DiskFile DiskHit DiskFind DiskBegin DiskOps DiskApp DiskList DiskCrash DiskCopy DiskRising KeyMath
set_option maxRecDepth 100000

set_option maxHeartbeats 20000000 in
theorem sw_crash {w w3 : World} {room : Int} {A : Option Addr} {n cc da0 rm j da ba bm g cn : Nat} {x : DeedT} {Sd : Nat → Prop} {F : Fs} {G : KV Int} {N : Option Addr} {was : List UInt8} {there : Bool} (h : SwAt w w3 room rm j da ba bm g cn x Sd F G N was there)
    {K : Act → World → Prop} {Q : Exit → Act → World → Prop} (hK : SwTo w room A n cc ba bm da0 rm j K) (X : Nat → Value) (s5 : X 5 = .pointer (some ⟨da, 0, none⟩)) (s8 : X 8 = .int .i64 (j : Int)) (s9 : X 9 = .pointer (some ⟨g, 0, none⟩)) (s10 : X 10 = .int .i64 (usedF F : Int))
    (s11 : X 11 = .slice N F.length cn) (s13 : X 13 = .string (bs was)) (s14 : X 14 = .bool there) (s15 : X 15 = .int .i64 0) (s16 : X 16 = .int .i64 0) (s94 : X 94 = .int .i64 7) :
    Code.wp Try.prog sw (Exit.then K Q) ⟨litF room A n cc ba bm da0 X, []⟩ w3 := by
  unfold litF
  rw [s5, s8, s9, s10, s11, s13, s14, s15, s16, s94]
  clear s5 s8 s9 s10 s11 s13 s14 s15 s16 s94
  have HK := hide hK
  have RD := hide h.rd
  have HX := hide h.deed
  have HSU := hide h.su
  have HFL := hide h.fl
  have HGL := hide h.gl
  have HUS := hide h.us
  have HRM := hide h.hrm
  have hj40 := h.j40
  have hroom2 := h.room64
  have hb60 := h.b60
  have hn20 := h.n20
  have hk10 := h.k10
  have HW := hide h.was_
  have HT := hide h.there_
  have HRIS := hide h.rd.all.d.is.ris
  have hF40 : F.length ≤ 40 := by have := h.fl; omega
  have hxs : x.name.size ≤ maxLen := by unfold maxLen; omega
  have hws := bs_size was
  have hwl : was.length ≤ 1000000 := by
    have hw := h.was_
    rw [← hw]
    cases hf : getE F x.name.data.toList with
    | none => simp [f0]
    | some f =>
      have h1 := used_get ((mem_getE HRIS.out).1 hf)
      have h2 := h.us
      simp only [Option.getD_some]
      omega
  have e0 := RD.out.bl.cell 0
  have e1 := RD.out.bl.cell 1
  have e2 := RD.out.bl.cell 2
  have e3 := RD.out.bl.cell 3
  have e4 := RD.out.bl.cell 4
  simp only [List.getElem?_toArray, List.getElem?_cons_zero, List.getElem?_cons_succ] at e0 e1 e2 e3 e4
  clear hK h
  conv => arg 2; whnf
  have haway : ∀ ad, 0 < x.keep.length → x.K = some ad → ad.block < w.heap.size ∨ w3.heap.size ≤ ad.block := fun ad hl hA => .inl (ints_lt HX.out.keep hl hA)
  have HAWAY := hide haway
  clear haway
  go_wp2_with fail
  refine (use_crash RD.out.all.d RD.out.all.gr.size (Gr.refl w3) x.K x.keep.length x.kc x.keep rfl (HX.out.keep.gr RD.out.all.gr) HAWAY.out (by omega) rfl).mono ?_
  rintro e w4 ⟨rfl, u4, o4⟩
  have RD4 := hide (RD.out.did u4 o4)
  clear u4 o4 e0 e1 e2 e3 e4
  go_wp2_with fail
  go_loopw [17] (fun i wr => ∃ k : Nat, i = .int .i64 k ∧ k ≤ F.length ∧ ∃ G' : KV Int, Hid (RdAt w wr da ba bm (ext Sd w3 w4) rm (crashF x.keep F) (valsA (mixF x.keep F k)) (valsG G') g #[.int .i64 x.kind, .int .i64 x.n, .string x.name, .slice x.B x.b.length x.bc, .slice x.K x.keep.length x.kc] N cn (nameV F)) ∧ Hid (SureOk (mixF x.keep F k) G') ∧ G'.length ≤ G.length + k) (fun i _ => F.length - (intOf i).toNat)
  case atStart => exact ⟨0, rfl, by omega, G, by rw [mix_zero]; exact RD4, by rw [mix_zero]; exact HSU, Nat.le_refl _⟩
  case round =>
    obtain ⟨k, rfl, hk, G', RDK, HSUK, hgk⟩ := hrel
    have HGK := hide hgk
    by_cases hkl : k < F.length
    · have hkl2 : (k : Int) < (F.length : Int) := by omega
      obtain ⟨hget, hmix⟩ := crash_step (zs := x.keep) HRIS.out hkl
      have hsl := sures_all RD.out.all.d.is hkl
      have hbl2 : F[k].2.b.length ≤ 100000 := by
        have h1 := used_take hkl
        have h2 := used_take_le F (k + 1)
        have h3 := HUS.out
        omega
      have hnm := name_small RD.out.all hkl
      obtain ⟨ad2, hN, hcl⟩ := RDK.out.nm.rd k (by rw [nameV_len]; exact hkl)
      rw [nameV_get] at hcl
      subst hN
      have hsk := RDK.out.all.sure_look (bs F[k].1) hnm
      rw [bs_list, sure_at HSUK.out hget] at hsk
      have c4 := RDK.out.bl.cell 4
      simp only [List.getElem?_toArray, List.getElem?_cons_zero, List.getElem?_cons_succ] at c4
      have HGET := hide hget
      have HMIX := hide hmix
      clear hget hmix hgk
      by_cases hkk : k < x.keep.length
      · have dkk : (k : Int) < (x.keep.length : Int) := by omega
        have dkk2 : decide ((k : Int) < (x.keep.length : Int)) = true := decide_eq_true dkk
        obtain ⟨ad3, hK, hck⟩ := (HX.out.keep.gr RDK.out.all.gr).rd k hkk
        have hkh := keep_head hkk
        obtain ⟨z, hz⟩ : ∃ z, x.keep[k] = z := ⟨_, rfl⟩
        rw [hz] at hck hkh
        have hzb : -9223372036854775808 ≤ z ∧ z ≤ 9223372036854775807 := by
          have := HX.out.keep.wf z (by rw [← hz]; exact List.getElem_mem hkk)
          simpa [Lit.wf, IntKind.min, IntKind.max, IntKind.signed, IntKind.bits] using this
        rw [hK] at c4
        clear hK
        have HKH := hide hkh
        clear hz hkh
        by_cases hz0 : (0 : Int) < z
        · have dz : decide ((0 : Int) < z) = true := decide_eq_true hz0
          obtain ⟨n', hn2⟩ : ∃ n' : Nat, n' = F[k].2.sure + min ((x.keep.drop k).headD 0).toNat (F[k].2.b.length - F[k].2.sure) := ⟨_, rfl⟩
          have HN2 := hide hn2
          have hn3 : n' ≤ F[k].2.b.length := by omega
          have hn4 : (F[k].2.sure : Int) + min z ((F[k].2.b.length : Int) - (F[k].2.sure : Int)) = (n' : Int) := by rw [hn2, HKH.out]; omega
          have HN4 := hide hn4
          have hlk := fun q => (RDK.out.all.to_gr ((Gr.refl wr).drewN q)).look_at (F := mixF x.keep F k) (bs F[k].1) hnm
          rw [bs_list, HGET.out] at hlk
          simp only [Option.getD_some] at hlk
          have HLK := hide hlk
          have hbsz := bs_size F[k].2.b
          clear hn2 hn4 hlk
          go_wp2_with fail
          refine wp_region_quiet_lit (by kernel_rfl) (by kernel_rfl) ?_
          repeat (go_big_quiet_step (fail))
          refine quiet_any (by rfl) (u := .string (bs F[k].2.b)) (fun w' hw' => ?_) ?_
          · obtain ⟨n, rfl⟩ := hw'
            have h1 := HLK.out n
            simp [execOp, Act.eval, h1]
          simp only [Act.put, List.setIfInBounds_toArray, List.set_cons_zero, List.set_cons_succ]
          repeat (go_big_quiet_step (fail))
          refine wpQuiet_nil ?_
          rintro _ ⟨nq, rfl⟩
          rw [HN4.out]
          have RDKn := hide (RDK.out.to_gr ((Gr.refl wr).drewN nq))
          go_wp2_with fail
          have hn' : n' ≤ F[k].2.b.length := by omega
          have rd0 := RDKn.out.to_gr ((Gr.refl (wr.drewN nq)).drew)
          obtain ⟨v0, st, w1', hen, _, _, hsame, hst⟩ := rd0.all.a.entry (z := .string ⟨#[]⟩) Try.underlying9 Try.underlying26 zero_str hnm (by rw [valsA_len, mix_len]; unfold maxLen; omega)
          have hw1 := hsame (by rw [there_eq, bs_list, HGET.out]; rfl)
          subst hw1
          obtain ⟨w5, hes, m5, t5⟩ := hst (.string (bs (F[k].2.b.take n')))
          have rd5 := rd0.setA m5 t5
          obtain ⟨v0', st', w6, hen2, ho6, hsz6, _, hst2⟩ := rd5.all.s.entry (z := .int .i64 0) Try.underlying9 Try.underlying27 zero_int hnm (by rw [valsG_len]; have := HGL.out; have := HGK.out; unfold maxLen; omega)
          obtain ⟨w7, hes2, m7, t7⟩ := hst2 (.int .i64 (n' : Int))
          have rd7 := rd5.setS m7 t7
          have hlk0 := rd0.all.look_at (F := mixF x.keep F k) (bs F[k].1) hnm
          rw [bs_list, HGET.out] at hlk0
          simp only [Option.getD_some] at hlk0
          have HNC0 : Hid ((wr.drewN nq).drew.cell? (ad2.add k) = some (.string (bs F[k].1))) := hide hcl
          have HNC1 : Hid (∀ m, m ≤ 1 → (at4 (wr.drewN nq).drew w5 w6 w7 m).cell? (ad2.add k) = some (.string (bs F[k].1))) := hide fun m hm => by
            obtain ⟨ad', e1, e2⟩ := rd5.nm.rd k (by rw [nameV_len]; exact hkl)
            injection e1 with e1
            subst e1
            rw [nameV_get] at e2
            have : m = 0 ∨ m = 1 := by omega
            rcases this with rfl | rfl
            · exact hcl
            · exact e2
          have HCUT : Hid (∀ w, (Instr.sliceAt 9 (.string (bs F[k].2.b)) none (some (.int .i64 (n' : Int))) none).run Try.prog w = .ok (.string (bs (F[k].2.b.take n'))) w) := hide fun w => run_cut_bs w Try.underlying9 F[k].2.b n' hn'
          have HEN := hide hen
          have HES := hide hes
          have HEN2 := hide hen2
          have HES2 := hide hes2
          have HLK0 := hide hlk0
          have RD7 := hide rd7
          clear hen hes hen2 hes2 hlk0 rd7 rd5 rd0 m5 t5 m7 t7 hst hst2 hsame ho6 hsz6
          refine Det.wp_region_det [21, 22, 24] (fun m w' => w' = at4 (wr.drewN nq).drew w5 w6 w7 m) (by kernel_rfl) (by kernel_rfl) (by kernel_rfl) rfl ?_
          refine Det.pure rfl rfl (.map (some ba)) (fun _ => rfl) ?_
          simp only [Act.put, List.setIfInBounds_toArray, List.set_cons_zero, List.set_cons_succ]
          refine Det.pure rfl rfl (.slice (some ad2) F.length cn) (fun _ => rfl) ?_
          simp only [Act.put, List.setIfInBounds_toArray, List.set_cons_zero, List.set_cons_succ]
          refine Det.pure rfl rfl (.int .i64 (k : Int)) (fun _ => rfl) ?_
          simp only [Act.put, List.setIfInBounds_toArray, List.set_cons_zero, List.set_cons_succ]
          refine Det.index (x := .tmp 242) (y := .tmp 243) (j := k) rfl rfl rfl Try.underlying32 size_str rfl rfl hkl ?_
          simp only [Act.put, List.setIfInBounds_toArray, List.set_cons_zero, List.set_cons_succ]
          refine Det.load (u := .string (bs F[k].1)) rfl rfl rfl 0 0 (by kernel_rfl) agg_str rfl (fun m' _ hm w hw => by
            have h0 : m' = 0 := by omega
            subst h0
            rw [hw]
            exact HNC0.out) ?_
          simp only [Act.put, List.setIfInBounds_toArray, List.set_cons_zero, List.set_cons_succ]
          refine Det.pure rfl rfl (.map (some bm)) (fun _ => rfl) ?_
          simp only [Act.put, List.setIfInBounds_toArray, List.set_cons_zero, List.set_cons_succ]
          refine Det.pure rfl rfl (.slice (some ad2) F.length cn) (fun _ => rfl) ?_
          simp only [Act.put, List.setIfInBounds_toArray, List.set_cons_zero, List.set_cons_succ]
          refine Det.pure rfl rfl (.int .i64 (k : Int)) (fun _ => rfl) ?_
          simp only [Act.put, List.setIfInBounds_toArray, List.set_cons_zero, List.set_cons_succ]
          refine Det.index (x := .tmp 247) (y := .tmp 248) (j := k) rfl rfl rfl Try.underlying32 size_str rfl rfl hkl ?_
          simp only [Act.put, List.setIfInBounds_toArray, List.set_cons_zero, List.set_cons_succ]
          refine Det.load (u := .string (bs F[k].1)) rfl rfl rfl 0 1 (by kernel_rfl) agg_str rfl (fun m' _ hm w hw => by rw [hw]; exact HNC1.out m' hm) ?_
          simp only [Act.put, List.setIfInBounds_toArray, List.set_cons_zero, List.set_cons_succ]
          refine Det.pure rfl rfl (.map (some ba)) (fun _ => rfl) ?_
          simp only [Act.put, List.setIfInBounds_toArray, List.set_cons_zero, List.set_cons_succ]
          refine Det.pure rfl rfl (.slice (some ad2) F.length cn) (fun _ => rfl) ?_
          simp only [Act.put, List.setIfInBounds_toArray, List.set_cons_zero, List.set_cons_succ]
          refine Det.pure rfl rfl (.int .i64 (k : Int)) (fun _ => rfl) ?_
          simp only [Act.put, List.setIfInBounds_toArray, List.set_cons_zero, List.set_cons_succ]
          refine Det.index (x := .tmp 252) (y := .tmp 253) (j := k) rfl rfl rfl Try.underlying32 size_str rfl rfl hkl ?_
          simp only [Act.put, List.setIfInBounds_toArray, List.set_cons_zero, List.set_cons_succ]
          refine Det.load (u := .string (bs F[k].1)) rfl rfl rfl 0 0 (by kernel_rfl) agg_str rfl (fun m' _ hm w hw => by
            have h0 : m' = 0 := by omega
            subst h0
            rw [hw]
            exact HNC0.out) ?_
          simp only [Act.put, List.setIfInBounds_toArray, List.set_cons_zero, List.set_cons_succ]
          refine Det.look (x := .tmp 251) (y := .tmp 255) (u := .string (bs F[k].2.b)) rfl rfl rfl 0 0 (by kernel_rfl) rfl rfl (fun m' _ hm w hw => by
            have h0 : m' = 0 := by omega
            subst h0
            rw [hw]
            exact HLK0.out) ?_
          simp only [Act.put, List.setIfInBounds_toArray, List.set_cons_zero, List.set_cons_succ]
          refine Det.pure rfl rfl (.int .i64 (n' : Int)) (fun _ => rfl) ?_
          simp only [Act.put, List.setIfInBounds_toArray, List.set_cons_zero, List.set_cons_succ]
          refine Det.pure rfl rfl (.string (bs (F[k].2.b.take n'))) (fun w => ?_) ?_
          · have h1 := HCUT.out w
            simp [execOp, Act.eval, h1]
          simp only [Act.put, List.setIfInBounds_toArray, List.set_cons_zero, List.set_cons_succ]
          refine Det.pure rfl rfl (.int .i64 (n' : Int)) (fun _ => rfl) ?_
          simp only [Act.put, List.setIfInBounds_toArray, List.set_cons_zero, List.set_cons_succ]
          refine Det.entry_there (x := .tmp 241) (y := .tmp 245) (u := .tuple #[v0, st]) rfl rfl rfl 0 0 (by kernel_rfl) rfl rfl (fun m' _ hm w hw => by
            have h0 : m' = 0 := by omega
            subst h0
            rw [hw]
            exact HEN.out) ?_
          simp only [Act.put, List.setIfInBounds_toArray, List.set_cons_zero, List.set_cons_succ]
          refine Det.pure rfl rfl (st) (fun _ => rfl) ?_
          simp only [Act.put, List.setIfInBounds_toArray, List.set_cons_zero, List.set_cons_succ]
          refine Det.entry_store (x := .tmp 241) (y := .tmp 261) (z := .tmp 258) rfl rfl rfl rfl rfl rfl (fun w hw => ⟨w5, by rw [hw]; exact HES.out, rfl⟩) ?_
          simp only [Act.put]
          refine Det.entry (x := .tmp 246) (y := .tmp 250) (u := .tuple #[v0', st']) rfl rfl rfl rfl rfl (fun w hw => ⟨w6, by rw [hw]; exact HEN2.out, rfl⟩) ?_
          simp only [Act.put, List.setIfInBounds_toArray, List.set_cons_zero, List.set_cons_succ]
          refine Det.pure rfl rfl (st') (fun _ => rfl) ?_
          simp only [Act.put, List.setIfInBounds_toArray, List.set_cons_zero, List.set_cons_succ]
          refine Det.entry_store (x := .tmp 246) (y := .tmp 263) (z := .tmp 259) rfl rfl rfl rfl rfl rfl (fun w hw => ⟨w7, by rw [hw]; exact HES2.out, rfl⟩) ?_
          simp only [Act.put]
          refine Det.nil ?_
          intro w' hw'
          obtain rfl : w' = w7 := hw'
          go_wp2_with fail
          go_roundw
          case rel =>
            have h7 := RD7.out
            have hb : F[k].2.b.take n' = (hitF F[k].2 ((x.keep.drop k).headD 0)).b := by unfold hitF; rw [← HN2.out]
            have hs := sure_put HSUK.out (RDK.out.all.a.2 |> Ris.of_map (fun f : FileT => Value.string (bs f.b))) (valsG_ris RDK.out.all.s.2) F[k].1 (hitF F[k].2 ((x.keep.drop k).headD 0))
            have hn2 : (((hitF F[k].2 ((x.keep.drop k).headD 0)).sure : Nat) : Int) = n' := by unfold hitF; rw [← HN2.out]
            rw [hn2, ← HMIX.out] at hs
            rw [bs_list, hb, valsA_put, valsG_put, ← HMIX.out] at h7
            exact ⟨k + 1, by go_num, hkl, _, hide h7, hide hs, Nat.le_trans (len_le_put _ _ _ HGK.out) (by omega)⟩
          case measure => simp [intOf]; omega
        · have dz : decide ((0 : Int) < z) = false := decide_eq_false hz0
          obtain ⟨n', hn2⟩ : ∃ n' : Nat, n' = F[k].2.sure + min ((x.keep.drop k).headD 0).toNat (F[k].2.b.length - F[k].2.sure) := ⟨_, rfl⟩
          have HN2 := hide hn2
          have hn4 : F[k].2.sure = n' := by rw [hn2, HKH.out]; omega
          rw [hn4] at hsk hsl
          clear hn2 hn4
          go_wp2_with fail
          have hn' : n' ≤ F[k].2.b.length := by omega
          have rd0 := RDK.out.to_gr ((Gr.refl (wr)).drew)
          obtain ⟨v0, st, w1', hen, _, _, hsame, hst⟩ := rd0.all.a.entry (z := .string ⟨#[]⟩) Try.underlying9 Try.underlying26 zero_str hnm (by rw [valsA_len, mix_len]; unfold maxLen; omega)
          have hw1 := hsame (by rw [there_eq, bs_list, HGET.out]; rfl)
          subst hw1
          obtain ⟨w5, hes, m5, t5⟩ := hst (.string (bs (F[k].2.b.take n')))
          have rd5 := rd0.setA m5 t5
          obtain ⟨v0', st', w6, hen2, ho6, hsz6, _, hst2⟩ := rd5.all.s.entry (z := .int .i64 0) Try.underlying9 Try.underlying27 zero_int hnm (by rw [valsG_len]; have := HGL.out; have := HGK.out; unfold maxLen; omega)
          obtain ⟨w7, hes2, m7, t7⟩ := hst2 (.int .i64 (n' : Int))
          have rd7 := rd5.setS m7 t7
          have hlk0 := rd0.all.look_at (F := mixF x.keep F k) (bs F[k].1) hnm
          rw [bs_list, HGET.out] at hlk0
          simp only [Option.getD_some] at hlk0
          have HNC0 : Hid ((wr).drew.cell? (ad2.add k) = some (.string (bs F[k].1))) := hide hcl
          have HNC1 : Hid (∀ m, m ≤ 1 → (at4 (wr).drew w5 w6 w7 m).cell? (ad2.add k) = some (.string (bs F[k].1))) := hide fun m hm => by
            obtain ⟨ad', e1, e2⟩ := rd5.nm.rd k (by rw [nameV_len]; exact hkl)
            injection e1 with e1
            subst e1
            rw [nameV_get] at e2
            have : m = 0 ∨ m = 1 := by omega
            rcases this with rfl | rfl
            · exact hcl
            · exact e2
          have HCUT : Hid (∀ w, (Instr.sliceAt 9 (.string (bs F[k].2.b)) none (some (.int .i64 (n' : Int))) none).run Try.prog w = .ok (.string (bs (F[k].2.b.take n'))) w) := hide fun w => run_cut_bs w Try.underlying9 F[k].2.b n' hn'
          have HEN := hide hen
          have HES := hide hes
          have HEN2 := hide hen2
          have HES2 := hide hes2
          have HLK0 := hide hlk0
          have RD7 := hide rd7
          clear hen hes hen2 hes2 hlk0 rd7 rd5 rd0 m5 t5 m7 t7 hst hst2 hsame ho6 hsz6
          refine Det.wp_region_det [21, 22, 24] (fun m w' => w' = at4 (wr).drew w5 w6 w7 m) (by kernel_rfl) (by kernel_rfl) (by kernel_rfl) rfl ?_
          refine Det.pure rfl rfl (.map (some ba)) (fun _ => rfl) ?_
          simp only [Act.put, List.setIfInBounds_toArray, List.set_cons_zero, List.set_cons_succ]
          refine Det.pure rfl rfl (.slice (some ad2) F.length cn) (fun _ => rfl) ?_
          simp only [Act.put, List.setIfInBounds_toArray, List.set_cons_zero, List.set_cons_succ]
          refine Det.pure rfl rfl (.int .i64 (k : Int)) (fun _ => rfl) ?_
          simp only [Act.put, List.setIfInBounds_toArray, List.set_cons_zero, List.set_cons_succ]
          refine Det.index (x := .tmp 242) (y := .tmp 243) (j := k) rfl rfl rfl Try.underlying32 size_str rfl rfl hkl ?_
          simp only [Act.put, List.setIfInBounds_toArray, List.set_cons_zero, List.set_cons_succ]
          refine Det.load (u := .string (bs F[k].1)) rfl rfl rfl 0 0 (by kernel_rfl) agg_str rfl (fun m' _ hm w hw => by
            have h0 : m' = 0 := by omega
            subst h0
            rw [hw]
            exact HNC0.out) ?_
          simp only [Act.put, List.setIfInBounds_toArray, List.set_cons_zero, List.set_cons_succ]
          refine Det.pure rfl rfl (.map (some bm)) (fun _ => rfl) ?_
          simp only [Act.put, List.setIfInBounds_toArray, List.set_cons_zero, List.set_cons_succ]
          refine Det.pure rfl rfl (.slice (some ad2) F.length cn) (fun _ => rfl) ?_
          simp only [Act.put, List.setIfInBounds_toArray, List.set_cons_zero, List.set_cons_succ]
          refine Det.pure rfl rfl (.int .i64 (k : Int)) (fun _ => rfl) ?_
          simp only [Act.put, List.setIfInBounds_toArray, List.set_cons_zero, List.set_cons_succ]
          refine Det.index (x := .tmp 247) (y := .tmp 248) (j := k) rfl rfl rfl Try.underlying32 size_str rfl rfl hkl ?_
          simp only [Act.put, List.setIfInBounds_toArray, List.set_cons_zero, List.set_cons_succ]
          refine Det.load (u := .string (bs F[k].1)) rfl rfl rfl 0 1 (by kernel_rfl) agg_str rfl (fun m' _ hm w hw => by rw [hw]; exact HNC1.out m' hm) ?_
          simp only [Act.put, List.setIfInBounds_toArray, List.set_cons_zero, List.set_cons_succ]
          refine Det.pure rfl rfl (.map (some ba)) (fun _ => rfl) ?_
          simp only [Act.put, List.setIfInBounds_toArray, List.set_cons_zero, List.set_cons_succ]
          refine Det.pure rfl rfl (.slice (some ad2) F.length cn) (fun _ => rfl) ?_
          simp only [Act.put, List.setIfInBounds_toArray, List.set_cons_zero, List.set_cons_succ]
          refine Det.pure rfl rfl (.int .i64 (k : Int)) (fun _ => rfl) ?_
          simp only [Act.put, List.setIfInBounds_toArray, List.set_cons_zero, List.set_cons_succ]
          refine Det.index (x := .tmp 252) (y := .tmp 253) (j := k) rfl rfl rfl Try.underlying32 size_str rfl rfl hkl ?_
          simp only [Act.put, List.setIfInBounds_toArray, List.set_cons_zero, List.set_cons_succ]
          refine Det.load (u := .string (bs F[k].1)) rfl rfl rfl 0 0 (by kernel_rfl) agg_str rfl (fun m' _ hm w hw => by
            have h0 : m' = 0 := by omega
            subst h0
            rw [hw]
            exact HNC0.out) ?_
          simp only [Act.put, List.setIfInBounds_toArray, List.set_cons_zero, List.set_cons_succ]
          refine Det.look (x := .tmp 251) (y := .tmp 255) (u := .string (bs F[k].2.b)) rfl rfl rfl 0 0 (by kernel_rfl) rfl rfl (fun m' _ hm w hw => by
            have h0 : m' = 0 := by omega
            subst h0
            rw [hw]
            exact HLK0.out) ?_
          simp only [Act.put, List.setIfInBounds_toArray, List.set_cons_zero, List.set_cons_succ]
          refine Det.pure rfl rfl (.int .i64 (n' : Int)) (fun _ => rfl) ?_
          simp only [Act.put, List.setIfInBounds_toArray, List.set_cons_zero, List.set_cons_succ]
          refine Det.pure rfl rfl (.string (bs (F[k].2.b.take n'))) (fun w => ?_) ?_
          · have h1 := HCUT.out w
            simp [execOp, Act.eval, h1]
          simp only [Act.put, List.setIfInBounds_toArray, List.set_cons_zero, List.set_cons_succ]
          refine Det.pure rfl rfl (.int .i64 (n' : Int)) (fun _ => rfl) ?_
          simp only [Act.put, List.setIfInBounds_toArray, List.set_cons_zero, List.set_cons_succ]
          refine Det.entry_there (x := .tmp 241) (y := .tmp 245) (u := .tuple #[v0, st]) rfl rfl rfl 0 0 (by kernel_rfl) rfl rfl (fun m' _ hm w hw => by
            have h0 : m' = 0 := by omega
            subst h0
            rw [hw]
            exact HEN.out) ?_
          simp only [Act.put, List.setIfInBounds_toArray, List.set_cons_zero, List.set_cons_succ]
          refine Det.pure rfl rfl (st) (fun _ => rfl) ?_
          simp only [Act.put, List.setIfInBounds_toArray, List.set_cons_zero, List.set_cons_succ]
          refine Det.entry_store (x := .tmp 241) (y := .tmp 261) (z := .tmp 258) rfl rfl rfl rfl rfl rfl (fun w hw => ⟨w5, by rw [hw]; exact HES.out, rfl⟩) ?_
          simp only [Act.put]
          refine Det.entry (x := .tmp 246) (y := .tmp 250) (u := .tuple #[v0', st']) rfl rfl rfl rfl rfl (fun w hw => ⟨w6, by rw [hw]; exact HEN2.out, rfl⟩) ?_
          simp only [Act.put, List.setIfInBounds_toArray, List.set_cons_zero, List.set_cons_succ]
          refine Det.pure rfl rfl (st') (fun _ => rfl) ?_
          simp only [Act.put, List.setIfInBounds_toArray, List.set_cons_zero, List.set_cons_succ]
          refine Det.entry_store (x := .tmp 246) (y := .tmp 263) (z := .tmp 259) rfl rfl rfl rfl rfl rfl (fun w hw => ⟨w7, by rw [hw]; exact HES2.out, rfl⟩) ?_
          simp only [Act.put]
          refine Det.nil ?_
          intro w' hw'
          obtain rfl : w' = w7 := hw'
          go_wp2_with fail
          go_roundw
          case rel =>
            have h7 := RD7.out
            have hb : F[k].2.b.take n' = (hitF F[k].2 ((x.keep.drop k).headD 0)).b := by unfold hitF; rw [← HN2.out]
            have hs := sure_put HSUK.out (RDK.out.all.a.2 |> Ris.of_map (fun f : FileT => Value.string (bs f.b))) (valsG_ris RDK.out.all.s.2) F[k].1 (hitF F[k].2 ((x.keep.drop k).headD 0))
            have hn2 : (((hitF F[k].2 ((x.keep.drop k).headD 0)).sure : Nat) : Int) = n' := by unfold hitF; rw [← HN2.out]
            rw [hn2, ← HMIX.out] at hs
            rw [bs_list, hb, valsA_put, valsG_put, ← HMIX.out] at h7
            exact ⟨k + 1, by go_num, hkl, _, hide h7, hide hs, Nat.le_trans (len_le_put _ _ _ HGK.out) (by omega)⟩
          case measure => simp [intOf]; omega
      · have dkk : ¬ (k : Int) < (x.keep.length : Int) := by omega
        have dkk2 : decide ((k : Int) < (x.keep.length : Int)) = false := decide_eq_false dkk
        have hkh := keep_none hkk
        obtain ⟨n', hn2⟩ : ∃ n' : Nat, n' = F[k].2.sure + min ((x.keep.drop k).headD 0).toNat (F[k].2.b.length - F[k].2.sure) := ⟨_, rfl⟩
        have HN2 := hide hn2
        have hn4 : F[k].2.sure = n' := by rw [hn2, hkh]; simp
        rw [hn4] at hsk hsl
        clear hn2 hn4 hkh
        go_wp2_with fail
        have hn' : n' ≤ F[k].2.b.length := by omega
        have rd0 := RDK.out.to_gr ((Gr.refl (wr)).drew)
        obtain ⟨v0, st, w1', hen, _, _, hsame, hst⟩ := rd0.all.a.entry (z := .string ⟨#[]⟩) Try.underlying9 Try.underlying26 zero_str hnm (by rw [valsA_len, mix_len]; unfold maxLen; omega)
        have hw1 := hsame (by rw [there_eq, bs_list, HGET.out]; rfl)
        subst hw1
        obtain ⟨w5, hes, m5, t5⟩ := hst (.string (bs (F[k].2.b.take n')))
        have rd5 := rd0.setA m5 t5
        obtain ⟨v0', st', w6, hen2, ho6, hsz6, _, hst2⟩ := rd5.all.s.entry (z := .int .i64 0) Try.underlying9 Try.underlying27 zero_int hnm (by rw [valsG_len]; have := HGL.out; have := HGK.out; unfold maxLen; omega)
        obtain ⟨w7, hes2, m7, t7⟩ := hst2 (.int .i64 (n' : Int))
        have rd7 := rd5.setS m7 t7
        have hlk0 := rd0.all.look_at (F := mixF x.keep F k) (bs F[k].1) hnm
        rw [bs_list, HGET.out] at hlk0
        simp only [Option.getD_some] at hlk0
        have HNC0 : Hid ((wr).drew.cell? (ad2.add k) = some (.string (bs F[k].1))) := hide hcl
        have HNC1 : Hid (∀ m, m ≤ 1 → (at4 (wr).drew w5 w6 w7 m).cell? (ad2.add k) = some (.string (bs F[k].1))) := hide fun m hm => by
          obtain ⟨ad', e1, e2⟩ := rd5.nm.rd k (by rw [nameV_len]; exact hkl)
          injection e1 with e1
          subst e1
          rw [nameV_get] at e2
          have : m = 0 ∨ m = 1 := by omega
          rcases this with rfl | rfl
          · exact hcl
          · exact e2
        have HCUT : Hid (∀ w, (Instr.sliceAt 9 (.string (bs F[k].2.b)) none (some (.int .i64 (n' : Int))) none).run Try.prog w = .ok (.string (bs (F[k].2.b.take n'))) w) := hide fun w => run_cut_bs w Try.underlying9 F[k].2.b n' hn'
        have HEN := hide hen
        have HES := hide hes
        have HEN2 := hide hen2
        have HES2 := hide hes2
        have HLK0 := hide hlk0
        have RD7 := hide rd7
        clear hen hes hen2 hes2 hlk0 rd7 rd5 rd0 m5 t5 m7 t7 hst hst2 hsame ho6 hsz6
        refine Det.wp_region_det [21, 22, 24] (fun m w' => w' = at4 (wr).drew w5 w6 w7 m) (by kernel_rfl) (by kernel_rfl) (by kernel_rfl) rfl ?_
        refine Det.pure rfl rfl (.map (some ba)) (fun _ => rfl) ?_
        simp only [Act.put, List.setIfInBounds_toArray, List.set_cons_zero, List.set_cons_succ]
        refine Det.pure rfl rfl (.slice (some ad2) F.length cn) (fun _ => rfl) ?_
        simp only [Act.put, List.setIfInBounds_toArray, List.set_cons_zero, List.set_cons_succ]
        refine Det.pure rfl rfl (.int .i64 (k : Int)) (fun _ => rfl) ?_
        simp only [Act.put, List.setIfInBounds_toArray, List.set_cons_zero, List.set_cons_succ]
        refine Det.index (x := .tmp 242) (y := .tmp 243) (j := k) rfl rfl rfl Try.underlying32 size_str rfl rfl hkl ?_
        simp only [Act.put, List.setIfInBounds_toArray, List.set_cons_zero, List.set_cons_succ]
        refine Det.load (u := .string (bs F[k].1)) rfl rfl rfl 0 0 (by kernel_rfl) agg_str rfl (fun m' _ hm w hw => by
          have h0 : m' = 0 := by omega
          subst h0
          rw [hw]
          exact HNC0.out) ?_
        simp only [Act.put, List.setIfInBounds_toArray, List.set_cons_zero, List.set_cons_succ]
        refine Det.pure rfl rfl (.map (some bm)) (fun _ => rfl) ?_
        simp only [Act.put, List.setIfInBounds_toArray, List.set_cons_zero, List.set_cons_succ]
        refine Det.pure rfl rfl (.slice (some ad2) F.length cn) (fun _ => rfl) ?_
        simp only [Act.put, List.setIfInBounds_toArray, List.set_cons_zero, List.set_cons_succ]
        refine Det.pure rfl rfl (.int .i64 (k : Int)) (fun _ => rfl) ?_
        simp only [Act.put, List.setIfInBounds_toArray, List.set_cons_zero, List.set_cons_succ]
        refine Det.index (x := .tmp 247) (y := .tmp 248) (j := k) rfl rfl rfl Try.underlying32 size_str rfl rfl hkl ?_
        simp only [Act.put, List.setIfInBounds_toArray, List.set_cons_zero, List.set_cons_succ]
        refine Det.load (u := .string (bs F[k].1)) rfl rfl rfl 0 1 (by kernel_rfl) agg_str rfl (fun m' _ hm w hw => by rw [hw]; exact HNC1.out m' hm) ?_
        simp only [Act.put, List.setIfInBounds_toArray, List.set_cons_zero, List.set_cons_succ]
        refine Det.pure rfl rfl (.map (some ba)) (fun _ => rfl) ?_
        simp only [Act.put, List.setIfInBounds_toArray, List.set_cons_zero, List.set_cons_succ]
        refine Det.pure rfl rfl (.slice (some ad2) F.length cn) (fun _ => rfl) ?_
        simp only [Act.put, List.setIfInBounds_toArray, List.set_cons_zero, List.set_cons_succ]
        refine Det.pure rfl rfl (.int .i64 (k : Int)) (fun _ => rfl) ?_
        simp only [Act.put, List.setIfInBounds_toArray, List.set_cons_zero, List.set_cons_succ]
        refine Det.index (x := .tmp 252) (y := .tmp 253) (j := k) rfl rfl rfl Try.underlying32 size_str rfl rfl hkl ?_
        simp only [Act.put, List.setIfInBounds_toArray, List.set_cons_zero, List.set_cons_succ]
        refine Det.load (u := .string (bs F[k].1)) rfl rfl rfl 0 0 (by kernel_rfl) agg_str rfl (fun m' _ hm w hw => by
          have h0 : m' = 0 := by omega
          subst h0
          rw [hw]
          exact HNC0.out) ?_
        simp only [Act.put, List.setIfInBounds_toArray, List.set_cons_zero, List.set_cons_succ]
        refine Det.look (x := .tmp 251) (y := .tmp 255) (u := .string (bs F[k].2.b)) rfl rfl rfl 0 0 (by kernel_rfl) rfl rfl (fun m' _ hm w hw => by
          have h0 : m' = 0 := by omega
          subst h0
          rw [hw]
          exact HLK0.out) ?_
        simp only [Act.put, List.setIfInBounds_toArray, List.set_cons_zero, List.set_cons_succ]
        refine Det.pure rfl rfl (.int .i64 (n' : Int)) (fun _ => rfl) ?_
        simp only [Act.put, List.setIfInBounds_toArray, List.set_cons_zero, List.set_cons_succ]
        refine Det.pure rfl rfl (.string (bs (F[k].2.b.take n'))) (fun w => ?_) ?_
        · have h1 := HCUT.out w
          simp [execOp, Act.eval, h1]
        simp only [Act.put, List.setIfInBounds_toArray, List.set_cons_zero, List.set_cons_succ]
        refine Det.pure rfl rfl (.int .i64 (n' : Int)) (fun _ => rfl) ?_
        simp only [Act.put, List.setIfInBounds_toArray, List.set_cons_zero, List.set_cons_succ]
        refine Det.entry_there (x := .tmp 241) (y := .tmp 245) (u := .tuple #[v0, st]) rfl rfl rfl 0 0 (by kernel_rfl) rfl rfl (fun m' _ hm w hw => by
          have h0 : m' = 0 := by omega
          subst h0
          rw [hw]
          exact HEN.out) ?_
        simp only [Act.put, List.setIfInBounds_toArray, List.set_cons_zero, List.set_cons_succ]
        refine Det.pure rfl rfl (st) (fun _ => rfl) ?_
        simp only [Act.put, List.setIfInBounds_toArray, List.set_cons_zero, List.set_cons_succ]
        refine Det.entry_store (x := .tmp 241) (y := .tmp 261) (z := .tmp 258) rfl rfl rfl rfl rfl rfl (fun w hw => ⟨w5, by rw [hw]; exact HES.out, rfl⟩) ?_
        simp only [Act.put]
        refine Det.entry (x := .tmp 246) (y := .tmp 250) (u := .tuple #[v0', st']) rfl rfl rfl rfl rfl (fun w hw => ⟨w6, by rw [hw]; exact HEN2.out, rfl⟩) ?_
        simp only [Act.put, List.setIfInBounds_toArray, List.set_cons_zero, List.set_cons_succ]
        refine Det.pure rfl rfl (st') (fun _ => rfl) ?_
        simp only [Act.put, List.setIfInBounds_toArray, List.set_cons_zero, List.set_cons_succ]
        refine Det.entry_store (x := .tmp 246) (y := .tmp 263) (z := .tmp 259) rfl rfl rfl rfl rfl rfl (fun w hw => ⟨w7, by rw [hw]; exact HES2.out, rfl⟩) ?_
        simp only [Act.put]
        refine Det.nil ?_
        intro w' hw'
        obtain rfl : w' = w7 := hw'
        go_wp2_with fail
        go_roundw
        case rel =>
          have h7 := RD7.out
          have hb : F[k].2.b.take n' = (hitF F[k].2 ((x.keep.drop k).headD 0)).b := by unfold hitF; rw [← HN2.out]
          have hs := sure_put HSUK.out (RDK.out.all.a.2 |> Ris.of_map (fun f : FileT => Value.string (bs f.b))) (valsG_ris RDK.out.all.s.2) F[k].1 (hitF F[k].2 ((x.keep.drop k).headD 0))
          have hn2 : (((hitF F[k].2 ((x.keep.drop k).headD 0)).sure : Nat) : Int) = n' := by unfold hitF; rw [← HN2.out]
          rw [hn2, ← HMIX.out] at hs
          rw [bs_list, hb, valsA_put, valsG_put, ← HMIX.out] at h7
          exact ⟨k + 1, by go_num, hkl, _, hide h7, hide hs, Nat.le_trans (len_le_put _ _ _ HGK.out) (by omega)⟩
        case measure => simp [intOf]; omega
    · obtain rfl : k = F.length := by omega
      go_wp2_with fail
      have h4 := RDK.out.all
      have h5 := HSUK.out
      rw [mix_all] at h4 h5
      exact HK.out _ _ da _ (fr_mk _ (by kernel_rfl)) rfl rfl rfl rfl (keeps_mk h4 h5 (by rw [crash_len]; have := HFL.out; omega) (by have := HGL.out; have := HGK.out; omega) (by have := HUS.out; have := used_crash x.keep F; omega))

end Go.Proofs.Yteflmockckmciaa
