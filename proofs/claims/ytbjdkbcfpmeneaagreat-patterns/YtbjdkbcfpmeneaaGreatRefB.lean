/- What is proved here: what cat of the document's reader does, if atom does what it should. -/
import Derived.Test.YtbjdkbcfpmeneaaGreatRows
import Derived.Test.YtbjdkbcfpmeneaaGreatRefA
import Derived.Test.YtbjdkbcfpmeneaaGreatRef4
namespace Go.Proofs.YtbjdkbcfpmeneaaGreat
set_option linter.unusedVariables false
set_option linter.unusedSimpArgs false
open Go.RowKit

/- What the loops of cat keep. -/
def CatR (R : PR Lang) (s : ByteArray) (n i r T : Nat) (nv : Value) (ns : List ND) (Ls : List Lang) (w w' : World) : Prop :=
  ∃ (pv : Value) (ps : List Nat) (nv' : Value) (ns' : List ND), Lo 99 T pv ps r nv nv' w w' ∧ ps.length ≤ 17 ∧
    ((∃ (L : Lang) (j m : Nat) (Lm : List Lang) (more : List ND), RSt w' s j 0 0 r nv' ns' ∧ ns' = ns ++ more ∧ Fresh w.heap.size more ∧ TrOk w' ns' (Ls ++ Lm) ∧ NP pv ns' ∧ i ≤ j ∧ j ≤ s.size ∧ 2 * (s.size - j) + 2 ≤ m ∧ m ≤ n ∧ R = pp s m 1 L j ∧
        (∀ p ∈ ps, p < ns'.length) ∧ L = catL (ps.map fun p => (Ls ++ Lm).getD p lNone) ∧ ns'.length ≤ ns.length + 2 * (j - i) ∧ ps.length ≤ j - i) ∨
     (∃ iv : Int, RSt w' s iv R.err R.pl r nv' ns' ∧ R.err ≠ 0 ∧ R.j = s.size ∧ ns'.length ≤ ns.length + 2 * (s.size - i)))
def RepR (Rr : PR Lang) (M : List Lang) (s : ByteArray) (r T j1 N1 : Nat) (pv : Value) (ps : List Nat) (nv : Value) (ns : List ND) (Ls : List Lang) (w : World) (kv : Value) (w' : World) : Prop :=
  ∃ (k j2 q : Nat) (L2 : Lang) (nv' : Value) (ns' : List ND) (Lm : List Lang) (more : List ND), kv = .int .i64 k ∧ Lo 99 T pv ps r nv nv' w w' ∧ RSt w' s j2 0 0 r nv' ns' ∧ ns' = ns ++ more ∧ Fresh w.heap.size more ∧ TrOk w' ns' (Ls ++ Lm) ∧ NP pv ns' ∧
    j1 ≤ j2 ∧ j2 ≤ s.size ∧ s.size - j2 < q ∧ Rr = pReps s q L2 j2 ∧ k < ns'.length ∧ (Ls ++ Lm).getD k lNone = L2 ∧ ns'.length ≤ N1 + (j2 - j1) ∧ (∀ p ∈ ps, p < ns'.length) ∧ (ps.map fun p => (Ls ++ Lm).getD p lNone) = M

def repMu (s : ByteArray) (r : Nat) (w' : World) : Nat := s.size - (intOf ((w'.cell? ⟨r, 1, none⟩).getD undef)).toNat
theorem repMu_run {s : ByteArray} {r : Nat} {w : World} {j : Nat} {e pl top : Int} {nv : Value} (h : w.heap[r]? = some (rrO s j e pl nv top)) : repMu s r w = s.size - j := by
  obtain ⟨_, c1, _⟩ := six h
  simp [repMu, c1, intOf]
theorem setMu_run' {s : ByteArray} {r : Nat} {w : World} {j : Nat} {nv : Value} {ns : List ND} (h : RSt w s j 0 0 r nv ns) : setMu s r w = s.size + 1 - j := setMu_run h.rd

theorem pReps_sign (s : ByteArray) (q : Nat) (L : Lang) (j : Nat) (kd : Nat) (hk : kd = 42 ∨ kd = 43 ∨ kd = 63) (hg : gt s j = kd) : pReps s (q + 1) L j = pReps s q (repL kd L) (j + 1) := by
  rw [pReps, hg]
  rcases hk with rfl | rfl | rfl <;> simp [repL]
theorem pReps_no (s : ByteArray) (q : Nat) (L : Lang) (j : Nat) (h1 : gt s j ≠ 42) (h2 : gt s j ≠ 43) (h3 : gt s j ≠ 63) : pReps s (q + 1) L j = good j L := by
  rw [pReps, if_neg h1, if_neg h2, if_neg h3]

set_option maxRecDepth 100000 in
set_option maxHeartbeats 8000000 in
theorem rcat_code (s : ByteArray) (n i r : Nat) (nv : Value) (ns : List ND) (Ls : List Lang) (w : World) (R : PR Lang) (hR : R = pp s n 1 lEps i) (h : RSt w s i 0 0 r nv ns) (t : TrOk w ns Ls) (hz : Nz s) (hs : s.size ≤ 16) (hi : i ≤ s.size) (hf : 2 * (s.size - i) + 2 ≤ n) (hn : ns.length + 2 * (s.size - i) ≤ 800)
    (hatom : ∀ m, m < n → ∀ (j : Nat) (nv' : Value) (ns' : List ND) (Ls' : List Lang) (w' : World), j < s.size → 2 * (s.size - j) + 1 ≤ m → gt s j ≠ 124 → gt s j ≠ 41 → i ≤ j → ns'.length ≤ ns.length + 2 * (j - i) → RSt w' s j 0 0 r nv' ns' → TrOk w' ns' Ls' → Calls Tryz.prog 50 #[.pointer (some ⟨r, 0, none⟩)] w' (RRP (pp s m 2 lEps j) 0 s j r nv' ns' Ls' w')) :
    Calls Tryz.prog 35 #[.pointer (some ⟨r, 0, none⟩)] w (RRP R 1 s i r nv ns Ls w) := by
  have HS := hide h
  have HT := hide t
  have HR := hide hR
  have HAT := hide hatom
  have HF := hide hf
  have hr := lt_of_block h.rd
  obtain ⟨i0, hi0, hz0, hz1, hz2⟩ := info_parts infoInt
  clear h t hR hatom hf
  go_enter Tryz.func35, Tryz.ntmps35
  go_upto_region 2 with fail
  have LW := hide (Lo.start 99 r nv w HS.out.lt)
  have SW := hide (HS.out.kp ((Kp.refl [] w).alloc (ndO 99 (.slice none 0 0))) (by simp))
  have TW := hide (HT.out.keep ((Kp.refl [] w).alloc (ndO 99 (.slice none 0 0))) (Far.nil _))
  generalize w.alloc (ndO 99 (.slice none 0 0)) = W at *
  generalize hTT : w.heap.size = T at *
  have HTT := hide hTT
  clear hTT
  go_wp2_with fail
  go_loopw [] (fun w' => CatR R s n i r T nv ns Ls w w') (fun w' => setMu s r w')
  case atStart =>
    refine ⟨_, [], nv, ns, LW.out, by simp, .inl ⟨lEps, i, n, [], [], SW.out, by simp, (fun _ h => by cases h), by simpa using TW.out, NP.nil _ _ _, Nat.le_refl _, hi, HF.out, Nat.le_refl _, HR.out, (fun _ h => by cases h), rfl, by omega, by simp⟩⟩
  case round =>
    obtain ⟨pv, ps, nv', ns', lo, hps, ⟨L, j, m, Lm, more, st, hmo, hfr, tr, np, hij, hj, hm, hmn, hR, hpl, hL, hlen, hpj⟩ | ⟨iv, st, he, hRj, hlen⟩⟩ := hrel
    · obtain ⟨m, rfl⟩ : ∃ m', m = m' + 1 := ⟨m - 1, by omega⟩
      have MU := hide (setMu_run' st)
      have LO := hide lo
      have ST := hide st
      have TR := hide tr
      have NPH := hide np
      have HMO := hide hmo
      have HFR := hide hfr
      have HPL := hide hpl
      have HL := hide hL
      have HRP := hide hR
      clear lo st tr np hmo hfr hpl hL hR
      go_wp2_with fail
      refine (rnext_any s j r 0 0 nv' _ (by exact ST.out.rd)).mono ?_
      rintro _ w1 ⟨rfl, n1, rfl⟩
      have LO1 : Hid (Lo 99 T pv ps r nv nv' w (wr.drewN n1)) := LO.out.drewN n1
      have ST1 : Hid (RSt (wr.drewN n1) s j 0 0 r nv' ns') := ST.out.kp ((Kp.refl [] wr).drewN n1) (by simp)
      have TR1 : Hid (TrOk (wr.drewN n1) ns' (Ls ++ Lm)) := TR.out.keep ((Kp.refl [] wr).drewN n1) (Far.nil _)
      generalize wr.drewN n1 = W1 at *
      by_cases hstop : gt s j = 0 ∨ gt s j = 124 ∨ gt s j = 41
      · have hRk : Hid (R = good j L) := by show _ = _; rw [HRP.out, pp_cat, if_pos hstop]
        have hx : ∃ g, gt s j = g ∧ (g = 0 ∨ g = 124 ∨ g = 41) := ⟨_, rfl, hstop⟩
        obtain ⟨nc0, nc1, nc2, nc3, _⟩ := four LO1.out.nd
        clear hstop
        obtain ⟨g, hg, hx⟩ := hx
        rw [hg]
        clear hg
        rcases hx with rfl | rfl | rfl
        all_goals
          go_wp2_with fail
          refine (radd_node s j 0 0 r nv' ns' 99 pv ps _ (by exact ST1.out) (by omega) (by exact LO1.out.own)).mono ?_
          rintro _ w2 ⟨rfl, nv2, s2, k2, fr2, t2, f2⟩
          have S2 := hide s2
          have K2 : Hid (Kp (rfoot r nv) w w2) := LO1.out.kp.trans k2 LO1.out.fr
          have F2 : Hid (∀ g ∈ rfoot r nv2, g ∈ rfoot r nv ∨ w.heap.size ≤ g) := fun g hg => by rcases fr2 g hg with e | e; exact LO1.out.fr g e; exact .inr (by have := LO1.out.kp.size; omega)
          have T2 := hide (t2 (Ls ++ Lm) L TR1.out HPL.out (.inl ⟨rfl, HL.out⟩))
          have FF : Hid (Fresh w.heap.size (more ++ [⟨99, .slice none 0 0, pv⟩])) := HFR.out.append (f2 _ (fun g hg => (own_block LO1.out.own hg).choose_spec.2))
          clear s2 k2 fr2 t2 f2
          go_wp2
          go_ret
          rw [hRk.out]
          exact ⟨ns'.length, _, nv2, _, rfl, S2.out, K2.out, F2.out, by simp [good]; omega, fun _ => ⟨rfl, Lm ++ [L], more ++ [⟨99, .slice none 0 0, pv⟩], by rw [HMO.out, List.append_assoc], FF.out, by rw [← List.append_assoc]; exact T2.out, by simp, by rw [← List.append_assoc]; exact getD_last _ _ _ TR1.out.len⟩⟩
      · have hnz : gt s j ≠ 0 := fun e => hstop (.inl e)
        have hn1 : gt s j ≠ 124 := fun e => hstop (.inr (.inl e))
        have hn2 : gt s j ≠ 41 := fun e => hstop (.inr (.inr e))
        have hjs : j < s.size := by have := hz j; omega
        have q0 : ((gt s j : Int) == 0) = false := by simp; omega
        have q1 : ((gt s j : Int) == 124) = false := by simp; omega
        have q2 : ((gt s j : Int) == 41) = false := by simp; omega
        have HRQ : Hid (R = if (pp s m 2 lEps j).err ≠ 0 then pp s m 2 lEps j else pp s m 1 (lCat L (pReps s 20 (pp s m 2 lEps j).v (pp s m 2 lEps j).j).v) (pReps s 20 (pp s m 2 lEps j).v (pp s m 2 lEps j).j).j) := by show _ = _; rw [HRP.out, pp_cat, if_neg hstop]
        have hA := (pp_shape s hz m).2.2 lEps j hjs
        have hcall := HAT.out m (by omega) j nv' ns' (Ls ++ Lm) W1 hjs (by omega) hn1 hn2 hij hlen ST1.out TR1.out
        generalize pp s m 2 lEps j = A at *
        have HCALL := hide hcall
        have SHA := hide hA
        clear hstop hcall hA hnz hn1 hn2
        go_wp2_with fail
        refine HCALL.out.mono ?_
        rintro _ w2 ⟨k, iv2, nv2, ns2, rfl, s2, k2, fr2, len2, ok2⟩
        have LO2 := hide (LO1.out.step ST1.out k2 fr2)
        have ST2 := hide s2
        have OK2 := hide ok2
        have pvlt := hide LO1.out.pvlt
        clear s2 k2 fr2 ok2 HCALL
        rcases SHA.out with ⟨a1, a2, a3, a4, a5⟩ | ⟨a1, a2⟩
        · obtain ⟨hiv, Lm2, more2, hmo2, hfr2, tr2, hk2, hv2⟩ := OK2.out a1
          have ST2' := ST2.out
          rw [a1, a2, hiv] at ST2'
          have ST3 := hide ST2'
          have NP2 : Hid (NP pv ns2) := by show NP pv ns2; rw [hmo2]; exact NPH.out.more hfr2 pvlt.out
          have FR2 : Hid (Fresh w.heap.size (more ++ more2)) := HFR.out.append (hfr2.mono LO1.out.kp.size)
          have MO2 : Hid (ns2 = ns ++ (more ++ more2)) := by show _ = _; rw [hmo2, HMO.out, List.append_assoc]
          have TR2 := hide tr2
          have HK2 := hide hk2
          have HV2 := hide hv2
          have a4' := a4 trivial
          have hl2 : ns'.length ≤ ns2.length := by rw [hmo2, List.length_append]; omega
          have PL2 : Hid (∀ p ∈ ps, p < ns2.length) := fun p hp => by have := HPL.out p hp; omega
          have MP2 : Hid ((ps.map fun p => (Ls ++ Lm ++ Lm2).getD p lNone) = ps.map fun p => (Ls ++ Lm).getD p lNone) := map_pre (fun p hp => by rw [TR1.out.len]; exact HPL.out p hp)
          have RSH := hide (pReps_shape s hz 20 A.v A.j a5)
          have HRQ2 : Hid (R = pp s m 1 (lCat L (pReps s 20 A.v A.j).v) (pReps s 20 A.v A.j).j) := by show _ = _; rw [HRQ.out, if_neg (by simp [a1])]
          generalize hRr : pReps s 20 A.v A.j = Rr at *
          have HRR := hide hRr
          generalize hM : (ps.map fun p => (Ls ++ Lm).getD p lNone) = M at *
          have HM := hide hM
          clear ST2' hmo2 hfr2 tr2 hk2 hv2 hRr hM HRQ OK2 hiv
          go_wp2_with fail
          go_loopw [5] (fun kv w' => RepR Rr M s r T A.j ns2.length pv ps nv ns Ls w kv w') (fun _ w' => repMu s r w')
          case atStart =>
            refine ⟨k, A.j, 20, A.v, nv2, ns2, Lm ++ Lm2, more ++ more2, rfl, LO2.out, ST3.out, MO2.out, FR2.out, by rw [← List.append_assoc]; exact TR2.out, NP2.out, Nat.le_refl _, a5, by omega, HRR.out.symm, HK2.out, by rw [← List.append_assoc]; exact HV2.out, by omega, PL2.out, by rw [← List.append_assoc]; exact MP2.out⟩
          case round =>
            obtain ⟨k4, j2, q, L2, nv4, ns4, Lm4, more4, rfl, lo4, st4, hmo4, hfr4, tr4, np4, hj4, hj5, hq, hrr4, hk4, hv4, hlen4, hpl4, hmp4⟩ := hrel
            obtain ⟨q, rfl⟩ : ∃ q', q = q' + 1 := ⟨q - 1, by omega⟩
            have LO4 := hide lo4
            have ST4 := hide st4
            have MO4 := hide hmo4
            have FR4 := hide hfr4
            have TR4 := hide tr4
            have NP4 := hide np4
            have RR4 := hide hrr4
            have HK4 := hide hk4
            have HV4 := hide hv4
            have PL4 := hide hpl4
            have MP4 := hide hmp4
            have MU4 : Hid (repMu s r wr = s.size - j2) := repMu_run st4.rd
            have hwj2 := wrap1 j2 (by omega)
            clear lo4 st4 hmo4 hfr4 tr4 np4 hrr4 hk4 hv4 hpl4 hmp4
            by_cases hsign : gt s j2 = 42 ∨ gt s j2 = 43 ∨ gt s j2 = 63
            · have hx : ∃ g, gt s j2 = g ∧ (g = 42 ∨ g = 43 ∨ g = 63) := ⟨_, rfl, hsign⟩
              have hj6 : j2 < s.size := by have := hz j2; omega
              obtain ⟨kd, hkd, hx⟩ := hx
              have RR5 : Hid (Rr = pReps s q (repL kd L2) (j2 + 1)) := by show _ = _; rw [RR4.out, pReps_sign s q L2 j2 kd hx hkd]
              have HKD := hide hkd
              have HX := hide hx
              clear hsign hkd
              rcases hx with rfl | rfl | rfl
              · have hgk : gt s j2 = 42 := HKD.out
                go_wp2_with fail
                refine (rnext_any s j2 r 0 0 nv4 _ (by exact ST4.out.rd)).mono ?_
                rw [hgk]
                rintro _ wz0 ⟨rfl, nz0, rfl⟩
                go_wp2_with fail
                refine (rnext_any s j2 r 0 0 nv4 _ (by exact ST4.out.rd)).mono ?_
                rw [hgk]
                rintro _ wz1 ⟨rfl, nz1, rfl⟩
                have kX : ∀ N, Kp [] wr ((wr.drewN N).alloc (.cells #[.int .i64 k4] 3)) := fun N => ((Kp.refl [] wr).drewN N).alloc _
                have LOX : Hid (∀ N, Lo 99 T pv ps r nv nv4 w ((wr.drewN N).alloc (.cells #[.int .i64 k4] 3))) := fun N => LO4.out.k0 ST4.out (kX N)
                have STX : Hid (∀ N, RSt ((wr.drewN N).alloc (.cells #[.int .i64 k4] 3)) s j2 0 0 r nv4 ns4) := fun N => ST4.out.kp (kX N) (by simp)
                have TRX : Hid (∀ N, TrOk ((wr.drewN N).alloc (.cells #[.int .i64 k4] 3)) ns4 (Ls ++ Lm4)) := fun N => TR4.out.keep (kX N) (Far.nil _)
                have BX : Hid (∀ N, ((wr.drewN N).alloc (.cells #[.int .i64 k4] 3)).heap[wr.heap.size]? = some (.cells #[.int .i64 k4] 3 (0, 0))) := fun N => by rw [blk_alloc]; exact if_pos rfl
                clear hgk kX
                go_wp2_with fail
                refine (radd_node s j2 0 0 r nv4 ns4 42 (.slice (some ⟨wr.heap.size, 0, none⟩) 1 1) [k4] _ (by exact STX.out _) (by omega) (by exact one_row (BX.out _))).mono ?_
                rintro _ w6 ⟨rfl, nv6, s6, k6, fr6, t6, f6⟩
                have LO6 := hide ((LOX.out _).step (STX.out _) k6 fr6)
                have ST6 := hide s6
                have TR6 := hide (t6 (Ls ++ Lm4) (repL 42 L2) (TRX.out _) (by intro p hp; simp at hp; subst hp; exact HK4.out) (.inr (.inr ⟨k4, rfl, by decide, by rw [HV4.out]⟩)))
                have hwr : w.heap.size ≤ wr.heap.size := LO4.out.kp.size
                have FR6 : Hid (Fresh w.heap.size (more4 ++ [⟨42, .slice none 0 0, .slice (some ⟨wr.heap.size, 0, none⟩) 1 1⟩])) := FR4.out.append (f6 _ (fun g hg => by simp [Value.ownBlock] at hg; omega))
                have NP6 : Hid (NP pv (ns4 ++ [⟨42, .slice none 0 0, .slice (some ⟨wr.heap.size, 0, none⟩) 1 1⟩])) := NP4.out.more (B := wr.heap.size) (f6 _ (fun g hg => by simp [Value.ownBlock] at hg; omega)) LO4.out.pvlt
                obtain ⟨z0, z1, z2, z3, z4, z5, y0, y1, y2, y3, y4, y5⟩ := six s6.rd
                clear s6 k6 fr6 t6 f6
                go_wp2
                refine ⟨⟨ns4.length, j2 + 1, q, repL 42 L2, nv6, _, Lm4 ++ [repL 42 L2], more4 ++ [⟨42, .slice none 0 0, .slice (some ⟨wr.heap.size, 0, none⟩) 1 1⟩], rfl, LO6.out.kr ST6.out ((Kp.refl [r] w6).set (.inl (by simp)) _ _), ST6.out.seti _, by rw [MO4.out, List.append_assoc], FR6.out, by rw [← List.append_assoc]; exact TR6.out.seti ST6.out _, NP6.out, by omega, by omega, by omega, RR5.out, by simp, by rw [← List.append_assoc]; exact getD_last _ _ _ TR4.out.len, by simp; omega, fun p hp => by have := PL4.out p hp; simp; omega, ?_⟩, ?_⟩
                · rw [← List.append_assoc, map_pre (fun p hp => by rw [TR4.out.len]; exact PL4.out p hp)]; exact MP4.out
                · have e6 : repMu s r (w6.setCell ⟨r, 1, none⟩ (.int .i64 ((j2 : Int) + 1))) = s.size - (j2 + 1) := repMu_run (j := j2 + 1) (ST6.out.seti _).rd
                  rw [MU4.out, e6]; omega
              · have hgk : gt s j2 = 43 := HKD.out
                go_wp2_with fail
                refine (rnext_any s j2 r 0 0 nv4 _ (by exact ST4.out.rd)).mono ?_
                rw [hgk]
                rintro _ wz0 ⟨rfl, nz0, rfl⟩
                go_wp2_with fail
                refine (rnext_any s j2 r 0 0 nv4 _ (by exact ST4.out.rd)).mono ?_
                rw [hgk]
                rintro _ wz1 ⟨rfl, nz1, rfl⟩
                go_wp2_with fail
                refine (rnext_any s j2 r 0 0 nv4 _ (by exact ST4.out.rd)).mono ?_
                rw [hgk]
                rintro _ wz2 ⟨rfl, nz2, rfl⟩
                have kX : ∀ N, Kp [] wr ((wr.drewN N).alloc (.cells #[.int .i64 k4] 3)) := fun N => ((Kp.refl [] wr).drewN N).alloc _
                have LOX : Hid (∀ N, Lo 99 T pv ps r nv nv4 w ((wr.drewN N).alloc (.cells #[.int .i64 k4] 3))) := fun N => LO4.out.k0 ST4.out (kX N)
                have STX : Hid (∀ N, RSt ((wr.drewN N).alloc (.cells #[.int .i64 k4] 3)) s j2 0 0 r nv4 ns4) := fun N => ST4.out.kp (kX N) (by simp)
                have TRX : Hid (∀ N, TrOk ((wr.drewN N).alloc (.cells #[.int .i64 k4] 3)) ns4 (Ls ++ Lm4)) := fun N => TR4.out.keep (kX N) (Far.nil _)
                have BX : Hid (∀ N, ((wr.drewN N).alloc (.cells #[.int .i64 k4] 3)).heap[wr.heap.size]? = some (.cells #[.int .i64 k4] 3 (0, 0))) := fun N => by rw [blk_alloc]; exact if_pos rfl
                clear hgk kX
                go_wp2_with fail
                refine (radd_node s j2 0 0 r nv4 ns4 43 (.slice (some ⟨wr.heap.size, 0, none⟩) 1 1) [k4] _ (by exact STX.out _) (by omega) (by exact one_row (BX.out _))).mono ?_
                rintro _ w6 ⟨rfl, nv6, s6, k6, fr6, t6, f6⟩
                have LO6 := hide ((LOX.out _).step (STX.out _) k6 fr6)
                have ST6 := hide s6
                have TR6 := hide (t6 (Ls ++ Lm4) (repL 43 L2) (TRX.out _) (by intro p hp; simp at hp; subst hp; exact HK4.out) (.inr (.inr ⟨k4, rfl, by decide, by rw [HV4.out]⟩)))
                have hwr : w.heap.size ≤ wr.heap.size := LO4.out.kp.size
                have FR6 : Hid (Fresh w.heap.size (more4 ++ [⟨43, .slice none 0 0, .slice (some ⟨wr.heap.size, 0, none⟩) 1 1⟩])) := FR4.out.append (f6 _ (fun g hg => by simp [Value.ownBlock] at hg; omega))
                have NP6 : Hid (NP pv (ns4 ++ [⟨43, .slice none 0 0, .slice (some ⟨wr.heap.size, 0, none⟩) 1 1⟩])) := NP4.out.more (B := wr.heap.size) (f6 _ (fun g hg => by simp [Value.ownBlock] at hg; omega)) LO4.out.pvlt
                obtain ⟨z0, z1, z2, z3, z4, z5, y0, y1, y2, y3, y4, y5⟩ := six s6.rd
                clear s6 k6 fr6 t6 f6
                go_wp2
                refine ⟨⟨ns4.length, j2 + 1, q, repL 43 L2, nv6, _, Lm4 ++ [repL 43 L2], more4 ++ [⟨43, .slice none 0 0, .slice (some ⟨wr.heap.size, 0, none⟩) 1 1⟩], rfl, LO6.out.kr ST6.out ((Kp.refl [r] w6).set (.inl (by simp)) _ _), ST6.out.seti _, by rw [MO4.out, List.append_assoc], FR6.out, by rw [← List.append_assoc]; exact TR6.out.seti ST6.out _, NP6.out, by omega, by omega, by omega, RR5.out, by simp, by rw [← List.append_assoc]; exact getD_last _ _ _ TR4.out.len, by simp; omega, fun p hp => by have := PL4.out p hp; simp; omega, ?_⟩, ?_⟩
                · rw [← List.append_assoc, map_pre (fun p hp => by rw [TR4.out.len]; exact PL4.out p hp)]; exact MP4.out
                · have e6 : repMu s r (w6.setCell ⟨r, 1, none⟩ (.int .i64 ((j2 : Int) + 1))) = s.size - (j2 + 1) := repMu_run (j := j2 + 1) (ST6.out.seti _).rd
                  rw [MU4.out, e6]; omega
              · have hgk : gt s j2 = 63 := HKD.out
                go_wp2_with fail
                refine (rnext_any s j2 r 0 0 nv4 _ (by exact ST4.out.rd)).mono ?_
                rw [hgk]
                rintro _ wz0 ⟨rfl, nz0, rfl⟩
                go_wp2_with fail
                refine (rnext_any s j2 r 0 0 nv4 _ (by exact ST4.out.rd)).mono ?_
                rw [hgk]
                rintro _ wz1 ⟨rfl, nz1, rfl⟩
                go_wp2_with fail
                refine (rnext_any s j2 r 0 0 nv4 _ (by exact ST4.out.rd)).mono ?_
                rw [hgk]
                rintro _ wz2 ⟨rfl, nz2, rfl⟩
                go_wp2_with fail
                refine (rnext_any s j2 r 0 0 nv4 _ (by exact ST4.out.rd)).mono ?_
                rw [hgk]
                rintro _ wz3 ⟨rfl, nz3, rfl⟩
                have kX : ∀ N, Kp [] wr ((wr.drewN N).alloc (.cells #[.int .i64 k4] 3)) := fun N => ((Kp.refl [] wr).drewN N).alloc _
                have LOX : Hid (∀ N, Lo 99 T pv ps r nv nv4 w ((wr.drewN N).alloc (.cells #[.int .i64 k4] 3))) := fun N => LO4.out.k0 ST4.out (kX N)
                have STX : Hid (∀ N, RSt ((wr.drewN N).alloc (.cells #[.int .i64 k4] 3)) s j2 0 0 r nv4 ns4) := fun N => ST4.out.kp (kX N) (by simp)
                have TRX : Hid (∀ N, TrOk ((wr.drewN N).alloc (.cells #[.int .i64 k4] 3)) ns4 (Ls ++ Lm4)) := fun N => TR4.out.keep (kX N) (Far.nil _)
                have BX : Hid (∀ N, ((wr.drewN N).alloc (.cells #[.int .i64 k4] 3)).heap[wr.heap.size]? = some (.cells #[.int .i64 k4] 3 (0, 0))) := fun N => by rw [blk_alloc]; exact if_pos rfl
                clear hgk kX
                go_wp2_with fail
                refine (radd_node s j2 0 0 r nv4 ns4 63 (.slice (some ⟨wr.heap.size, 0, none⟩) 1 1) [k4] _ (by exact STX.out _) (by omega) (by exact one_row (BX.out _))).mono ?_
                rintro _ w6 ⟨rfl, nv6, s6, k6, fr6, t6, f6⟩
                have LO6 := hide ((LOX.out _).step (STX.out _) k6 fr6)
                have ST6 := hide s6
                have TR6 := hide (t6 (Ls ++ Lm4) (repL 63 L2) (TRX.out _) (by intro p hp; simp at hp; subst hp; exact HK4.out) (.inr (.inr ⟨k4, rfl, by decide, by rw [HV4.out]⟩)))
                have hwr : w.heap.size ≤ wr.heap.size := LO4.out.kp.size
                have FR6 : Hid (Fresh w.heap.size (more4 ++ [⟨63, .slice none 0 0, .slice (some ⟨wr.heap.size, 0, none⟩) 1 1⟩])) := FR4.out.append (f6 _ (fun g hg => by simp [Value.ownBlock] at hg; omega))
                have NP6 : Hid (NP pv (ns4 ++ [⟨63, .slice none 0 0, .slice (some ⟨wr.heap.size, 0, none⟩) 1 1⟩])) := NP4.out.more (B := wr.heap.size) (f6 _ (fun g hg => by simp [Value.ownBlock] at hg; omega)) LO4.out.pvlt
                obtain ⟨z0, z1, z2, z3, z4, z5, y0, y1, y2, y3, y4, y5⟩ := six s6.rd
                clear s6 k6 fr6 t6 f6
                go_wp2
                refine ⟨⟨ns4.length, j2 + 1, q, repL 63 L2, nv6, _, Lm4 ++ [repL 63 L2], more4 ++ [⟨63, .slice none 0 0, .slice (some ⟨wr.heap.size, 0, none⟩) 1 1⟩], rfl, LO6.out.kr ST6.out ((Kp.refl [r] w6).set (.inl (by simp)) _ _), ST6.out.seti _, by rw [MO4.out, List.append_assoc], FR6.out, by rw [← List.append_assoc]; exact TR6.out.seti ST6.out _, NP6.out, by omega, by omega, by omega, RR5.out, by simp, by rw [← List.append_assoc]; exact getD_last _ _ _ TR4.out.len, by simp; omega, fun p hp => by have := PL4.out p hp; simp; omega, ?_⟩, ?_⟩
                · rw [← List.append_assoc, map_pre (fun p hp => by rw [TR4.out.len]; exact PL4.out p hp)]; exact MP4.out
                · have e6 : repMu s r (w6.setCell ⟨r, 1, none⟩ (.int .i64 ((j2 : Int) + 1))) = s.size - (j2 + 1) := repMu_run (j := j2 + 1) (ST6.out.seti _).rd
                  rw [MU4.out, e6]; omega
            · have hx1 : gt s j2 ≠ 42 := fun e => hsign (.inl e)
              have hx2 : gt s j2 ≠ 43 := fun e => hsign (.inr (.inl e))
              have hx3 : gt s j2 ≠ 63 := fun e => hsign (.inr (.inr e))
              have p1 : ((gt s j2 : Int) == 42) = false := by simp; omega
              have p2 : ((gt s j2 : Int) == 43) = false := by simp; omega
              have p3 : ((gt s j2 : Int) == 63) = false := by simp; omega
              have hRg : Rr = good j2 L2 := by rw [RR4.out, pReps_no s q L2 j2 hx1 hx2 hx3]
              have HRG := hide hRg
              clear hsign hx1 hx2 hx3 hRg
              go_wp2_with fail
              refine (rnext_any s j2 r 0 0 nv4 _ (by exact ST4.out.rd)).mono ?_
              rintro _ wa ⟨rfl, na, rfl⟩
              go_wp2_with fail
              refine (rnext_any s j2 r 0 0 nv4 _ (by exact ST4.out.rd)).mono ?_
              rintro _ wb ⟨rfl, nb, rfl⟩
              go_wp2_with fail
              refine (rnext_any s j2 r 0 0 nv4 _ (by exact ST4.out.rd)).mono ?_
              rintro _ wc ⟨rfl, nc, rfl⟩
              simp only [World.drewN_drewN]
              generalize na + nb + nc = N
              have LOX : Hid (Lo 99 T pv ps r nv nv4 w (wr.drewN N)) := LO4.out.drewN N
              have kX : Kp [] wr (wr.drewN N) := (Kp.refl [] wr).drewN N
              have STX : Hid (RSt (wr.drewN N) s j2 0 0 r nv4 ns4) := ST4.out.kp kX (by simp)
              have TRX : Hid (TrOk (wr.drewN N) ns4 (Ls ++ Lm4)) := TR4.out.keep kX (Far.nil _)
              generalize wr.drewN N = WX at *
              obtain ⟨nc0, nc1, nc2, nc3, _⟩ := four LOX.out.nd
              clear kX
              go_wp2_with (at_builtin; go_must (refine wpList_append_lies _ rfl _ _ _ rfl w.heap.size 3 i0 _ 1 8 Tryz.underlying61 hi0 hz0 hz1 hz2 rfl (by omega) pv ps.length (intsL ps) rfl (by exact LOX.out.own.alloc _) ⟨WX.heap.size, 0, none⟩ 1 1 [.int .i64 k4] rfl rfl (World.news_of_block (cs := #[.int .i64 k4]) (t := 3) (fr := (0, 0)) (by rw [blk_alloc, if_pos rfl])) (by simp [Value.oneCell']) (by omega) (by unfold maxLen; omega) (by omega) (by rw [size_alloc]; have := LOX.out.kp.size; omega) (WX.heap.size + 1) (by simp) ?_); intro g9 cap9 w9 own9 grow9 at9 lt9; have ap9 := LOX.out.app STX.out own9 grow9 at9; have nd9 : w9.heap[T]? = some (ndO 99 pv) := gkeep grow9 (by rw [blk_alloc, if_neg (Nat.ne_of_lt (lt_of_block LOX.out.nd))]; exact LOX.out.nd) (fun e => by obtain ⟨c, hc, _⟩ := own_block LOX.out.own e; rw [LOX.out.nd] at hc; simp only [Option.some.injEq, Obj.cells.injEq] at hc; exact absurd hc.2.1 (by decide)); obtain ⟨_, _, nx2, _, _, _, nf2, _⟩ := four nd9; have AP9 := hide ap9; clear ap9 nd9 own9 grow9 at9 lt9)
              go_wp2
              obtain ⟨b1, b2, b3, b4⟩ := AP9.out
              have b3' := b3 _ TRX.out NP4.out
              refine ⟨⟨_, ps ++ [k4], nv4, ns4, b1, by simp; omega, .inl ⟨lCat L L2, j2, m, Lm4, more4, b2, MO4.out, FR4.out, b3', b4 NP4.out TRX.out.plt, by omega, hj5, by omega, by omega, by rw [HRQ2.out, HRG.out]; rfl, ?_, ?_, by have := len2; omega, by simp; omega⟩⟩, ?_⟩
              · intro p hp
                rcases List.mem_append.1 hp with hp | hp
                · exact PL4.out p hp
                · simp at hp; subst hp; exact HK4.out
              · rw [List.map_append, MP4.out, List.map_cons, List.map_nil, HV4.out, catL_snoc, ← HL.out]
              · rw [MU.out, setMu_run' b2]; omega
        · have HE := hide a1
          have hRA : R = A := by rw [HRQ.out, if_pos a1]
          subst hRA
          clear a1 HRQ
          go_wp2_with fail
          go_loopw [5] (fun kv w' => kv = .int .i64 k ∧ w' = w2) (fun _ _ => 0)
          case atStart => exact ⟨rfl, rfl⟩
          case round =>
            obtain ⟨rfl, rfl⟩ := hrel
            go_wp2_with fail
            refine (rnext_bad s iv2 r R.err R.pl 0 nv2 _ (by exact ST2.out.rd) HE.out).mono ?_
            rintro _ wa ⟨rfl, na, rfl⟩
            go_wp2_with fail
            refine (rnext_bad s iv2 r R.err R.pl 0 nv2 _ (by exact ST2.out.rd) HE.out).mono ?_
            rintro _ wb ⟨rfl, nb, rfl⟩
            go_wp2_with fail
            refine (rnext_bad s iv2 r R.err R.pl 0 nv2 _ (by exact ST2.out.rd) HE.out).mono ?_
            rintro _ wc ⟨rfl, nc, rfl⟩
            simp only [World.drewN_drewN]
            generalize na + nb + nc = N
            have LOX : Hid (Lo 99 T pv ps r nv nv2 w (wr.drewN N)) := LO2.out.drewN N
            have STX : Hid (RSt (wr.drewN N) s iv2 R.err R.pl r nv2 ns2) := ST2.out.kp ((Kp.refl [] wr).drewN N) (by simp)
            generalize wr.drewN N = WX at *
            obtain ⟨nc0, nc1, nc2, nc3, _⟩ := four LOX.out.nd
            go_wp2_with (at_builtin; go_must (refine wpList_append_lies _ rfl _ _ _ rfl w.heap.size 3 i0 _ 1 8 Tryz.underlying61 hi0 hz0 hz1 hz2 rfl (by omega) pv ps.length (intsL ps) rfl (by exact LOX.out.own.alloc _) ⟨WX.heap.size, 0, none⟩ 1 1 [.int .i64 k] rfl rfl (World.news_of_block (cs := #[.int .i64 k]) (t := 3) (fr := (0, 0)) (by rw [blk_alloc, if_pos rfl])) (by simp [Value.oneCell']) (by omega) (by unfold maxLen; omega) (by omega) (by rw [size_alloc]; have := LOX.out.kp.size; omega) (WX.heap.size + 1) (by simp) ?_); intro g9 cap9 w9 own9 grow9 at9 lt9; have ap9 := LOX.out.app STX.out own9 grow9 at9; have nd9 : w9.heap[T]? = some (ndO 99 pv) := gkeep grow9 (by rw [blk_alloc, if_neg (Nat.ne_of_lt (lt_of_block LOX.out.nd))]; exact LOX.out.nd) (fun e => by obtain ⟨c, hc, _⟩ := own_block LOX.out.own e; rw [LOX.out.nd] at hc; simp only [Option.some.injEq, Obj.cells.injEq] at hc; exact absurd hc.2.1 (by decide)); obtain ⟨_, _, nx2, _, _, _, nf2, _⟩ := four nd9; have AP9 := hide ap9; clear ap9 nd9 own9 grow9 at9 lt9)
            go_wp2
            obtain ⟨b1, b2, _, _⟩ := AP9.out
            refine ⟨⟨_, ps ++ [k], nv2, ns2, b1, by simp; omega, .inr ⟨iv2, b2, HE.out, a2, by have := len2; omega⟩⟩, ?_⟩
            rw [MU.out, setMu_bad b2.rd HE.out]; omega
    · have LO := hide lo
      have ST := hide st
      have HE := hide he
      clear lo st he
      go_wp2_with fail
      refine (rnext_bad s iv r R.err R.pl 0 nv' _ (by exact ST.out.rd) HE.out).mono ?_
      rintro _ w1 ⟨rfl, n1, rfl⟩
      have LO1 : Hid (Lo 99 T pv ps r nv nv' w (wr.drewN n1)) := LO.out.drewN n1
      have ST1 : Hid (RSt (wr.drewN n1) s iv R.err R.pl r nv' ns') := ST.out.kp ((Kp.refl [] wr).drewN n1) (by simp)
      generalize wr.drewN n1 = W1 at *
      obtain ⟨nc0, nc1, nc2, nc3, _⟩ := four LO1.out.nd
      go_wp2_with fail
      refine (radd_node s iv R.err R.pl r nv' ns' 99 pv ps _ (by exact ST1.out) (by omega) (by exact LO1.out.own)).mono ?_
      rintro _ w2 ⟨rfl, nv2, s2, k2, fr2, _, _⟩
      have S2 := hide s2
      have K2 : Hid (Kp (rfoot r nv) w w2) := LO1.out.kp.trans k2 LO1.out.fr
      have F2 : Hid (∀ g ∈ rfoot r nv2, g ∈ rfoot r nv ∨ w.heap.size ≤ g) := fun g hg => by rcases fr2 g hg with e | e; exact LO1.out.fr g e; exact .inr (by have := LO1.out.kp.size; omega)
      clear s2 k2 fr2
      go_wp2
      go_ret
      exact ⟨ns'.length, _, nv2, _, rfl, S2.out, K2.out, F2.out, by simp; omega, fun e => absurd e HE.out⟩
end Go.Proofs.YtbjdkbcfpmeneaaGreat
