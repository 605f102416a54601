/- What is proved here: what alt of the document's reader does, if cat does what it should. -/
import Derived.Test.YtbjdkbcfpmeneaaGreatRows
import Derived.Test.YtbjdkbcfpmeneaaGreatRefB
namespace Go.Proofs.YtbjdkbcfpmeneaaGreat
set_option linter.unusedVariables false
set_option linter.unusedSimpArgs false
open Go.RowKit

/- What the loop of alt keeps. -/
def AltR (R : PR Lang) (s : ByteArray) (n i r T : Nat) (nv : Value) (ns : List ND) (Ls : List Lang) (w w' : World) : Prop :=
  ∃ (pv : Value) (ps : List Nat) (nv' : Value) (ns' : List ND), Lo 97 T pv ps r nv nv' w w' ∧ ps.length ≤ 18 ∧ ps ≠ [] ∧
    ((∃ (L : Lang) (j m : Nat) (Lm : List Lang) (more : List ND), RSt w' s j 0 0 r nv' ns' ∧ ns' = ns ++ more ∧ Fresh w.heap.size more ∧ TrOk w' ns' (Ls ++ Lm) ∧ NP pv ns' ∧ i ≤ j ∧ j ≤ s.size ∧ 2 * (s.size - j) + 2 ≤ m ∧ m ≤ n ∧ R = pp s m 0 L j ∧
        (∀ p ∈ ps, p < ns'.length) ∧ L = altL (ps.map fun p => (Ls ++ Lm).getD p lNone) ∧ ns'.length ≤ ns.length + 2 * (j - i) + 1 ∧ ps.length ≤ j - i + 1) ∨
     (∃ iv : Int, RSt w' s iv R.err R.pl r nv' ns' ∧ R.err ≠ 0 ∧ R.j = s.size ∧ ns'.length ≤ ns.length + 2 * (s.size - i) + 1))

set_option maxRecDepth 100000 in
set_option maxHeartbeats 8000000 in
theorem ralt_code (s : ByteArray) (n i r : Nat) (nv : Value) (ns : List ND) (Ls : List Lang) (w : World) (R : PR Lang) (hR : R = aR s n i) (h : RSt w s i 0 0 r nv ns) (t : TrOk w ns Ls) (hz : Nz s) (hs : s.size ≤ 16) (hi : i ≤ s.size) (hf : 2 * (s.size - i) + 2 ≤ n) (hn : ns.length + 2 * (s.size - i) ≤ 800)
    (hcat : ∀ m, m ≤ n → ∀ (j : Nat) (nv' : Value) (ns' : List ND) (Ls' : List Lang) (w' : World), j ≤ s.size → 2 * (s.size - j) + 2 ≤ m → i ≤ j → ns'.length ≤ ns.length + 2 * (j - i) → RSt w' s j 0 0 r nv' ns' → TrOk w' ns' Ls' → Calls Tryz.prog 35 #[.pointer (some ⟨r, 0, none⟩)] w' (RRP (pp s m 1 lEps j) 1 s j r nv' ns' Ls' w')) :
    Calls Tryz.prog 21 #[.pointer (some ⟨r, 0, none⟩)] w (RRP R 2 s i r nv ns Ls w) := by
  have HS := hide h
  have HT := hide t
  have HCA := hide hcat
  have HF := hide hf
  have hr := lt_of_block h.rd
  have HR : Hid (R = if (pp s n 1 lEps i).err ≠ 0 then pp s n 1 lEps i else pp s n 0 (pp s n 1 lEps i).v (pp s n 1 lEps i).j) := hR
  obtain ⟨i0, hi0, hz0, hz1, hz2⟩ := info_parts infoInt
  clear h t hR hcat hf
  go_enter Tryz.func21, Tryz.ntmps21
  go_upto_region 2 with fail
  have LW := hide (Lo.start 97 r nv w HS.out.lt)
  have SW := hide (HS.out.kp ((Kp.refl [] w).alloc (ndO 97 (.slice none 0 0))) (by simp))
  have TW := hide (HT.out.keep ((Kp.refl [] w).alloc (ndO 97 (.slice none 0 0))) (Far.nil _))
  generalize w.alloc (ndO 97 (.slice none 0 0)) = W at *
  generalize hTT : w.heap.size = T at *
  clear hTT
  have hA := (pp_shape s hz n).2.1 lEps i hi
  have hcall := HCA.out n (Nat.le_refl _) i nv ns Ls W hi HF.out (Nat.le_refl _) (by omega) SW.out TW.out
  generalize pp s n 1 lEps i = A at *
  have HCALL := hide hcall
  have SHA := hide hA
  clear hcall hA
  go_wp2_with fail
  refine HCALL.out.mono ?_
  rintro _ WX ⟨k, iv2, nv2, ns2, rfl, s2, k2, fr2, len2, ok2⟩
  have LOX := hide (LW.out.step SW.out k2 fr2)
  have STX := hide s2
  have OK2 := hide ok2
  have szW := hide LW.out.kp.size
  obtain ⟨nc0, nc1, nc2, nc3, _⟩ := four LOX.out.nd
  generalize hpv : Value.slice none 0 0 = pv at LOX nc2
  generalize hps : ([] : List Nat) = ps at LOX
  have HPV := hide hpv
  have HPS := hide hps
  have hpl0 : ps.length = 0 := by rw [← hps]; rfl
  clear s2 k2 fr2 ok2 HCALL hpv hps
  go_wp2_with (at_builtin; go_must (refine wpList_append_lies _ rfl _ _ _ rfl w.heap.size 3 i0 _ 1 8 Tryz.underlying61 hi0 hz0 hz1 hz2 rfl (by omega) pv ps.length (intsL ps) rfl (by exact LOX.out.own.alloc _) ⟨WX.heap.size, 0, none⟩ 1 1 [.int .i64 k] rfl rfl (World.news_of_block (cs := #[.int .i64 k]) (t := 3) (fr := (0, 0)) (by rw [blk_alloc, if_pos rfl])) (by simp [Value.oneCell']) (by omega) (by unfold maxLen; omega) (by omega) (by rw [size_alloc]; have := LOX.out.kp.size; omega) (WX.heap.size + 1) (by simp) ?_); intro g9 cap9 w9 own9 grow9 at9 lt9; have ap9 := LOX.out.app STX.out own9 grow9 at9; have nd9 : w9.heap[T]? = some (ndO 97 pv) := gkeep grow9 (by rw [blk_alloc, if_neg (Nat.ne_of_lt (lt_of_block LOX.out.nd))]; exact LOX.out.nd) (fun e => by obtain ⟨c, hc, _⟩ := own_block LOX.out.own e; rw [LOX.out.nd] at hc; simp only [Option.some.injEq, Obj.cells.injEq] at hc; exact absurd hc.2.1 (by decide)); obtain ⟨_, _, nx2, _, _, _, nf2, _⟩ := four nd9; have AP9 := hide ap9; clear ap9 nd9 own9 grow9 at9 lt9)
  go_wp2_with fail
  go_loopw [] (fun w' => AltR R s n i r T nv ns Ls w w') (fun w' => setMu s r w')
  case atStart =>
    have ap := AP9.out
    simp only [hpl0, Nat.zero_add] at ap
    obtain ⟨b1, b2, b3, b4⟩ := ap
    rcases SHA.out with ⟨a1, a2, a3, _, a5⟩ | ⟨a1, a2⟩
    · obtain ⟨hiv, Lm2, more2, hmo2, hfr2, tr2, hk2, hv2⟩ := OK2.out a1
      rw [a1, a2, hiv] at b2
      have np : NP pv ns2 := by rw [← HPV.out]; exact NP.nil _ _ _
      have b3' := b3 _ tr2 np
      refine ⟨_, ps ++ [k], nv2, ns2, b1, by simp; omega, by simp, .inl ⟨A.v, A.j, n, Lm2, more2, b2, hmo2, hfr2.mono szW.out, b3', b4 np tr2.plt, a3, a5, by have := HF.out; omega, Nat.le_refl _, by rw [HR.out, if_neg (by simp [a1])], ?_, ?_, by omega, by simp; omega⟩⟩
      · rw [← HPS.out]; intro p hp; simp at hp; subst hp; exact hk2
      · rw [← HPS.out]; simp only [List.nil_append, List.map_cons, List.map_nil]; rw [hv2]; rfl
    · have hRA : R = A := by rw [HR.out, if_pos a1]
      rw [hRA]
      exact ⟨_, ps ++ [k], nv2, ns2, b1, by simp; omega, by simp, .inr ⟨iv2, b2, a1, a2, by omega⟩⟩
  case round =>
    clear LOX STX AP9 OK2 HPV HPS hpl0 nc0 nc1 nc2 nc3 nx2 nf2 LW SW TW len2 HR SHA szW
    obtain ⟨pv, ps, nv', ns', lo, hps, hne, ⟨L, j, m, Lm, more, st, hmo, hfr, tr, np, hij, hj, hm, hmn, hR, hpl, hL, hlen, hpj⟩ | ⟨iv, st, he, hRj, hlen⟩⟩ := hrel
    · obtain ⟨m, rfl⟩ : ∃ m', m = m' + 1 := ⟨m - 1, by omega⟩
      have MU := hide (setMu_run' st)
      have LO := hide lo
      have ST := hide st
      have TR := hide tr
      have NPH := hide np
      have HMO := hide hmo
      have HFR := hide hfr
      have HPL := hide hpl
      have HL := hide hL
      have HRP := hide hR
      have hwj := wrap1 j (by omega)
      clear lo st tr np hmo hfr hpl hL hR
      go_wp2_with fail
      refine (rnext_any s j r 0 0 nv' _ (by exact ST.out.rd)).mono ?_
      rintro _ w1 ⟨rfl, n1, rfl⟩
      have LO1 : Hid (Lo 97 T pv ps r nv nv' w (wr.drewN n1)) := LO.out.drewN n1
      have ST1 : Hid (RSt (wr.drewN n1) s j 0 0 r nv' ns') := ST.out.kp ((Kp.refl [] wr).drewN n1) (by simp)
      have TR1 : Hid (TrOk (wr.drewN n1) ns' (Ls ++ Lm)) := TR.out.keep ((Kp.refl [] wr).drewN n1) (Far.nil _)
      generalize wr.drewN n1 = W1 at *
      obtain ⟨z0, z1, z2, z3, z4, z5, y0, y1, y2, y3, y4, y5⟩ := six ST1.out.rd
      by_cases hg : gt s j = 124
      · rw [hg]
        have hjs : j < s.size := by have := hz j; omega
        have HRQ : Hid (R = if (pp s m 1 lEps (j + 1)).err ≠ 0 then pp s m 1 lEps (j + 1) else pp s m 0 (lAlt L (pp s m 1 lEps (j + 1)).v) (pp s m 1 lEps (j + 1)).j) := by show _ = _; rw [HRP.out, pp_alt, if_pos hg]
        have ST2 : Hid (RSt (W1.setCell ⟨r, 1, none⟩ (.int .i64 (j + 1 : Nat))) s (j + 1 : Nat) 0 0 r nv' ns') := ST1.out.seti _
        have LO2 : Hid (Lo 97 T pv ps r nv nv' w (W1.setCell ⟨r, 1, none⟩ (.int .i64 (j + 1 : Nat)))) := LO1.out.kr ST1.out ((Kp.refl [r] W1).set (.inl (by simp)) _ _)
        have TR2 : Hid (TrOk (W1.setCell ⟨r, 1, none⟩ (.int .i64 (j + 1 : Nat))) ns' (Ls ++ Lm)) := TR1.out.seti ST1.out _
        have hA := (pp_shape s hz m).2.1 lEps (j + 1) hjs
        have hcall := HCA.out m (by omega) (j + 1) nv' ns' (Ls ++ Lm) _ hjs (by omega) (by omega) (by omega) ST2.out TR2.out
        generalize pp s m 1 lEps (j + 1) = A at *
        have HCALL := hide hcall
        have SHA := hide hA
        have pvlt := hide LO2.out.pvlt
        clear hcall hA hg
        go_wp2_with fail
        refine Calls.mono HCALL.out ?_
        rintro _ WX ⟨k, iv2, nv2, ns2, rfl, s2, k2, fr2, len2, ok2⟩
        have LOX := hide (LO2.out.step ST2.out k2 fr2)
        have STX := hide s2
        have OK2 := hide ok2
        have szW := hide LO2.out.kp.size
        obtain ⟨nc0, nc1, nc2, nc3, _⟩ := four LOX.out.nd
        clear s2 k2 fr2 ok2 HCALL z0 z1 z2 z3 z4 z5 y0 y1 y2 y3 y4 y5
        go_wp2_with (at_builtin; go_must (refine wpList_append_lies _ rfl _ _ _ rfl w.heap.size 3 i0 _ 1 8 Tryz.underlying61 hi0 hz0 hz1 hz2 rfl (by omega) pv ps.length (intsL ps) rfl (by exact LOX.out.own.alloc _) ⟨WX.heap.size, 0, none⟩ 1 1 [.int .i64 k] rfl rfl (World.news_of_block (cs := #[.int .i64 k]) (t := 3) (fr := (0, 0)) (by rw [blk_alloc, if_pos rfl])) (by simp [Value.oneCell']) (by omega) (by unfold maxLen; omega) (by omega) (by rw [size_alloc]; have := LOX.out.kp.size; omega) (WX.heap.size + 1) (by simp) ?_); intro g9 cap9 w9 own9 grow9 at9 lt9; have ap9 := LOX.out.app STX.out own9 grow9 at9; have nd9 : w9.heap[T]? = some (ndO 97 pv) := gkeep grow9 (by rw [blk_alloc, if_neg (Nat.ne_of_lt (lt_of_block LOX.out.nd))]; exact LOX.out.nd) (fun e => by obtain ⟨c, hc, _⟩ := own_block LOX.out.own e; rw [LOX.out.nd] at hc; simp only [Option.some.injEq, Obj.cells.injEq] at hc; exact absurd hc.2.1 (by decide)); obtain ⟨_, _, nx2, _, _, _, nf2, _⟩ := four nd9; have AP9 := hide ap9; clear ap9 nd9 own9 grow9 at9 lt9)
        go_wp2
        obtain ⟨b1, b2, b3, b4⟩ := AP9.out
        rcases SHA.out with ⟨a1, a2, a3, _, a5⟩ | ⟨a1, a2⟩
        · obtain ⟨hiv, Lm2, more2, hmo2, hfr2, tr2, hk2, hv2⟩ := OK2.out a1
          rw [a1, a2, hiv] at b2
          have np2 : NP pv ns2 := by rw [hmo2]; exact NPH.out.more hfr2 pvlt.out
          have hl2 : ns'.length ≤ ns2.length := by rw [hmo2, List.length_append]; omega
          have b3' := b3 _ tr2 np2
          refine ⟨⟨_, ps ++ [k], nv2, ns2, b1, by simp; omega, by simp, .inl ⟨lAlt L A.v, A.j, m, Lm ++ Lm2, more ++ more2, b2, by rw [hmo2, HMO.out, List.append_assoc], HFR.out.append (hfr2.mono szW.out), by rw [← List.append_assoc]; exact b3', b4 np2 tr2.plt, by omega, a5, by omega, by omega, by rw [HRQ.out, if_neg (by simp [a1])], ?_, ?_, by omega, by simp; omega⟩⟩, ?_⟩
          · intro p hp
            rcases List.mem_append.1 hp with hp | hp
            · have := HPL.out p hp; omega
            · simp at hp; subst hp; exact hk2
          · rw [← List.append_assoc, List.map_append, map_pre (Ls := Ls ++ Lm) (Lm := Lm2) (fun p hp => by rw [TR1.out.len]; exact HPL.out p hp), List.map_cons, List.map_nil, hv2, altL_snoc _ _ (by simpa using hne), ← HL.out]
          · rw [MU.out, setMu_run' b2]; omega
        · have hRA : R = A := by rw [HRQ.out, if_pos a1]
          rw [hRA]
          refine ⟨⟨_, ps ++ [k], nv2, ns2, b1, by simp; omega, by simp, .inr ⟨iv2, b2, a1, a2, by omega⟩⟩, ?_⟩
          rw [MU.out, setMu_bad b2.rd a1]; omega
      · have q0 : ((gt s j : Int) == 124) = false := by simp; omega
        have hRk : Hid (R = good j L) := by show _ = _; rw [HRP.out, pp_alt, if_neg hg]
        obtain ⟨nc0, nc1, nc2, nc3, _⟩ := four LO1.out.nd
        clear hg
        go_wp2_with fail
        refine (radd_node s j 0 0 r nv' ns' 97 pv ps _ (by exact ST1.out) (by omega) (by exact LO1.out.own)).mono ?_
        rintro _ w2 ⟨rfl, nv2, s2, k2, fr2, t2, f2⟩
        have S2 := hide s2
        have K2 : Hid (Kp (rfoot r nv) w w2) := LO1.out.kp.trans k2 LO1.out.fr
        have F2 : Hid (∀ g ∈ rfoot r nv2, g ∈ rfoot r nv ∨ w.heap.size ≤ g) := fun g hg => by rcases fr2 g hg with e | e; exact LO1.out.fr g e; exact .inr (by have := LO1.out.kp.size; omega)
        have T2 := hide (t2 (Ls ++ Lm) L TR1.out HPL.out (.inr (.inl ⟨rfl, HL.out⟩)))
        have FF : Hid (Fresh w.heap.size (more ++ [⟨97, .slice none 0 0, pv⟩])) := HFR.out.append (f2 _ (fun g hg => (own_block LO1.out.own hg).choose_spec.2))
        clear s2 k2 fr2 t2 f2
        go_wp2
        go_ret
        rw [hRk.out]
        exact ⟨ns'.length, _, nv2, _, rfl, S2.out, K2.out, F2.out, by simp [good]; omega, fun _ => ⟨rfl, Lm ++ [L], more ++ [⟨97, .slice none 0 0, pv⟩], by rw [HMO.out, List.append_assoc], FF.out, by rw [← List.append_assoc]; exact T2.out, by simp, by rw [← List.append_assoc]; exact getD_last _ _ _ TR1.out.len⟩⟩
    · have LO := hide lo
      have ST := hide st
      have HE := hide he
      clear lo st he
      go_wp2_with fail
      refine (rnext_bad s iv r R.err R.pl 0 nv' _ (by exact ST.out.rd) HE.out).mono ?_
      rintro _ w1 ⟨rfl, n1, rfl⟩
      have LO1 : Hid (Lo 97 T pv ps r nv nv' w (wr.drewN n1)) := LO.out.drewN n1
      have ST1 : Hid (RSt (wr.drewN n1) s iv R.err R.pl r nv' ns') := ST.out.kp ((Kp.refl [] wr).drewN n1) (by simp)
      generalize wr.drewN n1 = W1 at *
      obtain ⟨nc0, nc1, nc2, nc3, _⟩ := four LO1.out.nd
      go_wp2_with fail
      refine (radd_node s iv R.err R.pl r nv' ns' 97 pv ps _ (by exact ST1.out) (by omega) (by exact LO1.out.own)).mono ?_
      rintro _ w2 ⟨rfl, nv2, s2, k2, fr2, _, _⟩
      have S2 := hide s2
      have K2 : Hid (Kp (rfoot r nv) w w2) := LO1.out.kp.trans k2 LO1.out.fr
      have F2 : Hid (∀ g ∈ rfoot r nv2, g ∈ rfoot r nv ∨ w.heap.size ≤ g) := fun g hg => by rcases fr2 g hg with e | e; exact LO1.out.fr g e; exact .inr (by have := LO1.out.kp.size; omega)
      clear s2 k2 fr2
      go_wp2
      go_ret
      exact ⟨ns'.length, _, nv2, _, rfl, S2.out, K2.out, F2.out, by simp; omega, fun e => absurd e HE.out⟩
end Go.Proofs.YtbjdkbcfpmeneaaGreat
