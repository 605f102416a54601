/- What is proved here: what the reader's method alt does, if cat and either do what they should. -/
import Derived.Test.YtbjdkbcfpmeneaaGreatRows
import Derived.Test.YtbjdkbcfpmeneaaGreatCat
namespace Go.Proofs.YtbjdkbcfpmeneaaGreat
set_option linter.unusedVariables false
set_option linter.unusedSimpArgs false
open Go.RowKit

/- What alt comes to at a place. -/
def aR (s : ByteArray) (n i : Nat) : PR Lang := if (pp s n 1 lEps i).err ≠ 0 then pp s n 1 lEps i else pp s n 0 (pp s n 1 lEps i).v (pp s n 1 lEps i).j

/- What alt's loop keeps. -/
def AltRel (R : PR Lang) (s : ByteArray) (n i p r T H : Nat) (bs fs : List Nat) (vb vf : Value) (w w' : World) : Prop :=
  ∃ (e : Bool) (f l : Nat) (bs' fs' : List Nat) (vb' vf' : Value), w'.heap[T]? = some (partO e f l) ∧ w'.heap[H]? = some zeroPart ∧ Kp (r :: foot p vb vf) w w' ∧ (∀ g ∈ foot p vb' vf', g ∈ foot p vb vf ∨ w.heap.size ≤ g) ∧ T ∉ foot p vb' vf' ∧ H ∉ foot p vb' vf' ∧
    ((∃ (L : Lang) (j m : Nat), St w' s j 0 0 p r bs' fs' vb' vf' ∧ i ≤ j ∧ j ≤ s.size ∧ 2 * (s.size - j) + 2 ≤ m ∧ m ≤ n ∧ R = pp s m 0 L j ∧ bs'.length ≤ bs.length + (j - i) ∧ bs.length ≤ bs'.length ∧ bs'.take bs.length = bs ∧ fs'.take bs.length = fs ∧
        Part (fun q => bs'.getD q 0) (fun q => fs'.getD q 0) bs.length bs'.length e f l L) ∨
     (St w' s R.j R.err R.pl p r bs' fs' vb' vf' ∧ R.err ≠ 0 ∧ R.j = s.size ∧ bs'.length ≤ bs.length + (R.j - i)))
theorem alt_done {R : PR Lang} {s : ByteArray} {j m : Nat} {L : Lang} (hR : R = pp s m 0 L j) (hg : gt s j ≠ 124) (hm : 0 < m) : R = good j L := by
  obtain ⟨k, rfl⟩ : ∃ k, m = k + 1 := ⟨m - 1, by omega⟩
  rw [hR, pp_alt, if_neg hg]

set_option maxRecDepth 100000 in
set_option maxHeartbeats 6000000 in
theorem alt_code (s : ByteArray) (n i p r : Nat) (bs fs : List Nat) (vb vf : Value) (w : World) (R : PR Lang) (hR : R = aR s n i) (h : St w s i 0 0 p r bs fs vb vf) (hz : Nz s) (hs : s.size ≤ 16) (hn : bs.length + s.size < 168) (hi : i ≤ s.size) (hf : 2 * (s.size - i) + 2 ≤ n)
    (heither : ∀ (e1 e2 : Bool) (f1 l1 f2 l2 : Nat) (w : World), Calls Tryz.prog 76 #[partV e1 f1 l1, partV e2 f2 l2] w fun x w' => x = .returned (partV (e1 || e2) (f1 ||| f2) (l1 ||| l2)) ∧ Below w.heap.size w w')
    (hcat : ∀ m, m ≤ n → ∀ (j : Nat) (bs' fs' : List Nat) (vb' vf' : Value) (w' : World), j ≤ s.size → 2 * (s.size - j) + 2 ≤ m → bs'.length + s.size < 184 → i ≤ j → bs'.length ≤ bs.length + (j - i) → St w' s j 0 0 p r bs' fs' vb' vf' → Calls Tryz.prog 74 #[.pointer (some ⟨r, 0, none⟩)] w' (RPost (pp s m 1 lEps j) s j p r bs' fs' vb' vf' w')) :
    Calls Tryz.prog 47 #[.pointer (some ⟨r, 0, none⟩)] w (RPost R s i p r bs fs vb vf w) := by
  have hr := lt_of_block h.rd
  have hrne : r ≠ w.heap.size := by omega
  have S0 : Hid (St (w.alloc zeroPart) s i 0 0 p r bs fs vb vf) := ⟨by rw [blk_alloc, if_neg hrne]; exact h.rd, h.ps.kp ((Kp.refl [] w).alloc _) (by simp), h.ap⟩
  have Z0 : Hid ((w.alloc zeroPart).heap[w.heap.size]? = some zeroPart) := by show _ = _; rw [blk_alloc, if_pos rfl]
  have HS := hide h
  have HN := hide hn
  have HZ := hide hz
  have HF := hide hf
  have HCAT := hide hcat
  have HEI := hide heither
  have nf : ∀ k, w.heap.size ≤ k → k ∉ foot p vb vf := fun k hk hm => by have := HS.out.ps.lt k hm; omega
  have NF := hide nf
  have hA : Shp s i False (pp s n 1 lEps i) := (pp_shape s hz n).2.1 lEps i hi
  have hC0 := fun w' h' => hcat n (Nat.le_refl _) i bs fs vb vf w' hi hf (by omega) (Nat.le_refl _) (by omega) h'
  rw [aR] at hR
  generalize pp s n 1 lEps i = A at *
  have HA := hide hA
  have HR := hide hR
  have HC0 : Hid (∀ w', St w' s i 0 0 p r bs fs vb vf → Calls Tryz.prog 74 #[.pointer (some ⟨r, 0, none⟩)] w' (RPost A s i p r bs fs vb vf w')) := hC0
  clear h hcat heither hR hn hz nf hf hA hC0
  go_enter Tryz.func47, Tryz.ntmps47
  go_wp2_with fail
  refine Calls.mono (HC0.out _ (by exact S0.out)) ?_
  rintro _ w1 ⟨e, f, l, bs1, fs1, vb1, vf1, rfl, st1, k1, fr1, hl1, hp1⟩
  have hZn : w.heap.size ∉ r :: foot p vb vf := by
    intro hm; simp at hm; rcases hm with e | e
    · omega
    · exact NF.out _ (Nat.le_refl _) e
  have z1 := k1.keep Z0.out hZn
  have lz1 := lt_of_block z1
  have lr1 := lt_of_block st1.rd
  have ST1 := hide st1
  have Z1 := hide z1
  have K1 := hide (((Kp.refl (r :: foot p vb vf) w).alloc zeroPart).trans k1 (fun y hy => .inl hy))
  have FR1 : Hid (∀ g ∈ foot p vb1 vf1, g ∈ foot p vb vf ∨ w.heap.size + 1 ≤ g) := fun g hg => by rcases fr1 g hg with e | e; exact .inl e; right; rw [size_alloc] at e; exact e
  have HL1 := hide hl1
  have HP1 := hide hp1
  clear st1 k1 fr1 hl1 hp1 z1
  go_wp2_with fail
  have hrZ : r ∉ [w.heap.size] := by simp; omega
  have hrT : r ≠ w1.heap.size := by omega
  go_loopw [] (fun w' => AltRel R s n i p r w1.heap.size w.heap.size bs fs vb vf w w') (fun w' => s.size - (intOf ((w'.cell? ⟨r, 1, none⟩).getD undef)).toNat)
  case atStart =>
    have stW : St (w1.alloc (partO e f l)) s A.j A.err A.pl p r bs1 fs1 vb1 vf1 := ⟨by rw [blk_alloc, if_neg (Nat.ne_of_lt lr1)]; exact ST1.out.rd, ST1.out.ps.kp ((Kp.refl [] _).alloc _) (by simp), ST1.out.ap⟩
    refine ⟨e, f, l, bs1, fs1, vb1, vf1, by rw [blk_alloc, if_pos rfl], by rw [blk_alloc, if_neg (Nat.ne_of_lt lz1)]; exact Z1.out, K1.out.alloc _, (fun g hg => by rcases FR1.out g hg with e | e; exact .inl e; right; omega), (fun hm => by have := ST1.out.ps.lt _ hm; omega), (fun hm => by rcases FR1.out _ hm with e | e; exact NF.out _ (Nat.le_refl _) e; omega), ?_⟩
    rcases HA.out with hA | hA
    · left
      have hR := HR.out
      rw [if_neg (by simp [hA.1])] at hR
      rw [hA.1, hA.2.1] at stW
      obtain ⟨p1, p2, p3, p4⟩ := HP1.out hA.1
      exact ⟨A.v, A.j, n, stW, hA.2.2.1, hA.2.2.2.2, by have := HF.out; have := hA.2.2.1; omega, Nat.le_refl _, hR, HL1.out, p1, p2, p3, p4⟩
    · right
      have hR := HR.out
      rw [if_pos hA.1] at hR
      rw [hR]
      exact ⟨stW, hA.1, hA.2, HL1.out⟩
  case round =>
    obtain ⟨e', f', l', bs', fs', vb', vf', tb, zb, kk, fr, ft, fz, hst⟩ := hrel
    have TB := hide tb
    have ZB := hide zb
    have KK := hide kk
    have FR := hide fr
    have FT := hide ft
    have FZ := hide fz
    clear tb zb kk fr ft fz
    rcases hst with ⟨L, j, m, st, hij, hj, hm, hmn, hRR, hb1, hb2, hb3, hb4, hpart⟩ | ⟨st, he, hjs, hb⟩
    · have ST := hide st
      have HRR := hide hRR
      have HPT := hide hpart
      have HB := hide (And.intro hb1 (And.intro hb2 (And.intro hb3 hb4)))
      clear st hRR hpart hb1 hb2 hb3 hb4
      by_cases h0 : gt s j = 0
      · have hjs : j = s.size := by have := (HZ.out j).1 h0; omega
        have HG := hide (alt_done HRR.out (by omega) (by omega))
        subst hjs
        clear h0
        go_wp2_with fail
        refine (take_end s p r 0 0 124 _ (by exact ST.out.rd)).mono ?_
        rintro _ w2 ⟨rfl, n2, rfl⟩
        go_upto_region 4 with fail
        apply wp_region_lit
        refine load9 rfl _ rfl (b := w1.heap.size) (by exact TB.out) rfl ?_
        refine store9 rfl _ _ rfl (b := w.heap.size) (by exact ZB.out) rfl rfl (by simp [Value.oneCell']) ?_
        intro w9 z9 k9 s9
        go_wp2
        refine bodyPost_ret (v := partV e' f' l') (res_part (b := w.heap.size) Tryz.results47 rfl z9) rfl ?_
        refine ⟨e', f', l', bs', fs', vb', vf', rfl, ⟨k9.keep (by exact (by rw [HG.out]; exact ST.out.rd)) hrZ, ST.out.ps.kp k9.ofDrewN (by intro k hk; simp at hk; subst hk; exact FZ.out), ST.out.ap⟩, (KK.out.trans k9.ofDrewN (by simp)), FR.out, (by rw [HG.out]; exact HB.out.1), fun _ => ⟨HB.out.2.1, HB.out.2.2.1, HB.out.2.2.2, by rw [HG.out]; exact HPT.out⟩⟩
      · have hlt : j < s.size := by have := (HZ.out j).2; omega
        by_cases hsg : gt s j = 124
        · have hsi : (gt s j : Int) = 124 := by omega
          obtain ⟨m, rfl⟩ : ∃ k, m = k + 1 := ⟨m - 1, by omega⟩
          have hR2 : R = if (pp s m 1 lEps (j + 1)).err ≠ 0 then pp s m 1 lEps (j + 1) else pp s m 0 (lAlt L (pp s m 1 lEps (j + 1)).v) (pp s m 1 lEps (j + 1)).j := by rw [HRR.out, pp_alt, if_pos hsg]
          have hC : ∀ w', St w' s (j + 1) 0 0 p r bs' fs' vb' vf' → Calls Tryz.prog 74 #[.pointer (some ⟨r, 0, none⟩)] w' (RPost (pp s m 1 lEps (j + 1)) s (j + 1) p r bs' fs' vb' vf' w') :=
            fun w' h' => HCAT.out m (by omega) (j + 1) bs' fs' vb' vf' w' hlt (by omega) (by have := HN.out; have := HB.out.1; omega) (by omega) (by have := HB.out.1; omega) h'
          have hshape : Shp s (j + 1) False (pp s m 1 lEps (j + 1)) := (pp_shape s HZ.out m).2.1 lEps (j + 1) hlt
          generalize pp s m 1 lEps (j + 1) = B at *
          have HSI := hide hsi
          have HR2 := hide hR2
          have HC := hide hC
          have SHB := hide hshape
          clear h0 hsg hsi hR2 hC hshape HRR
          go_wp2_with fail
          refine (take_yes s j p r 0 0 124 _ (by exact ST.out.rd) hlt hs HSI.out).mono ?_
          rintro _ w2 ⟨rfl, rd2, k2⟩
          have tb2 := k2.keep TB.out (by simp; omega)
          have zb2 := k2.keep ZB.out (by simp; omega)
          have KK2 : Hid (Kp (r :: foot p vb vf) w w2.drew) := (KK.out.trans k2 (by simp)).drew
          have SD2 : Hid (St w2.drew s (j + 1) 0 0 p r bs' fs' vb' vf') := ⟨rd2, ST.out.ps.kp k2.drew (by intro k hk; simp at hk; subst hk; exact ST.out.ap), ST.out.ap⟩
          have MS : Hid ((wr.cell? ⟨r, 1, none⟩).getD undef = .int .i64 j) := by show _ = _; rw [cell_of_block ST.out.rd]; rfl
          obtain ⟨⟨a0, a1, a2, a3, a4, a5, a6, a7, a8⟩, _⟩ := nine tb2
          have TB2 : Hid (w2.drew.heap[w1.heap.size]? = some (partO e' f' l')) := tb2
          have ZB2 : Hid (w2.drew.heap[w.heap.size]? = some zeroPart) := zb2
          have lT : w1.heap.size < w2.drew.heap.size := lt_of_block tb2
          have lZ : w.heap.size < w2.drew.heap.size := lt_of_block zb2
          have hTn : w1.heap.size ∉ r :: foot p vb' vf' := by intro hm; simp at hm; rcases hm with e | e; omega; exact FT.out e
          have hZn2 : w.heap.size ∉ r :: foot p vb' vf' := by intro hm; simp at hm; rcases hm with e | e; omega; exact FZ.out e
          have HTN := hide hTn
          have HZN := hide hZn2
          clear tb2 rd2 zb2 hTn hZn2 k2
          go_wp2_with fail
          go_region_with (first | (go_at_call 74; refine Calls.mono (HC.out _ (by exact SD2.out)) ?_; rintro _ w3 ⟨e2, f2, l2, bs2, fs2, vb2, vf2, rfl, st3, k3, fr3, hl3, hp3⟩; obtain ⟨⟨b0, b1, b2, b3, b4, b5, b6, b7, b8⟩, _⟩ := nine (k3.keep TB2.out HTN.out); have ST3 := hide st3; have TB3 := hide (k3.keep TB2.out HTN.out); have ZB3 := hide (k3.keep ZB2.out HZN.out); have KK3 := hide (KK2.out.trans k3 (fun y hy => by simp only [List.mem_cons] at hy; rcases hy with e | e; exact .inl (by simp [e]); rcases FR.out y e with e | e; exact .inl (by simp [e]); exact .inr e)); have FR3 : Hid (∀ g ∈ foot p vb2 vf2, g ∈ foot p vb vf ∨ w.heap.size ≤ g) := (fun g hg => by rcases fr3 g hg with e | e; exact FR.out g e; right; omega); have FT3 : Hid (w1.heap.size ∉ foot p vb2 vf2) := (fun hg => by rcases fr3 _ hg with e | e; exact FT.out e; omega); have FZ3 : Hid (w.heap.size ∉ foot p vb2 vf2) := (fun hg => by rcases fr3 _ hg with e | e; exact FZ.out e; omega); have HL3 := hide hl3; have HP3 := hide hp3; clear st3 k3 fr3 hl3 hp3) | (go_at_call 76; refine Calls.mono (HEI.out e' e2 f' l' f2 l2 _) ?_; rintro _ w4 ⟨rfl, b4x⟩; obtain ⟨⟨d0, d1, d2, d3, d4, d5, d6, d7, d8⟩, g0, g1, g2, g3, g4, g5, g6, g7, g8⟩ := nine (bkeep b4x TB3.out); have RD4 := hide (bkeep b4x ST3.out.rd); have TB4 := hide (bkeep b4x TB3.out); have ZB4 := hide (bkeep b4x ZB3.out); have P4H := hide (ST3.out.ps.kp ((Kp.refl [] _).below b4x) (by simp)); have KK4 := hide (KK3.out.below b4x); clear b4x))
          all_goals
            go_wp2
            have kq := (Kp.refl [w1.heap.size] w4).set9 (b := w1.heap.size) (by simp) (.bool (e' || e2)) (.int .u64 (wd (f' ||| f2) 0)) (.int .u64 (wd (f' ||| f2) 1)) (.int .u64 (wd (f' ||| f2) 2)) (.int .u64 (wd (f' ||| f2) 3)) (.int .u64 (wd (l' ||| l2) 0)) (.int .u64 (wd (l' ||| l2) 1)) (.int .u64 (wd (l' ||| l2) 2)) (.int .u64 (wd (l' ||| l2) 3))
            have rq := kq.keep RD4.out (by simp; omega)
            refine ⟨⟨e' || e2, f' ||| f2, l' ||| l2, bs2, fs2, vb2, vf2, ?_, kq.keep ZB4.out (by simp; omega), KK4.out.trans kq (by simp; omega), FR3.out, FT3.out, FZ3.out, ?_⟩, ?_⟩
            · simp only [blk_set, TB4.out]; simp [setObj_cells]
            · have PF := P4H.out.kp kq (by intro k hk; simp at hk; subst hk; exact FT3.out)
              have hl3 := HL3.out
              have hb1 := HB.out.1
              rcases SHB.out with ⟨q1, q2, q3, _, q4⟩ | ⟨q1, q2⟩
              · left
                have hR := HR2.out
                rw [if_neg (by simp [q1])] at hR
                rw [q1, q2] at rq
                obtain ⟨r1, r2, r3, r4⟩ := HP3.out q1
                refine ⟨lAlt L B.v, B.j, m, ⟨rq, PF, ST3.out.ap⟩, by omega, q4, by omega, by omega, hR, by omega, by have := HB.out.2.1; omega, ?_, ?_, ?_⟩
                · rw [take_take_of r2 HB.out.2.1]; exact HB.out.2.2.1
                · rw [take_take_of r3 HB.out.2.1]; exact HB.out.2.2.2
                · exact Part.either (Part.longer HPT.out ST.out.ps.len r2 r3) r4 HB.out.2.1 r1
              · right
                have hR := HR2.out
                rw [if_pos q1] at hR
                rw [hR]
                exact ⟨⟨rq, PF, ST3.out.ap⟩, q1, q2, by omega⟩
            · rw [MS.out, cell_of_block rq]
              rcases SHB.out with h | h <;> simp [intOf] <;> omega
        · have HG := hide (alt_done HRR.out hsg (by omega))
          have hsi : (gt s j : Int) ≠ 124 := by omega
          have HSI := hide hsi
          clear h0 hsg hsi
          go_wp2_with fail
          refine (take_no s j p r 0 0 124 _ (by exact ST.out.rd) hlt hs HSI.out).mono ?_
          rintro _ w2 ⟨rfl, n2, rfl⟩
          go_upto_region 4 with fail
          apply wp_region_lit
          refine load9 rfl _ rfl (b := w1.heap.size) (by exact TB.out) rfl ?_
          refine store9 rfl _ _ rfl (b := w.heap.size) (by exact ZB.out) rfl rfl (by simp [Value.oneCell']) ?_
          intro w9 z9 k9 s9
          go_wp2
          refine bodyPost_ret (v := partV e' f' l') (res_part (b := w.heap.size) Tryz.results47 rfl z9) rfl ?_
          refine ⟨e', f', l', bs', fs', vb', vf', rfl, ⟨k9.keep (by exact (by rw [HG.out]; exact ST.out.rd)) hrZ, ST.out.ps.kp k9.ofDrewN (by intro k hk; simp at hk; subst hk; exact FZ.out), ST.out.ap⟩, (KK.out.trans k9.ofDrewN (by simp)), FR.out, (by rw [HG.out]; exact HB.out.1), fun _ => ⟨HB.out.2.1, HB.out.2.2.1, HB.out.2.2.2, by rw [HG.out]; exact HPT.out⟩⟩
    · have ST := hide st
      have HE := hide he
      have HJ := hide hjs
      have HB := hide hb
      clear st he hjs hb
      go_wp2_with fail
      refine (take_end s p r R.err R.pl 124 _ (by rw [← HJ.out]; exact ST.out.rd)).mono ?_
      rintro _ w2 ⟨rfl, n2, rfl⟩
      go_upto_region 4 with fail
      apply wp_region_lit
      refine load9 rfl _ rfl (b := w1.heap.size) (by exact TB.out) rfl ?_
      refine store9 rfl _ _ rfl (b := w.heap.size) (by exact ZB.out) rfl rfl (by simp [Value.oneCell']) ?_
      intro w9 z9 k9 s9
      go_wp2
      refine bodyPost_ret (v := partV e' f' l') (res_part (b := w.heap.size) Tryz.results47 rfl z9) rfl ?_
      refine ⟨e', f', l', bs', fs', vb', vf', rfl, ⟨k9.keep (by exact ST.out.rd) hrZ, ST.out.ps.kp k9.ofDrewN (by intro k hk; simp at hk; subst hk; exact FZ.out), ST.out.ap⟩, (KK.out.trans k9.ofDrewN (by simp)), FR.out, HB.out, fun hh => absurd hh HE.out⟩
end Go.Proofs.YtbjdkbcfpmeneaaGreat
