/- What is proved here: what the reader's method alt does, if cat and either do what they should. -/
import Derived.Test.YtbjdkbcfpmeneaaRows
import Derived.Test.YtbjdkbcfpmeneaaM32
import Derived.Test.YtbjdkbcfpmeneaaM30
namespace Go.Proofs.Ytbjdkbcfpmeneaa
set_option linter.unusedVariables false
set_option linter.unusedSimpArgs false
open Go.RowKit

/- What alt comes to at a place. -/
def aR (s : ByteArray) (n i : Nat) : PR Lang := if (pp s n 1 lEps i).err ≠ 0 then pp s n 1 lEps i else pp s n 0 (pp s n 1 lEps i).v (pp s n 1 lEps i).j

/- What alt's loop keeps. -/
def AltRel (R : PR Lang) (s : ByteArray) (n i p r T H : Nat) (bs fs : List Nat) (vb vf : Value) (w w' : World) : Prop :=
  ∃ (e : Bool) (f l : Nat) (bs' fs' : List Nat) (vb' vf' : Value), w'.heap[T]? = some (partO e f l) ∧ w'.heap[H]? = some zeroPart ∧ Kp (r :: foot p vb vf) w w' ∧ (∀ g ∈ foot p vb' vf', g ∈ foot p vb vf ∨ w.heap.size ≤ g) ∧ T ∉ foot p vb' vf' ∧ H ∉ foot p vb' vf' ∧
    ((∃ (L : Lang) (j m : Nat), St w' s j 0 0 p r bs' fs' vb' vf' ∧ i ≤ j ∧ j ≤ s.size ∧ 2 * (s.size - j) + 2 ≤ m ∧ m ≤ n ∧ R = pp s m 0 L j ∧ bs'.length ≤ bs.length + (j - i) ∧ bs.length ≤ bs'.length ∧ bs'.take bs.length = bs ∧ fs'.take bs.length = fs ∧
        Part (fun q => bs'.getD q 0) (fun q => fs'.getD q 0) bs.length bs'.length e f l L) ∨
     (St w' s R.j R.err R.pl p r bs' fs' vb' vf' ∧ R.err ≠ 0 ∧ R.j = s.size ∧ bs'.length ≤ bs.length + (R.j - i)))
theorem alt_done {R : PR Lang} {s : ByteArray} {j m : Nat} {L : Lang} (hR : R = pp s m 0 L j) (hg : gt s j ≠ 124) (hm : 0 < m) : R = good j L := by
  obtain ⟨k, rfl⟩ : ∃ k, m = k + 1 := ⟨m - 1, by omega⟩
  rw [hR, pp_alt, if_neg hg]

set_option maxRecDepth 100000 in
set_option maxHeartbeats 6000000 in
theorem alt_code (s : ByteArray) (n i p r : Nat) (bs fs : List Nat) (vb vf : Value) (w : World) (R : PR Lang) (hR : R = aR s n i) (h : St w s i 0 0 p r bs fs vb vf) (hz : Nz s) (hs : s.size ≤ 16) (hn : bs.length + s.size < 168) (hi : i ≤ s.size) (hf : 2 * (s.size - i) + 2 ≤ n)
    (heither : ∀ (e1 e2 : Bool) (f1 l1 f2 l2 : Nat) (w : World), Calls Try.prog 51 #[partV e1 f1 l1, partV e2 f2 l2] w fun x w' => x = .returned (partV (e1 || e2) (f1 ||| f2) (l1 ||| l2)) ∧ Below w.heap.size w w')
    (hcat : ∀ m, m ≤ n → ∀ (j : Nat) (bs' fs' : List Nat) (vb' vf' : Value) (w' : World), j ≤ s.size → 2 * (s.size - j) + 2 ≤ m → bs'.length + s.size < 184 → i ≤ j → bs'.length ≤ bs.length + (j - i) → St w' s j 0 0 p r bs' fs' vb' vf' → Calls Try.prog 49 #[.pointer (some ⟨r, 0, none⟩)] w' (RPost (pp s m 1 lEps j) s j p r bs' fs' vb' vf' w')) :
    Calls Try.prog 29 #[.pointer (some ⟨r, 0, none⟩)] w (RPost R s i p r bs fs vb vf w) := by
  have hr := lt_of_block h.rd
  have hrne : r ≠ w.heap.size := by omega
  have S0 : Hid (St (w.alloc zeroPart) s i 0 0 p r bs fs vb vf) := ⟨by rw [blk_alloc, if_neg hrne]; exact h.rd, h.ps.kp ((Kp.refl [] w).alloc _) (by simp), h.ap⟩
  have Z0 : Hid ((w.alloc zeroPart).heap[w.heap.size]? = some zeroPart) := by show _ = _; rw [blk_alloc, if_pos rfl]
  have HS := hide h
  have HN := hide hn
  have HZ := hide hz
  have HF := hide hf
  have HCAT := hide hcat
  have HEI := hide heither
  have nf : ∀ k, w.heap.size ≤ k → k ∉ foot p vb vf := fun k hk hm => by have := HS.out.ps.lt k hm; omega
  have NF := hide nf
  have hA : Shp s i False (pp s n 1 lEps i) := (pp_shape s hz n).2.1 lEps i hi
  have hC0 := fun w' h' => hcat n (Nat.le_refl _) i bs fs vb vf w' hi hf (by omega) (Nat.le_refl _) (by omega) h'
  rw [aR] at hR
  generalize pp s n 1 lEps i = A at *
  have HA := hide hA
  have HR := hide hR
  have HC0 : Hid (∀ w', St w' s i 0 0 p r bs fs vb vf → Calls Try.prog 49 #[.pointer (some ⟨r, 0, none⟩)] w' (RPost A s i p r bs fs vb vf w')) := hC0
  clear h hcat heither hR hn hz nf hf hA hC0
  go_enter Try.func29, Try.ntmps29
  go_wp2_with fail
  refine Calls.mono (HC0.out _ (by exact S0.out)) ?_
  rintro _ w1 ⟨e, f, l, bs1, fs1, vb1, vf1, rfl, st1, k1, fr1, hl1, hp1⟩
  have hZn : w.heap.size ∉ r :: foot p vb vf := by
    intro hm; simp at hm; rcases hm with e | e
    · omega
    · exact NF.out _ (Nat.le_refl _) e
  have z1 := k1.keep Z0.out hZn
  have lz1 := lt_of_block z1
  have lr1 := lt_of_block st1.rd
  have ST1 := hide st1
  have Z1 := hide z1
  have K1 := hide (((Kp.refl (r :: foot p vb vf) w).alloc zeroPart).trans k1 (fun y hy => .inl hy))
  have FR1 : Hid (∀ g ∈ foot p vb1 vf1, g ∈ foot p vb vf ∨ w.heap.size + 1 ≤ g) := fun g hg => by rcases fr1 g hg with e | e; exact .inl e; right; rw [size_alloc] at e; exact e
  have HL1 := hide hl1
  have HP1 := hide hp1
  clear st1 k1 fr1 hl1 hp1 z1
  go_wp2_with fail
  have hrZ : r ∉ [w.heap.size] := by simp; omega
  have hrT : r ≠ w1.heap.size := by omega
  go_loopw [] (fun w' => AltRel R s n i p r w1.heap.size w.heap.size bs fs vb vf w w') (fun w' => s.size - (intOf ((w'.cell? ⟨r, 1, none⟩).getD undef)).toNat)
  case atStart =>
    have stW : St (w1.alloc (partO e f l)) s A.j A.err A.pl p r bs1 fs1 vb1 vf1 := ⟨by rw [blk_alloc, if_neg (Nat.ne_of_lt lr1)]; exact ST1.out.rd, ST1.out.ps.kp ((Kp.refl [] _).alloc _) (by simp), ST1.out.ap⟩
    refine ⟨e, f, l, bs1, fs1, vb1, vf1, by rw [blk_alloc, if_pos rfl], by rw [blk_alloc, if_neg (Nat.ne_of_lt lz1)]; exact Z1.out, K1.out.alloc _, (fun g hg => by rcases FR1.out g hg with e | e; exact .inl e; right; omega), (fun hm => by have := ST1.out.ps.lt _ hm; omega), (fun hm => by rcases FR1.out _ hm with e | e; exact NF.out _ (Nat.le_refl _) e; omega), ?_⟩
    rcases HA.out with hA | hA
    · left
      have hR := HR.out
      rw [if_neg (by simp [hA.1])] at hR
      rw [hA.1, hA.2.1] at stW
      obtain ⟨p1, p2, p3, p4⟩ := HP1.out hA.1
      exact ⟨A.v, A.j, n, stW, hA.2.2.1, hA.2.2.2.2, by have := HF.out; have := hA.2.2.1; omega, Nat.le_refl _, hR, HL1.out, p1, p2, p3, p4⟩
    · right
      have hR := HR.out
      rw [if_pos hA.1] at hR
      rw [hR]
      exact ⟨stW, hA.1, hA.2, HL1.out⟩
  case round =>
    obtain ⟨e', f', l', bs', fs', vb', vf', tb, zb, kk, fr, ft, fz, hst⟩ := hrel
    have TB := hide tb
    have ZB := hide zb
    have KK := hide kk
    have FR := hide fr
    have FT := hide ft
    have FZ := hide fz
    clear tb zb kk fr ft fz
    rcases hst with ⟨L, j, m, st, hij, hj, hm, hmn, hRR, hb1, hb2, hb3, hb4, hpart⟩ | ⟨st, he, hjs, hb⟩
    · have ST := hide st
      have HRR := hide hRR
      have HPT := hide hpart
      have HB := hide (And.intro hb1 (And.intro hb2 (And.intro hb3 hb4)))
      clear st hRR hpart hb1 hb2 hb3 hb4
      by_cases h0 : gt s j = 0
      · have hjs : j = s.size := by have := (HZ.out j).1 h0; omega
        have HG := hide (alt_done HRR.out (by omega) (by omega))
        subst hjs
        clear h0
        go_wp2_with fail
        refine (take_end s p r 0 0 124 _ (by exact ST.out.rd)).mono ?_
        rintro _ w2 ⟨rfl, n2, rfl⟩
        go_upto_region 4 with fail
        apply wp_region_lit
        refine load9 rfl _ rfl (b := w1.heap.size) (by exact TB.out) rfl ?_
        refine store9 rfl _ _ rfl (b := w.heap.size) (by exact ZB.out) rfl rfl (by simp [Value.oneCell']) ?_
        intro w9 z9 k9 s9
        go_wp2
        refine bodyPost_ret (v := partV e' f' l') (res_part (b := w.heap.size) Try.results29 rfl z9) rfl ?_
        refine ⟨e', f', l', bs', fs', vb', vf', rfl, ⟨k9.keep (by exact (by rw [HG.out]; exact ST.out.rd)) hrZ, ST.out.ps.kp k9.ofDrewN (by intro k hk; simp at hk; subst hk; exact FZ.out), ST.out.ap⟩, (KK.out.trans k9.ofDrewN (by simp)), FR.out, (by rw [HG.out]; exact HB.out.1), fun _ => ⟨HB.out.2.1, HB.out.2.2.1, HB.out.2.2.2, by rw [HG.out]; exact HPT.out⟩⟩
      · have hlt : j < s.size := by have := (HZ.out j).2; omega
        by_cases hsg : gt s j = 124
        · have hsi : (gt s j : Int) = 124 := by omega
          obtain ⟨m, rfl⟩ : ∃ k, m = k + 1 := ⟨m - 1, by omega⟩
          have hR2 : R = if (pp s m 1 lEps (j + 1)).err ≠ 0 then pp s m 1 lEps (j + 1) else pp s m 0 (lAlt L (pp s m 1 lEps (j + 1)).v) (pp s m 1 lEps (j + 1)).j := by rw [HRR.out, pp_alt, if_pos hsg]
          have hC : ∀ w', St w' s (j + 1) 0 0 p r bs' fs' vb' vf' → Calls Try.prog 49 #[.pointer (some ⟨r, 0, none⟩)] w' (RPost (pp s m 1 lEps (j + 1)) s (j + 1) p r bs' fs' vb' vf' w') :=
            fun w' h' => HCAT.out m (by omega) (j + 1) bs' fs' vb' vf' w' hlt (by omega) (by have := HN.out; have := HB.out.1; omega) (by omega) (by have := HB.out.1; omega) h'
          have hshape : Shp s (j + 1) False (pp s m 1 lEps (j + 1)) := (pp_shape s HZ.out m).2.1 lEps (j + 1) hlt
          generalize pp s m 1 lEps (j + 1) = B at *
          have HSI := hide hsi
          have HR2 := hide hR2
          have HC := hide hC
          have SHB := hide hshape
          clear h0 hsg hsi hR2 hC hshape HRR
          go_wp2_with fail
          refine (take_yes s j p r 0 0 124 _ (by exact ST.out.rd) hlt hs HSI.out).mono ?_
          rintro _ w2 ⟨rfl, rd2, k2⟩
          have tb2 := k2.keep TB.out (by simp; omega)
          have zb2 := k2.keep ZB.out (by simp; omega)
          have KK2 : Hid (Kp (r :: foot p vb vf) w w2.drew) := (KK.out.trans k2 (by simp)).drew
          have SD2 : Hid (St w2.drew s (j + 1) 0 0 p r bs' fs' vb' vf') := ⟨rd2, ST.out.ps.kp k2.drew (by intro k hk; simp at hk; subst hk; exact ST.out.ap), ST.out.ap⟩
          have MS : Hid ((wr.cell? ⟨r, 1, none⟩).getD undef = .int .i64 j) := by show _ = _; rw [cell_of_block ST.out.rd]; rfl
          obtain ⟨⟨a0, a1, a2, a3, a4, a5, a6, a7, a8⟩, _⟩ := nine tb2
          have TB2 : Hid (w2.drew.heap[w1.heap.size]? = some (partO e' f' l')) := tb2
          have ZB2 : Hid (w2.drew.heap[w.heap.size]? = some zeroPart) := zb2
          have lT : w1.heap.size < w2.drew.heap.size := lt_of_block tb2
          have lZ : w.heap.size < w2.drew.heap.size := lt_of_block zb2
          have hTn : w1.heap.size ∉ r :: foot p vb' vf' := by intro hm; simp at hm; rcases hm with e | e; omega; exact FT.out e
          have hZn2 : w.heap.size ∉ r :: foot p vb' vf' := by intro hm; simp at hm; rcases hm with e | e; omega; exact FZ.out e
          have HTN := hide hTn
          have HZN := hide hZn2
          clear tb2 rd2 zb2 hTn hZn2 k2
          go_wp2_with fail
          go_region_with (first | (go_at_call 49; refine Calls.mono (HC.out _ (by exact SD2.out)) ?_; rintro _ w3 ⟨e2, f2, l2, bs2, fs2, vb2, vf2, rfl, st3, k3, fr3, hl3, hp3⟩; obtain ⟨⟨b0, b1, b2, b3, b4, b5, b6, b7, b8⟩, _⟩ := nine (k3.keep TB2.out HTN.out); have ST3 := hide st3; have TB3 := hide (k3.keep TB2.out HTN.out); have ZB3 := hide (k3.keep ZB2.out HZN.out); have KK3 := hide (KK2.out.trans k3 (fun y hy => by simp only [List.mem_cons] at hy; rcases hy with e | e; exact .inl (by simp [e]); rcases FR.out y e with e | e; exact .inl (by simp [e]); exact .inr e)); have FR3 : Hid (∀ g ∈ foot p vb2 vf2, g ∈ foot p vb vf ∨ w.heap.size ≤ g) := (fun g hg => by rcases fr3 g hg with e | e; exact FR.out g e; right; omega); have FT3 : Hid (w1.heap.size ∉ foot p vb2 vf2) := (fun hg => by rcases fr3 _ hg with e | e; exact FT.out e; omega); have FZ3 : Hid (w.heap.size ∉ foot p vb2 vf2) := (fun hg => by rcases fr3 _ hg with e | e; exact FZ.out e; omega); have HL3 := hide hl3; have HP3 := hide hp3; clear st3 k3 fr3 hl3 hp3) | (go_at_call 51; refine Calls.mono (HEI.out e' e2 f' l' f2 l2 _) ?_; rintro _ w4 ⟨rfl, b4x⟩; obtain ⟨⟨d0, d1, d2, d3, d4, d5, d6, d7, d8⟩, g0, g1, g2, g3, g4, g5, g6, g7, g8⟩ := nine (bkeep b4x TB3.out); have RD4 := hide (bkeep b4x ST3.out.rd); have TB4 := hide (bkeep b4x TB3.out); have ZB4 := hide (bkeep b4x ZB3.out); have P4H := hide (ST3.out.ps.kp ((Kp.refl [] _).below b4x) (by simp)); have KK4 := hide (KK3.out.below b4x); clear b4x))
          all_goals
            go_wp2
            have kq := (Kp.refl [w1.heap.size] w4).set9 (b := w1.heap.size) (by simp) (.bool (e' || e2)) (.int .u64 (wd (f' ||| f2) 0)) (.int .u64 (wd (f' ||| f2) 1)) (.int .u64 (wd (f' ||| f2) 2)) (.int .u64 (wd (f' ||| f2) 3)) (.int .u64 (wd (l' ||| l2) 0)) (.int .u64 (wd (l' ||| l2) 1)) (.int .u64 (wd (l' ||| l2) 2)) (.int .u64 (wd (l' ||| l2) 3))
            have rq := kq.keep RD4.out (by simp; omega)
            refine ⟨⟨e' || e2, f' ||| f2, l' ||| l2, bs2, fs2, vb2, vf2, ?_, kq.keep ZB4.out (by simp; omega), KK4.out.trans kq (by simp; omega), FR3.out, FT3.out, FZ3.out, ?_⟩, ?_⟩
            · simp only [blk_set, TB4.out]; simp [setObj_cells]
            · have PF := P4H.out.kp kq (by intro k hk; simp at hk; subst hk; exact FT3.out)
              have hl3 := HL3.out
              have hb1 := HB.out.1
              rcases SHB.out with ⟨q1, q2, q3, _, q4⟩ | ⟨q1, q2⟩
              · left
                have hR := HR2.out
                rw [if_neg (by simp [q1])] at hR
                rw [q1, q2] at rq
                obtain ⟨r1, r2, r3, r4⟩ := HP3.out q1
                refine ⟨lAlt L B.v, B.j, m, ⟨rq, PF, ST3.out.ap⟩, by omega, q4, by omega, by omega, hR, by omega, by have := HB.out.2.1; omega, ?_, ?_, ?_⟩
                · rw [take_take_of r2 HB.out.2.1]; exact HB.out.2.2.1
                · rw [take_take_of r3 HB.out.2.1]; exact HB.out.2.2.2
                · exact Part.either (Part.longer HPT.out ST.out.ps.len r2 r3) r4 HB.out.2.1 r1
              · right
                have hR := HR2.out
                rw [if_pos q1] at hR
                rw [hR]
                exact ⟨⟨rq, PF, ST3.out.ap⟩, q1, q2, by omega⟩
            · rw [MS.out, cell_of_block rq]
              rcases SHB.out with h | h <;> simp [intOf] <;> omega
        · have HG := hide (alt_done HRR.out hsg (by omega))
          have hsi : (gt s j : Int) ≠ 124 := by omega
          have HSI := hide hsi
          clear h0 hsg hsi
          go_wp2_with fail
          refine (take_no s j p r 0 0 124 _ (by exact ST.out.rd) hlt hs HSI.out).mono ?_
          rintro _ w2 ⟨rfl, n2, rfl⟩
          go_upto_region 4 with fail
          apply wp_region_lit
          refine load9 rfl _ rfl (b := w1.heap.size) (by exact TB.out) rfl ?_
          refine store9 rfl _ _ rfl (b := w.heap.size) (by exact ZB.out) rfl rfl (by simp [Value.oneCell']) ?_
          intro w9 z9 k9 s9
          go_wp2
          refine bodyPost_ret (v := partV e' f' l') (res_part (b := w.heap.size) Try.results29 rfl z9) rfl ?_
          refine ⟨e', f', l', bs', fs', vb', vf', rfl, ⟨k9.keep (by exact (by rw [HG.out]; exact ST.out.rd)) hrZ, ST.out.ps.kp k9.ofDrewN (by intro k hk; simp at hk; subst hk; exact FZ.out), ST.out.ap⟩, (KK.out.trans k9.ofDrewN (by simp)), FR.out, (by rw [HG.out]; exact HB.out.1), fun _ => ⟨HB.out.2.1, HB.out.2.2.1, HB.out.2.2.2, by rw [HG.out]; exact HPT.out⟩⟩
    · have ST := hide st
      have HE := hide he
      have HJ := hide hjs
      have HB := hide hb
      clear st he hjs hb
      go_wp2_with fail
      refine (take_end s p r R.err R.pl 124 _ (by rw [← HJ.out]; exact ST.out.rd)).mono ?_
      rintro _ w2 ⟨rfl, n2, rfl⟩
      go_upto_region 4 with fail
      apply wp_region_lit
      refine load9 rfl _ rfl (b := w1.heap.size) (by exact TB.out) rfl ?_
      refine store9 rfl _ _ rfl (b := w.heap.size) (by exact ZB.out) rfl rfl (by simp [Value.oneCell']) ?_
      intro w9 z9 k9 s9
      go_wp2
      refine bodyPost_ret (v := partV e' f' l') (res_part (b := w.heap.size) Try.results29 rfl z9) rfl ?_
      refine ⟨e', f', l', bs', fs', vb', vf', rfl, ⟨k9.keep (by exact ST.out.rd) hrZ, ST.out.ps.kp k9.ofDrewN (by intro k hk; simp at hk; subst hk; exact FZ.out), ST.out.ap⟩, (KK.out.trans k9.ofDrewN (by simp)), FR.out, HB.out, fun hh => absurd hh HE.out⟩
end Go.Proofs.Ytbjdkbcfpmeneaa

/- What is proved here: what the reader's method atom does at an opening bracket, if alt does what it should. -/
namespace Go.Proofs.Ytbjdkbcfpmeneaa
set_option linter.unusedVariables false
set_option linter.unusedSimpArgs false
open Go.RowKit

set_option maxRecDepth 100000 in
set_option maxHeartbeats 2000000 in
theorem atom_paren (s : ByteArray) (i p r : Nat) (bs fs : List Nat) (vb vf : Value) (w : World) (acc : Lang) (B R : PR Lang) (h : St w s i 0 0 p r bs fs vb vf) (hi : i < s.size) (hs : s.size ≤ 16) (hz : Nz s) (hc : gt s i = 40)
    (halt : ∀ w', St w' s (i + 1) 0 0 p r bs fs vb vf → Calls Try.prog 29 #[.pointer (some ⟨r, 0, none⟩)] w' (RPost B s (i + 1) p r bs fs vb vf w'))
    (hB : (B.err = 0 ∧ B.pl = 0 ∧ i + 1 ≤ B.j ∧ B.j ≤ s.size ∧ (gt s B.j = 0 ∨ gt s B.j = 41)) ∨ (B.err ≠ 0 ∧ B.j = s.size))
    (hR : R = if B.err ≠ 0 then B else if gt s B.j = 0 then bad s 4 s.size acc else good (B.j + 1) B.v) :
    Calls Try.prog 87 #[.pointer (some ⟨r, 0, none⟩)] w (RPost R s i p r bs fs vb vf w) := by
  have q1 : ((gt s i : Int) == 40) = true := by simp; omega
  have HS := hide h
  have HAL := hide halt
  have HB := hide hB
  have HR := hide hR
  have HZ := hide hz
  have hr := lt_of_block h.rd
  have hrne : r ≠ w.heap.size := by omega
  have rd0 : (w.alloc zeroPart).heap[r]? = some (rdO s i 0 0 p) := by rw [blk_alloc, if_neg hrne]; exact h.rd
  have c1 : w.cell? ⟨r, 1, none⟩ = some (.int .i64 i) := by rw [cell_of_block h.rd]; rfl
  have RD0 := hide rd0
  have Z0 : Hid ((w.alloc zeroPart).heap[w.heap.size]? = some zeroPart) := by show _ = _; rw [blk_alloc, if_pos rfl]
  have nf : ∀ k, w.heap.size ≤ k → k ∉ foot p vb vf := fun k hk hm => by have := HS.out.ps.lt k hm; omega
  have NF := hide nf
  clear h rd0 nf hc halt hB hR hz
  go_enter Try.func87, Try.ntmps87
  go_wp2_with fail
  refine (next_yes s i p r 0 0 _ (by exact RD0.out) hi hs).mono ?_
  rintro _ w1 ⟨rfl, rd1, k1⟩
  have Z1 := hide (k1.keep Z0.out (by simp; omega))
  have S1 : Hid (St w1 s (i + 1) 0 0 p r bs fs vb vf) := ⟨rd1, HS.out.ps.kp (((Kp.refl [r] w).alloc _).trans k1 (by simp)) (by intro k hk; simp at hk; subst hk; exact HS.out.ap), HS.out.ap⟩
  have K1 := hide (((Kp.refl (r :: foot p vb vf) w).alloc zeroPart).trans k1 (by simp))
  clear rd1 k1
  go_wp2_with fail
  refine Calls.mono (HAL.out _ (by exact S1.out)) ?_
  rintro _ w2 ⟨e, f, l, bs2, fs2, vb2, vf2, rfl, st2, k2, fr2, hl2, hp2⟩
  have hZn : w.heap.size ∉ r :: foot p vb vf := by
    intro hm; simp at hm; rcases hm with e | e
    · omega
    · exact NF.out _ (Nat.le_refl _) e
  have l1 := lt_of_block Z1.out
  have z2 := k2.keep Z1.out hZn
  have lz2 := lt_of_block z2
  have lr2 := lt_of_block st2.rd
  have Z2 := hide z2
  have ST2 := hide st2
  have K2 := hide (K1.out.trans k2 (fun y hy => .inl hy))
  have FR2 : Hid (∀ g ∈ foot p vb2 vf2, g ∈ foot p vb vf ∨ w.heap.size ≤ g) := fun g hg => by rcases fr2 g hg with e | e; exact .inl e; right; omega
  have FZ2 : Hid (w.heap.size ∉ foot p vb2 vf2) := fun hm => by rcases fr2 _ hm with e | e; exact NF.out _ (Nat.le_refl _) e; omega
  have HL2 := hide hl2
  have HP2 := hide hp2
  have RA : Hid ((w2.alloc (partO e f l)).heap[r]? = some (rdO s B.j B.err B.pl p)) := by show _ = _; rw [blk_alloc, if_neg (Nat.ne_of_lt lr2)]; exact ST2.out.rd
  have ZA : Hid ((w2.alloc (partO e f l)).heap[w.heap.size]? = some zeroPart) := by show _ = _; rw [blk_alloc, if_neg (Nat.ne_of_lt lz2)]; exact Z2.out
  have TA : Hid ((w2.alloc (partO e f l)).heap[w2.heap.size]? = some (partO e f l)) := by show _ = _; rw [blk_alloc, if_pos rfl]
  have hrZ : r ∉ [w.heap.size] := by simp; omega
  clear st2 k2 fr2 hl2 hp2 z2
  go_wp2_with fail
  rcases HB.out with ⟨b1, b2, b3, b4, b5⟩ | ⟨b1, b2⟩
  · rcases b5 with g | g
    · have hjs : B.j = s.size := by have := (HZ.out B.j).1 g; omega
      have HRX : Hid (R = bad s 4 s.size acc) := by show R = _; rw [HR.out, if_neg (by simp [b1]), if_pos g]
      have HJS := hide hjs
      have HB1 := hide b1
      have HB2 := hide b2
      clear b1 b2 g hjs
      refine (shut_end s p r 0 41 _ (by rw [← HJS.out]; have := RA.out; rw [HB1.out, HB2.out] at this; exact this)).mono ?_
      rintro _ w3 ⟨rfl, rd3, k3⟩
      have R3 := hide rd3
      have T3 := hide (k3.keep TA.out (by simp; omega))
      have Z3 := hide (k3.keep ZA.out (by simp; omega))
      have K3 := hide ((K2.out.alloc (partO e f l)).trans k3 (by simp))
      have P3 := hide ((ST2.out.ps.kp ((Kp.refl [] w2).alloc (partO e f l)) (by simp)).kp k3 (by intro k hk; simp at hk; subst hk; exact ST2.out.ap))
      clear rd3 k3
      go_upto_region 8 with fail
      apply wp_region_lit
      refine load9 rfl _ rfl (b := w2.heap.size) (by exact T3.out) rfl ?_
      refine store9 rfl _ _ rfl (b := w.heap.size) (by exact Z3.out) rfl rfl (by simp [Value.oneCell']) ?_
      intro w9 z9 k9 s9
      go_wp2
      refine bodyPost_ret (v := partV e f l) (res_part (b := w.heap.size) Try.results87 rfl z9) rfl ?_
      refine ⟨e, f, l, bs2, fs2, vb2, vf2, rfl, ⟨k9.keep (by rw [HRX.out]; exact R3.out) hrZ, P3.out.kp k9 (by intro k hk; simp at hk; subst hk; exact FZ2.out), ST2.out.ap⟩, K3.out.trans k9 (by simp), FR2.out, ?_, fun hh => absurd hh (by rw [HRX.out]; simp [bad])⟩
      rw [HRX.out]; have := HL2.out; simp [bad]; omega
    · have hlt : B.j < s.size := by have := (HZ.out B.j).2; omega
      have HRX : Hid (R = good (B.j + 1) B.v) := by show R = _; rw [HR.out, if_neg (by simp [b1]), if_neg (by omega)]
      have hgi : (gt s B.j : Int) = 41 := by omega
      have HGI := hide hgi
      have HB1 := hide b1
      have HB2 := hide b2
      clear b1 b2 g hgi
      refine (shut_yes s B.j p r 0 0 41 _ (by have := RA.out; rw [HB1.out, HB2.out] at this; exact this) hlt hs HGI.out).mono ?_
      rintro _ w3 ⟨rfl, rd3, k3⟩
      have R3 := hide rd3
      have T3 := hide (k3.keep TA.out (by simp; omega))
      have Z3 := hide (k3.keep ZA.out (by simp; omega))
      have K3 := hide ((K2.out.alloc (partO e f l)).trans k3 (by simp))
      have P3 := hide ((ST2.out.ps.kp ((Kp.refl [] w2).alloc (partO e f l)) (by simp)).kp k3 (by intro k hk; simp at hk; subst hk; exact ST2.out.ap))
      clear rd3 k3
      go_upto_region 8 with fail
      apply wp_region_lit
      refine load9 rfl _ rfl (b := w2.heap.size) (by exact T3.out) rfl ?_
      refine store9 rfl _ _ rfl (b := w.heap.size) (by exact Z3.out) rfl rfl (by simp [Value.oneCell']) ?_
      intro w9 z9 k9 s9
      go_wp2
      refine bodyPost_ret (v := partV e f l) (res_part (b := w.heap.size) Try.results87 rfl z9) rfl ?_
      refine ⟨e, f, l, bs2, fs2, vb2, vf2, rfl, ⟨k9.keep (by rw [HRX.out]; exact R3.out) hrZ, P3.out.kp k9 (by intro k hk; simp at hk; subst hk; exact FZ2.out), ST2.out.ap⟩, K3.out.trans k9 (by simp), FR2.out, ?_, fun _ => by rw [HRX.out]; exact HP2.out HB1.out⟩
      rw [HRX.out]; have := HL2.out; simp [good]; omega
  · have HRX : Hid (R = B) := by show R = _; rw [HR.out, if_pos b1]
    have HB1 := hide b1
    have HB2 := hide b2
    clear b1 b2
    refine (shut_bad s p r B.err B.pl 41 _ (by rw [← HB2.out]; exact RA.out) HB1.out).mono ?_
    rintro _ w3 ⟨rfl, rd3, k3⟩
    have R3 := hide rd3
    have T3 := hide (k3.keep TA.out (by simp; omega))
    have Z3 := hide (k3.keep ZA.out (by simp; omega))
    have K3 := hide ((K2.out.alloc (partO e f l)).trans k3 (by simp))
    have P3 := hide ((ST2.out.ps.kp ((Kp.refl [] w2).alloc (partO e f l)) (by simp)).kp k3 (by intro k hk; simp at hk; subst hk; exact ST2.out.ap))
    clear rd3 k3
    go_upto_region 8 with fail
    apply wp_region_lit
    refine load9 rfl _ rfl (b := w2.heap.size) (by exact T3.out) rfl ?_
    refine store9 rfl _ _ rfl (b := w.heap.size) (by exact Z3.out) rfl rfl (by simp [Value.oneCell']) ?_
    intro w9 z9 k9 s9
    go_wp2
    refine bodyPost_ret (v := partV e f l) (res_part (b := w.heap.size) Try.results87 rfl z9) rfl ?_
    refine ⟨e, f, l, bs2, fs2, vb2, vf2, rfl, ⟨k9.keep (by rw [HRX.out, HB2.out]; exact R3.out) hrZ, P3.out.kp k9 (by intro k hk; simp at hk; subst hk; exact FZ2.out), ST2.out.ap⟩, K3.out.trans k9 (by simp), FR2.out, ?_, fun hh => absurd (by rw [HRX.out] at hh; exact hh) HB1.out⟩
    rw [HRX.out]; have := HL2.out; omega
end Go.Proofs.Ytbjdkbcfpmeneaa

/- What is proved here: what the reader's method atom does at a dot. -/
namespace Go.Proofs.Ytbjdkbcfpmeneaa
set_option linter.unusedVariables false
set_option linter.unusedSimpArgs false
open Go.RowKit

set_option maxRecDepth 100000 in
set_option maxHeartbeats 800000 in
theorem atom_dot (s : ByteArray) (i p r : Nat) (bs fs : List Nat) (vb vf : Value) (w : World) (h : St w s i 0 0 p r bs fs vb vf) (hi : i < s.size) (hs : s.size ≤ 16) (hn : bs.length < 200)
    (hc : gt s i = 46) :
    Calls Try.prog 87 #[.pointer (some ⟨r, 0, none⟩)] w (RPost (good (i + 1) (lSet (comp (1 <<< 10)))) s i p r bs fs vb vf w) := by
  have q1 : ((gt s i : Int) == 40) = false := by simp; omega
  have q2 : ((gt s i : Int) == 91) = false := by simp; omega
  have q3 : ((gt s i : Int) == 46) = true := by simp; omega
  have HS := hide h
  have hr := lt_of_block h.rd
  have hrne : r ≠ w.heap.size := by omega
  have rd0 : (w.alloc zeroPart).heap[r]? = some (rdO s i 0 0 p) := by rw [blk_alloc, if_neg hrne]; exact h.rd
  have c1 : w.cell? ⟨r, 1, none⟩ = some (.int .i64 i) := by rw [cell_of_block h.rd]; rfl
  have RD0 := hide rd0
  have Z0 : Hid ((w.alloc zeroPart).heap[w.heap.size]? = some zeroPart) := by show _ = _; rw [blk_alloc, if_pos rfl]
  have nf : ∀ k, w.heap.size ≤ k → k ∉ foot p vb vf := fun k hk hm => by have := HS.out.ps.lt k hm; omega
  have NF := hide nf
  clear h rd0 nf hc
  go_enter Try.func87, Try.ntmps87
  go_wp2_with fail
  refine (next_yes s i p r 0 0 _ (by exact RD0.out) hi hs).mono ?_
  rintro _ w1 ⟨rfl, rd1, k1⟩
  have RD1 := hide rd1
  have c2 : w1.cell? ⟨r, 2, none⟩ = some (.pointer (some ⟨p, 0, none⟩)) := by rw [cell_of_block rd1]; rfl
  have Z1 := hide (k1.keep Z0.out (by simp; omega))
  have P1 : Hid (PosAt w1 p bs fs vb vf) := HS.out.ps.kp (((Kp.refl [r] w).alloc _).trans k1 (by simp)) (by intro k hk; simp at hk; subst hk; exact HS.out.ap)
  have K1 := hide (((Kp.refl (r :: foot p vb vf) w).alloc zeroPart).trans k1 (by simp))
  have lr1 := lt_of_block rd1
  clear rd1 k1
  go_upto_region 12 with fail
  have hc2 : ∀ w' : World, w'.heap[r]? = some (rdO s (i + 1) 0 0 p) → w'.cell? ⟨r, 2, none⟩ = some (.pointer (some ⟨p, 0, none⟩)) := fun w' h' => by rw [cell_of_block h']; rfl
  have R1d : w1.drew.heap[r]? = some (rdO s (i + 1) 0 0 p) := RD1.out
  have Z1d : Hid (w1.drew.heap[w.heap.size]? = some zeroPart) := Z1.out
  have P1d : Hid (PosAt w1.drew p bs fs vb vf) := P1.out.kp ((Kp.refl [] w1).drew) (by simp)
  have K1d := hide K1.out.drew
  clear c2
  go_region_held3 (fun w' : World => w'.heap[r]? = some (rdO s (i + 1) 0 0 p))
    (first | with_reducible exact R3 | with_reducible exact R2b | with_reducible exact R2 | with_reducible exact R1d | (simp only [blk_set, if_neg hrne]; with_reducible exact R3))
    (first | (go_at_call 73; refine (one_any 10 _ (by decide)).mono ?_; rintro _ w2 ⟨rfl, b2⟩; have R2 := bkeep b2 R1d; have Z2 := hide (bkeep b2 Z1d.out); have P2 := hide (P1d.out.kp ((Kp.refl [] _).below b2) (by simp)); have K2 := hide (K1d.out.below b2); clear b2) | (go_at_call 94; refine (others_any (1 <<< 10) _).mono ?_; rintro _ w2b ⟨rfl, b3⟩; have R2b := bkeep b3 R2; have Z2b := hide (bkeep b3 Z2.out); have P2b := hide (P2.out.kp ((Kp.refl [] _).below b3) (by simp)); have K2b := hide (K2.out.below b3); clear b3) | (go_at_call 92; refine (add_code p (comp (1 <<< 10)) bs fs vb vf _ (by exact P2b.out) hn).mono ?_; rintro _ w3 ⟨rfl, vb', vf', P3, k3, fr3⟩; have R3 := k3.keep R2b HS.out.ap; have z3 := k3.keep Z2b.out (NF.out _ (Nat.le_refl _)); obtain ⟨⟨zc0, zc1, zc2, zc3, zc4, zc5, zc6, zc7, zc8⟩, zf0, zf1, zf2, zf3, zf4, zf5, zf6, zf7, zf8⟩ := nine z3; have Z3 := hide z3; have P3H := hide P3; have K3 := hide (K2b.out.trans k3 (fun y hy => .inl (by simp [hy]))); have FR := hide fr3; have l2 := lt_of_block Z2b.out; have l3 := lt_of_block z3; have FR1 : Hid (∀ g ∈ foot p vb' vf', g ∈ foot p vb vf ∨ w.heap.size ≤ g) := (fun g hg => by rcases fr3 g hg with e | e; exact .inl e; right; omega); clear z3 P3 fr3))
  go_wp2
  refine bodyPost_ret (v := partV false (1 <<< bs.length) (1 <<< bs.length)) (res_part (b := w.heap.size) Try.results87 rfl (by simp only [blk_set, Z3.out]; simp [setObj_cells])) rfl ?_
  refine ⟨false, 1 <<< bs.length, 1 <<< bs.length, bs ++ [comp (1 <<< 10)], fs ++ [0], vb', vf', rfl, ⟨?_, ?_, ?_⟩, ?_, FR1.out, ?_, fun _ => ⟨?_, ?_, ?_, ?_⟩⟩
  · simp only [blk_set, if_neg hrne]; exact R3
  · exact P3H.out.kp ((Kp.refl [w.heap.size] w3).set9 (by simp) _ _ _ _ _ _ _ _ _) (by intro k hk; simp at hk; subst hk; exact fun hm => by rcases FR.out _ hm with e | e; exact NF.out _ (Nat.le_refl _) e; omega)
  · intro hm; rcases FR1.out _ hm with e | e
    · exact HS.out.ap e
    · omega
  · exact K3.out.set9 (.inr (Nat.le_refl _)) _ _ _ _ _ _ _ _ _
  · simp [good]
  · simp
  · simp
  · rw [← HS.out.ps.len]; simp
  · exact one_part bs fs (comp (1 <<< 10)) HS.out.ps.len

/- What is proved here: what the reader's method atom does at a sign that cannot stand there. -/

set_option maxRecDepth 100000 in
set_option maxHeartbeats 800000 in
theorem atom_bad (s : ByteArray) (i p r : Nat) (bs fs : List Nat) (vb vf : Value) (w : World) (h : St w s i 0 0 p r bs fs vb vf) (hi : i < s.size) (hs : s.size ≤ 16) 
    (acc : Lang) (hc : gt s i = 42 ∨ gt s i = 43 ∨ gt s i = 63 ∨ gt s i = 93) :
    Calls Try.prog 87 #[.pointer (some ⟨r, 0, none⟩)] w (RPost (bad s 5 i acc) s i p r bs fs vb vf w) := by
  have HS := hide h
  have hr := lt_of_block h.rd
  have hrne : r ≠ w.heap.size := by omega
  have rd0 : (w.alloc zeroPart).heap[r]? = some (rdO s i 0 0 p) := by rw [blk_alloc, if_neg hrne]; exact h.rd
  have c1 : w.cell? ⟨r, 1, none⟩ = some (.int .i64 i) := by rw [cell_of_block h.rd]; rfl
  have RD0 := hide rd0
  have Z0 : Hid ((w.alloc zeroPart).heap[w.heap.size]? = some zeroPart) := by show _ = _; rw [blk_alloc, if_pos rfl]
  have nf : ∀ k, w.heap.size ≤ k → k ∉ foot p vb vf := fun k hk hm => by have := HS.out.ps.lt k hm; omega
  have NF := hide nf
  clear h rd0 nf
  go_enter Try.func87, Try.ntmps87
  go_wp2_with fail
  refine (next_yes s i p r 0 0 _ (by exact RD0.out) hi hs).mono ?_
  rintro _ w1 ⟨rfl, rd1, k1⟩
  have RD1 := hide rd1
  have Z1 := hide (k1.keep Z0.out (by simp; omega))
  have P1 : Hid (PosAt w1 p bs fs vb vf) := HS.out.ps.kp (((Kp.refl [r] w).alloc _).trans k1 (by simp)) (by intro k hk; simp at hk; subst hk; exact HS.out.ap)
  have K1 := hide (((Kp.refl (r :: foot p vb vf) w).alloc zeroPart).trans k1 (by simp))
  clear rd1 k1
  generalize gt s i = c at *
  rcases hc with rfl | rfl | rfl | rfl
  all_goals
    go_wp2_with fail
    refine (fail_first s (i + 1) p r 0 5 i _ (by exact RD1.out)).mono ?_
    rintro _ w2 ⟨rfl, rd2, k2⟩
    have R2 := hide rd2
    have Z2 := hide (k2.keep Z1.out (by simp; omega))
    have P2 := hide (P1.out.kp k2 (by intro k hk; simp at hk; subst hk; exact HS.out.ap))
    have K2 := hide (K1.out.trans k2 (by simp))
    clear rd2 k2
    go_wp2_with fail
    refine (nothing_any _).mono ?_
    rintro _ w3 ⟨rfl, b3⟩
    have R3 := bkeep b3 R2.out
    have z3 := bkeep b3 Z2.out
    have P3 := P2.out.kp ((Kp.refl [] _).below b3) (by simp)
    have K3 := hide (K2.out.below b3)
    obtain ⟨⟨zc0, zc1, zc2, zc3, zc4, zc5, zc6, zc7, zc8⟩, zf0, zf1, zf2, zf3, zf4, zf5, zf6, zf7, zf8⟩ := nine z3
    have Z3 := hide z3
    have R3H := hide R3
    have P3H := hide P3
    clear b3 z3 R3 P3
    go_wp2
    refine bodyPost_ret (v := partV true 0 0) (res_part (b := w.heap.size) Try.results87 rfl (by simp only [blk_set, Z3.out]; simp [setObj_cells])) rfl ?_
    refine ⟨true, 0, 0, bs, fs, vb, vf, rfl, ⟨?_, ?_, HS.out.ap⟩, ?_, fun g hg => .inl hg, by simp [bad], fun hh => absurd hh (by simp [bad])⟩
    · simp only [blk_set, if_neg hrne]; exact R3H.out
    · exact P3H.out.kp ((Kp.refl [w.heap.size] w3).set9 (by simp) _ _ _ _ _ _ _ _ _) (by intro k hk; simp at hk; subst hk; exact NF.out _ (Nat.le_refl _))
    · exact K3.out.set9 (.inr (Nat.le_refl _)) _ _ _ _ _ _ _ _ _
end Go.Proofs.Ytbjdkbcfpmeneaa
