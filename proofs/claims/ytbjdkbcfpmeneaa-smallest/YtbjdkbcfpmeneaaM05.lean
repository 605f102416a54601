/- What is proved here: what the pattern reader's method set does where a ^ stands first, and at the end. -/
import Derived.Test.YtbjdkbcfpmeneaaRows
import Derived.Test.YtbjdkbcfpmeneaaM03
namespace Go.Proofs.Ytbjdkbcfpmeneaa
set_option linter.unusedVariables false
set_option linter.unusedSimpArgs false
open Go.RowKit

set_option maxHeartbeats 1600000 in
theorem set_atEnd (s : ByteArray) (i p r : Nat) (w : World) (h : w.heap[r]? = some (rdO s i 0 0 p)) (hz : Nz s) (hi : i = s.size) (hs : s.size ≤ 16) :
    Calls Try.prog 93 #[.pointer (some ⟨r, 0, none⟩)] w (SetPost (pItems s 20 0 i) s p r w) := by
  have hr := lt_of_block h
  have hrne : r ≠ w.heap.size := by omega
  have h' : (w.alloc zeroSet).heap[r]? = some (rdO s i 0 0 p) := by rw [blk_alloc, if_neg hrne]; exact h
  have hq : (w.alloc zeroSet).heap[w.heap.size]? = some zeroSet := by rw [blk_alloc, if_pos rfl]
  have HQ : Hid _ := hq
  have H : Hid _ := h'
  have hqr : w.heap.size ∉ [r] := by simp; omega
  have HIE : Hid _ := hi
  have hI : i ≤ s.size := by omega
  clear h h' hq hi
  go_enter Try.func93, Try.ntmps93
  go_wp2_with fail
  refine (take_end s p r 0 0 94 _ (by rw [← HIE.out]; exact H.out)).mono ?_
  rintro _ w2 ⟨rfl, n0, hw⟩
  have HQ2 : Hid (w2.heap[w.heap.size]? = some zeroSet) := by subst hw; exact HQ.out
  have H2 : Hid (w2.heap[r]? = some (rdO s i 0 0 p)) := by subst hw; exact H.out
  have HK2 : Kp [r] w w2 := by subst hw; exact ((Kp.refl _ _).alloc _).drewN n0
  clear hw
  go_wp2_with fail
  refine (item_code s i p r _ (by exact H2.out) hz hI hs).mono ?_
  rintro _ w1 ⟨⟨v, hv, rfl, hve⟩, h1, h2⟩
  have q1 := h2.keep HQ2.out hqr
  have k1 := HK2.trans h2 (by simp)
  have hsz1 : w.heap.size < w1.heap.size := lt_of_block q1
  have hr1 := lt_of_block h1
  have hR := pItems_succ s 19 0 i
  have shape := pItem_shape s i hz
  generalize pItems s 20 0 i = RR at *
  have HRR : Hid _ := hR
  have H1 : Hid _ := h1
  have HV : Hid _ := hve
  have Q1 : Hid _ := q1
  have SH : Hid _ := shape
  clear h1 hve hR q1 shape
  go_wp2_with fail
  go_loopw [4] (fun it w' => ∃ (k cap g : Nat) (ss : List Nat), it = .slice (some ⟨g, 0, none⟩) k cap ∧ ss.length = k ∧ k ≤ 17 ∧ w'.ownsRow (w.heap.size + 1) 62 4 (.slice (some ⟨g, 0, none⟩) k cap) k (flat ss) ∧ w'.heap[w.heap.size]? = some zeroSet ∧ Kp [r] w w' ∧
      ((∃ j n, k ≤ j ∧ j ≤ s.size ∧ s.size - j < n ∧ w'.heap[r]? = some (rdO s j 0 0 p) ∧ RR = pAfter s n (orAll ss) j) ∨ (RR.err ≠ 0 ∧ RR.j = s.size ∧ w'.heap[r]? = some (rdO s s.size RR.err RR.pl p))))
    (fun _ w' => s.size - (intOf ((w'.cell? ⟨r, 1, none⟩).getD undef)).toNat)
  case atStart =>
    refine ⟨1, 1, w1.heap.size, [v], rfl, rfl, by omega, ?_, ?_, k1.alloc _, ?_⟩
    · exact World.ownsRow_lit w1 #[.int .u64 (wd v 0), .int .u64 (wd v 1), .int .u64 (wd v 2), .int .u64 (wd v 3)] 1 hsz1 (by decide) rfl
    · rw [blk_alloc, if_neg (Nat.ne_of_lt hsz1)]; exact Q1.out
    · rw [blk_alloc, if_neg (Nat.ne_of_lt hr1)]
      rcases SH.out with ⟨a1, a2, a3, a4, a5⟩ | ⟨a1, a2⟩
      · left
        have hR := HRR.out
        rw [if_neg (by simp [a1]), ← HV.out a1] at hR
        refine ⟨(pItem s i).j, 19, by omega, a4, by omega, ?_, hR⟩
        rw [H1.out, a1, a2]
      · right
        have hR := HRR.out
        rw [if_pos a1] at hR
        rw [hR]
        exact ⟨a1, a2, by rw [H1.out, a2]⟩
  case round =>
    obtain ⟨k, cap, g, ss, rfl, hk, hk17, own, qr, kr, hst⟩ := hrel
    have QR : Hid _ := qr
    have OWN : Hid _ := own
    have hgne : g ≠ r := by
      rintro rfl; have := own.lt g rfl; omega
    clear own qr
    rcases hst with ⟨j, n, hkj, hj, hn, rd, hRR⟩ | ⟨e1, e2, rd⟩
    · have RD : Hid _ := rd
      have HRR2 : Hid _ := hRR
      clear rd hRR
      by_cases hg0 : gt s j = 0
      · have hjs : j = s.size := by have := (hz j).1 hg0; omega
        subst hjs
        have HE : Hid (RR = bad s 4 s.size 0) := by show RR = _; rw [HRR2.out, pAfter, if_pos hg0]
        clear hg0
        go_wp2_with fail
        refine (ended_yes s p r 0 0 _ (by exact RD.out)).mono ?_
        rintro _ w3 ⟨rfl, n3, rfl⟩
        go_wp2_with fail
        refine (shut_end s p r 0 93 _ (by exact RD.out)).mono ?_
        rintro _ w5 ⟨rfl, h5, h5k⟩
        have own5 := owns_kp (owns_drewN OWN.out n3) (ys := [r]) h5k (by intro g' e; cases e; simp [hgne])
        have HQ5 : Hid _ := h5k.keep (by exact QR.out) hqr
        have KP5 := (kr.drewN n3).trans h5k (by simp)
        have H5 : Hid _ := h5
        clear h5
        have hcells : ∀ j < k, ∀ i < 4, w5.cell? ⟨g, j * 4 + i, none⟩ = some (.int .u64 (wd (ss.getD j 0) i)) := fun j hj i hi => by
          rw [own5.cellAt (j * 4 + i) (by omega)]; exact flat_get ss j (by omega) i hi
        have hglt : g < w5.heap.size := (own5.lt g rfl).2
        have HC : Hid _ := hcells
        clear hcells
        go_wp2_with fail
        refine (union_any g k cap ss _ hk (by omega) (by exact HC.out) hglt).mono ?_
        rintro _ w6 ⟨rfl, h6⟩
        have q6 : w6.heap[w.heap.size]? = some zeroSet := bkeep h6 HQ5.out
        have r6 := bkeep h6 H5.out
        have k6 := KP5.below h6
        have hlt6 : w.heap.size < w6.heap.size := lt_of_block q6
        have hltr : r < w6.heap.size := lt_of_block r6
        have R6 : Hid _ := r6
        have Q6 : Hid _ := q6

        obtain ⟨d0, d1, d2, d3, f0, f1, f2, f3⟩ := four q6
        clear q6 r6 h6 HC
        go_wp2
        refine bodyPost_ret (v := setV (orAll ss)) (res_set (b := w.heap.size) (e := 62) Try.results93 rfl (by simp only [blk_alloc, blk_set, size_set, if_neg (Nat.ne_of_lt hlt6), Q6.out]; simp [setObj_cells, orAll])) rfl ?_
        refine ⟨⟨_, rfl, fun hh => absurd hh (by rw [HE.out]; simp [bad])⟩, ?_, ?_⟩
        · simp only [blk_alloc, blk_set, if_neg hrne, size_set, if_neg (Nat.ne_of_lt hltr)]
          rw [HE.out]; exact R6.out
        · exact (k6.set4 (.inr (Nat.le_refl _)) _ _ _ _).alloc _
      · have hlt : j < s.size := by have := (hz j).2; omega
        by_cases hg93 : gt s j = 93
        · have HE : Hid (RR = good (j + 1) (orAll ss)) := by show RR = _; rw [HRR2.out, pAfter, if_neg hg0, if_pos hg93]
          have hsee : decide (0 ≤ Lib.indexByte (ByteArray.mk #[93]).data.toList (gt s j).toUInt8) = true := by rw [hg93]; decide
          have hg' : (gt s j : Int) = 93 := by omega
          have HS : Hid _ := hsee
          have HG' : Hid _ := hg'
          clear hg0 hg93 hsee hg'
          go_wp2_with fail
          refine (ended_no s j p r 0 0 _ (by exact RD.out) hlt).mono ?_
          rintro _ w3 ⟨rfl, n3, rfl⟩
          go_wp2_with fail
          refine (sees_at s _ j p r 0 0 true _ (by exact RD.out) hlt hs HS.out).mono ?_
          rintro _ w4 ⟨rfl, n4, rfl⟩
          go_wp2_with fail
          refine (shut_yes s j p r 0 0 93 _ (by exact RD.out) hlt hs HG'.out).mono ?_
          rintro _ w5 ⟨rfl, h5, h5k⟩
          have own5 := owns_kp (owns_drewN OWN.out (n3 + n4)) (ys := [r]) h5k (by intro g' e; cases e; simp [hgne])
          have HQ5 : Hid _ := h5k.keep (by exact QR.out) hqr
          have KP5 := (kr.drewN (n3 + n4)).trans h5k (by simp)
          have H5 : Hid _ := h5
          clear h5
          have hcells : ∀ j < k, ∀ i < 4, w5.cell? ⟨g, j * 4 + i, none⟩ = some (.int .u64 (wd (ss.getD j 0) i)) := fun j hj i hi => by
            rw [own5.cellAt (j * 4 + i) (by omega)]; exact flat_get ss j (by omega) i hi
          have hglt : g < w5.heap.size := (own5.lt g rfl).2
          have HC : Hid _ := hcells
          clear hcells
          go_wp2_with fail
          refine (union_any g k cap ss _ hk (by omega) (by exact HC.out) hglt).mono ?_
          rintro _ w6 ⟨rfl, h6⟩
          have q6 : w6.heap[w.heap.size]? = some zeroSet := bkeep h6 HQ5.out
          have r6 := bkeep h6 H5.out
          have k6 := KP5.below h6
          have hlt6 : w.heap.size < w6.heap.size := lt_of_block q6
          have hltr : r < w6.heap.size := lt_of_block r6
          have R6 : Hid _ := r6
          have Q6 : Hid _ := q6

          obtain ⟨d0, d1, d2, d3, f0, f1, f2, f3⟩ := four q6
          clear q6 r6 h6 HC
          go_wp2
          refine bodyPost_ret (v := setV (orAll ss)) (res_set (b := w.heap.size) (e := 62) Try.results93 rfl (by simp only [blk_alloc, blk_set, size_set, if_neg (Nat.ne_of_lt hlt6), Q6.out]; simp [setObj_cells, orAll])) rfl ?_
          refine ⟨⟨_, rfl, fun _ => by rw [HE.out]; rfl⟩, ?_, ?_⟩
          · simp only [blk_alloc, blk_set, if_neg hrne, size_set, if_neg (Nat.ne_of_lt hltr)]
            rw [HE.out]; exact R6.out
          · exact (k6.set4 (.inr (Nat.le_refl _)) _ _ _ _).alloc _
        · have hsee : decide (0 ≤ Lib.indexByte (ByteArray.mk #[93]).data.toList (gt s j).toUInt8) = false := by
            have : (93 : UInt8) ≠ (gt s j).toUInt8 := by
              intro e
              have e2 := congrArg UInt8.toNat e
              have := gt_lt s j
              simp at e2
              omega
            simp [Lib.indexByte, this]
          obtain ⟨m, rfl⟩ : ∃ m, n = m + 1 := ⟨n - 1, by omega⟩
          have hR3 : RR = pItems s (m + 1) (orAll ss) j := by rw [HRR2.out, pAfter, if_neg hg0, if_neg hg93]
          rw [pItems_succ] at hR3
          have shape := pItem_shape s j hz
          have HS : Hid _ := hsee
          have HR3 : Hid _ := hR3
          have SH2 : Hid _ := shape
          clear hg0 hg93 hsee hR3 shape HRR2
          go_wp2_with fail
          refine (ended_no s j p r 0 0 _ (by exact RD.out) hlt).mono ?_
          rintro _ w3 ⟨rfl, n3, rfl⟩
          go_wp2_with fail
          refine (sees_at s _ j p r 0 0 false _ (by exact RD.out) hlt hs HS.out).mono ?_
          rintro _ w4 ⟨rfl, n4, rfl⟩
          go_wp2_with fail
          refine (item_code s j p r _ (by exact RD.out) hz hj hs).mono ?_
          rintro _ w5 ⟨⟨u, hu, rfl, hue⟩, h5, h5k⟩
          have own5 := owns_kp (owns_drewN OWN.out (n3 + n4)) (ys := [r]) h5k (by intro g' e; cases e; simp [hgne])
          have q5 := h5k.keep (b := w.heap.size) (by exact QR.out) hqr
          have KP5 := (kr.drewN (n3 + n4)).trans h5k (by simp)
          have c1 := cell_of_block RD.out 1
          have hlt5 := lt_of_block q5
          have hltr := lt_of_block h5
          have H5 : Hid _ := h5
          have Q5 : Hid _ := q5
          have HU : Hid _ := hue
          clear h5 q5 hue
          obtain ⟨i0, hi0, hz0, hz1, hz2⟩ := info_parts infoSet
          go_wp2_with (at_builtin; refine wpList_append_lies _ rfl _ _ _ rfl (w.heap.size + 1) 62 i0 _ 4 32 Try.underlying68 hi0 hz0 hz1 hz2 rfl (by omega) (.slice (some ⟨g, 0, none⟩) k cap) k (flat ss) rfl (own5.alloc _) ⟨w5.heap.size, 0, none⟩ 1 1 (flat [u]) rfl rfl (World.news_of_block (cs := (flat [u]).toArray) (t := 62) (fr := (0, 0)) (heap_alloc_new w5 _)) (by simp [flat, Value.oneCell']) (by omega) (by unfold maxLen; omega) (by omega) (by simp; omega) (w5.heap.size + 1) (by simp) ?_; intro g2 cap2 w6 own6 grow6 at6 lt6)
          have r6 : w6.heap[r]? = some (rdO s (pItem s j).j (pItem s j).err (pItem s j).pl p) := gkeep grow6 (by rw [blk_alloc, if_neg (Nat.ne_of_lt hltr)]; exact H5.out) (by simp [Value.ownBlock]; exact hgne)
          have hgl : w.heap.size + 1 ≤ g ∧ g < w5.heap.size := own5.lt g rfl
          have c6 := cell_of_block r6 1
          refine ⟨⟨k + 1, cap2, g2, ss ++ [u], rfl, by simp [hk], by omega, ?_, ?_, ?_, ?_⟩, ?_⟩
          · rw [flat_append]; exact own6
          · exact gkeep grow6 (by rw [blk_alloc, if_neg (Nat.ne_of_lt hlt5)]; exact Q5.out) (by simp [Value.ownBlock]; omega)
          · exact (KP5.alloc _).grown grow6 (by intro x e; have e' : g = x := (by simpa [Value.ownBlock] using e); right; omega)
          · rw [r6]
            rcases SH2.out with ⟨a1, a2, a3, a4, a5⟩ | ⟨a1, a2⟩
            · left
              have hR := HR3.out
              rw [if_neg (by simp [a1]), ← HU.out a1, ← orAll_snoc] at hR
              exact ⟨(pItem s j).j, m, by omega, a4, by omega, by rw [a1, a2], hR⟩
            · right
              have hR := HR3.out
              rw [if_pos a1] at hR
              rw [hR]
              exact ⟨a1, a2, by rw [a2]⟩
          · rw [c1, c6]
            rcases SH2.out with ⟨a1, a2, a3, a4, a5⟩ | ⟨a1, a2⟩ <;> simp [intOf] <;> omega
    · have RD : Hid _ := rd
      have HE1 : Hid _ := e1
      have HE2 : Hid _ := e2
      clear rd e1 e2
      go_wp2_with fail
      refine (ended_yes s p r RR.err RR.pl _ (by exact RD.out)).mono ?_
      rintro _ w3 ⟨rfl, n3, rfl⟩
      go_wp2_with fail
      refine (shut_bad s p r RR.err RR.pl 93 _ (by exact RD.out) HE1.out).mono ?_
      rintro _ w5 ⟨rfl, h5, h5k⟩
      have own5 := owns_kp (owns_drewN OWN.out n3) (ys := [r]) h5k (by intro g' e; cases e; simp [hgne])
      have HQ5 : Hid _ := h5k.keep (by exact QR.out) hqr
      have KP5 := (kr.drewN n3).trans h5k (by simp)
      have H5 : Hid _ := h5
      clear h5
      have hcells : ∀ j < k, ∀ i < 4, w5.cell? ⟨g, j * 4 + i, none⟩ = some (.int .u64 (wd (ss.getD j 0) i)) := fun j hj i hi => by
        rw [own5.cellAt (j * 4 + i) (by omega)]; exact flat_get ss j (by omega) i hi
      have hglt : g < w5.heap.size := (own5.lt g rfl).2
      have HC : Hid _ := hcells
      clear hcells
      go_wp2_with fail
      refine (union_any g k cap ss _ hk (by omega) (by exact HC.out) hglt).mono ?_
      rintro _ w6 ⟨rfl, h6⟩
      have q6 : w6.heap[w.heap.size]? = some zeroSet := bkeep h6 HQ5.out
      have r6 := bkeep h6 H5.out
      have k6 := KP5.below h6
      have hlt6 : w.heap.size < w6.heap.size := lt_of_block q6
      have hltr : r < w6.heap.size := lt_of_block r6
      have R6 : Hid _ := r6
      have Q6 : Hid _ := q6

      obtain ⟨d0, d1, d2, d3, f0, f1, f2, f3⟩ := four q6
      clear q6 r6 h6 HC
      go_wp2
      refine bodyPost_ret (v := setV (orAll ss)) (res_set (b := w.heap.size) (e := 62) Try.results93 rfl (by simp only [blk_alloc, blk_set, size_set, if_neg (Nat.ne_of_lt hlt6), Q6.out]; simp [setObj_cells, orAll])) rfl ?_
      refine ⟨⟨_, rfl, fun hh => absurd hh HE1.out⟩, ?_, ?_⟩
      · simp only [blk_alloc, blk_set, if_neg hrne, size_set, if_neg (Nat.ne_of_lt hltr)]
        rw [HE2.out]; exact R6.out
      · exact (k6.set4 (.inr (Nat.le_refl _)) _ _ _ _).alloc _

set_option maxHeartbeats 1600000 in
theorem set_inv (s : ByteArray) (i p r : Nat) (w : World) (h : w.heap[r]? = some (rdO s i 0 0 p)) (hz : Nz s) (hi : i < s.size) (hs : s.size ≤ 16) (hg : gt s i = 94) :
    Calls Try.prog 93 #[.pointer (some ⟨r, 0, none⟩)] w (SetPost (pSet s i) s p r w) := by
  have hP : pSet s i = (if (pItems s 20 0 (i + 1)).err ≠ 0 then pItems s 20 0 (i + 1) else good (pItems s 20 0 (i + 1)).j (comp (pItems s 20 0 (i + 1)).v)) := by rw [pSet, if_pos hg]
  have HP : Hid _ := hP
  clear hP
  generalize pSet s i = PP at *
  have hr := lt_of_block h
  have hrne : r ≠ w.heap.size := by omega
  have h' : (w.alloc zeroSet).heap[r]? = some (rdO s i 0 0 p) := by rw [blk_alloc, if_neg hrne]; exact h
  have hq : (w.alloc zeroSet).heap[w.heap.size]? = some zeroSet := by rw [blk_alloc, if_pos rfl]
  have HQ : Hid _ := hq
  have H : Hid _ := h'
  have hqr : w.heap.size ∉ [r] := by simp; omega
  have hg' : (gt s i : Int) = 94 := by omega
  have HG : Hid _ := hg'
  have hI : i + 1 ≤ s.size := by omega
  clear h h' hq hg hg'
  go_enter Try.func93, Try.ntmps93
  go_wp2_with fail
  refine (take_yes s i p r 0 0 94 _ (by exact H.out) hi hs HG.out).mono ?_
  rintro _ w2 ⟨rfl, hw1, hw2⟩
  have HQ2 : Hid (w2.heap[w.heap.size]? = some zeroSet) := hw2.keep HQ.out hqr
  have H2 : Hid (w2.heap[r]? = some (rdO s (i + 1) 0 0 p)) := hw1
  have HK2 : Kp [r] w w2 := ((Kp.refl _ _).alloc _).trans hw2 (by simp)
  clear hw1 hw2
  go_wp2_with fail
  refine (item_code s (i + 1) p r _ (by exact H2.out) hz hI hs).mono ?_
  rintro _ w1 ⟨⟨v, hv, rfl, hve⟩, h1, h2⟩
  have q1 := h2.keep HQ2.out hqr
  have k1 := HK2.trans h2 (by simp)
  have hsz1 : w.heap.size < w1.heap.size := lt_of_block q1
  have hr1 := lt_of_block h1
  have hR := pItems_succ s 19 0 (i + 1)
  have shape := pItem_shape s (i + 1) hz
  generalize pItems s 20 0 (i + 1) = RR at *
  have HRR : Hid _ := hR
  have H1 : Hid _ := h1
  have HV : Hid _ := hve
  have Q1 : Hid _ := q1
  have SH : Hid _ := shape
  clear h1 hve hR q1 shape
  go_wp2_with fail
  go_loopw [4] (fun it w' => ∃ (k cap g : Nat) (ss : List Nat), it = .slice (some ⟨g, 0, none⟩) k cap ∧ ss.length = k ∧ k ≤ 17 ∧ w'.ownsRow (w.heap.size + 1) 62 4 (.slice (some ⟨g, 0, none⟩) k cap) k (flat ss) ∧ w'.heap[w.heap.size]? = some zeroSet ∧ Kp [r] w w' ∧
      ((∃ j n, k ≤ j ∧ j ≤ s.size ∧ s.size - j < n ∧ w'.heap[r]? = some (rdO s j 0 0 p) ∧ RR = pAfter s n (orAll ss) j) ∨ (RR.err ≠ 0 ∧ RR.j = s.size ∧ w'.heap[r]? = some (rdO s s.size RR.err RR.pl p))))
    (fun _ w' => s.size - (intOf ((w'.cell? ⟨r, 1, none⟩).getD undef)).toNat)
  case atStart =>
    refine ⟨1, 1, w1.heap.size, [v], rfl, rfl, by omega, ?_, ?_, k1.alloc _, ?_⟩
    · exact World.ownsRow_lit w1 #[.int .u64 (wd v 0), .int .u64 (wd v 1), .int .u64 (wd v 2), .int .u64 (wd v 3)] 1 hsz1 (by decide) rfl
    · rw [blk_alloc, if_neg (Nat.ne_of_lt hsz1)]; exact Q1.out
    · rw [blk_alloc, if_neg (Nat.ne_of_lt hr1)]
      rcases SH.out with ⟨a1, a2, a3, a4, a5⟩ | ⟨a1, a2⟩
      · left
        have hR := HRR.out
        rw [if_neg (by simp [a1]), ← HV.out a1] at hR
        refine ⟨(pItem s (i + 1)).j, 19, by omega, a4, by omega, ?_, hR⟩
        rw [H1.out, a1, a2]
      · right
        have hR := HRR.out
        rw [if_pos a1] at hR
        rw [hR]
        exact ⟨a1, a2, by rw [H1.out, a2]⟩
  case round =>
    obtain ⟨k, cap, g, ss, rfl, hk, hk17, own, qr, kr, hst⟩ := hrel
    have QR : Hid _ := qr
    have OWN : Hid _ := own
    have hgne : g ≠ r := by
      rintro rfl; have := own.lt g rfl; omega
    clear own qr
    rcases hst with ⟨j, n, hkj, hj, hn, rd, hRR⟩ | ⟨e1, e2, rd⟩
    · have RD : Hid _ := rd
      have HRR2 : Hid _ := hRR
      clear rd hRR
      by_cases hg0 : gt s j = 0
      · have hjs : j = s.size := by have := (hz j).1 hg0; omega
        subst hjs
        have HE : Hid (RR = bad s 4 s.size 0) := by show RR = _; rw [HRR2.out, pAfter, if_pos hg0]
        clear hg0
        go_wp2_with fail
        refine (ended_yes s p r 0 0 _ (by exact RD.out)).mono ?_
        rintro _ w3 ⟨rfl, n3, rfl⟩
        go_wp2_with fail
        refine (shut_end s p r 0 93 _ (by exact RD.out)).mono ?_
        rintro _ w5 ⟨rfl, h5, h5k⟩
        have own5 := owns_kp (owns_drewN OWN.out n3) (ys := [r]) h5k (by intro g' e; cases e; simp [hgne])
        have HQ5 : Hid _ := h5k.keep (by exact QR.out) hqr
        have KP5 := (kr.drewN n3).trans h5k (by simp)
        have H5 : Hid _ := h5
        clear h5
        have hcells : ∀ j < k, ∀ i < 4, w5.cell? ⟨g, j * 4 + i, none⟩ = some (.int .u64 (wd (ss.getD j 0) i)) := fun j hj i hi => by
          rw [own5.cellAt (j * 4 + i) (by omega)]; exact flat_get ss j (by omega) i hi
        have hglt : g < w5.heap.size := (own5.lt g rfl).2
        have HC : Hid _ := hcells
        clear hcells
        go_wp2_with fail
        refine (union_any g k cap ss _ hk (by omega) (by exact HC.out) hglt).mono ?_
        rintro _ w6 ⟨rfl, h6⟩
        have q6 : w6.heap[w.heap.size]? = some zeroSet := bkeep h6 HQ5.out
        have r6 := bkeep h6 H5.out
        have k6 := KP5.below h6
        have hlt6 : w.heap.size < w6.heap.size := lt_of_block q6
        have hltr : r < w6.heap.size := lt_of_block r6
        have R6 : Hid _ := r6
        have Q6 : Hid _ := q6

        clear q6 r6 h6 HC
        go_wp2_with fail
        refine (others_any (ss.foldl (· ||| ·) 0) _).mono ?_
        rintro _ w7 ⟨rfl, h7⟩
        have q7 : w7.heap[w.heap.size]? = some zeroSet := bkeep h7 (by rw [blk_alloc, if_neg (Nat.ne_of_lt hlt6)]; exact Q6.out)
        have r7 := bkeep h7 (b := r) (by rw [blk_alloc, if_neg (Nat.ne_of_lt hltr)]; exact R6.out)
        have k7 := (k6.alloc _).below h7
        have R7 : Hid _ := r7
        obtain ⟨d0, d1, d2, d3, f0, f1, f2, f3⟩ := four q7
        have Q7 : Hid _ := q7
        clear q7 r7 h7
        go_wp2
        refine bodyPost_ret (v := setV (comp (orAll ss))) (res_set (b := w.heap.size) (e := 62) Try.results93 rfl (by simp only [blk_set, Q7.out]; simp [setObj_cells, orAll])) rfl ?_
        refine ⟨⟨_, rfl, fun hh => absurd hh (by rw [HP.out, if_pos (by rw [HE.out]; simp [bad]), HE.out]; simp [bad])⟩, ?_, k7.set4 (.inr (Nat.le_refl _)) _ _ _ _⟩
        simp only [blk_set, if_neg hrne]
        rw [HP.out, if_pos (by rw [HE.out]; simp [bad]), HE.out]; exact R7.out
      · have hlt : j < s.size := by have := (hz j).2; omega
        by_cases hg93 : gt s j = 93
        · have HE : Hid (RR = good (j + 1) (orAll ss)) := by show RR = _; rw [HRR2.out, pAfter, if_neg hg0, if_pos hg93]
          have hsee : decide (0 ≤ Lib.indexByte (ByteArray.mk #[93]).data.toList (gt s j).toUInt8) = true := by rw [hg93]; decide
          have hg' : (gt s j : Int) = 93 := by omega
          have HS : Hid _ := hsee
          have HG' : Hid _ := hg'
          clear hg0 hg93 hsee hg'
          go_wp2_with fail
          refine (ended_no s j p r 0 0 _ (by exact RD.out) hlt).mono ?_
          rintro _ w3 ⟨rfl, n3, rfl⟩
          go_wp2_with fail
          refine (sees_at s _ j p r 0 0 true _ (by exact RD.out) hlt hs HS.out).mono ?_
          rintro _ w4 ⟨rfl, n4, rfl⟩
          go_wp2_with fail
          refine (shut_yes s j p r 0 0 93 _ (by exact RD.out) hlt hs HG'.out).mono ?_
          rintro _ w5 ⟨rfl, h5, h5k⟩
          have own5 := owns_kp (owns_drewN OWN.out (n3 + n4)) (ys := [r]) h5k (by intro g' e; cases e; simp [hgne])
          have HQ5 : Hid _ := h5k.keep (by exact QR.out) hqr
          have KP5 := (kr.drewN (n3 + n4)).trans h5k (by simp)
          have H5 : Hid _ := h5
          clear h5
          have hcells : ∀ j < k, ∀ i < 4, w5.cell? ⟨g, j * 4 + i, none⟩ = some (.int .u64 (wd (ss.getD j 0) i)) := fun j hj i hi => by
            rw [own5.cellAt (j * 4 + i) (by omega)]; exact flat_get ss j (by omega) i hi
          have hglt : g < w5.heap.size := (own5.lt g rfl).2
          have HC : Hid _ := hcells
          clear hcells
          go_wp2_with fail
          refine (union_any g k cap ss _ hk (by omega) (by exact HC.out) hglt).mono ?_
          rintro _ w6 ⟨rfl, h6⟩
          have q6 : w6.heap[w.heap.size]? = some zeroSet := bkeep h6 HQ5.out
          have r6 := bkeep h6 H5.out
          have k6 := KP5.below h6
          have hlt6 : w.heap.size < w6.heap.size := lt_of_block q6
          have hltr : r < w6.heap.size := lt_of_block r6
          have R6 : Hid _ := r6
          have Q6 : Hid _ := q6

          clear q6 r6 h6 HC
          go_wp2_with fail
          refine (others_any (ss.foldl (· ||| ·) 0) _).mono ?_
          rintro _ w7 ⟨rfl, h7⟩
          have q7 : w7.heap[w.heap.size]? = some zeroSet := bkeep h7 (by rw [blk_alloc, if_neg (Nat.ne_of_lt hlt6)]; exact Q6.out)
          have r7 := bkeep h7 (b := r) (by rw [blk_alloc, if_neg (Nat.ne_of_lt hltr)]; exact R6.out)
          have k7 := (k6.alloc _).below h7
          have R7 : Hid _ := r7
          obtain ⟨d0, d1, d2, d3, f0, f1, f2, f3⟩ := four q7
          have Q7 : Hid _ := q7
          clear q7 r7 h7
          go_wp2
          refine bodyPost_ret (v := setV (comp (orAll ss))) (res_set (b := w.heap.size) (e := 62) Try.results93 rfl (by simp only [blk_set, Q7.out]; simp [setObj_cells, orAll])) rfl ?_
          refine ⟨⟨_, rfl, fun _ => by rw [HP.out, if_neg (by rw [HE.out]; simp [good]), HE.out]; rfl⟩, ?_, k7.set4 (.inr (Nat.le_refl _)) _ _ _ _⟩
          simp only [blk_set, if_neg hrne]
          rw [HP.out, if_neg (by rw [HE.out]; simp [good]), HE.out]; exact R7.out
        · have hsee : decide (0 ≤ Lib.indexByte (ByteArray.mk #[93]).data.toList (gt s j).toUInt8) = false := by
            have : (93 : UInt8) ≠ (gt s j).toUInt8 := by
              intro e
              have e2 := congrArg UInt8.toNat e
              have := gt_lt s j
              simp at e2
              omega
            simp [Lib.indexByte, this]
          obtain ⟨m, rfl⟩ : ∃ m, n = m + 1 := ⟨n - 1, by omega⟩
          have hR3 : RR = pItems s (m + 1) (orAll ss) j := by rw [HRR2.out, pAfter, if_neg hg0, if_neg hg93]
          rw [pItems_succ] at hR3
          have shape := pItem_shape s j hz
          have HS : Hid _ := hsee
          have HR3 : Hid _ := hR3
          have SH2 : Hid _ := shape
          clear hg0 hg93 hsee hR3 shape HRR2
          go_wp2_with fail
          refine (ended_no s j p r 0 0 _ (by exact RD.out) hlt).mono ?_
          rintro _ w3 ⟨rfl, n3, rfl⟩
          go_wp2_with fail
          refine (sees_at s _ j p r 0 0 false _ (by exact RD.out) hlt hs HS.out).mono ?_
          rintro _ w4 ⟨rfl, n4, rfl⟩
          go_wp2_with fail
          refine (item_code s j p r _ (by exact RD.out) hz hj hs).mono ?_
          rintro _ w5 ⟨⟨u, hu, rfl, hue⟩, h5, h5k⟩
          have own5 := owns_kp (owns_drewN OWN.out (n3 + n4)) (ys := [r]) h5k (by intro g' e; cases e; simp [hgne])
          have q5 := h5k.keep (b := w.heap.size) (by exact QR.out) hqr
          have KP5 := (kr.drewN (n3 + n4)).trans h5k (by simp)
          have c1 := cell_of_block RD.out 1
          have hlt5 := lt_of_block q5
          have hltr := lt_of_block h5
          have H5 : Hid _ := h5
          have Q5 : Hid _ := q5
          have HU : Hid _ := hue
          clear h5 q5 hue
          obtain ⟨i0, hi0, hz0, hz1, hz2⟩ := info_parts infoSet
          go_wp2_with (at_builtin; refine wpList_append_lies _ rfl _ _ _ rfl (w.heap.size + 1) 62 i0 _ 4 32 Try.underlying68 hi0 hz0 hz1 hz2 rfl (by omega) (.slice (some ⟨g, 0, none⟩) k cap) k (flat ss) rfl (own5.alloc _) ⟨w5.heap.size, 0, none⟩ 1 1 (flat [u]) rfl rfl (World.news_of_block (cs := (flat [u]).toArray) (t := 62) (fr := (0, 0)) (heap_alloc_new w5 _)) (by simp [flat, Value.oneCell']) (by omega) (by unfold maxLen; omega) (by omega) (by simp; omega) (w5.heap.size + 1) (by simp) ?_; intro g2 cap2 w6 own6 grow6 at6 lt6)
          have r6 : w6.heap[r]? = some (rdO s (pItem s j).j (pItem s j).err (pItem s j).pl p) := gkeep grow6 (by rw [blk_alloc, if_neg (Nat.ne_of_lt hltr)]; exact H5.out) (by simp [Value.ownBlock]; exact hgne)
          have hgl : w.heap.size + 1 ≤ g ∧ g < w5.heap.size := own5.lt g rfl
          have c6 := cell_of_block r6 1
          refine ⟨⟨k + 1, cap2, g2, ss ++ [u], rfl, by simp [hk], by omega, ?_, ?_, ?_, ?_⟩, ?_⟩
          · rw [flat_append]; exact own6
          · exact gkeep grow6 (by rw [blk_alloc, if_neg (Nat.ne_of_lt hlt5)]; exact Q5.out) (by simp [Value.ownBlock]; omega)
          · exact (KP5.alloc _).grown grow6 (by intro x e; have e' : g = x := (by simpa [Value.ownBlock] using e); right; omega)
          · rw [r6]
            rcases SH2.out with ⟨a1, a2, a3, a4, a5⟩ | ⟨a1, a2⟩
            · left
              have hR := HR3.out
              rw [if_neg (by simp [a1]), ← HU.out a1, ← orAll_snoc] at hR
              exact ⟨(pItem s j).j, m, by omega, a4, by omega, by rw [a1, a2], hR⟩
            · right
              have hR := HR3.out
              rw [if_pos a1] at hR
              rw [hR]
              exact ⟨a1, a2, by rw [a2]⟩
          · rw [c1, c6]
            rcases SH2.out with ⟨a1, a2, a3, a4, a5⟩ | ⟨a1, a2⟩ <;> simp [intOf] <;> omega
    · have RD : Hid _ := rd
      have HE1 : Hid _ := e1
      have HE2 : Hid _ := e2
      clear rd e1 e2
      go_wp2_with fail
      refine (ended_yes s p r RR.err RR.pl _ (by exact RD.out)).mono ?_
      rintro _ w3 ⟨rfl, n3, rfl⟩
      go_wp2_with fail
      refine (shut_bad s p r RR.err RR.pl 93 _ (by exact RD.out) HE1.out).mono ?_
      rintro _ w5 ⟨rfl, h5, h5k⟩
      have own5 := owns_kp (owns_drewN OWN.out n3) (ys := [r]) h5k (by intro g' e; cases e; simp [hgne])
      have HQ5 : Hid _ := h5k.keep (by exact QR.out) hqr
      have KP5 := (kr.drewN n3).trans h5k (by simp)
      have H5 : Hid _ := h5
      clear h5
      have hcells : ∀ j < k, ∀ i < 4, w5.cell? ⟨g, j * 4 + i, none⟩ = some (.int .u64 (wd (ss.getD j 0) i)) := fun j hj i hi => by
        rw [own5.cellAt (j * 4 + i) (by omega)]; exact flat_get ss j (by omega) i hi
      have hglt : g < w5.heap.size := (own5.lt g rfl).2
      have HC : Hid _ := hcells
      clear hcells
      go_wp2_with fail
      refine (union_any g k cap ss _ hk (by omega) (by exact HC.out) hglt).mono ?_
      rintro _ w6 ⟨rfl, h6⟩
      have q6 : w6.heap[w.heap.size]? = some zeroSet := bkeep h6 HQ5.out
      have r6 := bkeep h6 H5.out
      have k6 := KP5.below h6
      have hlt6 : w.heap.size < w6.heap.size := lt_of_block q6
      have hltr : r < w6.heap.size := lt_of_block r6
      have R6 : Hid _ := r6
      have Q6 : Hid _ := q6

      clear q6 r6 h6 HC
      go_wp2_with fail
      refine (others_any (ss.foldl (· ||| ·) 0) _).mono ?_
      rintro _ w7 ⟨rfl, h7⟩
      have q7 : w7.heap[w.heap.size]? = some zeroSet := bkeep h7 (by rw [blk_alloc, if_neg (Nat.ne_of_lt hlt6)]; exact Q6.out)
      have r7 := bkeep h7 (b := r) (by rw [blk_alloc, if_neg (Nat.ne_of_lt hltr)]; exact R6.out)
      have k7 := (k6.alloc _).below h7
      have R7 : Hid _ := r7
      obtain ⟨d0, d1, d2, d3, f0, f1, f2, f3⟩ := four q7
      have Q7 : Hid _ := q7
      clear q7 r7 h7
      go_wp2
      refine bodyPost_ret (v := setV (comp (orAll ss))) (res_set (b := w.heap.size) (e := 62) Try.results93 rfl (by simp only [blk_set, Q7.out]; simp [setObj_cells, orAll])) rfl ?_
      refine ⟨⟨_, rfl, fun hh => absurd hh (by rw [HP.out, if_pos HE1.out]; exact HE1.out)⟩, ?_, k7.set4 (.inr (Nat.le_refl _)) _ _ _ _⟩
      simp only [blk_set, if_neg hrne]
      rw [HP.out, if_pos HE1.out, HE2.out]; exact R7.out

theorem set_code (s : ByteArray) (i p r : Nat) (w : World) (h : w.heap[r]? = some (rdO s i 0 0 p)) (hz : Nz s) (hi : i ≤ s.size) (hs : s.size ≤ 16) :
    Calls Try.prog 93 #[.pointer (some ⟨r, 0, none⟩)] w (SetPost (pSet s i) s p r w) := by
  by_cases hg : gt s i = 94
  · have hlt : i < s.size := by have := (hz i).2; omega
    exact set_inv s i p r w h hz hlt hs hg
  · have e : pSet s i = pItems s 20 0 i := by rw [pSet, if_neg hg]
    rw [e]
    rcases Nat.lt_or_ge i s.size with hlt | hge
    · exact set_plain s i p r w h hz hlt hs hg
    · exact set_atEnd s i p r w h hz (by omega) hs
end Go.Proofs.Ytbjdkbcfpmeneaa
