/- What is proved here: what the pattern reader's method item does. -/
import Derived.Test.YtbjdkbcfpmeneaaGreatRows
import Derived.Test.YtbjdkbcfpmeneaaGreatRead2
namespace Go.Proofs.YtbjdkbcfpmeneaaGreat
set_option linter.unusedVariables false
set_option linter.unusedSimpArgs false
open Go.RowKit

theorem spanN_lt (a : Nat) : ∀ k, spanN a k < 2 ^ k
  | 0 => by simp [spanN]
  | k + 1 => by
    have ih := spanN_lt a k
    rw [spanN]
    split
    · rw [Nat.one_shiftLeft]
      exact Nat.or_lt_two_pow (by rw [Nat.pow_succ]; omega) (Nat.pow_lt_pow_right (by decide) (by omega))
    · rw [Nat.pow_succ]; omega
theorem spanN_lt' (a k : Nat) (h : k ≤ 256) : spanN a k < 2 ^ 256 := Nat.lt_of_lt_of_le (spanN_lt a k) (Nat.pow_le_pow_right (by decide) h)

/- A set that a function answers, read out of its block. -/
theorem res_set {fn : Func} {t b : Nat} {tmps : Array Value} {w : World} {x0 x1 x2 x3 : Value} {e : TypeId} (hf : fn.results = #[.cell t 65]) (ht : tmps.getD t undef = .pointer (some ⟨b, 0, none⟩))
    (hw : w.heap[b]? = some (.cells #[x0, x1, x2, x3] e (0, 0))) : (results fn tmps).run Tryz.prog w = .ok (.agg #[x0, x1, x2, x3]) w := by
  obtain ⟨d0, d1, d2, d3, _⟩ := four hw
  have ht' : tmps[t]?.getD undef = .pointer (some ⟨b, 0, none⟩) := by rw [← ht]; simp
  simp only [results, hf]
  simp [ht', go_sem, d0, d1, d2, d3]

def ItemPost (s : ByteArray) (i p r : Nat) (w : World) (x : Ending) (w' : World) : Prop :=
  (∃ v, v < 2 ^ 256 ∧ x = .returned (setV v) ∧ ((pItem s i).err = 0 → v = (pItem s i).v)) ∧ w'.heap[r]? = some (rdO s (pItem s i).j (pItem s i).err (pItem s i).pl p) ∧ Kp [r] w w'

set_option maxHeartbeats 800000 in
theorem item_code (s : ByteArray) (i p r : Nat) (w : World) (h : w.heap[r]? = some (rdO s i 0 0 p)) (hz : Nz s) (hi : i ≤ s.size) (hs : s.size ≤ 16) :
    Calls Tryz.prog 123 #[.pointer (some ⟨r, 0, none⟩)] w (ItemPost s i p r w) := by
  have hr := lt_of_block h
  have hrne : r ≠ w.heap.size := by omega
  have c1 := cell_of_block h 1
  simp only [List.getElem?_toArray, List.getElem?_cons_zero, List.getElem?_cons_succ] at c1
  have h' : (w.alloc zeroSet).heap[r]? = some (rdO s i 0 0 p) := by rw [blk_alloc, if_neg hrne]; exact h
  have hq : (w.alloc zeroSet).heap[w.heap.size]? = some zeroSet := by rw [blk_alloc, if_pos rfl]
  have HQ : Hid _ := hq
  have H : Hid _ := h'
  have hA := pOne_shape s i hz
  clear h h' hq
  have hqr : w.heap.size ∉ [r] := by simp; omega
  rcases hA with hA | hA
  · have hI : pItem s i = (if gt s (pOne s i).j = 45 then
        (if (pOne s ((pOne s i).j + 1)).err ≠ 0 then pOne s ((pOne s i).j + 1) else if (pOne s ((pOne s i).j + 1)).v < (pOne s i).v then bad s 6 i 0 else good (pOne s ((pOne s i).j + 1)).j (spanN (pOne s i).v ((pOne s ((pOne s i).j + 1)).v + 1)))
        else good (pOne s i).j (spanN (pOne s i).v ((pOne s i).v + 1))) := by
      simp only [pItem]; rw [if_neg (by simp [hA.1])]
    have HI : Hid _ := hI
    have HA : Hid _ := hA
    clear hA hI
    go_enter Tryz.func123, Tryz.ntmps123
    go_wp2_with fail
    refine (one_code s i p r _ (by exact H.out) hz hi hs).mono ?_
    rintro _ w1 ⟨rfl, h1, h2⟩
    generalize pOne s i = A at *
    obtain ⟨e1, e2, e3, e4, e5⟩ := HA.out
    rw [e1, e2] at h1
    have H1 : Hid _ := h1
    clear h1 e1 e2
    by_cases hg0 : gt s A.j = 0
    · have hj : A.j = s.size := by have := (hz A.j).1 hg0; omega
      have HR : Hid (pItem s i = good A.j (spanN A.v (A.v + 1))) := by show pItem s i = _; rw [HI.out, if_neg (by omega)]
      have HJ : Hid _ := hj
      clear hj
      go_wp2_with fail
      refine (take_end s p r 0 0 45 _ (by rw [← HJ.out]; exact H1.out)).mono ?_
      rintro _ w2 ⟨rfl, n, rfl⟩
      go_wp2_with fail
      refine (span_any A.v A.v _ e5 e5).mono ?_
      rintro _ w3 ⟨rfl, h3⟩
      have q0 : w3.heap[w.heap.size]? = some zeroSet := bkeep h3 (by exact h2.keep HQ.out hqr)
      obtain ⟨d0, d1, d2, d3, f0, f1, f2, f3⟩ := four q0
      have hk : w3.heap[r]? = some (rdO s A.j 0 0 p) := bkeep h3 (by exact H1.out)
      have HK : Hid _ := hk
      clear q0 hk
      go_wp2
      refine bodyPost_ret (v := setV (spanN A.v (A.v + 1))) (by simp [results, Tryz.results123, go_sem, d0, d1, d2, d3]) rfl ?_
      rw [ItemPost, HR.out]
      refine ⟨⟨_, spanN_lt' _ _ (by omega), rfl, fun _ => rfl⟩, ?_, (((((Kp.refl [r] w).alloc zeroSet).trans h2 (by simp)).drewN n).below h3).set4 (.inr (Nat.le_refl _)) _ _ _ _⟩
      simp only [blk_set, if_neg hrne]
      exact HK.out
    · have hlt : A.j < s.size := by have := (hz A.j).2; omega
      by_cases hg : gt s A.j = 45
      · have hg' : (gt s A.j : Int) = 45 := by omega
        have HG : Hid _ := hg'
        have hI := HI.out
        rw [if_pos hg] at hI
        have hB := pOne_shape s (A.j + 1) hz
        have HI2 : Hid _ := hI
        clear hg hg' hg0 hI HI
        go_wp2_with fail
        refine (take_yes s A.j p r 0 0 45 _ (by exact H1.out) hlt hs HG.out).mono ?_
        rintro _ w2 ⟨rfl, h3, h4⟩
        have H3 : Hid _ := h3
        clear h3
        go_wp2_with fail
        refine (one_code s (A.j + 1) p r _ (by exact H3.out) hz hlt hs).mono ?_
        rintro _ w3 ⟨rfl, h5, h6⟩
        generalize pOne s (A.j + 1) = B at *
        rcases hB with hB | hB
        · obtain ⟨b1, b2, b3, b4, b5⟩ := hB
          rw [b1, b2] at h5
          have hI := HI2.out
          rw [if_neg (by simp [b1])] at hI
          have H5 : Hid _ := h5
          clear h5 b1 b2 HI2 HA
          by_cases hc : B.v < A.v
          · rw [if_pos hc] at hI
            have HR : Hid _ := hI
            clear hI
            go_wp2_with fail
            refine (fail_first s B.j p r 0 6 i _ (by exact H5.out)).mono ?_
            rintro _ w4 ⟨rfl, h7, h8⟩
            have H7 : Hid _ := h7
            clear h7
            go_wp2_with fail
            refine (span_any A.v B.v _ e5 b5).mono ?_
            rintro _ w9 ⟨rfl, h9⟩
            have q0 : w9.heap[w.heap.size]? = some zeroSet := bkeep h9 (by exact h8.keep (h6.keep (h4.keep (h2.keep HQ.out hqr) hqr) hqr) hqr)
            obtain ⟨d0, d1, d2, d3, f0, f1, f2, f3⟩ := four q0
            have hk : w9.heap[r]? = some (rdO s s.size 6 i p) := bkeep h9 (by exact H7.out)
            have HK : Hid _ := hk
            clear q0 hk
            go_wp2
            refine bodyPost_ret (v := setV (spanN A.v (B.v + 1))) (by simp [results, Tryz.results123, go_sem, d0, d1, d2, d3]) rfl ?_
            rw [ItemPost, HR.out]
            refine ⟨⟨_, spanN_lt' _ _ (by omega), rfl, fun hh => absurd hh (by simp [bad])⟩, ?_, (((((((Kp.refl [r] w).alloc zeroSet).trans h2 (by simp)).trans h4 (by simp)).trans h6 (by simp)).trans h8 (by simp)).below h9).set4 (.inr (Nat.le_refl _)) _ _ _ _⟩
            simp only [blk_set, if_neg hrne]
            exact HK.out
          · rw [if_neg hc] at hI
            have HR : Hid _ := hI
            clear hI
            go_wp2_with fail
            refine (span_any A.v B.v _ e5 b5).mono ?_
            rintro _ w9 ⟨rfl, h9⟩
            have q0 : w9.heap[w.heap.size]? = some zeroSet := bkeep h9 (by exact h6.keep (h4.keep (h2.keep HQ.out hqr) hqr) hqr)
            obtain ⟨d0, d1, d2, d3, f0, f1, f2, f3⟩ := four q0
            have hk : w9.heap[r]? = some (rdO s B.j 0 0 p) := bkeep h9 (by exact H5.out)
            have HK : Hid _ := hk
            clear q0 hk
            go_wp2
            refine bodyPost_ret (v := setV (spanN A.v (B.v + 1))) (by simp [results, Tryz.results123, go_sem, d0, d1, d2, d3]) rfl ?_
            rw [ItemPost, HR.out]
            refine ⟨⟨_, spanN_lt' _ _ (by omega), rfl, fun _ => rfl⟩, ?_, ((((((Kp.refl [r] w).alloc zeroSet).trans h2 (by simp)).trans h4 (by simp)).trans h6 (by simp)).below h9).set4 (.inr (Nat.le_refl _)) _ _ _ _⟩
            simp only [blk_set, if_neg hrne]
            exact HK.out
        · obtain ⟨b1, b2, b3⟩ := hB
          rw [b2] at h5
          have hI := HI2.out
          rw [if_pos b1] at hI
          have HR : Hid (pItem s i = B) := hI
          have H5 : Hid _ := h5
          have HB1 : Hid _ := b1
          have HB2 : Hid _ := b2
          rw [b3]
          clear h5 b1 b2 HI2 HA hI b3
          by_cases hc : 0 < A.v
          · go_wp2_with fail
            refine (fail_later s s.size p r B.err B.pl 6 i _ (by exact H5.out) HB1.out).mono ?_
            rintro _ w4 ⟨rfl, h7, h8⟩
            have H7 : Hid _ := h7
            clear h7
            go_wp2_with fail
            refine (span_any A.v 0 _ e5 (by decide)).mono ?_
            rintro _ w9 ⟨rfl, h9⟩
            have q0 : w9.heap[w.heap.size]? = some zeroSet := bkeep h9 (by exact h8.keep (h6.keep (h4.keep (h2.keep HQ.out hqr) hqr) hqr) hqr)
            obtain ⟨d0, d1, d2, d3, f0, f1, f2, f3⟩ := four q0
            have hk : w9.heap[r]? = some (rdO s s.size B.err B.pl p) := bkeep h9 (by exact H7.out)
            have HK : Hid _ := hk
            clear q0 hk
            go_wp2
            refine bodyPost_ret (v := setV (spanN A.v 1)) (by simp [results, Tryz.results123, go_sem, d0, d1, d2, d3]) rfl ?_
            rw [ItemPost, HR.out]
            refine ⟨⟨_, spanN_lt' _ _ (by omega), rfl, fun hh => absurd hh HB1.out⟩, ?_, (((((((Kp.refl [r] w).alloc zeroSet).trans h2 (by simp)).trans h4 (by simp)).trans h6 (by simp)).trans h8 (by simp)).below h9).set4 (.inr (Nat.le_refl _)) _ _ _ _⟩
            simp only [blk_set, if_neg hrne]
            rw [HB2.out]
            exact HK.out
          · go_wp2_with fail
            refine (span_any A.v 0 _ e5 (by decide)).mono ?_
            rintro _ w9 ⟨rfl, h9⟩
            have q0 : w9.heap[w.heap.size]? = some zeroSet := bkeep h9 (by exact h6.keep (h4.keep (h2.keep HQ.out hqr) hqr) hqr)
            obtain ⟨d0, d1, d2, d3, f0, f1, f2, f3⟩ := four q0
            have hk : w9.heap[r]? = some (rdO s s.size B.err B.pl p) := bkeep h9 (by exact H5.out)
            have HK : Hid _ := hk
            clear q0 hk
            go_wp2
            refine bodyPost_ret (v := setV (spanN A.v 1)) (by simp [results, Tryz.results123, go_sem, d0, d1, d2, d3]) rfl ?_
            rw [ItemPost, HR.out]
            refine ⟨⟨_, spanN_lt' _ _ (by omega), rfl, fun hh => absurd hh HB1.out⟩, ?_, ((((((Kp.refl [r] w).alloc zeroSet).trans h2 (by simp)).trans h4 (by simp)).trans h6 (by simp)).below h9).set4 (.inr (Nat.le_refl _)) _ _ _ _⟩
            simp only [blk_set, if_neg hrne]
            rw [HB2.out]
            exact HK.out
      · have HR : Hid (pItem s i = good A.j (spanN A.v (A.v + 1))) := by show pItem s i = _; rw [HI.out, if_neg hg]
        have hg' : (gt s A.j : Int) ≠ 45 := by omega
        have HG : Hid _ := hg'
        clear hg hg' hg0
        go_wp2_with fail
        refine (take_no s A.j p r 0 0 45 _ (by exact H1.out) hlt hs HG.out).mono ?_
        rintro _ w2 ⟨rfl, n, rfl⟩
        go_wp2_with fail
        refine (span_any A.v A.v _ e5 e5).mono ?_
        rintro _ w3 ⟨rfl, h3⟩
        have q0 : w3.heap[w.heap.size]? = some zeroSet := bkeep h3 (by exact h2.keep HQ.out hqr)
        obtain ⟨d0, d1, d2, d3, f0, f1, f2, f3⟩ := four q0
        have hk : w3.heap[r]? = some (rdO s A.j 0 0 p) := bkeep h3 (by exact H1.out)
        have HK : Hid _ := hk
        clear q0 hk
        go_wp2
        refine bodyPost_ret (v := setV (spanN A.v (A.v + 1))) (by simp [results, Tryz.results123, go_sem, d0, d1, d2, d3]) rfl ?_
        rw [ItemPost, HR.out]
        refine ⟨⟨_, spanN_lt' _ _ (by omega), rfl, fun _ => rfl⟩, ?_, (((((Kp.refl [r] w).alloc zeroSet).trans h2 (by simp)).drewN n).below h3).set4 (.inr (Nat.le_refl _)) _ _ _ _⟩
        simp only [blk_set, if_neg hrne]
        exact HK.out
  · have HR : Hid (pItem s i = pOne s i) := by show pItem s i = _; simp only [pItem]; rw [if_pos hA.1]
    have HA : Hid _ := hA
    clear hA
    go_enter Tryz.func123, Tryz.ntmps123
    go_wp2_with fail
    refine (one_code s i p r _ (by exact H.out) hz hi hs).mono ?_
    rintro _ w1 ⟨rfl, h1, h2⟩
    generalize pOne s i = A at *
    obtain ⟨e1, e2, e3⟩ := HA.out
    rw [e2] at h1
    rw [e3]
    have H1 : Hid _ := h1
    have HE : Hid _ := e1
    clear h1 e1 e2 e3
    go_wp2_with fail
    refine (take_end s p r A.err A.pl 45 _ (by exact H1.out)).mono ?_
    rintro _ w2 ⟨rfl, n, rfl⟩
    go_wp2_with fail
    refine (span_any 0 0 _ (by decide) (by decide)).mono ?_
    rintro _ w3 ⟨rfl, h3⟩
    have q0 : w3.heap[w.heap.size]? = some zeroSet := bkeep h3 (by exact h2.keep HQ.out hqr)
    obtain ⟨d0, d1, d2, d3, f0, f1, f2, f3⟩ := four q0
    have hk : w3.heap[r]? = some (rdO s s.size A.err A.pl p) := bkeep h3 (by exact H1.out)
    have HK : Hid _ := hk
    clear q0 hk
    go_wp2
    refine bodyPost_ret (v := setV (spanN 0 1)) (by simp [results, Tryz.results123, go_sem, d0, d1, d2, d3]) rfl ?_
    rw [ItemPost, HR.out]
    refine ⟨⟨_, spanN_lt' _ _ (by omega), rfl, fun hh => absurd hh HE.out⟩, ?_, (((((Kp.refl [r] w).alloc zeroSet).trans h2 (by simp)).drewN n).below h3).set4 (.inr (Nat.le_refl _)) _ _ _ _⟩
    simp only [blk_set, if_neg hrne]
    rw [HA.out.2.1]; exact HK.out
end Go.Proofs.YtbjdkbcfpmeneaaGreat
