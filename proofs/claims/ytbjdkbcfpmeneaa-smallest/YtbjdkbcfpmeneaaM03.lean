/- What is proved here: what the pattern reader's method item does. -/
import Derived.Test.YtbjdkbcfpmeneaaRows
import Derived.Test.YtbjdkbcfpmeneaaM02
namespace Go.Proofs.Ytbjdkbcfpmeneaa
set_option linter.unusedVariables false
set_option linter.unusedSimpArgs false
open Go.RowKit

theorem spanN_lt (a : Nat) : ∀ k, spanN a k < 2 ^ k
  | 0 => by simp [spanN]
  | k + 1 => by
    have ih := spanN_lt a k
    rw [spanN]
    split
    · rw [Nat.one_shiftLeft]
      exact Nat.or_lt_two_pow (by rw [Nat.pow_succ]; omega) (Nat.pow_lt_pow_right (by decide) (by omega))
    · rw [Nat.pow_succ]; omega
theorem spanN_lt' (a k : Nat) (h : k ≤ 256) : spanN a k < 2 ^ 256 := Nat.lt_of_lt_of_le (spanN_lt a k) (Nat.pow_le_pow_right (by decide) h)

/- A set that a function answers, read out of its block. -/
theorem res_set {fn : Func} {t b : Nat} {tmps : Array Value} {w : World} {x0 x1 x2 x3 : Value} {e : TypeId} (hf : fn.results = #[.cell t 62]) (ht : tmps.getD t undef = .pointer (some ⟨b, 0, none⟩))
    (hw : w.heap[b]? = some (.cells #[x0, x1, x2, x3] e (0, 0))) : (results fn tmps).run Try.prog w = .ok (.agg #[x0, x1, x2, x3]) w := by
  obtain ⟨d0, d1, d2, d3, _⟩ := four hw
  have ht' : tmps[t]?.getD undef = .pointer (some ⟨b, 0, none⟩) := by rw [← ht]; simp
  simp only [results, hf]
  simp [ht', go_sem, d0, d1, d2, d3]

def ItemPost (s : ByteArray) (i p r : Nat) (w : World) (x : Ending) (w' : World) : Prop :=
  (∃ v, v < 2 ^ 256 ∧ x = .returned (setV v) ∧ ((pItem s i).err = 0 → v = (pItem s i).v)) ∧ w'.heap[r]? = some (rdO s (pItem s i).j (pItem s i).err (pItem s i).pl p) ∧ Kp [r] w w'

set_option maxHeartbeats 800000 in
theorem item_code (s : ByteArray) (i p r : Nat) (w : World) (h : w.heap[r]? = some (rdO s i 0 0 p)) (hz : Nz s) (hi : i ≤ s.size) (hs : s.size ≤ 16) :
    Calls Try.prog 96 #[.pointer (some ⟨r, 0, none⟩)] w (ItemPost s i p r w) := by
  have hr := lt_of_block h
  have hrne : r ≠ w.heap.size := by omega
  have c1 := cell_of_block h 1
  simp only [List.getElem?_toArray, List.getElem?_cons_zero, List.getElem?_cons_succ] at c1
  have h' : (w.alloc zeroSet).heap[r]? = some (rdO s i 0 0 p) := by rw [blk_alloc, if_neg hrne]; exact h
  have hq : (w.alloc zeroSet).heap[w.heap.size]? = some zeroSet := by rw [blk_alloc, if_pos rfl]
  have HQ : Hid _ := hq
  have H : Hid _ := h'
  have hA := pOne_shape s i hz
  clear h h' hq
  have hqr : w.heap.size ∉ [r] := by simp; omega
  rcases hA with hA | hA
  · have hI : pItem s i = (if gt s (pOne s i).j = 45 then
        (if (pOne s ((pOne s i).j + 1)).err ≠ 0 then pOne s ((pOne s i).j + 1) else if (pOne s ((pOne s i).j + 1)).v < (pOne s i).v then bad s 6 i 0 else good (pOne s ((pOne s i).j + 1)).j (spanN (pOne s i).v ((pOne s ((pOne s i).j + 1)).v + 1)))
        else good (pOne s i).j (spanN (pOne s i).v ((pOne s i).v + 1))) := by
      simp only [pItem]; rw [if_neg (by simp [hA.1])]
    have HI : Hid _ := hI
    have HA : Hid _ := hA
    clear hA hI
    go_enter Try.func96, Try.ntmps96
    go_wp2_with fail
    refine (one_code s i p r _ (by exact H.out) hz hi hs).mono ?_
    rintro _ w1 ⟨rfl, h1, h2⟩
    generalize pOne s i = A at *
    obtain ⟨e1, e2, e3, e4, e5⟩ := HA.out
    rw [e1, e2] at h1
    have H1 : Hid _ := h1
    clear h1 e1 e2
    by_cases hg0 : gt s A.j = 0
    · have hj : A.j = s.size := by have := (hz A.j).1 hg0; omega
      have HR : Hid (pItem s i = good A.j (spanN A.v (A.v + 1))) := by show pItem s i = _; rw [HI.out, if_neg (by omega)]
      have HJ : Hid _ := hj
      clear hj
      go_wp2_with fail
      refine (take_end s p r 0 0 45 _ (by rw [← HJ.out]; exact H1.out)).mono ?_
      rintro _ w2 ⟨rfl, n, rfl⟩
      go_wp2_with fail
      refine (span_any A.v A.v _ e5 e5).mono ?_
      rintro _ w3 ⟨rfl, h3⟩
      have q0 : w3.heap[w.heap.size]? = some zeroSet := bkeep h3 (by exact h2.keep HQ.out hqr)
      obtain ⟨d0, d1, d2, d3, f0, f1, f2, f3⟩ := four q0
      have hk : w3.heap[r]? = some (rdO s A.j 0 0 p) := bkeep h3 (by exact H1.out)
      have HK : Hid _ := hk
      clear q0 hk
      go_wp2
      refine bodyPost_ret (v := setV (spanN A.v (A.v + 1))) (by simp [results, Try.results96, go_sem, d0, d1, d2, d3]) rfl ?_
      rw [ItemPost, HR.out]
      refine ⟨⟨_, spanN_lt' _ _ (by omega), rfl, fun _ => rfl⟩, ?_, (((((Kp.refl [r] w).alloc zeroSet).trans h2 (by simp)).drewN n).below h3).set4 (.inr (Nat.le_refl _)) _ _ _ _⟩
      simp only [blk_set, if_neg hrne]
      exact HK.out
    · have hlt : A.j < s.size := by have := (hz A.j).2; omega
      by_cases hg : gt s A.j = 45
      · have hg' : (gt s A.j : Int) = 45 := by omega
        have HG : Hid _ := hg'
        have hI := HI.out
        rw [if_pos hg] at hI
        have hB := pOne_shape s (A.j + 1) hz
        have HI2 : Hid _ := hI
        clear hg hg' hg0 hI HI
        go_wp2_with fail
        refine (take_yes s A.j p r 0 0 45 _ (by exact H1.out) hlt hs HG.out).mono ?_
        rintro _ w2 ⟨rfl, h3, h4⟩
        have H3 : Hid _ := h3
        clear h3
        go_wp2_with fail
        refine (one_code s (A.j + 1) p r _ (by exact H3.out) hz hlt hs).mono ?_
        rintro _ w3 ⟨rfl, h5, h6⟩
        generalize pOne s (A.j + 1) = B at *
        rcases hB with hB | hB
        · obtain ⟨b1, b2, b3, b4, b5⟩ := hB
          rw [b1, b2] at h5
          have hI := HI2.out
          rw [if_neg (by simp [b1])] at hI
          have H5 : Hid _ := h5
          clear h5 b1 b2 HI2 HA
          by_cases hc : B.v < A.v
          · rw [if_pos hc] at hI
            have HR : Hid _ := hI
            clear hI
            go_wp2_with fail
            refine (fail_first s B.j p r 0 6 i _ (by exact H5.out)).mono ?_
            rintro _ w4 ⟨rfl, h7, h8⟩
            have H7 : Hid _ := h7
            clear h7
            go_wp2_with fail
            refine (span_any A.v B.v _ e5 b5).mono ?_
            rintro _ w9 ⟨rfl, h9⟩
            have q0 : w9.heap[w.heap.size]? = some zeroSet := bkeep h9 (by exact h8.keep (h6.keep (h4.keep (h2.keep HQ.out hqr) hqr) hqr) hqr)
            obtain ⟨d0, d1, d2, d3, f0, f1, f2, f3⟩ := four q0
            have hk : w9.heap[r]? = some (rdO s s.size 6 i p) := bkeep h9 (by exact H7.out)
            have HK : Hid _ := hk
            clear q0 hk
            go_wp2
            refine bodyPost_ret (v := setV (spanN A.v (B.v + 1))) (by simp [results, Try.results96, go_sem, d0, d1, d2, d3]) rfl ?_
            rw [ItemPost, HR.out]
            refine ⟨⟨_, spanN_lt' _ _ (by omega), rfl, fun hh => absurd hh (by simp [bad])⟩, ?_, (((((((Kp.refl [r] w).alloc zeroSet).trans h2 (by simp)).trans h4 (by simp)).trans h6 (by simp)).trans h8 (by simp)).below h9).set4 (.inr (Nat.le_refl _)) _ _ _ _⟩
            simp only [blk_set, if_neg hrne]
            exact HK.out
          · rw [if_neg hc] at hI
            have HR : Hid _ := hI
            clear hI
            go_wp2_with fail
            refine (span_any A.v B.v _ e5 b5).mono ?_
            rintro _ w9 ⟨rfl, h9⟩
            have q0 : w9.heap[w.heap.size]? = some zeroSet := bkeep h9 (by exact h6.keep (h4.keep (h2.keep HQ.out hqr) hqr) hqr)
            obtain ⟨d0, d1, d2, d3, f0, f1, f2, f3⟩ := four q0
            have hk : w9.heap[r]? = some (rdO s B.j 0 0 p) := bkeep h9 (by exact H5.out)
            have HK : Hid _ := hk
            clear q0 hk
            go_wp2
            refine bodyPost_ret (v := setV (spanN A.v (B.v + 1))) (by simp [results, Try.results96, go_sem, d0, d1, d2, d3]) rfl ?_
            rw [ItemPost, HR.out]
            refine ⟨⟨_, spanN_lt' _ _ (by omega), rfl, fun _ => rfl⟩, ?_, ((((((Kp.refl [r] w).alloc zeroSet).trans h2 (by simp)).trans h4 (by simp)).trans h6 (by simp)).below h9).set4 (.inr (Nat.le_refl _)) _ _ _ _⟩
            simp only [blk_set, if_neg hrne]
            exact HK.out
        · obtain ⟨b1, b2, b3⟩ := hB
          rw [b2] at h5
          have hI := HI2.out
          rw [if_pos b1] at hI
          have HR : Hid (pItem s i = B) := hI
          have H5 : Hid _ := h5
          have HB1 : Hid _ := b1
          have HB2 : Hid _ := b2
          rw [b3]
          clear h5 b1 b2 HI2 HA hI b3
          by_cases hc : 0 < A.v
          · go_wp2_with fail
            refine (fail_later s s.size p r B.err B.pl 6 i _ (by exact H5.out) HB1.out).mono ?_
            rintro _ w4 ⟨rfl, h7, h8⟩
            have H7 : Hid _ := h7
            clear h7
            go_wp2_with fail
            refine (span_any A.v 0 _ e5 (by decide)).mono ?_
            rintro _ w9 ⟨rfl, h9⟩
            have q0 : w9.heap[w.heap.size]? = some zeroSet := bkeep h9 (by exact h8.keep (h6.keep (h4.keep (h2.keep HQ.out hqr) hqr) hqr) hqr)
            obtain ⟨d0, d1, d2, d3, f0, f1, f2, f3⟩ := four q0
            have hk : w9.heap[r]? = some (rdO s s.size B.err B.pl p) := bkeep h9 (by exact H7.out)
            have HK : Hid _ := hk
            clear q0 hk
            go_wp2
            refine bodyPost_ret (v := setV (spanN A.v 1)) (by simp [results, Try.results96, go_sem, d0, d1, d2, d3]) rfl ?_
            rw [ItemPost, HR.out]
            refine ⟨⟨_, spanN_lt' _ _ (by omega), rfl, fun hh => absurd hh HB1.out⟩, ?_, (((((((Kp.refl [r] w).alloc zeroSet).trans h2 (by simp)).trans h4 (by simp)).trans h6 (by simp)).trans h8 (by simp)).below h9).set4 (.inr (Nat.le_refl _)) _ _ _ _⟩
            simp only [blk_set, if_neg hrne]
            rw [HB2.out]
            exact HK.out
          · go_wp2_with fail
            refine (span_any A.v 0 _ e5 (by decide)).mono ?_
            rintro _ w9 ⟨rfl, h9⟩
            have q0 : w9.heap[w.heap.size]? = some zeroSet := bkeep h9 (by exact h6.keep (h4.keep (h2.keep HQ.out hqr) hqr) hqr)
            obtain ⟨d0, d1, d2, d3, f0, f1, f2, f3⟩ := four q0
            have hk : w9.heap[r]? = some (rdO s s.size B.err B.pl p) := bkeep h9 (by exact H5.out)
            have HK : Hid _ := hk
            clear q0 hk
            go_wp2
            refine bodyPost_ret (v := setV (spanN A.v 1)) (by simp [results, Try.results96, go_sem, d0, d1, d2, d3]) rfl ?_
            rw [ItemPost, HR.out]
            refine ⟨⟨_, spanN_lt' _ _ (by omega), rfl, fun hh => absurd hh HB1.out⟩, ?_, ((((((Kp.refl [r] w).alloc zeroSet).trans h2 (by simp)).trans h4 (by simp)).trans h6 (by simp)).below h9).set4 (.inr (Nat.le_refl _)) _ _ _ _⟩
            simp only [blk_set, if_neg hrne]
            rw [HB2.out]
            exact HK.out
      · have HR : Hid (pItem s i = good A.j (spanN A.v (A.v + 1))) := by show pItem s i = _; rw [HI.out, if_neg hg]
        have hg' : (gt s A.j : Int) ≠ 45 := by omega
        have HG : Hid _ := hg'
        clear hg hg' hg0
        go_wp2_with fail
        refine (take_no s A.j p r 0 0 45 _ (by exact H1.out) hlt hs HG.out).mono ?_
        rintro _ w2 ⟨rfl, n, rfl⟩
        go_wp2_with fail
        refine (span_any A.v A.v _ e5 e5).mono ?_
        rintro _ w3 ⟨rfl, h3⟩
        have q0 : w3.heap[w.heap.size]? = some zeroSet := bkeep h3 (by exact h2.keep HQ.out hqr)
        obtain ⟨d0, d1, d2, d3, f0, f1, f2, f3⟩ := four q0
        have hk : w3.heap[r]? = some (rdO s A.j 0 0 p) := bkeep h3 (by exact H1.out)
        have HK : Hid _ := hk
        clear q0 hk
        go_wp2
        refine bodyPost_ret (v := setV (spanN A.v (A.v + 1))) (by simp [results, Try.results96, go_sem, d0, d1, d2, d3]) rfl ?_
        rw [ItemPost, HR.out]
        refine ⟨⟨_, spanN_lt' _ _ (by omega), rfl, fun _ => rfl⟩, ?_, (((((Kp.refl [r] w).alloc zeroSet).trans h2 (by simp)).drewN n).below h3).set4 (.inr (Nat.le_refl _)) _ _ _ _⟩
        simp only [blk_set, if_neg hrne]
        exact HK.out
  · have HR : Hid (pItem s i = pOne s i) := by show pItem s i = _; simp only [pItem]; rw [if_pos hA.1]
    have HA : Hid _ := hA
    clear hA
    go_enter Try.func96, Try.ntmps96
    go_wp2_with fail
    refine (one_code s i p r _ (by exact H.out) hz hi hs).mono ?_
    rintro _ w1 ⟨rfl, h1, h2⟩
    generalize pOne s i = A at *
    obtain ⟨e1, e2, e3⟩ := HA.out
    rw [e2] at h1
    rw [e3]
    have H1 : Hid _ := h1
    have HE : Hid _ := e1
    clear h1 e1 e2 e3
    go_wp2_with fail
    refine (take_end s p r A.err A.pl 45 _ (by exact H1.out)).mono ?_
    rintro _ w2 ⟨rfl, n, rfl⟩
    go_wp2_with fail
    refine (span_any 0 0 _ (by decide) (by decide)).mono ?_
    rintro _ w3 ⟨rfl, h3⟩
    have q0 : w3.heap[w.heap.size]? = some zeroSet := bkeep h3 (by exact h2.keep HQ.out hqr)
    obtain ⟨d0, d1, d2, d3, f0, f1, f2, f3⟩ := four q0
    have hk : w3.heap[r]? = some (rdO s s.size A.err A.pl p) := bkeep h3 (by exact H1.out)
    have HK : Hid _ := hk
    clear q0 hk
    go_wp2
    refine bodyPost_ret (v := setV (spanN 0 1)) (by simp [results, Try.results96, go_sem, d0, d1, d2, d3]) rfl ?_
    rw [ItemPost, HR.out]
    refine ⟨⟨_, spanN_lt' _ _ (by omega), rfl, fun hh => absurd hh HE.out⟩, ?_, (((((Kp.refl [r] w).alloc zeroSet).trans h2 (by simp)).drewN n).below h3).set4 (.inr (Nat.le_refl _)) _ _ _ _⟩
    simp only [blk_set, if_neg hrne]
    rw [HA.out.2.1]; exact HK.out
end Go.Proofs.Ytbjdkbcfpmeneaa

/- What is proved here: what the pattern reader's method set does. -/
namespace Go.Proofs.Ytbjdkbcfpmeneaa
set_option linter.unusedVariables false
set_option linter.unusedSimpArgs false
open Go.RowKit

theorem pItem_shape (s : ByteArray) (i : Nat) (hz : Nz s) : ((pItem s i).err = 0 ∧ (pItem s i).pl = 0 ∧ i < (pItem s i).j ∧ (pItem s i).j ≤ s.size ∧ (pItem s i).v < 2 ^ 256) ∨ ((pItem s i).err ≠ 0 ∧ (pItem s i).j = s.size) := by
  have hA := pOne_shape s i hz
  have hB := pOne_shape s ((pOne s i).j + 1) hz
  simp only [pItem]
  generalize pOne s i = A at *
  generalize pOne s (A.j + 1) = B at *
  rcases hA with ⟨a1, a2, a3, a4, a5⟩ | ⟨a1, a2, a3⟩
  · rw [if_neg (by simp [a1])]
    split
    · rcases hB with ⟨b1, b2, b3, b4, b5⟩ | ⟨b1, b2, b3⟩
      · rw [if_neg (by simp [b1])]
        split
        · right; simp [bad]
        · left; exact ⟨rfl, rfl, by simp only [good]; omega, b4, spanN_lt' _ _ (by omega)⟩
      · rw [if_pos b1]; right; exact ⟨b1, b2⟩
    · left; exact ⟨rfl, rfl, a3, a4, spanN_lt' _ _ (by omega)⟩
  · rw [if_pos a1]; right; exact ⟨a1, a2⟩

/- What a reading of items comes to behind one of them. -/
def pAfter (s : ByteArray) (n acc j : Nat) : PR Nat :=
  if gt s j = 0 then bad s 4 s.size 0 else if gt s j = 93 then good (j + 1) acc else pItems s n acc j
theorem pItems_succ (s : ByteArray) (n acc i : Nat) : pItems s (n + 1) acc i = if (pItem s i).err ≠ 0 then pItem s i else pAfter s n (acc ||| (pItem s i).v) (pItem s i).j := rfl

def flat (ss : List Nat) : List Value := ss.flatMap fun s => [.int .u64 (wd s 0), .int .u64 (wd s 1), .int .u64 (wd s 2), .int .u64 (wd s 3)]
theorem flat_len (ss : List Nat) : (flat ss).length = ss.length * 4 := by
  induction ss with
  | nil => rfl
  | cons a l ih => simp only [flat, List.flatMap_cons, List.length_append, List.length_cons, List.length_nil] at *; omega
theorem flat_append (a b : List Nat) : flat (a ++ b) = flat a ++ flat b := by simp [flat]
theorem flat_get (ss : List Nat) (j : Nat) (hj : j < ss.length) (i : Nat) (hi : i < 4) : (flat ss)[j * 4 + i]? = some (.int .u64 (wd (ss.getD j 0) i)) := by
  induction ss generalizing j with
  | nil => simp at hj
  | cons a l ih =>
    have e : flat (a :: l) = [.int .u64 (wd a 0), .int .u64 (wd a 1), .int .u64 (wd a 2), .int .u64 (wd a 3)] ++ flat l := by simp [flat]
    rw [e]
    cases j with
    | zero =>
      have : i = 0 ∨ i = 1 ∨ i = 2 ∨ i = 3 := by omega
      rcases this with rfl | rfl | rfl | rfl <;> rfl
    | succ j =>
      rw [List.getElem?_append_right (by simp; omega)]
      have := ih j (by simpa using hj)
      simp only [List.length_cons, List.length_nil, List.getD_cons_succ]
      rw [← this]
      congr 1
      omega

theorem owns_kp {w w' : World} {base e size n : Nat} {v : Value} {xs : List Value} {ys : List Nat} (h : w.ownsRow base e size v n xs) (hk : Kp ys w w') (hne : ∀ g, v.ownBlock = some g → g ∉ ys) : w'.ownsRow base e size v n xs := by
  refine ⟨h.1, ?_⟩
  rcases h.2 with h2 | ⟨g, cap, cur, hv, hb, hg, rest⟩
  · exact .inl h2
  · exact .inr ⟨g, cap, cur, hv, hb, hk.keep hg (hne g (by rw [hv]; rfl)), rest⟩
theorem owns_drewN {w : World} {base e size n : Nat} {v : Value} {xs : List Value} (h : w.ownsRow base e size v n xs) (k : Nat) : (w.drewN k).ownsRow base e size v n xs := h

def orAll (ss : List Nat) : Nat := ss.foldl (· ||| ·) 0
theorem orAll_snoc (ss : List Nat) (v : Nat) : orAll (ss ++ [v]) = orAll ss ||| v := by simp [orAll]

theorem infoSet : (Try.prog.info? 62).map (fun i => (i.zero, i.size, i.bytes)) = some (some (.agg #[.int .u64 0, .int .u64 0, .int .u64 0, .int .u64 0]), 4, 32) := by kernel_rfl

theorem Kp.grown {xs : List Nat} {w w1 w2 : World} (h : Kp xs w w1) {row : Option Nat} (hg : w1.grownBy w2 row) (hr : ∀ k, row = some k → k ∈ xs ∨ w.heap.size ≤ k) : Kp xs w w2 :=
  ⟨hg.os.trans h.os, hg.tape.trans h.tape, hg.output.trans h.output, Nat.le_trans h.size hg.size, fun k hk hx => by
    rw [hg.block k (by have := h.size; omega) (fun e => by rcases hr k e.symm with e | e; exact hx e; omega)]; exact h.block k hk hx⟩
theorem gkeep {w w1 : World} {row : Option Nat} (hg : w.grownBy w1 row) {b : Nat} {o : Obj} (hb : w.heap[b]? = some o) (hne : row ≠ some b) : w1.heap[b]? = some o := by
  rw [hg.block b (lt_of_block hb) (fun e => hne e.symm)]; exact hb

def SetPost (R : PR Nat) (s : ByteArray) (p r : Nat) (w : World) (x : Ending) (w' : World) : Prop :=
  (∃ v, x = .returned (setV v) ∧ (R.err = 0 → v = R.v)) ∧ w'.heap[r]? = some (rdO s R.j R.err R.pl p) ∧ Kp [r] w w'

set_option maxHeartbeats 1600000 in
theorem set_plain (s : ByteArray) (i p r : Nat) (w : World) (h : w.heap[r]? = some (rdO s i 0 0 p)) (hz : Nz s) (hi : i < s.size) (hs : s.size ≤ 16) (hg : gt s i ≠ 94) :
    Calls Try.prog 93 #[.pointer (some ⟨r, 0, none⟩)] w (SetPost (pItems s 20 0 i) s p r w) := by
  have hr := lt_of_block h
  have hrne : r ≠ w.heap.size := by omega
  have h' : (w.alloc zeroSet).heap[r]? = some (rdO s i 0 0 p) := by rw [blk_alloc, if_neg hrne]; exact h
  have hq : (w.alloc zeroSet).heap[w.heap.size]? = some zeroSet := by rw [blk_alloc, if_pos rfl]
  have HQ : Hid _ := hq
  have H : Hid _ := h'
  have hqr : w.heap.size ∉ [r] := by simp; omega
  have hg' : (gt s i : Int) ≠ 94 := by omega
  have HG : Hid _ := hg'
  have hI : i ≤ s.size := by omega
  clear h h' hq hg hg'
  go_enter Try.func93, Try.ntmps93
  go_wp2_with fail
  refine (take_no s i p r 0 0 94 _ (by exact H.out) hi hs HG.out).mono ?_
  rintro _ w2 ⟨rfl, n0, hw⟩
  have HQ2 : Hid (w2.heap[w.heap.size]? = some zeroSet) := by subst hw; exact HQ.out
  have H2 : Hid (w2.heap[r]? = some (rdO s i 0 0 p)) := by subst hw; exact H.out
  have HK2 : Kp [r] w w2 := by subst hw; exact ((Kp.refl _ _).alloc _).drewN n0
  clear hw
  go_wp2_with fail
  refine (item_code s i p r _ (by exact H2.out) hz hI hs).mono ?_
  rintro _ w1 ⟨⟨v, hv, rfl, hve⟩, h1, h2⟩
  have q1 := h2.keep HQ2.out hqr
  have k1 := HK2.trans h2 (by simp)
  have hsz1 : w.heap.size < w1.heap.size := lt_of_block q1
  have hr1 := lt_of_block h1
  have hR := pItems_succ s 19 0 i
  have shape := pItem_shape s i hz
  generalize pItems s 20 0 i = RR at *
  have HRR : Hid _ := hR
  have H1 : Hid _ := h1
  have HV : Hid _ := hve
  have Q1 : Hid _ := q1
  have SH : Hid _ := shape
  clear h1 hve hR q1 shape
  go_wp2_with fail
  go_loopw [4] (fun it w' => ∃ (k cap g : Nat) (ss : List Nat), it = .slice (some ⟨g, 0, none⟩) k cap ∧ ss.length = k ∧ k ≤ 17 ∧ w'.ownsRow (w.heap.size + 1) 62 4 (.slice (some ⟨g, 0, none⟩) k cap) k (flat ss) ∧ w'.heap[w.heap.size]? = some zeroSet ∧ Kp [r] w w' ∧
      ((∃ j n, k ≤ j ∧ j ≤ s.size ∧ s.size - j < n ∧ w'.heap[r]? = some (rdO s j 0 0 p) ∧ RR = pAfter s n (orAll ss) j) ∨ (RR.err ≠ 0 ∧ RR.j = s.size ∧ w'.heap[r]? = some (rdO s s.size RR.err RR.pl p))))
    (fun _ w' => s.size - (intOf ((w'.cell? ⟨r, 1, none⟩).getD undef)).toNat)
  case atStart =>
    refine ⟨1, 1, w1.heap.size, [v], rfl, rfl, by omega, ?_, ?_, k1.alloc _, ?_⟩
    · exact World.ownsRow_lit w1 #[.int .u64 (wd v 0), .int .u64 (wd v 1), .int .u64 (wd v 2), .int .u64 (wd v 3)] 1 hsz1 (by decide) rfl
    · rw [blk_alloc, if_neg (Nat.ne_of_lt hsz1)]; exact Q1.out
    · rw [blk_alloc, if_neg (Nat.ne_of_lt hr1)]
      rcases SH.out with ⟨a1, a2, a3, a4, a5⟩ | ⟨a1, a2⟩
      · left
        have hR := HRR.out
        rw [if_neg (by simp [a1]), ← HV.out a1] at hR
        refine ⟨(pItem s i).j, 19, by omega, a4, by omega, ?_, hR⟩
        rw [H1.out, a1, a2]
      · right
        have hR := HRR.out
        rw [if_pos a1] at hR
        rw [hR]
        exact ⟨a1, a2, by rw [H1.out, a2]⟩
  case round =>
    obtain ⟨k, cap, g, ss, rfl, hk, hk17, own, qr, kr, hst⟩ := hrel
    have QR : Hid _ := qr
    have OWN : Hid _ := own
    have hgne : g ≠ r := by
      rintro rfl; have := own.lt g rfl; omega
    clear own qr
    rcases hst with ⟨j, n, hkj, hj, hn, rd, hRR⟩ | ⟨e1, e2, rd⟩
    · have RD : Hid _ := rd
      have HRR2 : Hid _ := hRR
      clear rd hRR
      by_cases hg0 : gt s j = 0
      · have hjs : j = s.size := by have := (hz j).1 hg0; omega
        subst hjs
        have HE : Hid (RR = bad s 4 s.size 0) := by show RR = _; rw [HRR2.out, pAfter, if_pos hg0]
        clear hg0
        go_wp2_with fail
        refine (ended_yes s p r 0 0 _ (by exact RD.out)).mono ?_
        rintro _ w3 ⟨rfl, n3, rfl⟩
        go_wp2_with fail
        refine (shut_end s p r 0 93 _ (by exact RD.out)).mono ?_
        rintro _ w5 ⟨rfl, h5, h5k⟩
        have own5 := owns_kp (owns_drewN OWN.out n3) (ys := [r]) h5k (by intro g' e; cases e; simp [hgne])
        have HQ5 : Hid _ := h5k.keep (by exact QR.out) hqr
        have KP5 := (kr.drewN n3).trans h5k (by simp)
        have H5 : Hid _ := h5
        clear h5
        have hcells : ∀ j < k, ∀ i < 4, w5.cell? ⟨g, j * 4 + i, none⟩ = some (.int .u64 (wd (ss.getD j 0) i)) := fun j hj i hi => by
          rw [own5.cellAt (j * 4 + i) (by omega)]; exact flat_get ss j (by omega) i hi
        have hglt : g < w5.heap.size := (own5.lt g rfl).2
        have HC : Hid _ := hcells
        clear hcells
        go_wp2_with fail
        refine (union_any g k cap ss _ hk (by omega) (by exact HC.out) hglt).mono ?_
        rintro _ w6 ⟨rfl, h6⟩
        have q6 : w6.heap[w.heap.size]? = some zeroSet := bkeep h6 HQ5.out
        have r6 := bkeep h6 H5.out
        have k6 := KP5.below h6
        have hlt6 : w.heap.size < w6.heap.size := lt_of_block q6
        have hltr : r < w6.heap.size := lt_of_block r6
        have R6 : Hid _ := r6
        have Q6 : Hid _ := q6

        obtain ⟨d0, d1, d2, d3, f0, f1, f2, f3⟩ := four q6
        clear q6 r6 h6 HC
        go_wp2
        refine bodyPost_ret (v := setV (orAll ss)) (res_set (b := w.heap.size) (e := 62) Try.results93 rfl (by simp only [blk_alloc, blk_set, size_set, if_neg (Nat.ne_of_lt hlt6), Q6.out]; simp [setObj_cells, orAll])) rfl ?_
        refine ⟨⟨_, rfl, fun hh => absurd hh (by rw [HE.out]; simp [bad])⟩, ?_, ?_⟩
        · simp only [blk_alloc, blk_set, if_neg hrne, size_set, if_neg (Nat.ne_of_lt hltr)]
          rw [HE.out]; exact R6.out
        · exact (k6.set4 (.inr (Nat.le_refl _)) _ _ _ _).alloc _
      · have hlt : j < s.size := by have := (hz j).2; omega
        by_cases hg93 : gt s j = 93
        · have HE : Hid (RR = good (j + 1) (orAll ss)) := by show RR = _; rw [HRR2.out, pAfter, if_neg hg0, if_pos hg93]
          have hsee : decide (0 ≤ Lib.indexByte (ByteArray.mk #[93]).data.toList (gt s j).toUInt8) = true := by rw [hg93]; decide
          have hg' : (gt s j : Int) = 93 := by omega
          have HS : Hid _ := hsee
          have HG' : Hid _ := hg'
          clear hg0 hg93 hsee hg'
          go_wp2_with fail
          refine (ended_no s j p r 0 0 _ (by exact RD.out) hlt).mono ?_
          rintro _ w3 ⟨rfl, n3, rfl⟩
          go_wp2_with fail
          refine (sees_at s _ j p r 0 0 true _ (by exact RD.out) hlt hs HS.out).mono ?_
          rintro _ w4 ⟨rfl, n4, rfl⟩
          go_wp2_with fail
          refine (shut_yes s j p r 0 0 93 _ (by exact RD.out) hlt hs HG'.out).mono ?_
          rintro _ w5 ⟨rfl, h5, h5k⟩
          have own5 := owns_kp (owns_drewN OWN.out (n3 + n4)) (ys := [r]) h5k (by intro g' e; cases e; simp [hgne])
          have HQ5 : Hid _ := h5k.keep (by exact QR.out) hqr
          have KP5 := (kr.drewN (n3 + n4)).trans h5k (by simp)
          have H5 : Hid _ := h5
          clear h5
          have hcells : ∀ j < k, ∀ i < 4, w5.cell? ⟨g, j * 4 + i, none⟩ = some (.int .u64 (wd (ss.getD j 0) i)) := fun j hj i hi => by
            rw [own5.cellAt (j * 4 + i) (by omega)]; exact flat_get ss j (by omega) i hi
          have hglt : g < w5.heap.size := (own5.lt g rfl).2
          have HC : Hid _ := hcells
          clear hcells
          go_wp2_with fail
          refine (union_any g k cap ss _ hk (by omega) (by exact HC.out) hglt).mono ?_
          rintro _ w6 ⟨rfl, h6⟩
          have q6 : w6.heap[w.heap.size]? = some zeroSet := bkeep h6 HQ5.out
          have r6 := bkeep h6 H5.out
          have k6 := KP5.below h6
          have hlt6 : w.heap.size < w6.heap.size := lt_of_block q6
          have hltr : r < w6.heap.size := lt_of_block r6
          have R6 : Hid _ := r6
          have Q6 : Hid _ := q6

          obtain ⟨d0, d1, d2, d3, f0, f1, f2, f3⟩ := four q6
          clear q6 r6 h6 HC
          go_wp2
          refine bodyPost_ret (v := setV (orAll ss)) (res_set (b := w.heap.size) (e := 62) Try.results93 rfl (by simp only [blk_alloc, blk_set, size_set, if_neg (Nat.ne_of_lt hlt6), Q6.out]; simp [setObj_cells, orAll])) rfl ?_
          refine ⟨⟨_, rfl, fun _ => by rw [HE.out]; rfl⟩, ?_, ?_⟩
          · simp only [blk_alloc, blk_set, if_neg hrne, size_set, if_neg (Nat.ne_of_lt hltr)]
            rw [HE.out]; exact R6.out
          · exact (k6.set4 (.inr (Nat.le_refl _)) _ _ _ _).alloc _
        · have hsee : decide (0 ≤ Lib.indexByte (ByteArray.mk #[93]).data.toList (gt s j).toUInt8) = false := by
            have : (93 : UInt8) ≠ (gt s j).toUInt8 := by
              intro e
              have e2 := congrArg UInt8.toNat e
              have := gt_lt s j
              simp at e2
              omega
            simp [Lib.indexByte, this]
          obtain ⟨m, rfl⟩ : ∃ m, n = m + 1 := ⟨n - 1, by omega⟩
          have hR3 : RR = pItems s (m + 1) (orAll ss) j := by rw [HRR2.out, pAfter, if_neg hg0, if_neg hg93]
          rw [pItems_succ] at hR3
          have shape := pItem_shape s j hz
          have HS : Hid _ := hsee
          have HR3 : Hid _ := hR3
          have SH2 : Hid _ := shape
          clear hg0 hg93 hsee hR3 shape HRR2
          go_wp2_with fail
          refine (ended_no s j p r 0 0 _ (by exact RD.out) hlt).mono ?_
          rintro _ w3 ⟨rfl, n3, rfl⟩
          go_wp2_with fail
          refine (sees_at s _ j p r 0 0 false _ (by exact RD.out) hlt hs HS.out).mono ?_
          rintro _ w4 ⟨rfl, n4, rfl⟩
          go_wp2_with fail
          refine (item_code s j p r _ (by exact RD.out) hz hj hs).mono ?_
          rintro _ w5 ⟨⟨u, hu, rfl, hue⟩, h5, h5k⟩
          have own5 := owns_kp (owns_drewN OWN.out (n3 + n4)) (ys := [r]) h5k (by intro g' e; cases e; simp [hgne])
          have q5 := h5k.keep (b := w.heap.size) (by exact QR.out) hqr
          have KP5 := (kr.drewN (n3 + n4)).trans h5k (by simp)
          have c1 := cell_of_block RD.out 1
          have hlt5 := lt_of_block q5
          have hltr := lt_of_block h5
          have H5 : Hid _ := h5
          have Q5 : Hid _ := q5
          have HU : Hid _ := hue
          clear h5 q5 hue
          obtain ⟨i0, hi0, hz0, hz1, hz2⟩ := info_parts infoSet
          go_wp2_with (at_builtin; refine wpList_append_lies _ rfl _ _ _ rfl (w.heap.size + 1) 62 i0 _ 4 32 Try.underlying68 hi0 hz0 hz1 hz2 rfl (by omega) (.slice (some ⟨g, 0, none⟩) k cap) k (flat ss) rfl (own5.alloc _) ⟨w5.heap.size, 0, none⟩ 1 1 (flat [u]) rfl rfl (World.news_of_block (cs := (flat [u]).toArray) (t := 62) (fr := (0, 0)) (heap_alloc_new w5 _)) (by simp [flat, Value.oneCell']) (by omega) (by unfold maxLen; omega) (by omega) (by simp; omega) (w5.heap.size + 1) (by simp) ?_; intro g2 cap2 w6 own6 grow6 at6 lt6)
          have r6 : w6.heap[r]? = some (rdO s (pItem s j).j (pItem s j).err (pItem s j).pl p) := gkeep grow6 (by rw [blk_alloc, if_neg (Nat.ne_of_lt hltr)]; exact H5.out) (by simp [Value.ownBlock]; exact hgne)
          have hgl : w.heap.size + 1 ≤ g ∧ g < w5.heap.size := own5.lt g rfl
          have c6 := cell_of_block r6 1
          refine ⟨⟨k + 1, cap2, g2, ss ++ [u], rfl, by simp [hk], by omega, ?_, ?_, ?_, ?_⟩, ?_⟩
          · rw [flat_append]; exact own6
          · exact gkeep grow6 (by rw [blk_alloc, if_neg (Nat.ne_of_lt hlt5)]; exact Q5.out) (by simp [Value.ownBlock]; omega)
          · exact (KP5.alloc _).grown grow6 (by intro x e; have e' : g = x := (by simpa [Value.ownBlock] using e); right; omega)
          · rw [r6]
            rcases SH2.out with ⟨a1, a2, a3, a4, a5⟩ | ⟨a1, a2⟩
            · left
              have hR := HR3.out
              rw [if_neg (by simp [a1]), ← HU.out a1, ← orAll_snoc] at hR
              exact ⟨(pItem s j).j, m, by omega, a4, by omega, by rw [a1, a2], hR⟩
            · right
              have hR := HR3.out
              rw [if_pos a1] at hR
              rw [hR]
              exact ⟨a1, a2, by rw [a2]⟩
          · rw [c1, c6]
            rcases SH2.out with ⟨a1, a2, a3, a4, a5⟩ | ⟨a1, a2⟩ <;> simp [intOf] <;> omega
    · have RD : Hid _ := rd
      have HE1 : Hid _ := e1
      have HE2 : Hid _ := e2
      clear rd e1 e2
      go_wp2_with fail
      refine (ended_yes s p r RR.err RR.pl _ (by exact RD.out)).mono ?_
      rintro _ w3 ⟨rfl, n3, rfl⟩
      go_wp2_with fail
      refine (shut_bad s p r RR.err RR.pl 93 _ (by exact RD.out) HE1.out).mono ?_
      rintro _ w5 ⟨rfl, h5, h5k⟩
      have own5 := owns_kp (owns_drewN OWN.out n3) (ys := [r]) h5k (by intro g' e; cases e; simp [hgne])
      have HQ5 : Hid _ := h5k.keep (by exact QR.out) hqr
      have KP5 := (kr.drewN n3).trans h5k (by simp)
      have H5 : Hid _ := h5
      clear h5
      have hcells : ∀ j < k, ∀ i < 4, w5.cell? ⟨g, j * 4 + i, none⟩ = some (.int .u64 (wd (ss.getD j 0) i)) := fun j hj i hi => by
        rw [own5.cellAt (j * 4 + i) (by omega)]; exact flat_get ss j (by omega) i hi
      have hglt : g < w5.heap.size := (own5.lt g rfl).2
      have HC : Hid _ := hcells
      clear hcells
      go_wp2_with fail
      refine (union_any g k cap ss _ hk (by omega) (by exact HC.out) hglt).mono ?_
      rintro _ w6 ⟨rfl, h6⟩
      have q6 : w6.heap[w.heap.size]? = some zeroSet := bkeep h6 HQ5.out
      have r6 := bkeep h6 H5.out
      have k6 := KP5.below h6
      have hlt6 : w.heap.size < w6.heap.size := lt_of_block q6
      have hltr : r < w6.heap.size := lt_of_block r6
      have R6 : Hid _ := r6
      have Q6 : Hid _ := q6

      obtain ⟨d0, d1, d2, d3, f0, f1, f2, f3⟩ := four q6
      clear q6 r6 h6 HC
      go_wp2
      refine bodyPost_ret (v := setV (orAll ss)) (res_set (b := w.heap.size) (e := 62) Try.results93 rfl (by simp only [blk_alloc, blk_set, size_set, if_neg (Nat.ne_of_lt hlt6), Q6.out]; simp [setObj_cells, orAll])) rfl ?_
      refine ⟨⟨_, rfl, fun hh => absurd hh HE1.out⟩, ?_, ?_⟩
      · simp only [blk_alloc, blk_set, if_neg hrne, size_set, if_neg (Nat.ne_of_lt hltr)]
        rw [HE2.out]; exact R6.out
      · exact (k6.set4 (.inr (Nat.le_refl _)) _ _ _ _).alloc _
end Go.Proofs.Ytbjdkbcfpmeneaa
