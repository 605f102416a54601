/- What is proved here: what the pattern reader's methods one, item and set do. -/
import Derived.Test.YtbjdkbcfpmeneaaGreatRows
import Derived.Test.YtbjdkbcfpmeneaaGreatRead1
import Derived.Deep.AppendLies
import Derived.Deep.RegionHeld3
namespace Go.Proofs.YtbjdkbcfpmeneaaGreat
set_option linter.unusedVariables false
set_option linter.unusedSimpArgs false
open Go.RowKit

/- The text's bytes are none of them 0. -/
def Nz (s : ByteArray) : Prop := ∀ j, gt s j = 0 ↔ s.size ≤ j

theorem pOne_shape (s : ByteArray) (i : Nat) (hz : Nz s) : ((pOne s i).err = 0 ∧ (pOne s i).pl = 0 ∧ i < (pOne s i).j ∧ (pOne s i).j ≤ s.size ∧ (pOne s i).v < 256) ∨ ((pOne s i).err ≠ 0 ∧ (pOne s i).j = s.size ∧ (pOne s i).v = 0) := by
  have h0 := hz i
  have h1 := hz (i + 1)
  have l0 := gt_lt s i
  have l1 := gt_lt s (i + 1)
  unfold pOne
  split
  · right; simp [bad]
  · split
    · split
      · right; simp [bad]
      · left; simp [good]; omega
    · split
      · right; simp [bad]
      · left; simp [good]; omega

set_option maxHeartbeats 800000 in
theorem one_code (s : ByteArray) (i p r : Nat) (w : World) (h : w.heap[r]? = some (rdO s i 0 0 p)) (hz : Nz s) (hi : i ≤ s.size) (hs : s.size ≤ 16) :
    Calls Tryz.prog 124 #[.pointer (some ⟨r, 0, none⟩)] w fun x w' => x = .returned (.int .u8 (pOne s i).v) ∧ w'.heap[r]? = some (rdO s (pOne s i).j (pOne s i).err (pOne s i).pl p) ∧ Kp [r] w w' := by
  have c1 := cell_of_block h 1
  simp only [List.getElem?_toArray, List.getElem?_cons_zero, List.getElem?_cons_succ] at c1
  have H : Hid _ := h
  clear h
  by_cases h0 : gt s i = 0
  · have e : i = s.size := by have := (hz i).1 h0; omega
    subst e
    have HR : Hid (pOne s s.size = bad s 4 s.size 0) := by show pOne s s.size = _; rw [pOne, if_pos h0]
    clear hz h0
    go_enter Tryz.func124, Tryz.ntmps124
    go_wp2_with fail
    refine (next_end s p r 0 _ (by exact H.out)).mono ?_
    rintro _ w1 ⟨rfl, h1, h2⟩
    have H1 : Hid _ := h1
    clear h1
    go_wp2
    go_ret
    rw [HR.out]
    exact ⟨rfl, H1.out, h2⟩
  · have hlt : i < s.size := by have := (hz i).2; omega
    by_cases hq : gt s i = 92
    · have hq' : ((gt s i : Int) == 92) = true := by simp [hq]
      by_cases h1 : gt s (i + 1) = 0
      · have e : i + 1 = s.size := by have := (hz (i + 1)).1 h1; omega
        have HR : Hid (pOne s i = bad s 4 s.size 0) := by show pOne s i = _; rw [pOne, if_neg h0, if_pos hq, if_pos h1]
        have HE : Hid _ := e
        clear hz h0 h1 e hq
        go_enter Tryz.func124, Tryz.ntmps124
        go_wp2_with fail
        refine (next_yes s i p r 0 0 _ (by exact H.out) hlt hs).mono ?_
        rintro _ w1 ⟨rfl, h1, h2⟩
        rw [HE.out] at h1
        have H1 : Hid _ := h1
        clear h1
        go_wp2_with fail
        refine (next_end s p r 0 _ (by exact H1.out)).mono ?_
        rintro _ w2 ⟨rfl, h3, h4⟩
        have H3 : Hid _ := h3
        clear h3
        go_wp2
        go_ret
        rw [HR.out]
        exact ⟨rfl, H3.out, h2.trans h4 (by simp)⟩
      · have hlt1 : i + 1 < s.size := by have := (hz (i + 1)).2; omega
        have HR : Hid (pOne s i = good (i + 2) (gt s (i + 1))) := by show pOne s i = _; rw [pOne, if_neg h0, if_pos hq, if_neg h1]
        clear hz h0 h1 hq
        go_enter Tryz.func124, Tryz.ntmps124
        go_wp2_with fail
        refine (next_yes s i p r 0 0 _ (by exact H.out) hlt hs).mono ?_
        rintro _ w1 ⟨rfl, h1, h2⟩
        have H1 : Hid _ := h1
        clear h1
        go_wp2_with fail
        refine (next_yes s (i + 1) p r 0 0 _ (by exact H1.out) hlt1 hs).mono ?_
        rintro _ w2 ⟨rfl, h3, h4⟩
        have H3 : Hid _ := h3
        clear h3
        go_wp2
        go_ret
        rw [HR.out]
        exact ⟨rfl, H3.out, h2.trans h4 (by simp)⟩
    · by_cases hb : gt s i = 91 ∨ gt s i = 93 ∨ gt s i = 94 ∨ gt s i = 45
      · have HR : Hid (pOne s i = bad s 5 i 0) := by show pOne s i = _; rw [pOne, if_neg h0, if_neg hq, if_pos hb]
        have hq' : ((gt s i : Int) == 92) = false := by simp; omega
        clear hz h0
        go_enter Tryz.func124, Tryz.ntmps124
        go_wp2_with fail
        refine (next_yes s i p r 0 0 _ (by exact H.out) hlt hs).mono ?_
        rintro _ w1 ⟨rfl, h1, h2⟩
        have H1 : Hid _ := h1
        clear h1
        generalize gt s i = c at *
        rcases hb with rfl | rfl | rfl | rfl
        all_goals
          go_wp2_with fail
          refine (fail_first s (i + 1) p r 0 5 i _ (by exact H1.out)).mono ?_
          rintro _ w2 ⟨rfl, h3, h4⟩
          have H3 : Hid _ := h3
          clear h3
          go_wp2
          go_ret
          rw [HR.out]
          exact ⟨rfl, H3.out, h2.trans h4 (by simp)⟩
      · have HR : Hid (pOne s i = good (i + 1) (gt s i)) := by show pOne s i = _; rw [pOne, if_neg h0, if_neg hq, if_neg hb]
        have q1 : ((gt s i : Int) == 92) = false := by simp; omega
        have q2 : ((gt s i : Int) == 91) = false := by simp; omega
        have q3 : ((gt s i : Int) == 93) = false := by simp; omega
        have q4 : ((gt s i : Int) == 94) = false := by simp; omega
        have q5 : ((gt s i : Int) == 45) = false := by simp; omega
        clear hz h0 hq hb
        go_enter Tryz.func124, Tryz.ntmps124
        go_wp2_with fail
        refine (next_yes s i p r 0 0 _ (by exact H.out) hlt hs).mono ?_
        rintro _ w1 ⟨rfl, h1, h2⟩
        have H1 : Hid _ := h1
        clear h1
        go_wp2
        go_ret
        rw [HR.out]
        exact ⟨rfl, H1.out, h2⟩
end Go.Proofs.YtbjdkbcfpmeneaaGreat
