/- What is proved here: a link over the list of followers is a link of the parts; lists and numbers alone. -/
import Derived.Test.YtbjdkbcfpmeneaaGreatGlu
import Derived.Test.YtbjdkbcfpmeneaaGreatPos2
namespace Go.Proofs.YtbjdkbcfpmeneaaGreat
set_option linter.unusedVariables false
set_option linter.unusedSimpArgs false

theorem linkTo_get (e st : Nat) (fs : List Nat) : ∀ k q, k ≤ fs.length → (linkTo e st k fs).getD q 0 = if q < k then lk e st q (fs.getD q 0) else fs.getD q 0 := by
  intro k
  induction k with
  | zero => intro q _; simp [linkTo]
  | succ k ih =>
    intro q hk
    have hl := linkTo_len e st fs k
    rw [linkTo]
    by_cases hq : q = k
    · subst hq
      rw [List.getD_eq_getElem?_getD, List.getElem?_set_self (by omega), if_pos (by omega), Option.getD_some, ih q (by omega), if_neg (by omega)]
    · rw [List.getD_eq_getElem?_getD, List.getElem?_set_ne (fun h => hq h.symm), ← List.getD_eq_getElem?_getD, ih q (by omega)]
      by_cases h2 : q < k
      · rw [if_pos h2, if_pos (by omega)]
      · rw [if_neg h2, if_neg (by omega)]
theorem linkL_len (e st : Nat) (fs : List Nat) : (linkL e st fs).length = fs.length := linkTo_len e st fs _
theorem linkL_get (e st : Nat) (fs : List Nat) (q : Nat) (hq : q < fs.length) : (linkL e st fs).getD q 0 = lkF (fun q => fs.getD q 0) e st q := by
  rw [linkL, linkTo_get e st fs _ q (Nat.le_refl _), if_pos hq]
  rfl
theorem linkL_take (e st : Nat) (fs : List Nat) (lo hi : Nat) (h : In lo hi e) : (linkL e st fs).take lo = fs.take lo := by
  apply List.ext_getElem?
  intro q
  rw [List.getElem?_take, List.getElem?_take]
  by_cases hq : q < lo
  · rw [if_pos hq, if_pos hq]
    by_cases hl : q < fs.length
    · have g := linkL_get e st fs q hl
      have n := out_of h (q := q) (.inl hq)
      rw [lkF, n] at g
      simp only [Bool.false_eq_true, if_false] at g
      rw [List.getD_eq_getElem?_getD, List.getD_eq_getElem?_getD, List.getElem?_eq_getElem hl, List.getElem?_eq_getElem (by rw [linkL_len]; exact hl)] at g
      simp only [Option.getD_some] at g
      rw [List.getElem?_eq_getElem hl, List.getElem?_eq_getElem (by rw [linkL_len]; exact hl), g]
    · rw [List.getElem?_eq_none (by rw [linkL_len]; omega), List.getElem?_eq_none (by omega)]
  · rw [if_neg hq, if_neg hq]

theorem Part.linked {B : Nat → Nat} {fs : List Nat} {lo hi a b : Nat} {e : Bool} {f l : Nat} {L : Lang} (h : Part B (lkF (fun q => fs.getD q 0) a b) lo hi e f l L) (hl : hi ≤ fs.length) :
    Part B (fun q => (linkL a b fs).getD q 0) lo hi e f l L :=
  h.congr (fun _ _ => rfl) (fun q _ h2 => linkL_get a b fs q (by omega))
end Go.Proofs.YtbjdkbcfpmeneaaGreat
