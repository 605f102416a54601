/- What is said here: how the document reads a whole pattern, and the languages of its parts; no program is named. -/
import Derived.Test.YtbjdkbcfpmeneaaGreatGlu
namespace Go.Proofs.YtbjdkbcfpmeneaaGreat
set_option linter.unusedVariables false
set_option linter.unusedSimpArgs false

def pReps (s : ByteArray) : Nat → Lang → Nat → PR Lang
  | 0, L, i => good i L
  | n + 1, L, i =>
    if gt s i = 42 then pReps s n (lStar L) (i + 1)
    else if gt s i = 43 then pReps s n (lPlus L) (i + 1)
    else if gt s i = 63 then pReps s n (lOpt L) (i + 1)
    else good i L

/- Tag 0: behind a cat of an alt; tag 1: within a cat; else: an atom. -/
def pp (s : ByteArray) : Nat → Nat → Lang → Nat → PR Lang
  | 0, _, acc, _ => bad s 99 0 acc
  | n + 1, tag, acc, i =>
    if tag = 0 then
      if gt s i = 124 then
        let a := pp s n 1 lEps (i + 1)
        if a.err ≠ 0 then a else pp s n 0 (lAlt acc a.v) a.j
      else good i acc
    else if tag = 1 then
      if gt s i = 0 ∨ gt s i = 124 ∨ gt s i = 41 then good i acc
      else
        let a := pp s n 2 lEps i
        if a.err ≠ 0 then a
        else
          let b := pReps s 20 a.v a.j
          pp s n 1 (lCat acc b.v) b.j
    else if gt s i = 40 then
      let a := pp s n 1 lEps (i + 1)
      if a.err ≠ 0 then a
      else
        let b := pp s n 0 a.v a.j
        if b.err ≠ 0 then b else if gt s b.j = 0 then bad s 4 s.size acc else good (b.j + 1) b.v
    else if gt s i = 91 then
      let a := pSet s (i + 1)
      if a.err ≠ 0 then ⟨a.err, a.pl, a.j, acc⟩ else good a.j (lSet a.v)
    else if gt s i = 46 then good (i + 1) (lSet (comp (1 <<< 10)))
    else if gt s i = 92 then (if gt s (i + 1) = 0 then bad s 4 s.size acc else good (i + 2) (lSet (1 <<< gt s (i + 1))))
    else if gt s i = 42 ∨ gt s i = 43 ∨ gt s i = 63 ∨ gt s i = 93 then bad s 5 i acc
    else good (i + 1) (lSet (1 <<< gt s i))

/- A reading that goes well ends behind where it began, within the text; one that does not stands at the end. -/
def Shape {α : Type} (s : ByteArray) (i : Nat) (R : PR α) : Prop := (R.err = 0 ∧ R.pl = 0 ∧ i ≤ R.j ∧ R.j ≤ s.size) ∨ (R.err ≠ 0 ∧ R.j = s.size)

theorem pReps_shape (s : ByteArray) (hz : ∀ j, gt s j = 0 ↔ s.size ≤ j) : ∀ (n : Nat) (L : Lang) (i : Nat), i ≤ s.size → (pReps s n L i).err = 0 ∧ (pReps s n L i).pl = 0 ∧ i ≤ (pReps s n L i).j ∧ (pReps s n L i).j ≤ s.size := by
  intro n
  induction n with
  | zero => intro L i hi; exact ⟨rfl, rfl, Nat.le_refl _, hi⟩
  | succ n ih =>
    intro L i hi
    have h0 := hz i
    unfold pReps
    by_cases h1 : gt s i = 42
    · rw [if_pos h1]; have := ih (lStar L) (i + 1) (by omega); exact ⟨this.1, this.2.1, by omega, this.2.2.2⟩
    · rw [if_neg h1]
      by_cases h2 : gt s i = 43
      · rw [if_pos h2]; have := ih (lPlus L) (i + 1) (by omega); exact ⟨this.1, this.2.1, by omega, this.2.2.2⟩
      · rw [if_neg h2]
        by_cases h3 : gt s i = 63
        · rw [if_pos h3]; have := ih (lOpt L) (i + 1) (by omega); exact ⟨this.1, this.2.1, by omega, this.2.2.2⟩
        · rw [if_neg h3]; exact ⟨rfl, rfl, Nat.le_refl _, hi⟩
end Go.Proofs.YtbjdkbcfpmeneaaGreat
