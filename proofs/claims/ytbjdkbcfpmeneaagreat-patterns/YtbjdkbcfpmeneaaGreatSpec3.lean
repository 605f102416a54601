/- What is proved here: where a reading of a pattern ends; no program is walked. -/
import Derived.Test.YtbjdkbcfpmeneaaGreatSpec2
import Derived.Test.YtbjdkbcfpmeneaaGreatAtom5
namespace Go.Proofs.YtbjdkbcfpmeneaaGreat
set_option linter.unusedVariables false
set_option linter.unusedSimpArgs false

def Shp (s : ByteArray) (i : Nat) (strict : Prop) (R : PR Lang) : Prop := (R.err = 0 ∧ R.pl = 0 ∧ i ≤ R.j ∧ (strict → i < R.j) ∧ R.j ≤ s.size) ∨ (R.err ≠ 0 ∧ R.j = s.size)

theorem pp_alt (s : ByteArray) (n : Nat) (acc : Lang) (i : Nat) : pp s (n + 1) 0 acc i = if gt s i = 124 then (if (pp s n 1 lEps (i + 1)).err ≠ 0 then pp s n 1 lEps (i + 1) else pp s n 0 (lAlt acc (pp s n 1 lEps (i + 1)).v) (pp s n 1 lEps (i + 1)).j) else good i acc := rfl
theorem pp_cat (s : ByteArray) (n : Nat) (acc : Lang) (i : Nat) : pp s (n + 1) 1 acc i = if gt s i = 0 ∨ gt s i = 124 ∨ gt s i = 41 then good i acc else
    (if (pp s n 2 lEps i).err ≠ 0 then pp s n 2 lEps i else pp s n 1 (lCat acc (pReps s 20 (pp s n 2 lEps i).v (pp s n 2 lEps i).j).v) (pReps s 20 (pp s n 2 lEps i).v (pp s n 2 lEps i).j).j) := rfl
theorem pp_atom (s : ByteArray) (n : Nat) (acc : Lang) (i : Nat) : pp s (n + 1) 2 acc i =
    if gt s i = 40 then (if (pp s n 1 lEps (i + 1)).err ≠ 0 then pp s n 1 lEps (i + 1) else
      (if (pp s n 0 (pp s n 1 lEps (i + 1)).v (pp s n 1 lEps (i + 1)).j).err ≠ 0 then pp s n 0 (pp s n 1 lEps (i + 1)).v (pp s n 1 lEps (i + 1)).j
       else if gt s (pp s n 0 (pp s n 1 lEps (i + 1)).v (pp s n 1 lEps (i + 1)).j).j = 0 then bad s 4 s.size acc
       else good ((pp s n 0 (pp s n 1 lEps (i + 1)).v (pp s n 1 lEps (i + 1)).j).j + 1) (pp s n 0 (pp s n 1 lEps (i + 1)).v (pp s n 1 lEps (i + 1)).j).v))
    else if gt s i = 91 then (if (pSet s (i + 1)).err ≠ 0 then ⟨(pSet s (i + 1)).err, (pSet s (i + 1)).pl, (pSet s (i + 1)).j, acc⟩ else good (pSet s (i + 1)).j (lSet (pSet s (i + 1)).v))
    else if gt s i = 46 then good (i + 1) (lSet (comp (1 <<< 10)))
    else if gt s i = 92 then (if gt s (i + 1) = 0 then bad s 4 s.size acc else good (i + 2) (lSet (1 <<< gt s (i + 1))))
    else if gt s i = 42 ∨ gt s i = 43 ∨ gt s i = 63 ∨ gt s i = 93 then bad s 5 i acc
    else good (i + 1) (lSet (1 <<< gt s i)) := rfl

theorem pp_shape (s : ByteArray) (hz : Nz s) : ∀ n, (∀ acc i, i ≤ s.size → Shp s i False (pp s n 0 acc i)) ∧ (∀ acc i, i ≤ s.size → Shp s i False (pp s n 1 acc i)) ∧ (∀ acc i, i < s.size → Shp s i True (pp s n 2 acc i)) := by
  intro n
  induction n with
  | zero => exact ⟨fun _ _ _ => .inr ⟨by simp [pp, bad], rfl⟩, fun _ _ _ => .inr ⟨by simp [pp, bad], rfl⟩, fun _ _ _ => .inr ⟨by simp [pp, bad], rfl⟩⟩
  | succ n ih =>
    obtain ⟨ih0, ih1, ih2⟩ := ih
    refine ⟨fun acc i hi => ?_, fun acc i hi => ?_, fun acc i hi => ?_⟩
    · rw [pp_alt]
      have h0 := hz i
      by_cases hg : gt s i = 124
      · rw [if_pos hg]
        have hA := ih1 lEps (i + 1) (by omega)
        generalize pp s n 1 lEps (i + 1) = A at *
        rcases hA with ⟨a1, a2, a3, _, a5⟩ | ⟨a1, a2⟩
        · rw [if_neg (by simp [a1])]
          rcases ih0 (lAlt acc A.v) A.j a5 with ⟨b1, b2, b3, _, b5⟩ | b
          · exact .inl ⟨b1, b2, by omega, fun h => h.elim, b5⟩
          · exact .inr b
        · rw [if_pos a1]; exact .inr ⟨a1, a2⟩
      · rw [if_neg hg]; exact .inl ⟨rfl, rfl, Nat.le_refl _, fun h => h.elim, hi⟩
    · rw [pp_cat]
      have h0 := hz i
      by_cases hg : gt s i = 0 ∨ gt s i = 124 ∨ gt s i = 41
      · rw [if_pos hg]; exact .inl ⟨rfl, rfl, Nat.le_refl _, fun h => h.elim, hi⟩
      · rw [if_neg hg]
        have hA := ih2 lEps i (by omega)
        generalize pp s n 2 lEps i = A at *
        rcases hA with ⟨a1, a2, a3, _, a5⟩ | ⟨a1, a2⟩
        · rw [if_neg (by simp [a1])]
          have hB := pReps_shape s hz 20 A.v A.j a5
          generalize pReps s 20 A.v A.j = B at *
          rcases ih1 (lCat acc B.v) B.j hB.2.2.2 with ⟨b1, b2, b3, _, b5⟩ | b
          · exact .inl ⟨b1, b2, by omega, fun h => h.elim, b5⟩
          · exact .inr b
        · rw [if_pos a1]; exact .inr ⟨a1, a2⟩
    · rw [pp_atom]
      have h0 := hz i
      have h1 := hz (i + 1)
      by_cases g1 : gt s i = 40
      · rw [if_pos g1]
        have hA := ih1 lEps (i + 1) (by omega)
        generalize pp s n 1 lEps (i + 1) = A at *
        rcases hA with ⟨a1, a2, a3, _, a5⟩ | ⟨a1, a2⟩
        · rw [if_neg (by simp [a1])]
          have hB := ih0 A.v A.j a5
          generalize pp s n 0 A.v A.j = B at *
          rcases hB with ⟨b1, b2, b3, _, b5⟩ | ⟨b1, b2⟩
          · rw [if_neg (by simp [b1])]
            have h2 := hz B.j
            by_cases g2 : gt s B.j = 0
            · rw [if_pos g2]; exact .inr ⟨by simp [bad], rfl⟩
            · rw [if_neg g2]; exact .inl ⟨rfl, rfl, by simp only [good]; omega, fun _ => by simp only [good]; omega, by simp only [good]; omega⟩
          · rw [if_pos b1]; exact .inr ⟨b1, b2⟩
        · rw [if_pos a1]; exact .inr ⟨a1, a2⟩
      · rw [if_neg g1]
        by_cases g2 : gt s i = 91
        · rw [if_pos g2]
          have hA := pSet_shape s (i + 1) hz
          generalize pSet s (i + 1) = A at *
          rcases hA with ⟨a1, a2, a3, a4⟩ | ⟨a1, a2⟩
          · rw [if_neg (by simp [a1])]; exact .inl ⟨rfl, rfl, by simp only [good]; omega, fun _ => by simp only [good]; omega, a4⟩
          · rw [if_pos a1]; exact .inr ⟨a1, a2⟩
        · rw [if_neg g2]
          by_cases g3 : gt s i = 46
          · rw [if_pos g3]; exact .inl ⟨rfl, rfl, by simp only [good]; omega, fun _ => by simp only [good]; omega, by simp only [good]; omega⟩
          · rw [if_neg g3]
            by_cases g4 : gt s i = 92
            · rw [if_pos g4]
              by_cases g5 : gt s (i + 1) = 0
              · rw [if_pos g5]; exact .inr ⟨by simp [bad], rfl⟩
              · rw [if_neg g5]; exact .inl ⟨rfl, rfl, by simp only [good]; omega, fun _ => by simp only [good]; omega, by simp only [good]; omega⟩
            · rw [if_neg g4]
              by_cases g5 : gt s i = 42 ∨ gt s i = 43 ∨ gt s i = 63 ∨ gt s i = 93
              · rw [if_pos g5]; exact .inr ⟨by simp [bad], rfl⟩
              · rw [if_neg g5]; exact .inl ⟨rfl, rfl, by simp only [good]; omega, fun _ => by simp only [good]; omega, by simp only [good]; omega⟩
end Go.Proofs.YtbjdkbcfpmeneaaGreat
