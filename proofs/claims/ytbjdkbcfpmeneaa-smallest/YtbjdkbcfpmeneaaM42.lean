/- What is proved here: a pattern that can be read is read in the same way where it stands within brackets. No program is named. -/
import Derived.Test.YtbjdkbcfpmeneaaM41
namespace Go.Proofs.Ytbjdkbcfpmeneaa
set_option linter.unusedVariables false
set_option linter.unusedSimpArgs false

/- The text a stands within t from place o on, and behind it a closing bracket, a | or the end. -/
structure Within (a t : ByteArray) (o : Nat) : Prop where
  same : ∀ i, i < a.size → gt t (o + i) = gt a i
  stop : gt t (o + a.size) = 41 ∨ gt t (o + a.size) = 124 ∨ gt t (o + a.size) = 0
  nz : Nz a

/- In brackets. -/
structure InBr (a t : ByteArray) (o : Nat) : Prop extends Within a t o where
  close : gt t (o + a.size) = 41

theorem sh_one {a t : ByteArray} {o : Nat} (h : Within a t o) (i : Nat) (hok : (pOne a i).err = 0) : pOne t (o + i) = good (o + (pOne a i).j) (pOne a i).v ∧ (pOne a i).j ≤ a.size := by
  unfold pOne at *
  by_cases g0 : gt a i = 0
  · rw [if_pos g0] at hok; simp [bad] at hok
  · have hi : i < a.size := by have := h.nz i; omega
    rw [h.same i hi]
    rw [if_neg g0] at *
    rw [if_neg g0]
    by_cases g1 : gt a i = 92
    · rw [if_pos g1] at *
      rw [if_pos g1]
      by_cases g2 : gt a (i + 1) = 0
      · rw [if_pos g2] at hok; simp [bad] at hok
      · have hi2 : i + 1 < a.size := by have := h.nz (i + 1); omega
        rw [if_neg g2, Nat.add_assoc, h.same (i + 1) hi2, if_neg g2]
        exact ⟨rfl, hi2⟩
    · rw [if_neg g1] at *
      rw [if_neg g1]
      by_cases g2 : gt a i = 91 ∨ gt a i = 93 ∨ gt a i = 94 ∨ gt a i = 45
      · rw [if_pos g2] at hok; simp [bad] at hok
      · rw [if_neg g2, if_neg g2]
        exact ⟨rfl, hi⟩

theorem gt_eq {a t : ByteArray} {o : Nat} (h : Within a t o) (j : Nat) (hj : j ≤ a.size) : (gt t (o + j) = gt a j) ∨ (j = a.size ∧ gt a j = 0 ∧ (gt t (o + j) = 41 ∨ gt t (o + j) = 124 ∨ gt t (o + j) = 0)) := by
  by_cases e : j = a.size
  · subst e; exact .inr ⟨rfl, (h.nz _).2 (Nat.le_refl _), h.stop⟩
  · exact .inl (h.same j (by omega))

theorem sh_item {a t : ByteArray} {o : Nat} (h : Within a t o) (i : Nat) (hok : (pItem a i).err = 0) : pItem t (o + i) = good (o + (pItem a i).j) (pItem a i).v ∧ (pItem a i).j ≤ a.size := by
  by_cases h1 : (pOne a i).err = 0
  · obtain ⟨e1, l1⟩ := sh_one h i h1
    have ea := pItem_eq a i
    have et := pItem_eq t (o + i)
    rw [e1, if_neg (c := (good (o + (pOne a i).j) (pOne a i).v).err ≠ 0) (by simp [good])] at et
    change pItem t (o + i) = if gt t (o + (pOne a i).j) = 45 then (if (pOne t (o + (pOne a i).j + 1)).err ≠ 0 then pOne t (o + (pOne a i).j + 1) else if (pOne t (o + (pOne a i).j + 1)).v < (pOne a i).v then bad t 6 (o + i : Nat) 0 else good (pOne t (o + (pOne a i).j + 1)).j (spanN (pOne a i).v ((pOne t (o + (pOne a i).j + 1)).v + 1))) else good (o + (pOne a i).j) (spanN (pOne a i).v ((pOne a i).v + 1)) at et
    rw [if_neg (by simp [h1])] at ea
    by_cases g : gt a (pOne a i).j = 45
    · have hg : gt t (o + (pOne a i).j) = 45 := by
        rcases gt_eq h _ l1 with x | ⟨_, x, _⟩
        · rw [x, g]
        · rw [x] at g; cases g
      rw [if_pos g] at ea
      rw [if_pos hg] at et
      by_cases h2 : (pOne a ((pOne a i).j + 1)).err = 0
      · obtain ⟨e2, l2⟩ := sh_one h _ h2
        rw [Nat.add_assoc o, e2, if_neg (c := (good (o + (pOne a ((pOne a i).j + 1)).j) (pOne a ((pOne a i).j + 1)).v).err ≠ 0) (by simp [good])] at et
        change pItem t (o + i) = if (pOne a ((pOne a i).j + 1)).v < (pOne a i).v then bad t 6 (o + i : Nat) 0 else good (o + (pOne a ((pOne a i).j + 1)).j) (spanN (pOne a i).v ((pOne a ((pOne a i).j + 1)).v + 1)) at et
        rw [if_neg (by simp [h2])] at ea
        by_cases g6 : (pOne a ((pOne a i).j + 1)).v < (pOne a i).v
        · rw [if_pos g6] at ea; rw [ea] at hok; simp [bad] at hok
        · rw [if_neg g6] at ea et
          rw [ea, et]
          exact ⟨rfl, l2⟩
      · rw [if_pos h2] at ea; rw [ea] at hok; exact absurd hok h2
    · have hg : gt t (o + (pOne a i).j) ≠ 45 := by
        rcases gt_eq h _ l1 with x | ⟨_, _, x⟩
        · rw [x]; exact g
        · omega
      rw [if_neg g] at ea
      rw [if_neg hg] at et
      rw [ea, et]
      exact ⟨rfl, l1⟩
  · rw [pItem_eq, if_pos h1] at hok; exact absurd hok h1

theorem sh_items {a t : ByteArray} {o : Nat} (h : Within a t o) : ∀ (m acc i : Nat), (pItems a m acc i).err = 0 → pItems t m acc (o + i) = good (o + (pItems a m acc i).j) (pItems a m acc i).v ∧ (pItems a m acc i).j ≤ a.size := by
  intro m
  induction m with
  | zero => intro acc i hok; simp [pItems, bad] at hok
  | succ m ih =>
    intro acc i hok
    by_cases h1 : (pItem a i).err = 0
    · obtain ⟨e1, l1⟩ := sh_item h i h1
      have ea := pItems_eq a m acc i
      have et := pItems_eq t m acc (o + i)
      rw [e1, if_neg (c := (good (o + (pItem a i).j) (pItem a i).v).err ≠ 0) (by simp [good])] at et
      change pItems t (m + 1) acc (o + i) = if gt t (o + (pItem a i).j) = 0 then bad t 4 t.size 0 else if gt t (o + (pItem a i).j) = 93 then good (o + (pItem a i).j + 1) (acc ||| (pItem a i).v) else pItems t m (acc ||| (pItem a i).v) (o + (pItem a i).j) at et
      rw [if_neg (by simp [h1])] at ea
      by_cases g0 : gt a (pItem a i).j = 0
      · rw [if_pos g0] at ea; rw [ea] at hok; simp [bad] at hok
      · have hj : (pItem a i).j < a.size := by have := h.nz (pItem a i).j; omega
        rw [h.same _ hj, if_neg g0] at et
        rw [if_neg g0] at ea
        by_cases g1 : gt a (pItem a i).j = 93
        · rw [if_pos g1] at ea et
          rw [ea, et]
          exact ⟨rfl, hj⟩
        · rw [if_neg g1] at ea et
          rw [ea] at hok ⊢
          rw [et]
          exact ih _ _ hok
    · rw [pItems_eq, if_pos h1] at hok; exact absurd hok h1

theorem sh_set {a t : ByteArray} {o : Nat} (h : Within a t o) (i : Nat) (hok : (pSet a i).err = 0) : pSet t (o + i) = good (o + (pSet a i).j) (pSet a i).v ∧ (pSet a i).j ≤ a.size := by
  have hi : i < a.size := by
    rcases Nat.lt_or_ge i a.size with x | x
    · exact x
    · have g0 := (h.nz i).2 x
      unfold pSet at hok
      rw [if_neg (by rw [g0]; decide), pItems_eq, pItem_eq] at hok
      have : pOne a i = bad a 4 a.size 0 := by unfold pOne; rw [if_pos g0]
      rw [this] at hok
      simp [bad] at hok
  have ea : pSet a i = if gt a i = 94 then (if (pItems a 20 0 (i + 1)).err ≠ 0 then pItems a 20 0 (i + 1) else good (pItems a 20 0 (i + 1)).j (comp (pItems a 20 0 (i + 1)).v)) else pItems a 20 0 i := rfl
  have et : pSet t (o + i) = if gt t (o + i) = 94 then (if (pItems t 20 0 (o + i + 1)).err ≠ 0 then pItems t 20 0 (o + i + 1) else good (pItems t 20 0 (o + i + 1)).j (comp (pItems t 20 0 (o + i + 1)).v)) else pItems t 20 0 (o + i) := rfl
  rw [h.same i hi] at et
  by_cases g : gt a i = 94
  · rw [if_pos g] at ea et
    by_cases h1 : (pItems a 20 0 (i + 1)).err = 0
    · obtain ⟨e1, l1⟩ := sh_items h 20 0 (i + 1) h1
      rw [Nat.add_assoc o, e1, if_neg (c := (good (o + (pItems a 20 0 (i + 1)).j) (pItems a 20 0 (i + 1)).v).err ≠ 0) (by simp [good])] at et
      rw [if_neg (by simp [h1])] at ea
      rw [ea, et]
      exact ⟨rfl, l1⟩
    · rw [if_pos h1] at ea; rw [ea] at hok; exact absurd hok h1
  · rw [if_neg g] at ea et
    rw [ea] at hok ⊢
    rw [et]
    exact sh_items h 20 0 i hok
theorem sh_reps {a t : ByteArray} {o : Nat} (h : Within a t o) : ∀ (m : Nat) (L : Lang) (i : Nat), i ≤ a.size → pReps t m L (o + i) = good (o + (pReps a m L i).j) (pReps a m L i).v ∧ (pReps a m L i).j ≤ a.size := by
  intro m
  induction m with
  | zero => intro L i hi; exact ⟨rfl, hi⟩
  | succ m ih =>
    intro L i hi
    rcases gt_eq h i hi with x | ⟨_, x, y⟩
    · unfold pReps
      rw [x]
      have hlt : gt a i ≠ 0 → i + 1 ≤ a.size := fun g => by have := h.nz i; omega
      by_cases g1 : gt a i = 42
      · rw [if_pos g1, if_pos g1]; exact ih _ _ (hlt (by rw [g1]; decide))
      · rw [if_neg g1, if_neg g1]
        by_cases g2 : gt a i = 43
        · rw [if_pos g2, if_pos g2]; exact ih _ _ (hlt (by rw [g2]; decide))
        · rw [if_neg g2, if_neg g2]
          by_cases g3 : gt a i = 63
          · rw [if_pos g3, if_pos g3]; exact ih _ _ (hlt (by rw [g3]; decide))
          · rw [if_neg g3, if_neg g3]; exact ⟨rfl, hi⟩
    · rw [pReps_end x]
      unfold pReps
      rw [if_neg (by omega), if_neg (by omega), if_neg (by omega)]
      exact ⟨rfl, hi⟩

theorem sh_pp {a t : ByteArray} {o : Nat} (h : Within a t o) : ∀ m,
    (∀ (acc : Lang) (i : Nat), i ≤ a.size → (pp a m 0 acc i).err = 0 → (gt t (o + a.size) ≠ 124 ∨ (pp a m 0 acc i).j < a.size) → pp t m 0 acc (o + i) = good (o + (pp a m 0 acc i).j) (pp a m 0 acc i).v ∧ (pp a m 0 acc i).j ≤ a.size) ∧
    (∀ (acc : Lang) (i : Nat), i ≤ a.size → (pp a m 1 acc i).err = 0 → pp t m 1 acc (o + i) = good (o + (pp a m 1 acc i).j) (pp a m 1 acc i).v ∧ (pp a m 1 acc i).j ≤ a.size) ∧
    (∀ (acc : Lang) (i : Nat), i < a.size → (pp a m 2 acc i).err = 0 → pp t m 2 acc (o + i) = good (o + (pp a m 2 acc i).j) (pp a m 2 acc i).v ∧ (pp a m 2 acc i).j ≤ a.size) := by
  intro m
  induction m with
  | zero => exact ⟨fun _ _ _ x _ => by simp [pp, bad] at x, fun _ _ _ x => by simp [pp, bad] at x, fun _ _ _ x => by simp [pp, bad] at x⟩
  | succ m ih =>
    obtain ⟨ih0, ih1, ih2⟩ := ih
    refine ⟨fun acc i hi hok hend => ?_, fun acc i hi hok => ?_, fun acc i hi hok => ?_⟩
    · have ea := pp_alt a m acc i
      have et := pp_alt t m acc (o + i)
      rcases gt_eq h i hi with x | ⟨z, x, y⟩
      · rw [x] at et
        by_cases g : gt a i = 124
        · have hl : i + 1 ≤ a.size := by have := h.nz i; omega
          rw [if_pos g] at ea et
          by_cases h1 : (pp a m 1 lEps (i + 1)).err = 0
          · obtain ⟨e1, l1⟩ := ih1 lEps (i + 1) hl h1
            rw [Nat.add_assoc o, e1, if_neg (c := (good (o + (pp a m 1 lEps (i + 1)).j) (pp a m 1 lEps (i + 1)).v).err ≠ 0) (by simp [good])] at et
            change pp t (m + 1) 0 acc (o + i) = pp t m 0 (lAlt acc (pp a m 1 lEps (i + 1)).v) (o + (pp a m 1 lEps (i + 1)).j) at et
            rw [if_neg (by simp [h1])] at ea
            rw [ea] at hok hend ⊢
            rw [et]
            exact ih0 _ _ l1 hok hend
          · rw [if_pos h1] at ea; rw [ea] at hok; exact absurd hok h1
        · rw [if_neg g] at ea et
          rw [ea, et]; exact ⟨rfl, hi⟩
      · rw [x, if_neg (by decide)] at ea
        rw [ea] at hend
        have hne : gt t (o + i) ≠ 124 := by
          rcases hend with q | q
          · rw [z]; exact q
          · have q' : i < a.size := q
            omega
        rw [if_neg hne] at et
        rw [ea, et]; exact ⟨rfl, hi⟩
    · have ea := pp_cat a m acc i
      have et := pp_cat t m acc (o + i)
      rcases gt_eq h i hi with x | ⟨_, x, y⟩
      · rw [x] at et
        by_cases g : gt a i = 0 ∨ gt a i = 124 ∨ gt a i = 41
        · rw [if_pos g] at ea et
          rw [ea, et]; exact ⟨rfl, hi⟩
        · have hl : i < a.size := by have := h.nz i; omega
          rw [if_neg g] at ea et
          by_cases h1 : (pp a m 2 lEps i).err = 0
          · obtain ⟨e1, l1⟩ := ih2 lEps i hl h1
            obtain ⟨e2, l2⟩ := sh_reps h 20 (pp a m 2 lEps i).v (pp a m 2 lEps i).j l1
            rw [e1, if_neg (c := (good (o + (pp a m 2 lEps i).j) (pp a m 2 lEps i).v).err ≠ 0) (by simp [good])] at et
            change pp t (m + 1) 1 acc (o + i) = pp t m 1 (lCat acc (pReps t 20 (pp a m 2 lEps i).v (o + (pp a m 2 lEps i).j)).v) (pReps t 20 (pp a m 2 lEps i).v (o + (pp a m 2 lEps i).j)).j at et
            rw [e2] at et
            change pp t (m + 1) 1 acc (o + i) = pp t m 1 (lCat acc (pReps a 20 (pp a m 2 lEps i).v (pp a m 2 lEps i).j).v) (o + (pReps a 20 (pp a m 2 lEps i).v (pp a m 2 lEps i).j).j) at et
            rw [if_neg (by simp [h1])] at ea
            rw [ea] at hok ⊢
            rw [et]
            exact ih1 _ _ l2 hok
          · rw [if_pos h1] at ea; rw [ea] at hok; exact absurd hok h1
      · rw [if_pos (by omega)] at et
        rw [x, if_pos (.inl rfl)] at ea
        rw [ea, et]; exact ⟨rfl, hi⟩
    · have ea := pp_atom a m acc i
      have et := pp_atom t m acc (o + i)
      rw [h.same i hi] at et
      by_cases g1 : gt a i = 40
      · rw [if_pos g1] at ea et
        by_cases h1 : (pp a m 1 lEps (i + 1)).err = 0
        · obtain ⟨e1, l1⟩ := ih1 lEps (i + 1) hi h1
          rw [Nat.add_assoc o, e1, if_neg (c := (good (o + (pp a m 1 lEps (i + 1)).j) (pp a m 1 lEps (i + 1)).v).err ≠ 0) (by simp [good])] at et
          change pp t (m + 1) 2 acc (o + i) = if (pp t m 0 (pp a m 1 lEps (i + 1)).v (o + (pp a m 1 lEps (i + 1)).j)).err ≠ 0 then pp t m 0 (pp a m 1 lEps (i + 1)).v (o + (pp a m 1 lEps (i + 1)).j) else if gt t (pp t m 0 (pp a m 1 lEps (i + 1)).v (o + (pp a m 1 lEps (i + 1)).j)).j = 0 then bad t 4 t.size acc else good ((pp t m 0 (pp a m 1 lEps (i + 1)).v (o + (pp a m 1 lEps (i + 1)).j)).j + 1) (pp t m 0 (pp a m 1 lEps (i + 1)).v (o + (pp a m 1 lEps (i + 1)).j)).v at et
          rw [if_neg (by simp [h1])] at ea
          by_cases h2 : (pp a m 0 (pp a m 1 lEps (i + 1)).v (pp a m 1 lEps (i + 1)).j).err = 0
          · rw [if_neg (by simp [h2])] at ea
            by_cases g0 : gt a (pp a m 0 (pp a m 1 lEps (i + 1)).v (pp a m 1 lEps (i + 1)).j).j = 0
            · rw [if_pos g0] at ea; rw [ea] at hok; simp [bad] at hok
            · have hb : (pp a m 0 (pp a m 1 lEps (i + 1)).v (pp a m 1 lEps (i + 1)).j).j < a.size := by have := h.nz (pp a m 0 (pp a m 1 lEps (i + 1)).v (pp a m 1 lEps (i + 1)).j).j; omega
              obtain ⟨e2, l2⟩ := ih0 _ _ l1 h2 (.inr hb)
              rw [e2] at et
              generalize pp a m 0 (pp a m 1 lEps (i + 1)).v (pp a m 1 lEps (i + 1)).j = B at *
              rw [if_neg (c := (good (o + B.j) B.v).err ≠ 0) (by simp [good])] at et
              change pp t (m + 1) 2 acc (o + i) = if gt t (o + B.j) = 0 then bad t 4 t.size acc else good (o + B.j + 1) B.v at et
              rw [if_neg g0] at ea
              rw [h.same _ hb, if_neg g0] at et
              rw [ea, et]; exact ⟨rfl, hb⟩
          · rw [if_pos h2] at ea; rw [ea] at hok; exact absurd hok h2
        · rw [if_pos h1] at ea; rw [ea] at hok; exact absurd hok h1
      · rw [if_neg g1] at ea et
        by_cases g2 : gt a i = 91
        · rw [if_pos g2] at ea et
          by_cases h1 : (pSet a (i + 1)).err = 0
          · obtain ⟨e1, l1⟩ := sh_set h (i + 1) h1
            rw [Nat.add_assoc o, e1, if_neg (c := (good (o + (pSet a (i + 1)).j) (pSet a (i + 1)).v).err ≠ 0) (by simp [good])] at et
            rw [if_neg (by simp [h1])] at ea
            rw [ea, et]; exact ⟨rfl, l1⟩
          · rw [if_pos h1] at ea; rw [ea] at hok; exact absurd hok h1
        · rw [if_neg g2] at ea et
          by_cases g3 : gt a i = 46
          · rw [if_pos g3] at ea et; rw [ea, et]; exact ⟨rfl, hi⟩
          · rw [if_neg g3] at ea et
            by_cases g4 : gt a i = 92
            · rw [if_pos g4] at ea et
              by_cases g5 : gt a (i + 1) = 0
              · rw [if_pos g5] at ea; rw [ea] at hok; simp [bad] at hok
              · have hi2 : i + 1 < a.size := by have := h.nz (i + 1); omega
                rw [if_neg g5] at ea
                rw [Nat.add_assoc o, h.same (i + 1) hi2, if_neg g5] at et
                rw [ea, et]; exact ⟨rfl, hi2⟩
            · rw [if_neg g4] at ea et
              by_cases g5 : gt a i = 42 ∨ gt a i = 43 ∨ gt a i = 63 ∨ gt a i = 93
              · rw [if_pos g5] at ea; rw [ea] at hok; simp [bad] at hok
              · rw [if_neg g5] at ea et
                rw [ea, et]; exact ⟨rfl, hi⟩
end Go.Proofs.Ytbjdkbcfpmeneaa

/- What is proved here: how patterns that are put together in brackets are read, and what they match. No program is named. -/
namespace Go.Proofs.Ytbjdkbcfpmeneaa
set_option linter.unusedVariables false
set_option linter.unusedSimpArgs false

/- More fuel than enough changes nothing. -/
theorem pp_fuel (s : ByteArray) (hz : Nz s) : ∀ m,
    (∀ (m' : Nat) (acc : Lang) (i : Nat), i ≤ s.size → 2 * (s.size - i) + 2 ≤ m → 2 * (s.size - i) + 2 ≤ m' → pp s m 0 acc i = pp s m' 0 acc i) ∧
    (∀ (m' : Nat) (acc : Lang) (i : Nat), i ≤ s.size → 2 * (s.size - i) + 2 ≤ m → 2 * (s.size - i) + 2 ≤ m' → pp s m 1 acc i = pp s m' 1 acc i) ∧
    (∀ (m' : Nat) (acc : Lang) (i : Nat), i < s.size → 2 * (s.size - i) + 1 ≤ m → 2 * (s.size - i) + 1 ≤ m' → pp s m 2 acc i = pp s m' 2 acc i) := by
  intro m
  induction m with
  | zero => exact ⟨fun _ _ _ _ x => by omega, fun _ _ _ _ x => by omega, fun _ _ _ _ x => by omega⟩
  | succ m ih =>
    obtain ⟨ih0, ih1, ih2⟩ := ih
    refine ⟨fun m' acc i hi h1 h2 => ?_, fun m' acc i hi h1 h2 => ?_, fun m' acc i hi h1 h2 => ?_⟩
    · obtain ⟨k, rfl⟩ : ∃ k, m' = k + 1 := ⟨m' - 1, by omega⟩
      rw [pp_alt, pp_alt]
      by_cases g : gt s i = 124
      · have hl : i + 1 ≤ s.size := by have := hz i; omega
        rw [if_pos g, if_pos g, ih1 k lEps (i + 1) hl (by omega) (by omega)]
        have sh := (pp_shape s hz k).2.1 lEps (i + 1) hl
        generalize pp s k 1 lEps (i + 1) = A at *
        rcases sh with ⟨a1, _, a3, _, a5⟩ | ⟨a1, _⟩
        · rw [if_neg (by simp [a1]), if_neg (by simp [a1])]
          exact ih0 k _ _ a5 (by omega) (by omega)
        · rw [if_pos a1, if_pos a1]
      · rw [if_neg g, if_neg g]
    · obtain ⟨k, rfl⟩ : ∃ k, m' = k + 1 := ⟨m' - 1, by omega⟩
      rw [pp_cat, pp_cat]
      by_cases g : gt s i = 0 ∨ gt s i = 124 ∨ gt s i = 41
      · rw [if_pos g, if_pos g]
      · have hl : i < s.size := by have := hz i; omega
        rw [if_neg g, if_neg g, ih2 k lEps i hl (by omega) (by omega)]
        have sh := (pp_shape s hz k).2.2 lEps i hl
        generalize pp s k 2 lEps i = A at *
        rcases sh with ⟨a1, _, a3, a4, a5⟩ | ⟨a1, _⟩
        · rw [if_neg (by simp [a1]), if_neg (by simp [a1])]
          have := pReps_shape s hz 20 A.v A.j a5
          have a4' := a4 trivial
          exact ih1 k _ _ this.2.2.2 (by omega) (by omega)
        · rw [if_pos a1, if_pos a1]
    · obtain ⟨k, rfl⟩ : ∃ k, m' = k + 1 := ⟨m' - 1, by omega⟩
      rw [pp_atom, pp_atom]
      by_cases g : gt s i = 40
      · rw [if_pos g, if_pos g, ih1 k lEps (i + 1) hi (by omega) (by omega)]
        have sh := (pp_shape s hz k).2.1 lEps (i + 1) hi
        generalize pp s k 1 lEps (i + 1) = A at *
        rcases sh with ⟨a1, _, a3, _, a5⟩ | ⟨a1, _⟩
        · have ne : ¬ A.err ≠ 0 := fun h => h a1
          rw [if_neg ne, if_neg ne, ih0 k A.v A.j a5 (by omega) (by omega)]
        · rw [if_pos a1, if_pos a1]
      · rw [if_neg g, if_neg g]

/- What it means that a pattern is right. -/
theorem right_of (a : ByteArray) (h : (readW a).err = 0) : a.size ≤ 16 ∧ Nz a ∧ fb a a.size 0 = none ∧ (aR a 40 0).err = 0 ∧ (aR a 40 0).j = a.size ∧ readW a = aR a 40 0 := by
  rcases Nat.lt_or_ge 16 a.size with hs | hs
  · unfold readW at h; rw [if_pos hs] at h; cases h
  · cases hf : fb a a.size 0 with
    | some k => rw [readW_byte a hs k hf] at h; cases h
    | none =>
      have hr := readW_none a hs hf
      by_cases h1 : (aR a 40 0).err = 0
      · rw [if_neg (by simp [h1])] at hr
        by_cases h2 : (aR a 40 0).j = a.size
        · rw [if_pos h2] at hr; exact ⟨hs, nz_of_fb a hf, rfl, h1, h2, hr⟩
        · rw [if_neg h2] at hr; rw [hr] at h; cases h
      · rw [if_pos h1] at hr; rw [hr] at h; exact absurd h h1

/- A pattern in brackets is one atom. -/
theorem paren_atom {a t : ByteArray} {o : Nat} (h : InBr a t (o + 1)) (hg : gt t o = 40) (ha : (readW a).err = 0) (m : Nat) (hm : 2 * a.size + 2 ≤ m) (acc : Lang) : pp t (m + 1) 2 acc o = good (o + 1 + a.size + 1) (readW a).v := by
  obtain ⟨hs, hz, _, h1, h2, h3⟩ := right_of a ha
  rw [h3]
  have hc : (pp a 40 1 lEps 0).err = 0 := by
    by_cases x : (pp a 40 1 lEps 0).err = 0
    · exact x
    · unfold aR at h1; rw [if_pos x] at h1; exact absurd h1 x
  have e1 : pp a m 1 lEps 0 = pp a 40 1 lEps 0 := (pp_fuel a hz m).2.1 40 lEps 0 (by omega) (by omega) (by omega)
  have sh := (pp_shape a hz 40).2.1 lEps 0 (by omega)
  obtain ⟨t1, l1⟩ := (sh_pp h.toWithin m).2.1 lEps 0 (by omega) (by rw [e1]; exact hc)
  rw [Nat.add_zero, e1] at t1
  have haR : aR a 40 0 = pp a 40 0 (pp a 40 1 lEps 0).v (pp a 40 1 lEps 0).j := by unfold aR; rw [if_neg (by simp [hc])]
  generalize hA : pp a 40 1 lEps 0 = A at *
  rcases sh with ⟨_, _, _, _, a5⟩ | ⟨x, _⟩
  · have e2 : pp a m 0 A.v A.j = pp a 40 0 A.v A.j := (pp_fuel a hz m).1 40 A.v A.j a5 (by omega) (by omega)
    rw [haR] at h1 h2
    obtain ⟨t2, _⟩ := (sh_pp h.toWithin m).1 A.v A.j a5 (by rw [e2]; exact h1) (.inl (by rw [h.close]; decide))
    rw [e2] at t2
    rw [pp_atom, if_pos hg, t1, if_neg (c := (good (o + 1 + A.j) A.v).err ≠ 0) (by simp [good])]
    show (if (pp t m 0 A.v (o + 1 + A.j)).err ≠ 0 then pp t m 0 A.v (o + 1 + A.j) else if gt t (pp t m 0 A.v (o + 1 + A.j)).j = 0 then bad t 4 t.size acc else good ((pp t m 0 A.v (o + 1 + A.j)).j + 1) (pp t m 0 A.v (o + 1 + A.j)).v) = _
    rw [t2, if_neg (c := (good (o + 1 + (pp a 40 0 A.v A.j).j) (pp a 40 0 A.v A.j).v).err ≠ 0) (by simp [good])]
    show (if gt t (o + 1 + (pp a 40 0 A.v A.j).j) = 0 then _ else good (o + 1 + (pp a 40 0 A.v A.j).j + 1) (pp a 40 0 A.v A.j).v) = _
    rw [h2, h.close, if_neg (by decide), haR]
  · exact absurd hc x
end Go.Proofs.Ytbjdkbcfpmeneaa

/- What is proved here: patterns in brackets, put behind each other, beside each other and repeated, are right, and what they match. No program is named. -/
namespace Go.Proofs.Ytbjdkbcfpmeneaa
set_option linter.unusedVariables false
set_option linter.unusedSimpArgs false

theorem gt_app (x y : ByteArray) (i : Nat) : gt (x ++ y) i = if i < x.size then gt x i else gt y (i - x.size) := by
  unfold gt
  rw [ByteArray.data_append]
  have e : x.size = x.data.size := rfl
  by_cases h : i < x.size
  · rw [if_pos h, Array.getElem?_append_left (by rw [← e]; exact h)]
  · rw [if_neg h, Array.getElem?_append_right (by rw [← e]; omega), e]

theorem fb_all (s : ByteArray) : ∀ n i, (∀ j, i ≤ j → j < i + n → 32 ≤ gt s j ∧ gt s j ≤ 126) → fb s n i = none := by
  intro n
  induction n with
  | zero => intro i _; rfl
  | succ n ih =>
    intro i h
    have := h i (Nat.le_refl _) (by omega)
    unfold fb
    rw [if_neg (by omega)]
    exact ih (i + 1) fun j h1 h2 => h j (by omega) (by omega)

theorem cat_on {t : ByteArray} {n i j : Nat} {v : Lang} (acc : Lang) (hg : gt t i = 40) (h : pp t n 2 lEps i = good j v) : pp t (n + 1) 1 acc i = pp t n 1 (lCat acc (pReps t 20 v j).v) (pReps t 20 v j).j := by
  rw [pp_cat, if_neg (by rw [hg]; decide), h, if_neg (by simp [good])]
  rfl

theorem readW_of {t : ByteArray} {v : Lang} (hs : t.size ≤ 16) (hf : ∀ j, j < t.size → 32 ≤ gt t j ∧ gt t j ≤ 126) (h : aR t 40 0 = good t.size v) : readW t = good t.size v := by
  rw [readW_none t hs (fb_all t t.size 0 fun j _ h2 => hf j (by omega)), h, if_neg (by simp [good])]
  exact if_pos rfl

theorem reps_none {t : ByteArray} {j : Nat} (v : Lang) (h : gt t j ≠ 42 ∧ gt t j ≠ 43 ∧ gt t j ≠ 63) (m : Nat) : pReps t m v j = good j v := by
  cases m with
  | zero => rfl
  | succ m => unfold pReps; rw [if_neg h.1, if_neg h.2.1, if_neg h.2.2]

theorem lCat_eps (L : Lang) : lCat lEps L = L := by
  funext x
  apply propext
  constructor
  · rintro ⟨y, z, rfl, hy, hz⟩; rw [hy]; exact hz
  · intro h; exact ⟨[], x, rfl, rfl, h⟩

/- One pattern in brackets, with c behind it, to the end. -/
theorem read_rep {a t : ByteArray} (ha : (readW a).err = 0) (hsz : t.size = a.size + 3) (h16 : t.size ≤ 16) (h : InBr a t 1) (hg : gt t 0 = 40) (c : Nat) (hc : gt t (a.size + 2) = c) (hcc : c = 42 ∨ c = 43 ∨ c = 63) (v : Lang) (hv : v = if c = 42 then lStar (readW a).v else if c = 43 then lPlus (readW a).v else lOpt (readW a).v) : readW t = good t.size v := by
  obtain ⟨hs, hz, hf, _, _, _⟩ := right_of a ha
  have hend : gt t t.size = 0 := gt_out t t.size (Nat.le_refl _)
  have hr : pReps t 20 (readW a).v (a.size + 2) = good t.size v := by
    have e : a.size + 2 + 1 = t.size := by omega
    unfold pReps
    rw [hc, hv]
    rcases hcc with rfl | rfl | rfl
    · rw [if_pos rfl, if_pos rfl, e]; exact pReps_end hend 19 _
    · rw [if_neg (by decide), if_pos rfl, if_neg (by decide), if_pos rfl, e]; exact pReps_end hend 19 _
    · rw [if_neg (by decide), if_neg (by decide), if_pos rfl, if_neg (by decide), if_neg (by decide), e]; exact pReps_end hend 19 _
  have h1 : pp t 40 1 lEps 0 = good t.size v := by
    have at1 := paren_atom (o := 0) h hg ha 38 (by omega) lEps
    rw [show 0 + 1 + a.size + 1 = a.size + 2 by omega] at at1
    rw [cat_on (n := 39) lEps hg at1, hr]
    show pp t 39 1 (lCat lEps v) t.size = _
    rw [pp1_end hend 38, lCat_eps]
  apply readW_of h16
  · intro j hj
    by_cases h0 : j = 0
    · rw [h0, hg]; decide
    · by_cases h1 : j < a.size + 1
      · have := h.same (j - 1) (by omega)
        rw [show 1 + (j - 1) = j by omega] at this
        rw [this]
        exact fb_none a a.size 0 hf (j - 1) (by omega) (by omega)
      · by_cases h2 : j = a.size + 1
        · have := h.close; rw [show 1 + a.size = j by omega] at this; rw [this]; decide
        · rw [show j = a.size + 2 by omega, hc]; omega
  · unfold aR
    rw [h1, if_neg (by simp [good])]
    exact pp0_end hend 39 v

/- Two patterns in brackets: behind each other, or beside each other. -/
theorem read_two {a b t : ByteArray} (ha : (readW a).err = 0) (hb : (readW b).err = 0) (hsz : t.size = a.size + b.size + 4) (h16 : t.size ≤ 16) (h : InBr a t 1) (hg : gt t 0 = 40) (h' : InBr b t (a.size + 3)) (hg' : gt t (a.size + 2) = 40) : readW t = good t.size (lCat (readW a).v (readW b).v) := by
  obtain ⟨_, _, hf, _, _, _⟩ := right_of a ha
  obtain ⟨_, _, hf', _, _, _⟩ := right_of b hb
  have hend : gt t t.size = 0 := gt_out t t.size (Nat.le_refl _)
  have h1 : pp t 40 1 lEps 0 = good t.size (lCat (readW a).v (readW b).v) := by
    have at1 := paren_atom (o := 0) h hg ha 38 (by omega) lEps
    rw [show 0 + 1 + a.size + 1 = a.size + 2 by omega] at at1
    have at2 := paren_atom (o := a.size + 2) h' hg' hb 37 (by omega) lEps
    rw [show a.size + 2 + 1 + b.size + 1 = t.size by omega] at at2
    rw [cat_on (n := 39) lEps hg at1, reps_none _ (by rw [hg']; decide)]
    show pp t 39 1 (lCat lEps (readW a).v) (a.size + 2) = _
    rw [lCat_eps, cat_on (n := 38) _ hg' at2, pReps_end hend]
    show pp t 38 1 (lCat (readW a).v (readW b).v) t.size = _
    rw [pp1_end hend 37]
  apply readW_of h16
  · intro j hj
    by_cases h0 : j = 0
    · rw [h0, hg]; decide
    · by_cases h1 : j < a.size + 1
      · have := h.same (j - 1) (by omega)
        rw [show 1 + (j - 1) = j by omega] at this
        rw [this]
        exact fb_none a a.size 0 hf (j - 1) (by omega) (by omega)
      · by_cases h2 : j = a.size + 1
        · have := h.close; rw [show 1 + a.size = j by omega] at this; rw [this]; decide
        · by_cases h3 : j = a.size + 2
          · rw [h3, hg']; decide
          · by_cases h4 : j < a.size + 3 + b.size
            · have := h'.same (j - (a.size + 3)) (by omega)
              rw [show a.size + 3 + (j - (a.size + 3)) = j by omega] at this
              rw [this]
              exact fb_none b b.size 0 hf' (j - (a.size + 3)) (by omega) (by omega)
            · have := h'.close; rw [show a.size + 3 + b.size = j by omega] at this; rw [this]; decide
  · unfold aR
    rw [h1, if_neg (by simp [good])]
    exact pp0_end hend 39 _

theorem read_either {a b t : ByteArray} (ha : (readW a).err = 0) (hb : (readW b).err = 0) (hsz : t.size = a.size + b.size + 5) (h16 : t.size ≤ 16) (h : InBr a t 1) (hg : gt t 0 = 40) (hbar : gt t (a.size + 2) = 124) (h' : InBr b t (a.size + 4)) (hg' : gt t (a.size + 3) = 40) : readW t = good t.size (lAlt (readW a).v (readW b).v) := by
  obtain ⟨_, _, hf, _, _, _⟩ := right_of a ha
  obtain ⟨_, _, hf', _, _, _⟩ := right_of b hb
  have hend : gt t t.size = 0 := gt_out t t.size (Nat.le_refl _)
  have h1 : pp t 40 1 lEps 0 = good (a.size + 2) (readW a).v := by
    have at1 := paren_atom (o := 0) h hg ha 38 (by omega) lEps
    rw [show 0 + 1 + a.size + 1 = a.size + 2 by omega] at at1
    rw [cat_on (n := 39) lEps hg at1, reps_none _ (by rw [hbar]; decide)]
    show pp t 39 1 (lCat lEps (readW a).v) (a.size + 2) = _
    rw [lCat_eps, pp_cat, if_pos (.inr (.inl hbar))]
  have h2 : pp t 39 1 lEps (a.size + 3) = good t.size (readW b).v := by
    have at2 := paren_atom (o := a.size + 3) h' hg' hb 37 (by omega) lEps
    rw [show a.size + 3 + 1 + b.size + 1 = t.size by omega] at at2
    rw [cat_on (n := 38) lEps hg' at2, pReps_end hend]
    show pp t 38 1 (lCat lEps (readW b).v) t.size = _
    rw [lCat_eps, pp1_end hend 37]
  apply readW_of h16
  · intro j hj
    by_cases h0 : j = 0
    · rw [h0, hg]; decide
    · by_cases h1 : j < a.size + 1
      · have := h.same (j - 1) (by omega)
        rw [show 1 + (j - 1) = j by omega] at this
        rw [this]
        exact fb_none a a.size 0 hf (j - 1) (by omega) (by omega)
      · by_cases h2 : j = a.size + 1
        · have := h.close; rw [show 1 + a.size = j by omega] at this; rw [this]; decide
        · by_cases h3 : j = a.size + 2
          · rw [h3, hbar]; decide
          · by_cases h5 : j = a.size + 3
            · rw [h5, hg']; decide
            · by_cases h4 : j < a.size + 4 + b.size
              · have := h'.same (j - (a.size + 4)) (by omega)
                rw [show a.size + 4 + (j - (a.size + 4)) = j by omega] at this
                rw [this]
                exact fb_none b b.size 0 hf' (j - (a.size + 4)) (by omega) (by omega)
              · have := h'.close; rw [show a.size + 4 + b.size = j by omega] at this; rw [this]; decide
  · unfold aR
    rw [h1, if_neg (by simp [good])]
    show pp t 40 0 (readW a).v (a.size + 2) = _
    rw [pp_alt, if_pos hbar, h2, if_neg (by simp [good])]
    exact pp0_end hend 38 _

/- How a repeated language is cut. -/
theorem pow_snoc (L : Lang) : ∀ n x, lPow L (n + 1) x ↔ ∃ y z, x = y ++ z ∧ lPow L n y ∧ L z := by
  intro n
  induction n with
  | zero =>
    intro x
    constructor
    · rintro ⟨y, z, rfl, hy, hz⟩
      have hz' : z = [] := hz
      exact ⟨[], y, by rw [hz']; simp, rfl, hy⟩
    · rintro ⟨y, z, rfl, hy, hz⟩
      have hy' : y = [] := hy
      exact ⟨z, [], by rw [hy']; simp, hz, rfl⟩
  | succ n ih =>
    intro x
    constructor
    · rintro ⟨y, z, rfl, hy, hz⟩
      obtain ⟨p, q, rfl, hp, hq⟩ := (ih z).1 hz
      exact ⟨y ++ p, q, by simp, ⟨y, p, rfl, hy, hp⟩, hq⟩
    · rintro ⟨y, z, rfl, hy, hz⟩
      obtain ⟨p, q, rfl, hp, hq⟩ := hy
      exact ⟨p, q ++ z, by simp, hp, (ih _).2 ⟨q, z, rfl, hq, hz⟩⟩

theorem star_nil (L : Lang) : lStar L [] := ⟨0, rfl⟩
theorem star_snoc {L : Lang} {y z : List Nat} (hy : lStar L y) (hz : L z) : lStar L (y ++ z) := by
  obtain ⟨n, hn⟩ := hy
  exact ⟨n + 1, (pow_snoc L n _).2 ⟨y, z, rfl, hn, hz⟩⟩
theorem pow_cut (L : Lang) : ∀ n x, lPow L n x → x ≠ [] → ∃ y z, x = y ++ z ∧ z ≠ [] ∧ lStar L y ∧ L z := by
  intro n
  induction n with
  | zero => intro x h hx; exact absurd h hx
  | succ n ih =>
    intro x h hx
    obtain ⟨y, z, rfl, hy, hz⟩ := (pow_snoc L n x).1 h
    by_cases e : z = []
    · subst e
      rw [List.append_nil] at *
      exact ih y hy hx
    · exact ⟨y, z, rfl, e, ⟨n, hy⟩, hz⟩

/- What many[i] is: the first i bytes can be cut into parts. -/
theorem star_cut (L : Lang) (x : List Nat) (i : Nat) (hi : i ≤ x.length) (h0 : 0 < i) : lStar L (x.take i) ↔ ∃ k, k < i ∧ lStar L (x.take k) ∧ L ((x.take i).drop k) := by
  constructor
  · rintro ⟨n, hn⟩
    have hl : (x.take i).length = i := by rw [List.length_take]; omega
    obtain ⟨y, z, e, hz, hy, hL⟩ := pow_cut L n _ hn (by intro e; rw [e] at hl; simp at hl; omega)
    have hzl : 0 < z.length := List.length_pos_iff.2 hz
    have hlen : y.length + z.length = i := by rw [← List.length_append, ← e, hl]
    refine ⟨y.length, by omega, ?_, ?_⟩
    · have : x.take y.length = y := by
        have e2 : (x.take i).take y.length = y := by rw [e, List.take_left]
        rw [List.take_take, Nat.min_eq_left (by omega)] at e2
        exact e2
      rw [this]; exact hy
    · rw [e, List.drop_left]; exact hL
  · rintro ⟨k, hk, hs, hL⟩
    have e : x.take i = x.take k ++ (x.take i).drop k := by
      have e2 : (x.take i).take k = x.take k := by rw [List.take_take, Nat.min_eq_left (by omega)]
      rw [← e2, List.take_append_drop]
    rw [e]
    exact star_snoc hs hL

theorem plus_iff (L : Lang) (x : List Nat) : lPlus L x ↔ lStar L x ∧ (x ≠ [] ∨ L []) := by
  constructor
  · rintro ⟨n, h⟩
    refine ⟨⟨n + 1, h⟩, ?_⟩
    by_cases e : x = []
    · right
      obtain ⟨y, z, e2, hy, _⟩ := h
      rw [e] at e2
      have := List.append_eq_nil_iff.1 e2.symm
      rw [this.1] at hy
      exact hy
    · exact .inl e
  · rintro ⟨⟨n, h⟩, hx⟩
    cases n with
    | succ n => exact ⟨n, h⟩
    | zero =>
      have e : x = [] := h
      rcases hx with hx | hx
      · exact absurd e hx
      · exact ⟨0, [], [], by rw [e]; rfl, hx, rfl⟩

theorem cat_cut (A B : Lang) (x : List Nat) : lCat A B x ↔ ∃ i, i ≤ x.length ∧ A (x.take i) ∧ B (x.drop i) := by
  constructor
  · rintro ⟨y, z, rfl, hy, hz⟩
    exact ⟨y.length, by simp, by rw [List.take_left]; exact hy, by rw [List.drop_left]; exact hz⟩
  · rintro ⟨i, _, h1, h2⟩
    exact ⟨x.take i, x.drop i, (List.take_append_drop i x).symm, h1, h2⟩
end Go.Proofs.Ytbjdkbcfpmeneaa
