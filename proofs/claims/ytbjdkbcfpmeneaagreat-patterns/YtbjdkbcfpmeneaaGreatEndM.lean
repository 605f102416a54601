/- What is proved here: where what a language has may end, if it begins at one of some places: put together from its parts; lists alone, no program is named. -/
import Derived.Test.YtbjdkbcfpmeneaaGreatRef6
namespace Go.Proofs.YtbjdkbcfpmeneaaGreat
set_option linter.unusedVariables false
set_option linter.unusedSimpArgs false

def sub (x : List Nat) (i j : Nat) : List Nat := (x.drop i).take (j - i)
theorem sub_len {x : List Nat} {i j : Nat} (h1 : i ≤ j) (h2 : j ≤ x.length) : (sub x i j).length = j - i := by
  unfold sub; rw [List.length_take, List.length_drop]; omega
theorem sub_nil {x : List Nat} {i j : Nat} (h1 : i ≤ j) (h2 : j ≤ x.length) : sub x i j = [] ↔ i = j := by
  rw [← List.length_eq_zero_iff, sub_len h1 h2]; omega
theorem sub_self (x : List Nat) (i : Nat) : sub x i i = [] := by simp [sub]
theorem sub_split {x : List Nat} {i m j : Nat} (h1 : i ≤ m) (h2 : m ≤ j) : sub x i j = sub x i m ++ sub x m j := by
  unfold sub
  rw [show j - i = (m - i) + (j - m) by omega, List.take_add, List.drop_drop, show i + (m - i) = m by omega]
theorem sub_cat {A B : Lang} {x : List Nat} {i j : Nat} (h1 : i ≤ j) (h2 : j ≤ x.length) : lCat A B (sub x i j) ↔ ∃ m, i ≤ m ∧ m ≤ j ∧ A (sub x i m) ∧ B (sub x m j) := by
  constructor
  · rintro ⟨y, z, e, ha, hb⟩
    have hl := sub_len h1 h2
    rw [e, List.length_append] at hl
    have hs := sub_split (x := x) (i := i) (m := i + y.length) (j := j) (by omega) (by omega)
    rw [e] at hs
    have hy : (sub x i (i + y.length)).length = y.length := by rw [sub_len (by omega) (by omega)]; omega
    obtain ⟨e1, e2⟩ := List.append_inj hs hy.symm
    exact ⟨i + y.length, by omega, by omega, by rw [← e1]; exact ha, by rw [← e2]; exact hb⟩
  · rintro ⟨m, a, b, ha, hb⟩
    exact ⟨_, _, sub_split a b, ha, hb⟩
theorem sub_one {x : List Nat} {i j : Nat} (s : Nat) (h1 : i ≤ j) (h2 : j ≤ x.length) : lSet s (sub x i j) ↔ j = i + 1 ∧ s.testBit (x.getD i 0) = true := by
  constructor
  · rintro ⟨c, e, hc⟩
    have hl := sub_len h1 h2
    rw [e] at hl
    simp at hl
    have hj : j = i + 1 := by omega
    subst hj
    refine ⟨rfl, ?_⟩
    have hi : i < x.length := by omega
    have : sub x i (i + 1) = [x[i]] := by
      unfold sub
      rw [show i + 1 - i = 1 by omega, List.drop_eq_getElem_cons hi, List.take_succ_cons, List.take_zero]
    rw [this] at e
    simp only [List.cons.injEq, and_true] at e
    rw [List.getD_eq_getElem?_getD, List.getElem?_eq_getElem hi, Option.getD_some, e]; exact hc
  · rintro ⟨rfl, hc⟩
    have hi : i < x.length := by omega
    refine ⟨x[i], ?_, ?_⟩
    · unfold sub
      rw [show i + 1 - i = 1 by omega, List.drop_eq_getElem_cons hi, List.take_succ_cons, List.take_zero]
    · rw [List.getD_eq_getElem?_getD, List.getElem?_eq_getElem hi, Option.getD_some] at hc; exact hc

structure EndsOk (L : Lang) (x : List Nat) (lf lo : List Bool) : Prop where
  len : lo.length = x.length + 1
  iff : ∀ j, j ≤ x.length → (lo.getD j false = true ↔ ∃ i, i ≤ j ∧ lf.getD i false = true ∧ L (sub x i j))

theorem EndsOk.eps {x : List Nat} {lf : List Bool} (h : lf.length = x.length + 1) : EndsOk lEps x lf lf :=
  ⟨h, fun j hj => by
    constructor
    · intro a; exact ⟨j, Nat.le_refl _, a, sub_self x j⟩
    · rintro ⟨i, a, b, c⟩
      have := (sub_nil a hj).1 c
      subst this; exact b⟩
theorem EndsOk.cat {A B : Lang} {x : List Nat} {lf l1 l2 : List Bool} (h : EndsOk A x lf l1) (k : EndsOk B x l1 l2) : EndsOk (lCat A B) x lf l2 :=
  ⟨k.len, fun j hj => by
    rw [k.iff j hj]
    constructor
    · rintro ⟨m, a, b, c⟩
      obtain ⟨i, d, e, g⟩ := (h.iff m (by omega)).1 b
      exact ⟨i, by omega, e, (sub_cat (by omega) hj).2 ⟨m, d, a, g, c⟩⟩
    · rintro ⟨i, a, b, c⟩
      obtain ⟨m, d, e, g, l⟩ := (sub_cat a hj).1 c
      exact ⟨m, e, (h.iff m (by omega)).2 ⟨i, d, b, g⟩, l⟩⟩
theorem altL_iff (Ms : List Lang) (y : List Nat) : altL Ms y ↔ ∃ M ∈ Ms, M y := by
  have key : ∀ (Ms : List Lang) (L : Lang), (Ms.foldl lAlt L) y ↔ L y ∨ ∃ M ∈ Ms, M y := by
    intro Ms
    induction Ms with
    | nil => intro L; simp
    | cons M Ms ih =>
      intro L
      rw [List.foldl_cons, ih]
      simp only [lAlt, List.mem_cons]
      constructor
      · rintro ((a | a) | ⟨N, a, b⟩)
        · exact .inl a
        · exact .inr ⟨M, .inl rfl, a⟩
        · exact .inr ⟨N, .inr a, b⟩
      · rintro (a | ⟨N, rfl | a, b⟩)
        · exact .inl (.inl a)
        · exact .inl (.inr b)
        · exact .inr ⟨N, a, b⟩
  cases Ms with
  | nil => simp [altL, lNone]
  | cons M Ms =>
    rw [altL, key]
    simp

/- One row joined with another, up to k. -/
def orTo (a b : List Bool) : Nat → List Bool
  | 0 => a
  | k + 1 => (orTo a b k).set k (a.getD k false || b.getD k false)
theorem orTo_len (a b : List Bool) : ∀ k, (orTo a b k).length = a.length
  | 0 => rfl
  | k + 1 => by rw [orTo, List.length_set]; exact orTo_len a b k
theorem orTo_get (a b : List Bool) : ∀ k q, k ≤ a.length → (orTo a b k).getD q false = if q < k then (a.getD q false || b.getD q false) else a.getD q false := by
  intro k
  induction k with
  | zero => intro q _; simp [orTo]
  | succ k ih =>
    intro q hk
    have hl := orTo_len a b k
    rw [orTo]
    by_cases h : q = k
    · subst h
      rw [List.getD_eq_getElem?_getD, List.getElem?_set_self (by omega), Option.getD_some, if_pos (by omega)]
    · rw [List.getD_eq_getElem?_getD, List.getElem?_set_ne (fun e => h e.symm), ← List.getD_eq_getElem?_getD, ih q (by omega)]
      by_cases h2 : q < k
      · rw [if_pos h2, if_pos (by omega)]
      · rw [if_neg h2, if_neg (by omega)]
theorem orTo_same (a b : List Bool) (k : Nat) (hk : k < a.length) (h : (a.getD k false || b.getD k false) = a.getD k false) : orTo a b (k + 1) = orTo a b k := by
  rw [orTo, h]
  have g := orTo_get a b k k (by omega)
  rw [if_neg (by omega)] at g
  rw [← g, List.getD_eq_getElem?_getD, List.getElem?_eq_getElem (by rw [orTo_len]; exact hk), Option.getD_some]
  simp

theorem EndsOk.none (x : List Nat) (lf : List Bool) : EndsOk (altL []) x lf (fl (x.length + 1)) :=
  ⟨fl_len _, fun j _ => by
    rw [fl_get, altL]
    simp [lNone]⟩
theorem EndsOk.alt {Ms : List Lang} {M : Lang} {x : List Nat} {lf o l : List Bool} (h : EndsOk (altL Ms) x lf o) (k : EndsOk M x lf l) : EndsOk (altL (Ms ++ [M])) x lf (orTo o l (x.length + 1)) :=
  ⟨by rw [orTo_len]; exact h.len, fun j hj => by
    rw [orTo_get o l _ j (by rw [h.len]; exact Nat.le_refl _), if_pos (by omega), Bool.or_eq_true, h.iff j hj, k.iff j hj]
    simp only [altL_iff, List.mem_append, List.mem_singleton]
    constructor
    · rintro (⟨i, a, b, N, c, d⟩ | ⟨i, a, b, c⟩)
      · exact ⟨i, a, b, N, .inl c, d⟩
      · exact ⟨i, a, b, M, .inr rfl, c⟩
    · rintro ⟨i, a, b, N, c | rfl, d⟩
      · exact .inl ⟨i, a, b, N, c, d⟩
      · exact .inr ⟨i, a, b, d⟩⟩

/- A byte. -/
def byteTo (s : Nat) (x : List Nat) (lf : List Bool) : Nat → List Bool
  | 0 => fl (x.length + 1)
  | k + 1 => if (lf.getD k false && s.testBit (x.getD k 0)) = true then (byteTo s x lf k).set (k + 1) true else byteTo s x lf k
theorem byteTo_len (s : Nat) (x : List Nat) (lf : List Bool) : ∀ k, (byteTo s x lf k).length = x.length + 1
  | 0 => fl_len _
  | k + 1 => by
    rw [byteTo]
    split
    · rw [List.length_set]; exact byteTo_len s x lf k
    · exact byteTo_len s x lf k
theorem byteTo_get (s : Nat) (x : List Nat) (lf : List Bool) : ∀ k j, k ≤ x.length → ((byteTo s x lf k).getD j false = true ↔ ∃ i, i < k ∧ j = i + 1 ∧ lf.getD i false = true ∧ s.testBit (x.getD i 0) = true) := by
  intro k
  induction k with
  | zero => intro j _; rw [byteTo, fl_get]; simp
  | succ k ih =>
    intro j hk
    rw [byteTo]
    by_cases h : (lf.getD k false && s.testBit (x.getD k 0)) = true
    · rw [if_pos h]
      rw [Bool.and_eq_true] at h
      by_cases e : j = k + 1
      · subst e
        rw [List.getD_eq_getElem?_getD, List.getElem?_set_self (by rw [byteTo_len]; omega), Option.getD_some]
        constructor
        · intro _; exact ⟨k, by omega, rfl, h.1, h.2⟩
        · intro _; rfl
      · rw [List.getD_eq_getElem?_getD, List.getElem?_set_ne (fun a => e a.symm), ← List.getD_eq_getElem?_getD, ih j (by omega)]
        constructor
        · rintro ⟨i, a, b⟩; exact ⟨i, by omega, b⟩
        · rintro ⟨i, a, b, c⟩; exact ⟨i, by omega, b, c⟩
    · rw [if_neg h, ih j (by omega)]
      constructor
      · rintro ⟨i, a, b⟩; exact ⟨i, by omega, b⟩
      · rintro ⟨i, a, b, c, d⟩
        by_cases e : i = k
        · subst e; exact absurd (by rw [c, d]; rfl) h
        · exact ⟨i, by omega, b, c, d⟩
theorem EndsOk.byte (s : Nat) (x : List Nat) (lf : List Bool) : EndsOk (lSet s) x lf (byteTo s x lf x.length) :=
  ⟨byteTo_len _ _ _ _, fun j hj => by
    rw [byteTo_get s x lf _ j (Nat.le_refl _)]
    constructor
    · rintro ⟨i, a, rfl, b, c⟩; exact ⟨i, by omega, b, (sub_one s (by omega) hj).2 ⟨rfl, c⟩⟩
    · rintro ⟨i, a, b, c⟩
      obtain ⟨rfl, d⟩ := (sub_one s a hj).1 c
      exact ⟨i, by omega, rfl, b, d⟩⟩

/- Over and over. -/
theorem lPow_snoc {M : Lang} : ∀ (n : Nat) {y z : List Nat}, lPow M n y → M z → lPow M (n + 1) (y ++ z)
  | 0, y, z, hy, hz => by
    have : y = [] := hy
    subst this
    exact ⟨z, [], by simp, hz, rfl⟩
  | n + 1, y, z, ⟨a, b, e, ha, hb⟩, hz => by
    subst e
    exact ⟨a, b ++ z, by simp, ha, lPow_snoc n hb hz⟩
structure PlusInv (M : Lang) (x : List Nat) (lf o : List Bool) : Prop where
  len : o.length = x.length + 1
  sound : ∀ j, j ≤ x.length → o.getD j false = true → ∃ i, i ≤ j ∧ lf.getD i false = true ∧ lPlus M (sub x i j)
  base : ∀ i j, i ≤ j → j ≤ x.length → lf.getD i false = true → M (sub x i j) → o.getD j false = true
theorem PlusInv.start {M : Lang} {x : List Nat} {lf o : List Bool} (h : EndsOk M x lf o) : PlusInv M x lf o :=
  ⟨h.len, fun j hj a => by
    obtain ⟨i, b, c, d⟩ := (h.iff j hj).1 a
    exact ⟨i, b, c, 0, _, [], by simp, d, rfl⟩, fun i j a b c d => (h.iff j b).2 ⟨i, a, c, d⟩⟩
theorem PlusInv.step {M : Lang} {x : List Nat} {lf o l : List Bool} (h : PlusInv M x lf o) (k : EndsOk M x o l) : PlusInv M x lf (orTo o l (x.length + 1)) := by
  have g : ∀ j, j ≤ x.length → (orTo o l (x.length + 1)).getD j false = (o.getD j false || l.getD j false) := fun j hj => by
    rw [orTo_get o l _ j (by rw [h.len]; exact Nat.le_refl _), if_pos (by omega)]
  refine ⟨by rw [orTo_len]; exact h.len, fun j hj a => ?_, fun i j a b c d => ?_⟩
  · rw [g j hj, Bool.or_eq_true] at a
    rcases a with a | a
    · exact h.sound j hj a
    · obtain ⟨m, b, c, d⟩ := (k.iff j hj).1 a
      obtain ⟨i, e, f, n, p⟩ := h.sound m (by omega) c
      refine ⟨i, by omega, f, n + 1, ?_⟩
      rw [sub_split e b]
      exact lPow_snoc (n + 1) p d
  · rw [g j b, h.base i j a b c d]; rfl
theorem PlusInv.done {M : Lang} {x : List Nat} {lf o : List Bool} (h : PlusInv M x lf o) (hc : ∀ m j, m ≤ j → j ≤ x.length → o.getD m false = true → M (sub x m j) → o.getD j false = true) : EndsOk (lPlus M) x lf o := by
  have key : ∀ n m j, m ≤ j → j ≤ x.length → o.getD m false = true → lPow M n (sub x m j) → o.getD j false = true := by
    intro n
    induction n with
    | zero =>
      intro m j a b c d
      have := (sub_nil a b).1 d
      subst this; exact c
    | succ n ih =>
      intro m j a b c d
      obtain ⟨q, e, f, g, l⟩ := (sub_cat a b).1 d
      exact ih q j f b (hc m q e (by omega) c g) l
  refine ⟨h.len, fun j hj => ⟨h.sound j hj, ?_⟩⟩
  rintro ⟨i, a, b, n, c⟩
  obtain ⟨q, e, f, g, l⟩ := (sub_cat a hj).1 c
  exact key n q j f hj (h.base i q e (by omega) b g) l
theorem EndsOk.star {M : Lang} {x : List Nat} {lf o : List Bool} (h : EndsOk (lPlus M) x lf o) : EndsOk (lStar M) x lf (orTo o lf (x.length + 1)) :=
  ⟨by rw [orTo_len]; exact h.len, fun j hj => by
    rw [orTo_get o lf _ j (by rw [h.len]; exact Nat.le_refl _), if_pos (by omega), Bool.or_eq_true, h.iff j hj]
    constructor
    · rintro (⟨i, a, b, n, c⟩ | a)
      · exact ⟨i, a, b, n + 1, c⟩
      · exact ⟨j, Nat.le_refl _, a, 0, sub_self x j⟩
    · rintro ⟨i, a, b, n, c⟩
      cases n with
      | zero =>
        have := (sub_nil a hj).1 c
        subst this; exact .inr b
      | succ n => exact .inl ⟨i, a, b, n, c⟩⟩
theorem EndsOk.opt {M : Lang} {x : List Nat} {lf o : List Bool} (h : EndsOk M x lf o) : EndsOk (lOpt M) x lf (orTo o lf (x.length + 1)) :=
  ⟨by rw [orTo_len]; exact h.len, fun j hj => by
    rw [orTo_get o lf _ j (by rw [h.len]; exact Nat.le_refl _), if_pos (by omega), Bool.or_eq_true, h.iff j hj]
    constructor
    · rintro (⟨i, a, b, c⟩ | a)
      · exact ⟨i, a, b, .inr c⟩
      · exact ⟨j, Nat.le_refl _, a, .inl (sub_self x j)⟩
    · rintro ⟨i, a, b, c | c⟩
      · have := (sub_nil a hj).1 c
        subst this; exact .inr b
      · exact .inl ⟨i, a, b, c⟩⟩

/- How many are false. -/
def cf (l : List Bool) : Nat := l.count false
theorem cf_set (l : List Bool) (k : Nat) (hk : k < l.length) (h : l.getD k false = false) : cf (l.set k true) + 1 = cf l := by
  unfold cf
  rw [List.getD_eq_getElem?_getD, List.getElem?_eq_getElem hk, Option.getD_some] at h
  have hpos : 0 < l.count false := by
    rw [List.count_pos_iff]
    rw [← h]; exact List.getElem_mem hk
  rw [List.count_set hk, h]
  simp; omega
end Go.Proofs.YtbjdkbcfpmeneaaGreat
