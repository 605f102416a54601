/- What is proved here: what stands ahead of the place of an error can be read, or is refused for its end alone; which errors there are, and where. No program is named. -/
import Derived.Test.YtbjdkbcfpmeneaaM34
namespace Go.Proofs.Ytbjdkbcfpmeneaa
set_option linter.unusedVariables false
set_option linter.unusedSimpArgs false

/- The first n bytes of a text. -/
structure Pref (s u : ByteArray) (n : Nat) : Prop where
  le : n ≤ s.size
  size : u.size = n
  same : ∀ i, i < n → gt u i = gt s i
theorem Pref.out {s u : ByteArray} {n : Nat} (h : Pref s u n) {i : Nat} (hi : n ≤ i) : gt u i = 0 := gt_out u i (by rw [h.size]; exact hi)
theorem pref_extract (s : ByteArray) (n : Nat) (hn : n ≤ s.size) : Pref s (s.extract 0 n) n := by
  have hsz : (s.extract 0 n).size = n := by rw [ByteArray.size_extract]; omega
  refine ⟨hn, hsz, fun i hi => ?_⟩
  rw [gt_at _ i (by rw [hsz]; exact hi), gt_at s i (by omega)]
  congr 1
  rw [ByteArray.getElem_extract]
  simp

/- How the reading of a beginning stands to that of the whole: rs of the whole, ru of the beginning. -/
def PQ {α β : Type} (n : Nat) (rs : PR α) (ru : PR β) : Prop :=
  (rs.err ≠ 0 ∧ rs.pl < n) ∨ (ru.err = 4 ∧ ru.pl = n) ∨ (ru.err = 0 ∧ ru.j = n) ∨ (rs.err = 0 ∧ ru.err = 0 ∧ ru.j = rs.j ∧ rs.j < n)

theorem bad4 {s u : ByteArray} {n : Nat} (h : Pref s u n) {α β : Type} (rs : PR α) (v : β) : PQ n rs (bad u 4 u.size v) := by
  right; left; exact ⟨rfl, by rw [h.size]; rfl⟩

theorem PQ.good {α β : Type} {n j : Nat} (v : α) (v' : β) (h : j ≤ n) : PQ n (good j v) (good j v') := by
  by_cases e : j = n
  · right; right; left; exact ⟨rfl, e⟩
  · right; right; right; exact ⟨rfl, rfl, rfl, by simp only [Go.Proofs.Ytbjdkbcfpmeneaa.good]; omega⟩
theorem PQ.stop {α β : Type} {n i : Nat} (s u : ByteArray) (e : Int) (v : α) (r : PR β) (he : e ≠ 0) (h : i < n) : PQ n (bad s e i v) r := .inl ⟨he, by simp only [bad]; omega⟩
theorem PQ.j_le {α β : Type} {n : Nat} {rs : PR α} {ru : PR β} (h : PQ n rs ru) (hu : ru.err = 0) : (rs.err ≠ 0 ∧ rs.pl < n) ∨ ru.j ≤ n := by
  rcases h with a | ⟨a, _⟩ | ⟨_, a⟩ | ⟨_, _, a, b⟩
  · exact .inl a
  · rw [hu] at a; cases a
  · exact .inr (by omega)
  · exact .inr (by omega)
theorem PQ.errs {α β γ δ : Type} {n : Nat} {rs : PR α} {ru : PR β} (h : PQ n rs ru) (hu : ru.err ≠ 0) (rs' : PR γ) (ru' : PR δ) (h1 : rs.err ≠ 0 → rs'.err = rs.err ∧ rs'.pl = rs.pl) (h2 : ru'.err = ru.err ∧ ru'.pl = ru.pl) : PQ n rs' ru' := by
  rcases h with ⟨a, b⟩ | ⟨a, b⟩ | ⟨a, _⟩ | ⟨_, a, _⟩
  · exact .inl ⟨by rw [(h1 a).1]; exact a, by rw [(h1 a).2]; exact b⟩
  · exact .inr (.inl ⟨by rw [h2.1]; exact a, by rw [h2.2]; exact b⟩)
  · exact absurd a hu
  · exact absurd a hu

theorem pOne_pref {s u : ByteArray} {n : Nat} (h : Pref s u n) (i : Nat) (hi : i ≤ n) : PQ n (pOne s i) (pOne u i) ∧ ((pOne u i).err = 0 → pOne s i = pOne u i ∧ i < n ∧ (pOne u i).j ≤ n) := by
  by_cases e : i = n
  · subst e
    have g0 := h.out (Nat.le_refl _)
    have hu : pOne u i = bad u 4 u.size 0 := by unfold pOne; rw [if_pos g0]
    rw [hu]
    exact ⟨bad4 h _ _, fun a => by simp [bad] at a⟩
  · have hs := h.same i (by omega)
    unfold pOne
    rw [hs]
    by_cases g0 : gt s i = 0
    · rw [if_pos g0, if_pos g0]
      exact ⟨bad4 h _ _, fun a => by simp [bad] at a⟩
    · rw [if_neg g0, if_neg g0]
      by_cases g1 : gt s i = 92
      · rw [if_pos g1, if_pos g1]
        by_cases e2 : i + 1 = n
        · rw [if_pos (c := gt u (i + 1) = 0) (h.out (by omega))]
          exact ⟨bad4 h _ _, fun a => by simp [bad] at a⟩
        · rw [h.same (i + 1) (by omega)]
          by_cases g2 : gt s (i + 1) = 0
          · rw [if_pos g2, if_pos g2]
            exact ⟨bad4 h _ _, fun a => by simp [bad] at a⟩
          · rw [if_neg g2, if_neg g2]
            exact ⟨PQ.good _ _ (by omega), fun _ => ⟨rfl, by omega, by simp only [good]; omega⟩⟩
      · rw [if_neg g1, if_neg g1]
        by_cases g2 : gt s i = 91 ∨ gt s i = 93 ∨ gt s i = 94 ∨ gt s i = 45
        · rw [if_pos g2, if_pos g2]
          exact ⟨PQ.stop s u 5 0 _ (by decide) (by omega), fun a => by simp [bad] at a⟩
        · rw [if_neg g2, if_neg g2]
          exact ⟨PQ.good _ _ (by omega), fun _ => ⟨rfl, by omega, by simp only [good]; omega⟩⟩

theorem pItem_eq (s : ByteArray) (i : Nat) : pItem s i = if (pOne s i).err ≠ 0 then pOne s i else if gt s (pOne s i).j = 45 then (if (pOne s ((pOne s i).j + 1)).err ≠ 0 then pOne s ((pOne s i).j + 1) else if (pOne s ((pOne s i).j + 1)).v < (pOne s i).v then bad s 6 i 0 else good (pOne s ((pOne s i).j + 1)).j (spanN (pOne s i).v ((pOne s ((pOne s i).j + 1)).v + 1))) else good (pOne s i).j (spanN (pOne s i).v ((pOne s i).v + 1)) := rfl

theorem pItem_pref {s u : ByteArray} {n : Nat} (h : Pref s u n) (i : Nat) (hi : i ≤ n) : PQ n (pItem s i) (pItem u i) := by
  obtain ⟨q, hv⟩ := pOne_pref h i hi
  by_cases ha : (pOne u i).err = 0
  · obtain ⟨e, hin, hj⟩ := hv ha
    rw [pItem_eq s i, pItem_eq u i, e]
    generalize pOne u i = A at *
    rw [if_neg (by simp [ha])]
    by_cases hjn : A.j = n
    · rw [hjn, if_neg (c := A.err ≠ 0) (by simp [ha]), if_neg (c := gt u n = 45) (by rw [h.out (Nat.le_refl _)]; decide)]
      exact .inr (.inr (.inl ⟨rfl, rfl⟩))
    · rw [if_neg (c := A.err ≠ 0) (by simp [ha]), h.same A.j (by omega)]
      by_cases g : gt s A.j = 45
      · rw [if_pos g, if_pos g]
        obtain ⟨q2, hv2⟩ := pOne_pref h (A.j + 1) (by omega)
        by_cases hb : (pOne u (A.j + 1)).err = 0
        · obtain ⟨e2, _, hj2⟩ := hv2 hb
          rw [e2]
          generalize pOne u (A.j + 1) = B at *
          rw [if_neg (by simp [hb]), if_neg (c := B.err ≠ 0) (by simp [hb])]
          by_cases g6 : B.v < A.v
          · rw [if_pos g6, if_pos g6]
            exact PQ.stop s u 6 0 _ (by decide) hin
          · rw [if_neg g6, if_neg g6]
            exact PQ.good _ _ hj2
        · refine q2.errs hb _ _ (fun a => ?_) ?_
          · rw [if_pos a]; exact ⟨rfl, rfl⟩
          · rw [if_pos hb]; exact ⟨rfl, rfl⟩
      · rw [if_neg g, if_neg g]
        exact PQ.good _ _ hj
  · refine q.errs ha _ _ (fun a => ?_) ?_
    · rw [pItem_eq, if_pos a]; exact ⟨rfl, rfl⟩
    · rw [pItem_eq, if_pos ha]; exact ⟨rfl, rfl⟩

theorem pOne_lt (u : ByteArray) (i : Nat) (h : (pOne u i).err = 0) : i < (pOne u i).j := by
  unfold pOne at *
  split at h
  · simp [bad] at h
  · rename_i g0
    rw [if_neg g0]
    split at h
    · rename_i g1
      rw [if_pos g1]
      split at h
      · simp [bad] at h
      · rename_i g2; rw [if_neg g2]; simp only [good]; omega
    · rename_i g1
      rw [if_neg g1]
      split at h
      · simp [bad] at h
      · rename_i g2; rw [if_neg g2]; simp only [good]; omega
theorem pItem_lt (u : ByteArray) (i : Nat) (h : (pItem u i).err = 0) : i < (pItem u i).j := by
  rw [pItem_eq] at *
  by_cases ha : (pOne u i).err = 0
  · have h1 := pOne_lt u i ha
    rw [if_neg (by simp [ha])] at *
    by_cases g : gt u (pOne u i).j = 45
    · rw [if_pos g] at *
      by_cases hb : (pOne u ((pOne u i).j + 1)).err = 0
      · have h2 := pOne_lt u _ hb
        rw [if_neg (by simp [hb])] at *
        by_cases g6 : (pOne u ((pOne u i).j + 1)).v < (pOne u i).v
        · rw [if_pos g6] at h; simp [bad] at h
        · rw [if_neg g6]; simp only [good]; omega
      · rw [if_pos hb] at h; exact absurd h hb
    · rw [if_neg g]; exact h1
  · rw [if_pos ha] at h; exact absurd h ha

theorem pItems_eq (s : ByteArray) (m acc i : Nat) : pItems s (m + 1) acc i = if (pItem s i).err ≠ 0 then pItem s i else if gt s (pItem s i).j = 0 then bad s 4 s.size 0 else if gt s (pItem s i).j = 93 then good ((pItem s i).j + 1) (acc ||| (pItem s i).v) else pItems s m (acc ||| (pItem s i).v) (pItem s i).j := rfl

theorem pItems_pref {s u : ByteArray} {n : Nat} (h : Pref s u n) : ∀ (m acc acc' i : Nat), i ≤ n → u.size - i < m → PQ n (pItems s m acc i) (pItems u m acc' i) := by
  intro m
  induction m with
  | zero => intro acc acc' i _ hm; omega
  | succ m ih =>
    intro acc acc' i hi hm
    have q := pItem_pref h i hi
    rw [pItems_eq, pItems_eq]
    by_cases ha : (pItem u i).err = 0
    · rw [if_neg (c := (pItem u i).err ≠ 0) (by simp [ha])]
      rcases q with ⟨a, b⟩ | ⟨a, _⟩ | ⟨a, b⟩ | ⟨a, a', b, c⟩
      · rw [if_pos a]; exact .inl ⟨a, b⟩
      · rw [ha] at a; cases a
      · rw [b, if_pos (c := gt u n = 0) (h.out (Nat.le_refl _))]; exact bad4 h _ _
      · rw [if_neg (c := (pItem s i).err ≠ 0) (by simp [a]), b, h.same _ c]
        by_cases g0 : gt s (pItem s i).j = 0
        · rw [if_pos g0, if_pos g0]; exact bad4 h _ _
        · rw [if_neg g0, if_neg g0]
          by_cases g1 : gt s (pItem s i).j = 93
          · rw [if_pos g1, if_pos g1]; exact PQ.good _ _ (by omega)
          · rw [if_neg g1, if_neg g1]
            have hlt : i < (pItem s i).j := by
              rw [← b]
              exact pItem_lt u i ha
            exact ih _ _ _ (by omega) (by have := h.size; omega)
    · refine q.errs ha _ _ (fun a => ?_) ?_
      · rw [if_pos a]; exact ⟨rfl, rfl⟩
      · rw [if_pos ha]; exact ⟨rfl, rfl⟩

theorem pSet_pref {s u : ByteArray} {n : Nat} (h : Pref s u n) (hs : s.size ≤ 16) (i : Nat) (hi : i ≤ n) : PQ n (pSet s i) (pSet u i) := by
  have hsz := h.size
  have hle := h.le
  unfold pSet
  by_cases e : i = n
  · subst e
    have g0 := h.out (Nat.le_refl _)
    rw [if_neg (c := gt u i = 94) (by rw [g0]; decide)]
    have hu : pItems u 20 0 i = bad u 4 u.size 0 := by
      rw [pItems_eq, pItem_eq]
      have : pOne u i = bad u 4 u.size 0 := by unfold pOne; rw [if_pos g0]
      rw [this]; rfl
    rw [hu]; exact bad4 h _ _
  · rw [h.same i (by omega)]
    by_cases g : gt s i = 94
    · rw [if_pos g, if_pos g]
      have q := pItems_pref h 20 0 0 (i + 1) (by omega) (by omega)
      by_cases ha : (pItems u 20 0 (i + 1)).err = 0
      · rw [if_neg (c := (pItems u 20 0 (i + 1)).err ≠ 0) (by simp [ha])]
        rcases q with ⟨a, b⟩ | ⟨a, _⟩ | ⟨a, b⟩ | ⟨a, a', b, c⟩
        · rw [if_pos a]; exact .inl ⟨a, b⟩
        · rw [ha] at a; cases a
        · exact .inr (.inr (.inl ⟨rfl, b⟩))
        · rw [if_neg (c := (pItems s 20 0 (i + 1)).err ≠ 0) (by simp [a])]
          exact .inr (.inr (.inr ⟨rfl, rfl, b, c⟩))
      · refine q.errs ha _ _ (fun a => ?_) ?_
        · rw [if_pos a]; exact ⟨rfl, rfl⟩
        · rw [if_pos ha]; exact ⟨rfl, rfl⟩
    · rw [if_neg g, if_neg g]
      exact pItems_pref h 20 0 0 i hi (by omega)

theorem pReps_pref {s u : ByteArray} {n : Nat} (h : Pref s u n) : ∀ (m : Nat) (L L' : Lang) (i : Nat), i ≤ n → PQ n (pReps s m L i) (pReps u m L' i) := by
  intro m
  induction m with
  | zero => intro L L' i hi; exact PQ.good _ _ hi
  | succ m ih =>
    intro L L' i hi
    by_cases e : i = n
    · subst e
      have g0 := h.out (Nat.le_refl _)
      have : pReps u (m + 1) L' i = good i L' := by unfold pReps; rw [g0]; rfl
      rw [this]; exact .inr (.inr (.inl ⟨rfl, rfl⟩))
    · unfold pReps
      rw [h.same i (by omega)]
      by_cases g1 : gt s i = 42
      · rw [if_pos g1, if_pos g1]; exact ih _ _ _ (by omega)
      · rw [if_neg g1, if_neg g1]
        by_cases g2 : gt s i = 43
        · rw [if_pos g2, if_pos g2]; exact ih _ _ _ (by omega)
        · rw [if_neg g2, if_neg g2]
          by_cases g3 : gt s i = 63
          · rw [if_pos g3, if_pos g3]; exact ih _ _ _ (by omega)
          · rw [if_neg g3, if_neg g3]; exact PQ.good _ _ hi
end Go.Proofs.Ytbjdkbcfpmeneaa

/- What is proved here: the same for a whole pattern; which errors there are, and where. No program is named. -/
namespace Go.Proofs.Ytbjdkbcfpmeneaa
set_option linter.unusedVariables false
set_option linter.unusedSimpArgs false

theorem pp0_end {u : ByteArray} {i : Nat} (h : gt u i = 0) (m : Nat) (acc : Lang) : pp u (m + 1) 0 acc i = good i acc := by
  rw [pp_alt, if_neg (by rw [h]; decide)]
theorem pp1_end {u : ByteArray} {i : Nat} (h : gt u i = 0) (m : Nat) (acc : Lang) : pp u (m + 1) 1 acc i = good i acc := by
  rw [pp_cat, if_pos (.inl h)]
theorem pReps_end {u : ByteArray} {i : Nat} (h : gt u i = 0) (m : Nat) (L : Lang) : pReps u m L i = good i L := by
  cases m with
  | zero => rfl
  | succ m => unfold pReps; rw [h]; rfl

theorem pReps_ok (u : ByteArray) : ∀ (m : Nat) (L : Lang) (i : Nat), (pReps u m L i).err = 0 := by
  intro m
  induction m with
  | zero => intro L i; rfl
  | succ m ih =>
    intro L i
    unfold pReps
    split
    · exact ih _ _
    · split
      · exact ih _ _
      · split
        · exact ih _ _
        · rfl

theorem pp_pref {s u : ByteArray} {n : Nat} (h : Pref s u n) (hs : s.size ≤ 16) (hz : Nz s) : ∀ m,
    (∀ (acc acc' : Lang) (i : Nat), i ≤ n → 2 * (n - i) + 2 ≤ m → PQ n (pp s m 0 acc i) (pp u m 0 acc' i)) ∧
    (∀ (acc acc' : Lang) (i : Nat), i ≤ n → 2 * (n - i) + 2 ≤ m → PQ n (pp s m 1 acc i) (pp u m 1 acc' i)) ∧
    (∀ (acc acc' : Lang) (i : Nat), i < n → 2 * (n - i) + 1 ≤ m → PQ n (pp s m 2 acc i) (pp u m 2 acc' i)) := by
  have hle := h.le
  have hend : gt u n = 0 := h.out (Nat.le_refl _)
  intro m
  induction m with
  | zero => exact ⟨fun _ _ _ _ a => by omega, fun _ _ _ _ a => by omega, fun _ _ _ _ a => by omega⟩
  | succ m ih =>
    obtain ⟨ih0, ih1, ih2⟩ := ih
    refine ⟨fun acc acc' i hi hm => ?_, fun acc acc' i hi hm => ?_, fun acc acc' i hi hm => ?_⟩
    · by_cases e : i = n
      · subst e
        rw [pp0_end hend]; exact .inr (.inr (.inl ⟨rfl, rfl⟩))
      · rw [pp_alt, pp_alt, h.same i (by omega)]
        by_cases g : gt s i = 124
        · rw [if_pos g, if_pos g]
          have q := ih1 lEps lEps (i + 1) (by omega) (by omega)
          have sh := (pp_shape s hz m).2.1 lEps (i + 1) (by omega)
          by_cases ha : (pp u m 1 lEps (i + 1)).err = 0
          · rw [if_neg (c := (pp u m 1 lEps (i + 1)).err ≠ 0) (by simp [ha])]
            rcases q with ⟨a, b⟩ | ⟨a, _⟩ | ⟨a, b⟩ | ⟨a, a', b, c⟩
            · rw [if_pos a]; exact .inl ⟨a, b⟩
            · rw [ha] at a; cases a
            · obtain ⟨m', rfl⟩ : ∃ m', m = m' + 1 := ⟨m - 1, by omega⟩
              rw [b, pp0_end hend]; exact .inr (.inr (.inl ⟨rfl, rfl⟩))
            · rw [if_neg (c := (pp s m 1 lEps (i + 1)).err ≠ 0) (by simp [a]), b]
              have : i + 1 ≤ (pp s m 1 lEps (i + 1)).j := by
                rcases sh with ⟨_, _, x, _⟩ | ⟨x, _⟩
                · exact x
                · exact absurd a x
              exact ih0 _ _ _ (by omega) (by omega)
          · refine q.errs ha _ _ (fun a => ?_) ?_
            · rw [if_pos a]; exact ⟨rfl, rfl⟩
            · rw [if_pos ha]; exact ⟨rfl, rfl⟩
        · rw [if_neg g, if_neg g]; exact PQ.good _ _ hi
    · by_cases e : i = n
      · subst e
        rw [pp1_end hend]; exact .inr (.inr (.inl ⟨rfl, rfl⟩))
      · rw [pp_cat, pp_cat, h.same i (by omega)]
        by_cases g : gt s i = 0 ∨ gt s i = 124 ∨ gt s i = 41
        · rw [if_pos g, if_pos g]; exact PQ.good _ _ hi
        · rw [if_neg g, if_neg g]
          have q := ih2 lEps lEps i (by omega) (by omega)
          have sh := (pp_shape s hz m).2.2 lEps i (by omega)
          by_cases ha : (pp u m 2 lEps i).err = 0
          · rw [if_neg (c := (pp u m 2 lEps i).err ≠ 0) (by simp [ha])]
            rcases q with ⟨a, b⟩ | ⟨a, _⟩ | ⟨a, b⟩ | ⟨a, a', b, c⟩
            · rw [if_pos a]; exact .inl ⟨a, b⟩
            · rw [ha] at a; cases a
            · obtain ⟨m', rfl⟩ : ∃ m', m = m' + 1 := ⟨m - 1, by omega⟩
              rw [b, pReps_end hend]
              show PQ n _ (pp u (m' + 1) 1 _ n)
              rw [pp1_end hend]; exact .inr (.inr (.inl ⟨rfl, rfl⟩))
            · rw [if_neg (c := (pp s m 2 lEps i).err ≠ 0) (by simp [a]), b]
              have hj : i < (pp s m 2 lEps i).j ∧ (pp s m 2 lEps i).j ≤ s.size := by
                rcases sh with ⟨_, _, _, x, y⟩ | ⟨x, _⟩
                · exact ⟨x trivial, y⟩
                · exact absurd a x
              have q2 := pReps_pref h 20 (pp s m 2 lEps i).v (pp u m 2 lEps i).v (pp s m 2 lEps i).j (by omega)
              have hb0 := pReps_ok u 20 (pp u m 2 lEps i).v (pp s m 2 lEps i).j
              have sh2 := pReps_shape s hz 20 (pp s m 2 lEps i).v (pp s m 2 lEps i).j hj.2
              generalize pReps s 20 (pp s m 2 lEps i).v (pp s m 2 lEps i).j = B at *
              generalize pReps u 20 (pp u m 2 lEps i).v (pp s m 2 lEps i).j = B' at *
              rcases q2 with ⟨d, _⟩ | ⟨d, e2⟩ | ⟨d, e2⟩ | ⟨d, d', e2, f⟩
              · exact absurd sh2.1 d
              · have := hb0; rw [d] at this; cases this
              · obtain ⟨m', rfl⟩ : ∃ m', m = m' + 1 := ⟨m - 1, by omega⟩
                rw [e2, pp1_end hend]; exact .inr (.inr (.inl ⟨rfl, rfl⟩))
              · rw [e2]; exact ih1 _ _ _ (by omega) (by omega)
          · refine q.errs ha _ _ (fun a => ?_) ?_
            · rw [if_pos a]; exact ⟨rfl, rfl⟩
            · rw [if_pos ha]; exact ⟨rfl, rfl⟩
    · rw [pp_atom, pp_atom, h.same i hi]
      by_cases g1 : gt s i = 40
      · rw [if_pos g1, if_pos g1]
        have q := ih1 lEps lEps (i + 1) (by omega) (by omega)
        have sh := (pp_shape s hz m).2.1 lEps (i + 1) (by omega)
        by_cases ha : (pp u m 1 lEps (i + 1)).err = 0
        · rw [if_neg (c := (pp u m 1 lEps (i + 1)).err ≠ 0) (by simp [ha])]
          rcases q with ⟨a, b⟩ | ⟨a, _⟩ | ⟨a, b⟩ | ⟨a, a', b, c⟩
          · rw [if_pos a]; exact .inl ⟨a, b⟩
          · rw [ha] at a; cases a
          · obtain ⟨m', rfl⟩ : ∃ m', m = m' + 1 := ⟨m - 1, by omega⟩
            rw [b, pp0_end hend, if_neg (c := (good n (pp u (m' + 1) 1 lEps (i + 1)).v).err ≠ 0) (by simp [good]), if_pos (c := gt u (good n (pp u (m' + 1) 1 lEps (i + 1)).v).j = 0) hend]
            exact bad4 h _ _
          · rw [if_neg (c := (pp s m 1 lEps (i + 1)).err ≠ 0) (by simp [a]), b]
            have hj : i + 1 ≤ (pp s m 1 lEps (i + 1)).j := by
              rcases sh with ⟨_, _, x, _⟩ | ⟨x, _⟩
              · exact x
              · exact absurd a x
            have q2 := ih0 (pp s m 1 lEps (i + 1)).v (pp u m 1 lEps (i + 1)).v (pp s m 1 lEps (i + 1)).j (by omega) (by omega)
            generalize pp s m 0 (pp s m 1 lEps (i + 1)).v (pp s m 1 lEps (i + 1)).j = B at *
            generalize pp u m 0 (pp u m 1 lEps (i + 1)).v (pp s m 1 lEps (i + 1)).j = B' at *
            by_cases hb : B'.err = 0
            · rw [if_neg (c := B'.err ≠ 0) (by simp [hb])]
              rcases q2 with ⟨d, e2⟩ | ⟨d, _⟩ | ⟨d, e2⟩ | ⟨d, d', e2, f⟩
              · rw [if_pos d]; exact .inl ⟨d, e2⟩
              · rw [hb] at d; cases d
              · rw [e2, if_pos (c := gt u n = 0) hend]; exact bad4 h _ _
              · rw [if_neg (c := B.err ≠ 0) (by simp [d]), e2, h.same _ f]
                by_cases g0 : gt s B.j = 0
                · rw [if_pos g0, if_pos g0]; exact bad4 h _ _
                · rw [if_neg g0, if_neg g0]; exact PQ.good _ _ (by omega)
            · refine q2.errs hb _ _ (fun a => ?_) ?_
              · rw [if_pos a]; exact ⟨rfl, rfl⟩
              · rw [if_pos hb]; exact ⟨rfl, rfl⟩
        · refine q.errs ha _ _ (fun a => ?_) ?_
          · rw [if_pos a]; exact ⟨rfl, rfl⟩
          · rw [if_pos ha]; exact ⟨rfl, rfl⟩
      · rw [if_neg g1, if_neg g1]
        by_cases g2 : gt s i = 91
        · rw [if_pos g2, if_pos g2]
          have q := pSet_pref h hs (i + 1) (by omega)
          generalize pSet s (i + 1) = A at *
          generalize pSet u (i + 1) = A' at *
          by_cases ha : A'.err = 0
          · rw [if_neg (c := A'.err ≠ 0) (by simp [ha])]
            rcases q with ⟨a, b⟩ | ⟨a, _⟩ | ⟨a, b⟩ | ⟨a, a', b, c⟩
            · rw [if_pos a]; exact .inl ⟨a, b⟩
            · rw [ha] at a; cases a
            · exact .inr (.inr (.inl ⟨rfl, b⟩))
            · rw [if_neg (c := A.err ≠ 0) (by simp [a])]
              exact .inr (.inr (.inr ⟨rfl, rfl, b, c⟩))
          · refine q.errs ha _ _ (fun a => ?_) ?_
            · rw [if_pos a]; exact ⟨rfl, rfl⟩
            · rw [if_pos ha]; exact ⟨rfl, rfl⟩
        · rw [if_neg g2, if_neg g2]
          by_cases g3 : gt s i = 46
          · rw [if_pos g3, if_pos g3]; exact PQ.good _ _ (by omega)
          · rw [if_neg g3, if_neg g3]
            by_cases g4 : gt s i = 92
            · rw [if_pos g4, if_pos g4]
              by_cases e : i + 1 = n
              · rw [if_pos (c := gt u (i + 1) = 0) (h.out (by omega))]; exact bad4 h _ _
              · rw [h.same (i + 1) (by omega)]
                by_cases g5 : gt s (i + 1) = 0
                · rw [if_pos g5, if_pos g5]; exact bad4 h _ _
                · rw [if_neg g5, if_neg g5]; exact PQ.good _ _ (by omega)
            · rw [if_neg g4, if_neg g4]
              by_cases g5 : gt s i = 42 ∨ gt s i = 43 ∨ gt s i = 63 ∨ gt s i = 93
              · rw [if_pos g5, if_pos g5]; exact PQ.stop s u 5 _ _ (by decide) hi
              · rw [if_neg g5, if_neg g5]; exact PQ.good _ _ (by omega)

theorem aR_pref {s u : ByteArray} {n : Nat} (h : Pref s u n) (hs : s.size ≤ 16) (hz : Nz s) : PQ n (aR s 40 0) (aR u 40 0) := by
  have hle := h.le
  have hend : gt u n = 0 := h.out (Nat.le_refl _)
  have q := (pp_pref h hs hz 40).2.1 lEps lEps 0 (by omega) (by omega)
  have sh := (pp_shape s hz 40).2.1 lEps 0 (by omega)
  unfold aR
  by_cases ha : (pp u 40 1 lEps 0).err = 0
  · rw [if_neg (c := (pp u 40 1 lEps 0).err ≠ 0) (by simp [ha])]
    rcases q with ⟨a, b⟩ | ⟨a, _⟩ | ⟨a, b⟩ | ⟨a, a', b, c⟩
    · rw [if_pos a]; exact .inl ⟨a, b⟩
    · rw [ha] at a; cases a
    · rw [b, pp0_end hend]; exact .inr (.inr (.inl ⟨rfl, rfl⟩))
    · rw [if_neg (c := (pp s 40 1 lEps 0).err ≠ 0) (by simp [a]), b]
      exact (pp_pref h hs hz 40).1 _ _ _ (by omega) (by omega)
  · refine q.errs ha _ _ (fun a => ?_) ?_
    · rw [if_pos a]; exact ⟨rfl, rfl⟩
    · rw [if_pos ha]; exact ⟨rfl, rfl⟩

/- Which errors there are, and where. -/
def EOk {α : Type} (s : ByteArray) (R : PR α) : Prop := R.err = 0 ∨ (R.err = 4 ∧ R.pl = s.size) ∨ ((R.err = 5 ∨ R.err = 6) ∧ 0 ≤ R.pl ∧ R.pl < s.size)
theorem EOk.bad4 {α : Type} (s : ByteArray) (v : α) : EOk s (bad s 4 s.size v) := .inr (.inl ⟨rfl, rfl⟩)
theorem EOk.at {α : Type} (s : ByteArray) (e : Int) (i : Nat) (v : α) (he : e = 5 ∨ e = 6) (hi : i < s.size) : EOk s (bad s e i v) := .inr (.inr ⟨he, by simp only [bad]; omega, by simp only [bad]; omega⟩)
theorem EOk.of {α β : Type} {s : ByteArray} {R : PR α} {T : PR β} (h : EOk s R) (e : T.err = R.err ∧ T.pl = R.pl) : EOk s T := by
  unfold EOk; rw [e.1, e.2]; exact h
theorem pOne_errs (s : ByteArray) (hz : Nz s) (i : Nat) : EOk s (pOne s i) := by
  unfold pOne
  split
  · exact EOk.bad4 _ _
  · rename_i g0
    have hi : i < s.size := by have := hz i; omega
    split
    · split
      · exact EOk.bad4 _ _
      · exact .inl rfl
    · split
      · exact EOk.at _ _ _ _ (.inl rfl) hi
      · exact .inl rfl
theorem pItem_errs (s : ByteArray) (hz : Nz s) (i : Nat) : EOk s (pItem s i) := by
  rw [pItem_eq]
  by_cases ha : (pOne s i).err = 0
  · rw [if_neg (by simp [ha])]
    have hi : i < s.size := by
      rcases Nat.lt_or_ge i s.size with x | x
      · exact x
      · have : pOne s i = bad s 4 s.size 0 := by unfold pOne; rw [if_pos ((hz i).2 x)]
        rw [this] at ha; simp [bad] at ha
    split
    · by_cases hb : (pOne s ((pOne s i).j + 1)).err = 0
      · rw [if_neg (by simp [hb])]
        split
        · exact EOk.at _ _ _ _ (.inr rfl) hi
        · exact .inl rfl
      · rw [if_pos hb]; exact pOne_errs s hz _
    · exact .inl rfl
  · rw [if_pos ha]; exact pOne_errs s hz i
theorem pItems_errs (s : ByteArray) (hz : Nz s) : ∀ (m acc i : Nat), s.size - i < m → EOk s (pItems s m acc i) := by
  intro m
  induction m with
  | zero => intro acc i hm; omega
  | succ m ih =>
    intro acc i hm
    rw [pItems_eq]
    by_cases ha : (pItem s i).err = 0
    · rw [if_neg (by simp [ha])]
      split
      · exact EOk.bad4 _ _
      · rename_i g0
        split
        · exact .inl rfl
        · have h1 := pItem_lt s i ha
          have := hz (pItem s i).j
          exact ih _ _ (by omega)
    · rw [if_pos ha]; exact pItem_errs s hz i
theorem pSet_errs (s : ByteArray) (hz : Nz s) (hs : s.size ≤ 16) (i : Nat) : EOk s (pSet s i) := by
  unfold pSet
  split
  · have := pItems_errs s hz 20 0 (i + 1) (by omega)
    by_cases ha : (pItems s 20 0 (i + 1)).err = 0
    · rw [if_neg (by simp [ha])]; exact .inl rfl
    · rw [if_pos ha]; exact this
  · exact pItems_errs s hz 20 0 i (by omega)
theorem pp_errs (s : ByteArray) (hz : Nz s) (hs : s.size ≤ 16) : ∀ m,
    (∀ (acc : Lang) (i : Nat), i ≤ s.size → 2 * (s.size - i) + 2 ≤ m → EOk s (pp s m 0 acc i)) ∧
    (∀ (acc : Lang) (i : Nat), i ≤ s.size → 2 * (s.size - i) + 2 ≤ m → EOk s (pp s m 1 acc i)) ∧
    (∀ (acc : Lang) (i : Nat), i < s.size → 2 * (s.size - i) + 1 ≤ m → EOk s (pp s m 2 acc i)) := by
  intro m
  induction m with
  | zero => exact ⟨fun _ _ _ a => by omega, fun _ _ _ a => by omega, fun _ _ _ a => by omega⟩
  | succ m ih =>
    obtain ⟨ih0, ih1, ih2⟩ := ih
    refine ⟨fun acc i hi hm => ?_, fun acc i hi hm => ?_, fun acc i hi hm => ?_⟩
    · rw [pp_alt]
      by_cases g : gt s i = 124
      · rw [if_pos g]
        have hl : i < s.size := by have := hz i; omega
        have q := ih1 lEps (i + 1) hl (by omega)
        have sh := (pp_shape s hz m).2.1 lEps (i + 1) hl
        generalize pp s m 1 lEps (i + 1) = A at *
        rcases sh with ⟨a1, _, a3, _, a5⟩ | ⟨a1, _⟩
        · rw [if_neg (by simp [a1])]; exact ih0 _ _ a5 (by omega)
        · rw [if_pos a1]; exact q
      · rw [if_neg g]; exact .inl rfl
    · rw [pp_cat]
      by_cases g : gt s i = 0 ∨ gt s i = 124 ∨ gt s i = 41
      · rw [if_pos g]; exact .inl rfl
      · rw [if_neg g]
        have hl : i < s.size := by have := hz i; omega
        have q := ih2 lEps i hl (by omega)
        have sh := (pp_shape s hz m).2.2 lEps i hl
        generalize pp s m 2 lEps i = A at *
        rcases sh with ⟨a1, _, a3, a4, a5⟩ | ⟨a1, _⟩
        · rw [if_neg (by simp [a1])]
          have := pReps_shape s hz 20 A.v A.j a5
          have a4' := a4 trivial
          exact ih1 _ _ this.2.2.2 (by omega)
        · rw [if_pos a1]; exact q
    · rw [pp_atom]
      by_cases g1 : gt s i = 40
      · rw [if_pos g1]
        have q := ih1 lEps (i + 1) hi (by omega)
        have sh := (pp_shape s hz m).2.1 lEps (i + 1) hi
        generalize pp s m 1 lEps (i + 1) = A at *
        rcases sh with ⟨a1, _, a3, _, a5⟩ | ⟨a1, _⟩
        · rw [if_neg (by simp [a1])]
          have q2 := ih0 A.v A.j a5 (by omega)
          by_cases hb : (pp s m 0 A.v A.j).err = 0
          · rw [if_neg (by simp [hb])]
            split
            · exact EOk.bad4 _ _
            · exact .inl rfl
          · rw [if_pos hb]; exact q2
        · rw [if_pos a1]; exact q
      · rw [if_neg g1]
        by_cases g2 : gt s i = 91
        · rw [if_pos g2]
          have q := pSet_errs s hz hs (i + 1)
          by_cases ha : (pSet s (i + 1)).err = 0
          · rw [if_neg (by simp [ha])]; exact .inl rfl
          · rw [if_pos ha]; exact q.of ⟨rfl, rfl⟩
        · rw [if_neg g2]
          by_cases g3 : gt s i = 46
          · rw [if_pos g3]; exact .inl rfl
          · rw [if_neg g3]
            by_cases g4 : gt s i = 92
            · rw [if_pos g4]
              split
              · exact EOk.bad4 _ _
              · exact .inl rfl
            · rw [if_neg g4]
              split
              · exact EOk.at _ _ _ _ (.inl rfl) hi
              · exact .inl rfl
theorem aR_errs (s : ByteArray) (hz : Nz s) (hs : s.size ≤ 16) : EOk s (aR s 40 0) := by
  unfold aR
  have q := (pp_errs s hz hs 40).2.1 lEps 0 (by omega) (by omega)
  have sh := (pp_shape s hz 40).2.1 lEps 0 (by omega)
  generalize pp s 40 1 lEps 0 = A at *
  rcases sh with ⟨a1, _, a3, _, a5⟩ | ⟨a1, _⟩
  · rw [if_neg (by simp [a1])]; exact (pp_errs s hz hs 40).1 _ _ a5 (by omega)
  · rw [if_pos a1]; exact q

theorem fb_some (s : ByteArray) : ∀ n i k, fb s n i = some k → i ≤ k ∧ k < i + n := by
  intro n
  induction n with
  | zero => intro i k h; cases h
  | succ n ih =>
    intro i k h
    rw [fb] at h
    split at h
    · cases h; omega
    · have := ih _ _ h; omega
theorem fb_pref {s u : ByteArray} {n : Nat} (h : Pref s u n) (hf : fb s s.size 0 = none) : fb u u.size 0 = none := by
  have hs := fb_none s _ _ hf
  have key : ∀ m i, i + m ≤ n → fb u m i = none := by
    intro m
    induction m with
    | zero => intro i _; rfl
    | succ m ih =>
      intro i hi
      have hle := h.le
      have := hs i (by omega) (by omega)
      rw [fb, if_neg (by rw [h.same i (by omega)]; omega)]
      exact ih _ (by omega)
  exact key _ _ (by rw [h.size]; omega)

/- What is wrong with a pattern, and where; what stands ahead of it. -/
theorem readW_errs (s : ByteArray) : (readW s).err = 0 ∨ ((readW s).err = 2 ∧ 16 < s.size ∧ (readW s).pl = 0) ∨ ((readW s).err = 3 ∧ s.size ≤ 16 ∧ 0 ≤ (readW s).pl ∧ (readW s).pl < s.size) ∨ (s.size ≤ 16 ∧ fb s s.size 0 = none ∧ ((readW s).err = 4 ∨ (readW s).err = 5 ∨ (readW s).err = 6) ∧ 0 ≤ (readW s).pl ∧ (readW s).pl ≤ s.size ∧ ((readW s).err = 4 ↔ (readW s).pl = s.size)) := by
  rcases Nat.lt_or_ge 16 s.size with hs | hs
  · right; left
    unfold readW
    rw [if_pos hs]; exact ⟨rfl, hs, rfl⟩
  · cases hf : fb s s.size 0 with
    | some k =>
      right; right; left
      rw [readW_byte s hs k hf]
      have := fb_some s _ _ _ hf
      exact ⟨rfl, hs, by simp only; omega, by simp only; omega⟩
    | none =>
      have hz := nz_of_fb s hf
      rw [readW_none s hs hf]
      have he := aR_errs s hz hs
      rcases aR_shape s hz 40 0 (by omega) with ⟨a1, a2, a3, a4, a5⟩ | ⟨a1, a2⟩
      · rw [if_neg (by simp [a1])]
        by_cases hj : (aR s 40 0).j = s.size
        · rw [if_pos hj]; exact .inl a1
        · rw [if_neg hj]
          right; right; right
          exact ⟨hs, rfl, .inr (.inl rfl), by simp only; omega, by simp only; omega, by simp only; constructor <;> intro x <;> omega⟩
      · rw [if_pos a1]
        right; right; right
        rcases he with x | ⟨x, y⟩ | ⟨x, y, z⟩
        · exact absurd x a1
        · exact ⟨hs, rfl, .inl x, by omega, by omega, by constructor <;> intro _ <;> omega⟩
        · refine ⟨hs, rfl, .inr x, y, by omega, ?_⟩
          rcases x with x | x <;> (constructor <;> intro w <;> omega)
theorem readW_ahead (s : ByteArray) (h : (readW s).err = 4 ∨ (readW s).err = 5 ∨ (readW s).err = 6) (n : Nat) (hn : (readW s).pl = n) (u : ByteArray) (hu : Pref s u n) : (readW u).err = 0 ∨ ((readW u).err = 4 ∧ (readW u).pl = n) := by
  rcases readW_errs s with a | ⟨a, _⟩ | ⟨a, _⟩ | ⟨hs, hf, _, hp1, hp2, _⟩
  · omega
  · omega
  · omega
  · have hz := nz_of_fb s hf
    have hfu := fb_pref hu hf
    have hsu : u.size ≤ 16 := by have := hu.size; have := hu.le; omega
    have q := aR_pref hu hs hz
    have hr := readW_none s hs hf
    rw [readW_none u hsu hfu]
    have key : ¬ ((aR s 40 0).err ≠ 0 ∧ (aR s 40 0).pl < n) ∧ ¬ ((aR s 40 0).err = 0 ∧ (aR s 40 0).j < n) := by
      by_cases ha : (aR s 40 0).err = 0
      · rw [if_neg (by simp [ha])] at hr
        by_cases hj : (aR s 40 0).j = s.size
        · rw [if_pos hj] at hr; rw [hr] at h; omega
        · rw [if_neg hj] at hr
          rw [hr] at hn
          simp only at hn
          exact ⟨fun x => x.1 ha, fun x => by omega⟩
      · rw [if_pos ha] at hr
        rw [hr] at hn
        exact ⟨fun x => by omega, fun x => ha x.1⟩
    rcases q with a | ⟨a, b⟩ | ⟨a, b⟩ | ⟨a, a', b, c⟩
    · exact absurd a key.1
    · rw [if_pos (by rw [a]; decide)]; exact .inr ⟨a, b⟩
    · rw [if_neg (by simp [a]), if_pos (by rw [b, hu.size])]; exact .inl a
    · exact absurd ⟨a, c⟩ key.2
end Go.Proofs.Ytbjdkbcfpmeneaa
