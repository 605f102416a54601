/- What is proved here: the mathematics of distinct: groups of states that are parted as long as they can be. No program is named. -/
import Derived.Test.YtbjdkbcfpmeneaaXSmallM
namespace Go.Proofs.Ytbjdkbcfpmeneaa
set_option linter.unusedVariables false
set_option linter.unusedSimpArgs false

theorem cover {f : Nat → Nat} {N m : Nat} (h : ∀ v, v < m → ∃ u, u < N ∧ f u = v) : m ≤ N := by
  have hc : ∃ idx : Nat → Nat, ∀ v, v < m → idx v < N ∧ f (idx v) = v := by
    classical
    exact ⟨fun v => if hv : v < m then Classical.choose (h v hv) else 0, fun v hv => by simp only [dif_pos hv]; exact Classical.choose_spec (h v hv)⟩
  obtain ⟨idx, hi⟩ := hc
  have hn : ((List.range m).map idx).Nodup := by
    unfold List.Nodup
    rw [List.pairwise_map]
    refine List.Pairwise.imp_of_mem ?_ List.pairwise_lt_range
    intro a b ha hb hab e
    rw [List.mem_range] at ha hb
    have h1 := (hi a ha).2
    have h2 := (hi b hb).2
    rw [e] at h1
    omega
  have := few_nats N _ hn (fun a ha => by
    obtain ⟨j, hj, rfl⟩ := List.mem_map.1 ha
    rw [List.mem_range] at hj
    exact (hi j hj).1)
  simpa using this
theorem onto_inj {f : Nat → Nat} {m : Nat} (h : ∀ v, v < m → ∃ u, u < m ∧ f u = v) {a b : Nat} (ha : a < m) (hb : b < m) (e : f a = f b) : a = b := by
  apply Classical.byContradiction
  intro hne
  have := cover (f := fun u => if u < b then f u else f (u + 1)) (N := m - 1) (m := m) (fun v hv => by
    obtain ⟨u, hu, hf⟩ := h v hv
    have key : ∀ u, u < m → u ≠ b → ∃ u', u' < m - 1 ∧ (if u' < b then f u' else f (u' + 1)) = f u := fun u hu hub => by
      by_cases q : u < b
      · exact ⟨u, by omega, by rw [if_pos q]⟩
      · exact ⟨u - 1, by omega, by rw [if_neg (by omega), show u - 1 + 1 = u by omega]⟩
    by_cases q : u = b
    · obtain ⟨u', h1, h2⟩ := key a ha hne
      exact ⟨u', h1, by show (if u' < b then f u' else f (u' + 1)) = v; rw [h2, e, ← q]; exact hf⟩
    · obtain ⟨u', h1, h2⟩ := key u hu q
      exact ⟨u', h1, by show (if u' < b then f u' else f (u' + 1)) = v; rw [h2]; exact hf⟩)
  omega
/- Two states are alike as far as groups tell. -/
def KeyEq (T : Tab) (g : Nat → Int) (i k : Nat) : Prop := g i = g k ∧ T.ac i = T.ac k ∧ ∀ c, c < T.C → ((T.nx i c < 0 ↔ T.nx k c < 0) ∧ (T.nx i c < 0 ∨ g (T.nx i c).toNat = g (T.nx k c).toNat))
theorem KeyEq.refl (T : Tab) (g : Nat → Int) (i : Nat) : KeyEq T g i i := ⟨rfl, rfl, fun _ _ => ⟨Iff.rfl, .inr rfl⟩⟩
theorem KeyEq.symm {T : Tab} {g : Nat → Int} {i k : Nat} (h : KeyEq T g i k) : KeyEq T g k i := ⟨h.1.symm, h.2.1.symm, fun c hc => by
  obtain ⟨a, b⟩ := h.2.2 c hc
  refine ⟨a.symm, ?_⟩
  rcases b with b | b
  · exact .inl (a.1 b)
  · exact .inr b.symm⟩
theorem KeyEq.trans {T : Tab} {g : Nat → Int} {i k l : Nat} (h : KeyEq T g i k) (h' : KeyEq T g k l) : KeyEq T g i l := ⟨h.1.trans h'.1, h.2.1.trans h'.2.1, fun c hc => by
  obtain ⟨a, b⟩ := h.2.2 c hc
  obtain ⟨a', b'⟩ := h'.2.2 c hc
  refine ⟨a.trans a', ?_⟩
  rcases b with b | b
  · exact .inl b
  · rcases b' with b' | b'
    · exact .inl (a.2 b')
    · exact .inr (b.trans b')⟩
/- The first i states, parted anew. -/
structure GrpP (T : Tab) (g h : Nat → Int) (i m : Nat) : Prop where
  rng : ∀ j, j < i → 0 ≤ h j ∧ h j < m
  onto : ∀ v : Nat, v < m → ∃ j, j < i ∧ h j = v
  iff : ∀ j k, j < i → k < i → (h j = h k ↔ KeyEq T g j k)
theorem GrpP.zero (T : Tab) (g h : Nat → Int) : GrpP T g h 0 0 := ⟨fun j hj => by omega, fun v hv => by omega, fun j k hj => by omega⟩
/- One comes that is like an earlier one. -/
theorem GrpP.old {T : Tab} {g h h' : Nat → Int} {i m k : Nat} (p : GrpP T g h i m) (hk : k < i) (hs : KeyEq T g i k) (he : ∀ j, j < i → h' j = h j) (hi : h' i = h k) : GrpP T g h' (i + 1) m := by
  refine ⟨fun j hj => ?_, fun v hv => ?_, fun j l hj hl => ?_⟩
  · by_cases e : j = i
    · rw [e, hi]; exact p.rng k hk
    · rw [he j (by omega)]; exact p.rng j (by omega)
  · obtain ⟨j, hj, e⟩ := p.onto v hv
    exact ⟨j, by omega, by rw [he j hj]; exact e⟩
  · by_cases ej : j = i
    · by_cases el : l = i
      · rw [ej, el]; exact ⟨fun _ => KeyEq.refl _ _ _, fun _ => rfl⟩
      · rw [ej, hi, he l (by omega), p.iff k l hk (by omega)]
        exact ⟨fun q => hs.trans q, fun q => hs.symm.trans q⟩
    · by_cases el : l = i
      · rw [el, hi, he j (by omega), p.iff j k (by omega) hk]
        exact ⟨fun q => q.trans hs.symm, fun q => q.trans hs⟩
      · rw [he j (by omega), he l (by omega)]; exact p.iff j l (by omega) (by omega)
/- One comes that is like none. -/
theorem GrpP.new {T : Tab} {g h h' : Nat → Int} {i m : Nat} (p : GrpP T g h i m) (hs : ∀ k, k < i → ¬ KeyEq T g i k) (he : ∀ j, j < i → h' j = h j) (hi : h' i = m) : GrpP T g h' (i + 1) (m + 1) := by
  refine ⟨fun j hj => ?_, fun v hv => ?_, fun j l hj hl => ?_⟩
  · by_cases e : j = i
    · rw [e, hi]; omega
    · rw [he j (by omega)]; have := p.rng j (by omega); omega
  · by_cases e : v = m
    · exact ⟨i, by omega, by rw [hi, e]⟩
    · obtain ⟨j, hj, e⟩ := p.onto v (by omega)
      exact ⟨j, by omega, by rw [he j hj]; exact e⟩
  · by_cases ej : j = i
    · by_cases el : l = i
      · rw [ej, el]; exact ⟨fun _ => KeyEq.refl _ _ _, fun _ => rfl⟩
      · rw [ej, hi, he l (by omega)]
        have := p.rng l (by omega)
        exact ⟨fun q => by omega, fun q => absurd q (hs l (by omega))⟩
    · by_cases el : l = i
      · rw [el, hi, he j (by omega)]
        have := p.rng j (by omega)
        exact ⟨fun q => by omega, fun q => absurd q.symm (hs j (by omega))⟩
      · rw [he j (by omega), he l (by omega)]; exact p.iff j l (by omega) (by omega)
/- Groups that are numbered from nothing on. -/
structure Numb (g : Nat → Int) (N m : Nat) : Prop where
  rng : ∀ j, j < N → 0 ≤ g j ∧ g j < m
  onto : ∀ v : Nat, v < m → ∃ j, j < N ∧ g j = v
theorem Numb.le {g : Nat → Int} {N m : Nat} (h : Numb g N m) : m ≤ N := cover (f := fun j => (g j).toNat) (fun v hv => by
  obtain ⟨j, hj, e⟩ := h.onto v hv
  exact ⟨j, hj, by show (g j).toNat = v; rw [e]; simp⟩)
theorem GrpP.numb {T : Tab} {g h : Nat → Int} {N m : Nat} (p : GrpP T g h N m) : Numb h N m := ⟨p.rng, p.onto⟩
/- From groups to groups: a group's number, by one that is in it. -/
theorem GrpP.map {T : Tab} {g h : Nat → Int} {N m c : Nat} (p : GrpP T g h N m) (hg : Numb g N c) : ∃ f : Nat → Nat, (∀ j, j < N → f (h j).toNat = (g j).toNat) ∧ (∀ v, v < c → ∃ u, u < m ∧ f u = v) := by
  have hc : ∃ rep : Nat → Nat, ∀ v, v < m → rep v < N ∧ h (rep v) = v := by
    classical
    exact ⟨fun v => if hv : v < m then Classical.choose (p.onto v hv) else 0, fun v hv => by simp only [dif_pos hv]; exact Classical.choose_spec (p.onto v hv)⟩
  obtain ⟨rep, hr⟩ := hc
  have key : ∀ j, j < N → (g (rep (h j).toNat)).toNat = (g j).toNat := fun j hj => by
    have hj' := p.rng j hj
    obtain ⟨a, b⟩ := hr (h j).toNat (by omega)
    have e : h (rep (h j).toNat) = h j := by rw [b]; omega
    rw [((p.iff _ j a hj).1 e).1]
  refine ⟨fun u => (g (rep u)).toNat, key, fun v hv => ?_⟩
  obtain ⟨j, hj, e⟩ := hg.onto v hv
  have hj' := p.rng j hj
  exact ⟨(h j).toNat, by omega, by show (g (rep (h j).toNat)).toNat = v; rw [key j hj, e]; simp⟩
theorem GrpP.more {T : Tab} {g h : Nat → Int} {N m c : Nat} (p : GrpP T g h N m) (hg : Numb g N c) : c ≤ m := by
  obtain ⟨f, _, h2⟩ := p.map hg
  exact cover h2
theorem GrpP.stable {T : Tab} {g h : Nat → Int} {N m : Nat} (p : GrpP T g h N m) (hg : Numb g N m) : ∀ i k, i < N → k < N → g i = g k → KeyEq T g i k := fun i k hi hk e => by
  obtain ⟨f, h1, h2⟩ := p.map hg
  have a := p.rng i hi
  have b := p.rng k hk
  have := onto_inj h2 (a := (h i).toNat) (b := (h k).toNat) (by omega) (by omega) (by rw [h1 i hi, h1 k hk, e])
  exact (p.iff i k hi hk).1 (by omega)
/- Groups that are not parted any more hold one state each. -/
theorem Canon.single {T : Tab} {R : List Nat → Int} (hT : Canon T R) {g : Nat → Int} (hs : ∀ i k, i < T.N → k < T.N → g i = g k → KeyEq T g i k) : ∀ i k, i < T.N → k < T.N → g i = g k → i = k := by
  have key : ∀ (z : List Nat) (i k : Nat), Bytes z → i < T.N → k < T.N → g i = g k → T.out i z = T.out k z := by
    intro z
    induction z with
    | nil => intro i k _ hi hk e; rw [T.out_nil, T.out_nil]; exact (hs i k hi hk e).2.1
    | cons c z ih =>
      intro i k hb hi hk e
      have hz : Bytes z := fun d hd => hb d (by simp [hd])
      have hc := hT.cl c (hb c (by simp))
      obtain ⟨a, b⟩ := (hs i k hi hk e).2.2 _ hc
      have r1 := hT.rng i _ hi hc
      have r2 := hT.rng k _ hk hc
      rw [T.out_cons, T.out_cons]
      by_cases q : T.nx i (T.cls c) < 0
      · have q' := a.1 q
        rw [show T.nx i (T.cls c) = -1 by omega, show T.nx k (T.cls c) = -1 by omega]
      · have q' : ¬ T.nx k (T.cls c) < 0 := fun z => q (a.2 z)
        rcases b with b | b
        · exact absurd b q
        · have := ih (T.nx i (T.cls c)).toNat (T.nx k (T.cls c)).toNat hz (by omega) (by omega) b
          rw [Int.toNat_of_nonneg (by omega), Int.toNat_of_nonneg (by omega)] at this
          exact this
  exact fun i k hi hk e => hT.dist i k hi hk (fun z hz => key z i k hz hi hk e)
theorem Numb.full {g : Nat → Int} {N m : Nat} (h : Numb g N m) (hi : ∀ i k, i < N → k < N → g i = g k → i = k) : m = N := by
  have h1 := h.le
  have h2 : N ≤ m := by
    have hn : ((List.range N).map fun j => (g j).toNat).Nodup := by
      unfold List.Nodup
      rw [List.pairwise_map]
      refine List.Pairwise.imp_of_mem ?_ List.pairwise_lt_range
      intro a b ha hb hab e
      rw [List.mem_range] at ha hb
      have r1 := h.rng a ha
      have r2 := h.rng b hb
      have := hi a b ha hb (by omega)
      omega
    have := few_nats m _ hn (fun a ha => by
      obtain ⟨j, hj, rfl⟩ := List.mem_map.1 ha
      rw [List.mem_range] at hj
      have := h.rng j hj
      omega)
    simpa using this
  omega
end Go.Proofs.Ytbjdkbcfpmeneaa
