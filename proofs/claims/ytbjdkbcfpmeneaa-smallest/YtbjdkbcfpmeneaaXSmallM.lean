/- What is proved here: the mathematics of Smallest: from each state but perhaps the first a rule is reached soon; what a table names is a rule. No program is named. -/
import Derived.Test.YtbjdkbcfpmeneaaM20
import Derived.Test.YtbjdkbcfpmeneaaM22
namespace Go.Proofs.Ytbjdkbcfpmeneaa
set_option linter.unusedVariables false
set_option linter.unusedSimpArgs false

theorem pigeon {N : Nat} (f : Nat → Nat) (h : ∀ j, j ≤ N → f j < N) : ∃ a b, a < b ∧ b ≤ N ∧ f a = f b := by
  apply Classical.byContradiction
  intro hc
  have hn : ((List.range (N + 1)).map f).Nodup := by
    unfold List.Nodup
    rw [List.pairwise_map]
    refine List.Pairwise.imp_of_mem ?_ List.pairwise_lt_range
    intro a b ha hb hab e
    rw [List.mem_range] at hb
    exact hc ⟨a, b, hab, by omega, e⟩
  have := few_nats N _ hn (fun a ha => by
    obtain ⟨j, hj, rfl⟩ := List.mem_map.1 ha
    rw [List.mem_range] at hj
    exact h j (by omega))
  simp at this
  omega
theorem Tab.go_app (T : Tab) (s : Int) (y z : List Nat) : T.go s (y ++ z) = T.go (T.go s y) z := List.foldl_append
theorem Canon.go_lt {T : Tab} {R : List Nat → Int} (h : Canon T R) : ∀ (z : List Nat) (s : Int), Bytes z → -1 ≤ s → s < T.N → -1 ≤ T.go s z ∧ T.go s z < T.N := by
  intro z
  induction z with
  | nil => intro s _ h1 h2; exact ⟨h1, h2⟩
  | cons c z ih =>
    intro s hb h1 h2
    rw [T.go_cons]
    have hc := hb c (by simp)
    have hz : Bytes z := fun d hd => hb d (by simp [hd])
    by_cases e : s = -1
    · rw [stepT, if_pos e]
      exact ih (-1) hz (by omega) (by omega)
    · rw [stepT, if_neg e]
      have := h.rng s.toNat (T.cls c) (by omega) (h.cl c hc)
      exact ih _ hz this.1 this.2
/- A short text does as well. -/
theorem Canon.short {T : Tab} {R : List Nat → Int} (h : Canon T R) (s : Nat) (hs : s < T.N) : ∀ (m : Nat) (z : List Nat), z.length = m → Bytes z → T.out s z ≠ -1 → ∃ z', Bytes z' ∧ z'.length < T.N ∧ T.out s z' ≠ -1 := by
  intro m
  induction m using Nat.strongRecOn with
  | _ m ih =>
    intro z hm hb ho
    by_cases hlt : m < T.N
    · exact ⟨z, hb, by omega, ho⟩
    · have hgo : T.go s z ≠ -1 := fun e => ho (by unfold Tab.out; rw [if_pos e])
      have hne : ∀ j, T.go s (z.take j) ≠ -1 := fun j e => hgo (by rw [← List.take_append_drop j z, T.go_app, e, T.go_none])
      have hbt : ∀ j, Bytes (z.take j) := fun j c hc => hb c (List.mem_of_mem_take hc)
      obtain ⟨a, b, hab, hbN, e⟩ := pigeon (N := T.N) (fun j => (T.go s (z.take j)).toNat) (fun j _ => by
        have := h.go_lt (z.take j) s (hbt j) (by omega) (by omega)
        have := hne j
        omega)
      have e' : T.go s (z.take a) = T.go s (z.take b) := by
        have h1 := h.go_lt (z.take a) s (hbt a) (by omega) (by omega)
        have h2 := h.go_lt (z.take b) s (hbt b) (by omega) (by omega)
        have := hne a
        have := hne b
        have e : (T.go s (z.take a)).toNat = (T.go s (z.take b)).toNat := e
        omega
      have hg : T.go s (z.take a ++ z.drop b) = T.go s z := by
        conv => rhs; rw [← List.take_append_drop b z]
        rw [T.go_app, T.go_app, e']
      refine ih (z.take a ++ z.drop b).length ?_ (z.take a ++ z.drop b) rfl ?_ ?_
      · rw [List.length_append, List.length_take, List.length_drop]; omega
      · intro c hc
        rcases List.mem_append.1 hc with q | q
        · exact hb c (List.mem_of_mem_take q)
        · exact hb c (List.mem_of_mem_drop q)
      · unfold Tab.out at ho ⊢
        rw [hg]
        exact ho
/- A rule is reached from a state by a text of less than r bytes. -/
def Near (T : Tab) (r s : Nat) : Prop := ∃ z, Bytes z ∧ z.length < r ∧ T.out s z ≠ -1
theorem Near.zero {T : Tab} {s : Nat} : ¬ Near T 0 s := fun ⟨z, _, h, _⟩ => by omega
theorem Near.cases {T : Tab} {R : List Nat → Int} (h : Canon T R) {r s : Nat} (hs : s < T.N) (hn : Near T (r + 1) s) : T.ac s ≠ -1 ∨ ∃ k, k < T.C ∧ T.nx s k ≠ -1 ∧ Near T r (T.nx s k).toNat := by
  obtain ⟨z, hb, hl, ho⟩ := hn
  cases z with
  | nil => rw [T.out_nil] at ho; exact .inl ho
  | cons c z =>
    rw [T.out_cons] at ho
    have hc := hb c (by simp)
    have hk := h.cl c hc
    have hrng := h.rng s _ hs hk
    have hne : T.nx s (T.cls c) ≠ -1 := fun e => ho (by rw [e]; exact T.out_none z)
    refine .inr ⟨T.cls c, hk, hne, z, fun d hd => hb d (by simp [hd]), by simp at hl; omega, ?_⟩
    rw [Int.toNat_of_nonneg (by omega)]
    exact ho
theorem Canon.near {T : Tab} {R : List Nat → Int} (h : Canon T R) (s : Nat) (h0 : 0 < s) (hs : s < T.N) : Near T T.N s := by
  obtain ⟨t, k, ht, hk, e⟩ := h.sfrom s h0 hs
  obtain ⟨z, hb, ho⟩ := h.alive t k (by omega) hk (by rw [e]; omega)
  rw [e] at ho
  obtain ⟨z', hb', hl, ho'⟩ := h.short s hs _ z rfl hb ho
  exact ⟨z', hb', hl, ho'⟩
theorem Near.more {T : Tab} {r q s : Nat} (hn : Near T r s) (h : r ≤ q) : Near T q s := by
  obtain ⟨z, a, b, c⟩ := hn
  exact ⟨z, a, by omega, c⟩
theorem Canon.ac_rng {T : Tab} {L : Nat → Lang} {n : Nat} (h : Canon T (told L n)) (s : Nat) (hs : s < T.N) : -1 ≤ T.ac s ∧ T.ac s < n := by
  obtain ⟨x, hb, e⟩ := h.reach s hs
  have := h.sem x hb
  unfold Tab.out at this
  rw [e, if_neg (by omega), Int.toNat_natCast] at this
  rw [this]
  unfold told
  split
  · omega
  · exact firstR_ge L n x
end Go.Proofs.Ytbjdkbcfpmeneaa
