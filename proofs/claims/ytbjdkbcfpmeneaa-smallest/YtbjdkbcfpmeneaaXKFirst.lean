/- What is proved here: first, where every rule is right; tokens as they lie in memory. -/
import Derived.Test.YtbjdkbcfpmeneaaRows
import Derived.Test.YtbjdkbcfpmeneaaM40
import Derived.Test.YtbjdkbcfpmeneaaM43
namespace Go.Proofs.Ytbjdkbcfpmeneaa
set_option linter.unusedVariables false
set_option linter.unusedSimpArgs false
open Go.RowKit Go.ChangeMaps

theorem kfirst_rules (g o cap n : Nat) (rs : Nat → ByteArray) (t : ByteArray) (ht : t.size ≤ 100000) (hn : n ≤ 6) (w : World) (h : RulesIn w g o n rs) (hok : ∀ k, k < n → (readW (rs k)).err = 0) :
    Calls Try.prog 13 #[.slice (some ⟨g, o, none⟩) n cap, .string t] w fun x w' => x = .returned (.int .i64 (firstR (fun k => (readW (rs k)).v) n (tx t))) ∧ Below w.heap.size w w' := by
  have hl : ((List.range n).map rs).length = n := by simp
  have hr : RsAt w g o ((List.range n).map rs) := ⟨h.lt, fun i hi => by
    rw [hl] at hi
    rw [h.at_ i hi]
    simp⟩
  have := kfirst_code ((List.range n).map rs) g o cap t ht (by rw [hl]; omega) w hr
  rw [hl] at this
  refine this.mono ?_
  rintro _ w' ⟨rfl, hb⟩
  refine ⟨?_, hb⟩
  rw [firstR_congr (M := fun k => (readW (rs k)).v) (fun i hi => ?_)]
  unfold ruleL
  rw [List.getElem?_map, List.getElem?_range hi]
  simp [hok i hi]
theorem tokL_cons (x : Int × Nat × Nat) (ts : List (Int × Nat × Nat)) : tokL (x :: ts) = .int .i64 x.1 :: .int .i64 x.2.1 :: .int .i64 x.2.2 :: tokL ts := rfl
theorem tokL_get : ∀ (ts : List (Int × Nat × Nat)) (i : Nat) (x : Int × Nat × Nat), ts[i]? = some x → (tokL ts)[i * 3]? = some (.int .i64 x.1) ∧ (tokL ts)[i * 3 + 1]? = some (.int .i64 x.2.1) ∧ (tokL ts)[i * 3 + 2]? = some (.int .i64 x.2.2) := by
  intro ts
  induction ts with
  | nil => intro i x h; simp at h
  | cons y ts ih =>
    intro i x h
    rw [tokL_cons]
    match i with
    | 0 =>
      simp at h
      subst h
      exact ⟨rfl, rfl, rfl⟩
    | i + 1 =>
      rw [List.getElem?_cons_succ] at h
      have := ih i x h
      rw [show (i + 1) * 3 = i * 3 + 3 by omega, show i * 3 + 3 + 1 = i * 3 + 1 + 3 by omega, show i * 3 + 3 + 2 = i * 3 + 2 + 3 by omega]
      exact this
/- A row of tokens, as it is read. -/
structure TokAt (w : World) (av : Option Addr) (ts : List (Int × Nat × Nat)) : Prop where
  at_ : ∀ i x, ts[i]? = some x → ∃ g, av = some ⟨g, 0, none⟩ ∧ g < w.heap.size ∧ w.cell? ⟨g, i * 3, none⟩ = some (.int .i64 x.1) ∧ w.cell? ⟨g, i * 3 + 1, none⟩ = some (.int .i64 x.2.1) ∧ w.cell? ⟨g, i * 3 + 2, none⟩ = some (.int .i64 x.2.2)
theorem TokAt.kp {w w' : World} {av : Option Addr} {ts : List (Int × Nat × Nat)} (h : TokAt w av ts) (hk : Kp [] w w') : TokAt w' av ts := ⟨fun i x hx => by
  obtain ⟨g, e, l, a, b, c⟩ := h.at_ i x hx
  have := hk.size
  exact ⟨g, e, by omega, by rw [hk.cell l]; exact a, by rw [hk.cell l]; exact b, by rw [hk.cell l]; exact c⟩⟩
theorem tok_of {w : World} {vt : Value} {ts : List (Int × Nat × Nat)} (h : w.ownsRow 0 31 3 vt ts.length (tokL ts)) : ∃ av cv, vt = .slice av ts.length cv ∧ TokAt w av ts := by
  rcases h.2 with ⟨e, e0⟩ | ⟨g, cap, cur, e, _⟩
  · refine ⟨none, 0, by rw [e, e0], ⟨fun i x hx => ?_⟩⟩
    have := (List.getElem?_eq_some_iff.1 hx).1
    omega
  · refine ⟨_, cap, e, ⟨fun i x hx => ?_⟩⟩
    obtain ⟨a, b, c⟩ := tokL_get ts i x hx
    subst e
    exact ⟨g, rfl, (h.lt g rfl).2, own_cellN h rfl a, own_cellN h rfl b, own_cellN h rfl c⟩
theorem tx_cut (s : ByteArray) (p t : Nat) : tx (s.extract p t) = ((tx s).drop p).take (t - p) := by
  rw [tx_extract, List.drop_take]
theorem short_le (t : ByteArray) (m : Nat) : (if t.size ≤ m then t else t.extract 0 m).size ≤ m := by
  split
  · assumption
  · rw [ByteArray.size_extract]; omega
theorem cut_few {L : Nat → Lang} {n : Nat} {x : List Nat} : ∀ (ts : List (Int × Nat × Nat)) (p e : Nat), p ≤ x.length → Cut L n x p ts e → p + ts.length ≤ e ∧ e ≤ x.length := by
  intro ts
  induction ts with
  | nil => intro p e hp h; have := h.1; simp; omega
  | cons y ts ih =>
    intro p e hp h
    obtain ⟨r, f, t⟩ := y
    obtain ⟨_, h1, h2, _, _, _, h3⟩ := h
    have := ih t e h2 h3
    simp
    omega
end Go.Proofs.Ytbjdkbcfpmeneaa
