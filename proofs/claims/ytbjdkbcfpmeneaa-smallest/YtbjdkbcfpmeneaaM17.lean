/- What is proved here: how a text is cut into tokens, as the document says it: the longest, by the first rule; and that there is one way. No program is named. -/
import Derived.Test.YtbjdkbcfpmeneaaM12
import Derived.Test.YtbjdkbcfpmeneaaRows
import Derived.Test.YtbjdkbcfpmeneaaM15
import Derived.Test.YtbjdkbcfpmeneaaM16
namespace Go.Proofs.Ytbjdkbcfpmeneaa
set_option linter.unusedVariables false
set_option linter.unusedSimpArgs false
open Classical

/- The first rule that matches; -1: none. -/
noncomputable def firstR (L : Nat → Lang) : Nat → List Nat → Int
  | 0, _ => -1
  | n + 1, x => if firstR L n x ≠ -1 then firstR L n x else if L n x then n else -1

theorem firstR_spec (L : Nat → Lang) (x : List Nat) : ∀ n, (firstR L n x = -1 ∧ ∀ i, i < n → ¬ L i x) ∨ (∃ i : Nat, firstR L n x = i ∧ i < n ∧ L i x ∧ ∀ k, k < i → ¬ L k x) := by
  intro n
  induction n with
  | zero => exact .inl ⟨rfl, fun i h => by omega⟩
  | succ n ih =>
    rw [firstR]
    rcases ih with ⟨a, b⟩ | ⟨i, a, b, c, d⟩
    · rw [if_neg (fun h => h a)]
      by_cases h : L n x
      · rw [if_pos h]; exact .inr ⟨n, rfl, by omega, h, b⟩
      · rw [if_neg h]
        refine .inl ⟨rfl, fun i hi => ?_⟩
        by_cases e : i = n
        · rw [e]; exact h
        · exact b i (by omega)
    · rw [if_pos (by rw [a]; omega)]
      exact .inr ⟨i, a, by omega, c, d⟩
theorem firstR_none {L : Nat → Lang} {n : Nat} {x : List Nat} (h : firstR L n x = -1) : ∀ i, i < n → ¬ L i x := by
  rcases firstR_spec L x n with ⟨_, b⟩ | ⟨i, a, _⟩
  · exact b
  · omega
theorem firstR_of_none {L : Nat → Lang} {n : Nat} {x : List Nat} (h : ∀ i, i < n → ¬ L i x) : firstR L n x = -1 := by
  rcases firstR_spec L x n with ⟨a, _⟩ | ⟨i, _, b, c, _⟩
  · exact a
  · exact absurd c (h i b)
theorem firstR_of {L : Nat → Lang} {n : Nat} {x : List Nat} {i : Nat} (hi : i < n) (h : L i x) (hk : ∀ k, k < i → ¬ L k x) : firstR L n x = i := by
  rcases firstR_spec L x n with ⟨_, b⟩ | ⟨j, a, b, c, d⟩
  · exact absurd h (b i hi)
  · rcases Nat.lt_trichotomy i j with e | e | e
    · exact absurd h (d i e)
    · rw [a, e]
    · exact absurd c (hk j e)
theorem firstR_ge (L : Nat → Lang) (n : Nat) (x : List Nat) : -1 ≤ firstR L n x ∧ firstR L n x < n := by
  rcases firstR_spec L x n with ⟨a, _⟩ | ⟨j, a, b, _⟩
  · omega
  · omega

/- The longest text of a byte or more, of m at most, that a rule matches, and the rule. -/
noncomputable def best (L : Nat → Lang) (n : Nat) (x : List Nat) : Nat → Int × Nat
  | 0 => (-1, 0)
  | m + 1 => if firstR L n (x.take (m + 1)) ≠ -1 then (firstR L n (x.take (m + 1)), m + 1) else best L n x m

theorem best_stop {L : Nat → Lang} {n : Nat} {x : List Nat} {k : Nat} : ∀ m, k ≤ m → (∀ j, k < j → j ≤ m → firstR L n (x.take j) = -1) → best L n x m = best L n x k := by
  intro m
  induction m with
  | zero => intro h _; rw [show k = 0 by omega]
  | succ m ih =>
    intro h hj
    by_cases e : k = m + 1
    · rw [e]
    · rw [best, if_neg (fun c => c (hj (m + 1) (by omega) (by omega)))]
      exact ih (by omega) fun j a b => hj j a (by omega)

theorem best_spec (L : Nat → Lang) (n : Nat) (x : List Nat) : ∀ m, (∀ j, (best L n x m).2 < j → j ≤ m → firstR L n (x.take j) = -1) ∧ (best L n x m).2 ≤ m ∧
    (((best L n x m).1 = -1 ∧ (best L n x m).2 = 0) ∨ (0 ≤ (best L n x m).1 ∧ 0 < (best L n x m).2 ∧ firstR L n (x.take (best L n x m).2) = (best L n x m).1)) := by
  intro m
  induction m with
  | zero => exact ⟨fun j a b => by simp [best] at a; omega, Nat.le_refl _, .inl ⟨rfl, rfl⟩⟩
  | succ m ih =>
    rw [best]
    by_cases h : firstR L n (x.take (m + 1)) ≠ -1
    · rw [if_pos h]
      have := firstR_ge L n (x.take (m + 1))
      exact ⟨fun j a b => by simp only at a; omega, Nat.le_refl _, .inr ⟨by simp only; omega, by simp only; omega, rfl⟩⟩
    · rw [if_neg h]
      refine ⟨fun j a b => ?_, by have := ih.2.1; omega, ih.2.2⟩
      by_cases e : j = m + 1
      · rw [e]; exact Classical.not_not.1 h
      · exact ih.1 j a (by omega)

/- A text is cut, from a place on, into these tokens (rule, from, to), up to this end. -/
def Cut (L : Nat → Lang) (n : Nat) (x : List Nat) : Nat → List (Int × Nat × Nat) → Nat → Prop
  | at', [], end' => end' = at' ∧ ∀ j, 0 < j → j ≤ x.length - at' → firstR L n ((x.drop at').take j) = -1
  | at', (r, f, t) :: ts, end' => f = at' ∧ at' < t ∧ t ≤ x.length ∧ 0 ≤ r ∧ firstR L n ((x.drop at').take (t - at')) = r ∧ (∀ j, t - at' < j → j ≤ x.length - at' → firstR L n ((x.drop at').take j) = -1) ∧ Cut L n x t ts end'

theorem cut_one {L : Nat → Lang} {n : Nat} {x : List Nat} : ∀ (ts us : List (Int × Nat × Nat)) (p e e' : Nat), Cut L n x p ts e → Cut L n x p us e' → ts = us ∧ e = e' := by
  intro ts
  induction ts with
  | nil =>
    intro us p e e' h k
    cases us with
    | nil => exact ⟨rfl, by rw [h.1, k.1]⟩
    | cons u us =>
      obtain ⟨r, f, t⟩ := u
      obtain ⟨_, k1, k2, k3, k4, _⟩ := k
      have := h.2 (t - p) (by omega) (by omega)
      omega
  | cons a ts ih =>
    intro us p e e' h k
    obtain ⟨r, f, t⟩ := a
    obtain ⟨h0, h1, h2, h3, h4, h5, h6⟩ := h
    cases us with
    | nil =>
      have := k.2 (t - p) (by omega) (by omega)
      omega
    | cons u us =>
      obtain ⟨r', f', t'⟩ := u
      obtain ⟨k0, k1, k2, k3, k4, k5, k6⟩ := k
      have et : t = t' := by
        rcases Nat.lt_trichotomy t t' with c | c | c
        · have := h5 (t' - p) (by omega) (by omega); omega
        · exact c
        · have := k5 (t - p) (by omega) (by omega); omega
      subst et
      have := ih us t e e' h6 k6
      refine ⟨?_, this.2⟩
      rw [h0, k0, ← h4, ← k4, this.1]

/- The tokens found so far, with one more behind them. -/
theorem cut_best {L : Nat → Lang} {n : Nat} {x : List Nat} {p : Nat} (hp : p ≤ x.length) (h : (best L n (x.drop p) (x.length - p)).1 = -1) : Cut L n x p [] p := by
  have hs := best_spec L n (x.drop p) (x.length - p)
  refine ⟨rfl, fun j a b => hs.1 j ?_ b⟩
  rcases hs.2.2 with c | c
  · rw [c.2]; exact a
  · omega
theorem cut_cons {L : Nat → Lang} {n : Nat} {x : List Nat} {p : Nat} (hp : p ≤ x.length) {r : Int} {k : Nat} (h : best L n (x.drop p) (x.length - p) = (r, k)) (hr : r ≠ -1) {ts : List (Int × Nat × Nat)} {e : Nat} (hc : Cut L n x (p + k) ts e) : Cut L n x p ((r, p, p + k) :: ts) e := by
  have hs := best_spec L n (x.drop p) (x.length - p)
  rw [h] at hs
  obtain ⟨s1, s2, s3⟩ := hs
  simp only at s1 s2 s3
  rcases s3 with c | ⟨c1, c2, c3⟩
  · exact absurd c.1 hr
  · refine ⟨rfl, by omega, by omega, c1, ?_, fun j a b => s1 j (by omega) b, hc⟩
    rw [show p + k - p = k by omega]; exact c3

theorem cut_end {L : Nat → Lang} {n : Nat} {x : List Nat} : ∀ (ts : List (Int × Nat × Nat)) (p e : Nat), p ≤ x.length → Cut L n x p ts e → p ≤ e ∧ e ≤ x.length := by
  intro ts
  induction ts with
  | nil => intro p e hp h; rw [h.1]; exact ⟨Nat.le_refl _, hp⟩
  | cons a ts ih =>
    intro p e hp h
    obtain ⟨r, f, t⟩ := a
    obtain ⟨_, h1, h2, _, _, _, h6⟩ := h
    have := ih t e h2 h6
    omega

/- The text up to where it ends is cut as it was. -/
theorem cut_take {L : Nat → Lang} {n : Nat} {x : List Nat} : ∀ (ts : List (Int × Nat × Nat)) (p e : Nat), p ≤ x.length → Cut L n x p ts e → Cut L n (x.take e) p ts e := by
  intro ts
  induction ts with
  | nil =>
    intro p e hp h
    refine ⟨h.1, fun j a b => ?_⟩
    rw [List.length_take, h.1] at b
    omega
  | cons a ts ih =>
    intro p e hp h
    obtain ⟨r, f, t⟩ := a
    obtain ⟨h0, h1, h2, h3, h4, h5, h6⟩ := h
    have he := cut_end ts t e h2 h6
    have hl : (x.take e).length = e := by rw [List.length_take]; omega
    have same : ∀ j, j ≤ e - p → ((x.take e).drop p).take j = (x.drop p).take j := fun j hj => by
      rw [List.drop_take, List.take_take, Nat.min_eq_left hj]
    refine ⟨h0, h1, by rw [hl]; exact he.1, h3, ?_, fun j a b => ?_, ih t e h2 h6⟩
    · rw [same _ (by omega)]; exact h4
    · rw [hl] at b; rw [same j b]; exact h5 j a (by omega)

/- What is cut is cut again if it stands alone. -/
theorem cut_alone {L : Nat → Lang} {n : Nat} {y : List Nat} {r : Int} (hy : y ≠ []) (hr : 0 ≤ r) (h : firstR L n y = r) : Cut L n y 0 [(r, 0, y.length)] y.length := by
  have hl := List.length_pos_iff.2 hy
  refine ⟨rfl, hl, Nat.le_refl _, hr, ?_, fun j a b => by omega, rfl, fun j a b => by omega⟩
  rw [List.drop_zero, Nat.sub_zero, List.take_length]; exact h
end Go.Proofs.Ytbjdkbcfpmeneaa

/- What is proved here: what it means that a table is right for rules; a table of the states that the rules can come to is. No program is named. -/
namespace Go.Proofs.Ytbjdkbcfpmeneaa
set_option linter.unusedVariables false
set_option linter.unusedSimpArgs false

/- Going along a table: the number of a state; -1: nowhere. -/
def stepT (cls : Nat → Nat) (nx : Nat → Nat → Int) (s : Int) (c : Nat) : Int := if s = -1 then -1 else nx s.toNat (cls c)
def walkT (cls : Nat → Nat) (nx : Nat → Nat → Int) (x : List Nat) : Int := x.foldl (stepT cls nx) 0
theorem walkT_snoc (cls : Nat → Nat) (nx : Nat → Nat → Int) (y : List Nat) (c : Nat) : walkT cls nx (y ++ [c]) = stepT cls nx (walkT cls nx y) c := by
  unfold walkT; rw [List.foldl_append]; rfl

/- A table of N states and C classes is right for n rules. -/
structure TableOk (L : Nat → Lang) (n : Nat) (cls : Nat → Nat) (nx : Nat → Nat → Int) (ac : Nat → Int) (N C : Nat) : Prop where
  pos : 0 < N
  cl : ∀ c, c < 256 → cls c < C
  rng : ∀ s k, s < N → k < C → -1 ≤ nx s k ∧ nx s k < N
  some : ∀ x, x ≠ [] → (∀ c ∈ x, c < 256) → walkT cls nx x ≠ -1 → ac (walkT cls nx x).toNat = firstR L n x
  none : ∀ x, x ≠ [] → (∀ c ∈ x, c < 256) → walkT cls nx x = -1 → ∀ z, (∀ c ∈ z, c < 256) → firstR L n (x ++ z) = -1

theorem TableOk.at {L : Nat → Lang} {n : Nat} {cls : Nat → Nat} {nx : Nat → Nat → Int} {ac : Nat → Int} {N C : Nat} (h : TableOk L n cls nx ac N C) : ∀ (y : List Nat), (∀ c ∈ y, c < 256) → -1 ≤ walkT cls nx y ∧ walkT cls nx y < N := by
  have key : ∀ (y : List Nat) (s : Int), -1 ≤ s → s < N → (∀ c ∈ y, c < 256) → -1 ≤ y.foldl (stepT cls nx) s ∧ y.foldl (stepT cls nx) s < N := by
    intro y
    induction y with
    | nil => intro s h1 h2 _; exact ⟨h1, h2⟩
    | cons c y ih =>
      intro s h1 h2 hy
      have hc := hy c (by simp)
      have hy' : ∀ c ∈ y, c < 256 := fun d hd => hy d (by simp [hd])
      have hs : -1 ≤ stepT cls nx s c ∧ stepT cls nx s c < N := by
        unfold stepT
        by_cases e : s = -1
        · rw [if_pos e]; omega
        · rw [if_neg e]; exact h.rng s.toNat (cls c) (by omega) (h.cl c hc)
      exact ih _ hs.1 hs.2 hy'
  intro y hy
  have := h.pos
  exact key y 0 (by omega) (by omega) hy

/- A table of states. -/
structure Built (bs fs : List Nat) (f l : Nat → Nat) (n : Nat) (S : List (Nat × Nat)) (cls : Nat → Nat) (nx : Nat → Nat → Int) (ac : Nat → Int) (C : Nat) : Prop where
  pos : 0 < S.length
  cl : ∀ c, c < 256 → cls c < C
  rng : ∀ s k, s < S.length → k < C → -1 ≤ nx s k ∧ nx s k < S.length
  zero : S.getD 0 (0, 0) = (firsts f n, 0)
  next : ∀ s c, s < S.length → c < 256 → (stepS bs fs l n (S.getD s (0, 0)) c = (0, 0) ∧ nx s (cls c) = -1) ∨ (∃ k : Nat, nx s (cls c) = k ∧ k < S.length ∧ S.getD k (0, 0) = stepS bs fs l n (S.getD s (0, 0)) c)
  acc : ∀ s, s < S.length → (ac s = -1 ∧ ∀ i, i < n → (S.getD s (0, 0)).2.testBit i = false) ∨ (∃ i : Nat, ac s = i ∧ i < n ∧ (S.getD s (0, 0)).2.testBit i = true ∧ ∀ k, k < i → (S.getD s (0, 0)).2.testBit k = false)

/- Where going along leads: to the text's state; or a text ahead led to none. -/
theorem Built.walk {bs fs : List Nat} {f l : Nat → Nat} {n : Nat} {S : List (Nat × Nat)} {cls : Nat → Nat} {nx : Nat → Nat → Int} {ac : Nat → Int} {C : Nat} (h : Built bs fs f l n S cls nx ac C) : ∀ (m : Nat) (x : List Nat), x.length = m → (∀ c ∈ x, c < 256) →
    (walkT cls nx x = -1 ∧ ∃ y z, x = y ++ z ∧ y ≠ [] ∧ walkS bs fs l n (firsts f n, 0) y = (0, 0)) ∨ (∃ s : Nat, walkT cls nx x = s ∧ s < S.length ∧ S.getD s (0, 0) = walkS bs fs l n (firsts f n, 0) x) := by
  intro m
  induction m with
  | zero =>
    intro x hx _
    have e : x = [] := List.length_eq_zero_iff.1 hx
    subst e
    exact .inr ⟨0, rfl, h.pos, h.zero⟩
  | succ m ih =>
    intro x hx hb
    have hne : x ≠ [] := by intro e; rw [e] at hx; simp at hx
    obtain ⟨y, c, rfl⟩ := snoc_of hne
    have hc : c < 256 := hb c (by simp)
    rw [walkT_snoc, walkS_snoc]
    rcases ih y (by simp at hx; exact hx) (fun d hd => hb d (by simp [hd])) with ⟨a, p, z, e, hp, h0⟩ | ⟨s, a, hs, b⟩
    · refine .inl ⟨?_, p, z ++ [c], by rw [e]; simp, hp, h0⟩
      unfold stepT; rw [if_pos a]
    · unfold stepT
      rw [a, if_neg (by omega), Int.toNat_natCast, ← b]
      rcases h.next s c hs hc with ⟨e1, e2⟩ | ⟨k, e1, e2, e3⟩
      · refine .inl ⟨e2, y ++ [c], [], by simp, by simp, ?_⟩
        rw [walkS_snoc, ← b]; exact e1
      · exact .inr ⟨k, e1, e2, e3⟩

theorem Built.ok {bs fs : List Nat} {f l : Nat → Nat} {n : Nat} {S : List (Nat × Nat)} {cls : Nat → Nat} {nx : Nat → Nat → Int} {ac : Nat → Int} {C : Nat} {lo : Nat → Nat} {e : Nat → Bool} {L : Nat → Lang} (h : Built bs fs f l n S cls nx ac C)
    (r : Rules (fun q => bs.getD q 0) (fun q => fs.getD q 0) n lo e f l L) : TableOk L n cls nx ac S.length C := by
  refine ⟨h.pos, h.cl, h.rng, fun x hx hb hw => ?_, fun x hx hb hw z _ => ?_⟩
  · rcases h.walk x.length x rfl hb with ⟨a, _⟩ | ⟨s, a, hs, b⟩
    · exact absurd a hw
    · rw [a, Int.toNat_natCast]
      rcases h.acc s hs with ⟨c, d⟩ | ⟨i, c, hi, d, g⟩
      · rw [c]
        refine (firstR_of_none fun i hi hL => ?_).symm
        have := d i hi
        rw [b, (walkS_whole r x hx i).2 ⟨hi, hL⟩] at this
        cases this
      · rw [c]
        rw [b] at d
        refine (firstR_of hi ((walkS_whole r x hx i).1 d).2 fun k hk hL => ?_).symm
        have := g k hk
        rw [b, (walkS_whole r x hx k).2 ⟨by omega, hL⟩] at this
        cases this
  · rcases h.walk x.length x rfl hb with ⟨_, p, q, e, hp, h0⟩ | ⟨s, a, _⟩
    · refine firstR_of_none fun i hi hL => ?_
      rw [e, List.append_assoc] at hL
      exact walkS_dead r p hp h0 (q ++ z) i hi hL
    · omega

/- One step of cutting: the longest so far, along the table. -/
theorem TableOk.best_step {L : Nat → Lang} {n : Nat} {cls : Nat → Nat} {nx : Nat → Nat → Int} {ac : Nat → Int} {N C : Nat} (h : TableOk L n cls nx ac N C) (x : List Nat) (hx : ∀ c ∈ x, c < 256) (m : Nat) (hm : m < x.length) (s : Int) (hs : walkT cls nx (x.take (m + 1)) = s) (h1 : s ≠ -1) :
    best L n x (m + 1) = if ac s.toNat ≠ -1 then (ac s.toNat, m + 1) else best L n x m := by
  have hne : x.take (m + 1) ≠ [] := by intro e; have := congrArg List.length e; rw [List.length_take, List.length_nil] at this; omega
  have := h.some (x.take (m + 1)) hne (fun c hc => hx c (List.mem_of_mem_take hc)) (by rw [hs]; exact h1)
  rw [hs] at this
  rw [best, this]

theorem TableOk.best_end {L : Nat → Lang} {n : Nat} {cls : Nat → Nat} {nx : Nat → Nat → Int} {ac : Nat → Int} {N C : Nat} (h : TableOk L n cls nx ac N C) (x : List Nat) (hx : ∀ c ∈ x, c < 256) (m : Nat) (hm : m < x.length) (hs : walkT cls nx (x.take (m + 1)) = -1) :
    best L n x x.length = best L n x m := by
  have hne : x.take (m + 1) ≠ [] := by intro e; have := congrArg List.length e; rw [List.length_take, List.length_nil] at this; omega
  refine best_stop x.length (by omega) fun j a b => ?_
  have := h.none (x.take (m + 1)) hne (fun c hc => hx c (List.mem_of_mem_take hc)) hs ((x.take j).drop (m + 1)) (fun c hc => hx c (List.mem_of_mem_take (List.mem_of_mem_drop hc)))
  have e : x.take (m + 1) ++ (x.take j).drop (m + 1) = x.take j := by
    have e2 : (x.take j).take (m + 1) = x.take (m + 1) := by rw [List.take_take, Nat.min_eq_left (by omega)]
    rw [← e2, List.take_append_drop]
  rw [e] at this
  exact this
end Go.Proofs.Ytbjdkbcfpmeneaa

/- What is proved here: the table of states while it grows, and what each step does to it (memory and numbers; no walk). -/
namespace Go.Proofs.Ytbjdkbcfpmeneaa
set_option linter.unusedVariables false
set_option linter.unusedSimpArgs false
open Go.RowKit Go.ChangeMaps

abbrev sv (x : Nat × Nat) : Value := stateV x.1 x.2
/- A state to which some text leads. -/
def Rch (bs fs : List Nat) (ps : List (Bool × Nat × Nat)) (y : Nat × Nat) : Prop := ∃ x : List Nat, (∀ c ∈ x, c < 256) ∧ y = walkS bs fs (lR ps) ps.length (firsts (fR ps) ps.length, 0) x
abbrev nilS : Value := .slice none 0 0
abbrev zTab : Obj := .cells (tabArr z256 nilS nilS) 46 (0, 0)

structure TIn (w : World) (B tb : Nat) (vp vr : Value) (bs fs : List Nat) (ps : List (Bool × Nat × Nat)) (Ks : List Nat) (cl : Nat → Nat) (F : List Nat) (S : List (Nat × Nat)) (tk : Nat) (gs : List Nat) (rows : List (List Int)) (accs : List Int) (vn va : Value) (w' : World) : Prop where
  bl : Bl w' B vp vr F (Ks.map setV) (S.map sv) tk
  tab : TabP w' tb (clArr cl 256) vn va Ks.length gs rows accs
  old : Kp [] w w'
  bR : w'.heap[w.heap.size]? = some zTab
  frF : ∀ g ∈ F, w.heap.size < g
  frT : ∀ g ∈ tfoot tb vn va gs, w.heap.size < g ∧ g ∉ F
  ok : ∀ i, i < gs.length → ∀ k, k < Ks.length → numTo (S.map sv) (nxt fs ps (S.getD i (0, 0)).1 (Ks.getD k 0)).1 (nxt fs ps (S.getD i (0, 0)).1 (Ks.getD k 0)).2 ((rows.getD i []).getD k 0)
  aok : ∀ i, i < accs.length → FirstBit (S.getD i (0, 0)).2 ps.length (accs.getD i 0)
  al : accs.length ≤ S.length
  rch : ∀ y ∈ S, Rch bs fs ps y
  zero : S[0]? = some (firsts (fR ps) ps.length, 0)

theorem TIn.kp {w : World} {B tb : Nat} {vp vr : Value} {bs fs : List Nat} {ps : List (Bool × Nat × Nat)} {Ks : List Nat} {cl : Nat → Nat} {F : List Nat} {S : List (Nat × Nat)} {tk : Nat} {gs : List Nat} {rows : List (List Int)} {accs : List Int} {vn va : Value} {w1 w2 : World} {xs : List Nat}
    (t : TIn w B tb vp vr bs fs ps Ks cl F S tk gs rows accs vn va w1) (hk : Kp xs w1 w2) (hx : ∀ x ∈ xs, w.heap.size < x ∧ x ∉ F ∧ x ∉ tfoot tb vn va gs) : TIn w B tb vp vr bs fs ps Ks cl F S tk gs rows accs vn va w2 :=
  ⟨t.bl.kp hk (fun x h => (hx x h).2.1), t.tab.kp hk (fun x h => (hx x h).2.2), t.old.trans hk (fun y hy => .inr (Nat.le_of_lt (hx y hy).1)), hk.keep t.bR (fun h => by have := (hx _ h).1; omega), t.frF, t.frT, t.ok, t.aok, t.al, t.rch, t.zero⟩

/- Members of a longer list of states are states. -/
theorem states_of {P : Nat × Nat → Prop} : ∀ (l : List Value), (∀ x ∈ l, ∃ y, P y ∧ x = sv y) → ∃ T : List (Nat × Nat), l = T.map sv ∧ ∀ y ∈ T, P y
  | [], _ => ⟨[], rfl, by simp⟩
  | a :: l, h => by
    obtain ⟨y, hy, rfl⟩ := h a (by simp)
    obtain ⟨T, rfl, hT⟩ := states_of l (fun x hx => h x (by simp [hx]))
    exact ⟨y :: T, rfl, fun z hz => by rcases List.mem_cons.1 hz with rfl | q; exact hy; exact hT z q⟩

theorem Rch.step {bs fs : List Nat} {ps : List (Bool × Nat × Nat)} {y : Nat × Nat} (h : Rch bs fs ps y) {c : Nat} (hc : c < 256) : Rch bs fs ps (stepS bs fs (lR ps) ps.length y c) := by
  obtain ⟨x, hx, rfl⟩ := h
  refine ⟨x ++ [c], fun d hd => ?_, ?_⟩
  · rcases List.mem_append.1 hd with q | q
    · exact hx d q
    · rw [List.mem_singleton.1 q]; exact hc
  · unfold walkS; rw [List.foldl_append]; rfl

theorem TIn.row {w : World} {B tb : Nat} {vp vr : Value} {bs fs : List Nat} {ps : List (Bool × Nat × Nat)} {Ks : List Nat} {cl : Nat → Nat} {F : List Nat} {S : List (Nat × Nat)} {tk : Nat} {gs : List Nat} {rows : List (List Int)} {accs : List Int} {vn va : Value} {wr w2 w3 : World} {x : Nat × Nat} {o : Obj} {g g1 cap1 : Nat} {r : List Int} {F2 : List Nat} {ss2 : List Value} {sb : Nat}
    (t : TIn w B tb vp vr bs fs ps Ks cl F S tk gs rows accs vn va wr) (hx : S[gs.length]? = some x) (hcl : ∀ k, k < Ks.length → ∃ c, c < 256 ∧ Ks.getD k 0 = takN bs c bs.length)
    (hg : wr.heap.size ≤ g) (hgF : g ∉ F2) (hgb : w2.heap[g]? = some (iO r)) (hr : r.length = Ks.length) (hnum : ∀ k, k < Ks.length → numTo ss2 (nxt fs ps x.1 (Ks.getD k 0)).1 (nxt fs ps x.1 (Ks.getD k 0)).2 (r.getD k 0)) (hpre : S.map sv <+: ss2)
    (hmem : ∀ v ∈ ss2, v ∈ S.map sv ∨ ∃ k, k < Ks.length ∧ v = stateV (nxt fs ps x.1 (Ks.getD k 0)).1 (nxt fs ps x.1 (Ks.getD k 0)).2) (bl2 : Bl w2 B vp vr F2 (Ks.map setV) ss2 tk) (kp2 : Kp F wr w2) (fr2 : ∀ q ∈ F2, q ∈ F ∨ wr.heap.size ≤ q)
    (own1 : w3.ownsRow 0 44 1 (.slice (some ⟨g1, 0, none⟩) (gs.length + 1) cap1) (gs.length + 1) (gs.map (rv Ks.length) ++ [rv Ks.length g])) (grow1 : (w2.alloc o).grownBy w3 vn.ownBlock) (at1 : vn.ownBlock = some g1 ∨ g1 = w2.heap.size + 1)
    (hsb : sb < wr.heap.size ∧ sb ∉ F ∧ sb ∉ tfoot tb vn va gs) :
    ∃ T : List (Nat × Nat), ss2 = (S ++ T).map sv ∧ TIn w B tb vp vr bs fs ps Ks cl F2 (S ++ T) tk (gs ++ [g]) (rows ++ [r]) accs (.slice (some ⟨g1, 0, none⟩) (gs.length + 1) cap1) va (w3.setCell ⟨tb, 256, none⟩ (.slice (some ⟨g1, 0, none⟩) (gs.length + 1) cap1)) ∧
      (w3.setCell ⟨tb, 256, none⟩ (.slice (some ⟨g1, 0, none⟩) (gs.length + 1) cap1)).heap[sb]? = wr.heap[sb]? ∧ sb ∉ F2 ∧ sb ∉ tfoot tb (.slice (some ⟨g1, 0, none⟩) (gs.length + 1) cap1) va (gs ++ [g]) := by
  have tab2 : TabP w2 tb (clArr cl 256) vn va Ks.length gs rows accs := t.tab.kp kp2 (fun q hq hm => (t.frT q hm).2 hq)
  have hva : va.ownBlock ≠ some g := by
    intro e
    have := t.tab.lt g (tfoot_mem.2 (.inr (.inr (.inl e))))
    omega
  obtain ⟨tab3, kp3, fr3⟩ := tab2.addRow hgb hr hva own1 grow1 at1
  have lw : w.heap.size < wr.heap.size := lt_of_block t.bR
  have s2 := kp2.size
  -- the states
  obtain ⟨l, hl⟩ := hpre
  have hxS : x ∈ S := List.mem_of_getElem? hx
  obtain ⟨T, hT, hTr⟩ := states_of (P := Rch bs fs ps) l (fun v hv => by
    rcases hmem v (by rw [← hl]; simp [hv]) with q | ⟨k, hk, e⟩
    · obtain ⟨y, hy, rfl⟩ := List.mem_map.1 q
      exact ⟨y, t.rch y hy, rfl⟩
    · obtain ⟨c, hc, e2⟩ := hcl k hk
      refine ⟨stepS bs fs (lR ps) ps.length x c, (t.rch x hxS).step hc, ?_⟩
      rw [e, e2]; rfl)
  have hss : ss2 = (S ++ T).map sv := by rw [← hl, hT, List.map_append]
  subst hss
  have fF2 : ∀ q ∈ F2, w.heap.size < q := fun q hq => by
    rcases fr2 q hq with e | e
    · exact t.frF q e
    · omega
  have fT3 : ∀ q ∈ tfoot tb (.slice (some ⟨g1, 0, none⟩) (gs.length + 1) cap1) va (gs ++ [g]), w.heap.size < q ∧ q ∉ F2 := fun q hq => by
    rcases fr3 q hq with e | e | e
    · refine ⟨(t.frT q e).1, fun hm => ?_⟩
      rcases fr2 q hm with e2 | e2
      · exact (t.frT q e).2 e2
      · have := t.tab.lt q e; omega
    · subst e; exact ⟨by omega, hgF⟩
    · exact ⟨by omega, fun hm => by have := bl2.lt q hm; omega⟩
  have blF : ∀ q ∈ tfoot tb vn va gs, q ∉ F2 := fun q hq hm => by
    rcases fr2 q hm with e | e
    · exact (t.frT q hq).2 e
    · have := t.tab.lt q hq; omega
  refine ⟨T, rfl, ⟨bl2.kp kp3 (fun q hq => blF q hq), tab3, ?_, ?_, fF2, fT3, ?_, ?_, by rw [List.length_append]; have := t.al; omega, ?_, ?_⟩, ?_, ?_, ?_⟩
  · refine (t.old.trans kp2 (fun y hy => .inr (Nat.le_of_lt (t.frF y hy)))).trans kp3 (fun y hy => .inr (Nat.le_of_lt (t.frT y hy).1))
  · refine kp3.keep (kp2.keep t.bR ?_) ?_
    · intro hm; have := t.frF _ hm; omega
    · intro hm; have := (t.frT _ hm).1; omega
  · intro i hi k hk
    rw [List.length_append, List.length_singleton] at hi
    by_cases e : i = gs.length
    · subst e
      have hi2 : gs.length < S.length := (List.getElem?_eq_some_iff.1 hx).1
      have e1 : (S ++ T).getD gs.length (0, 0) = x := by
        rw [List.getD_eq_getElem?_getD, List.getElem?_append_left hi2, hx]; rfl
      have e2 : (rows ++ [r]).getD gs.length [] = r := by rw [← t.tab.len, getD_snoc_eq]
      rw [e1, e2]
      exact hnum k hk
    · have hil : i < gs.length := by omega
      have hi2 : gs.length < S.length := (List.getElem?_eq_some_iff.1 hx).1
      have e1 : (S ++ T).getD i (0, 0) = S.getD i (0, 0) := by
        rw [List.getD_eq_getElem?_getD, List.getElem?_append_left (by omega), ← List.getD_eq_getElem?_getD]
      rw [e1, getD_snoc_lt (by rw [t.tab.len]; exact hil)]
      exact (t.ok i hil k hk).mono ⟨T.map sv, by rw [List.map_append]⟩
  · intro i hi
    by_cases hiS : i < S.length
    · have e1 : (S ++ T).getD i (0, 0) = S.getD i (0, 0) := by
        rw [List.getD_eq_getElem?_getD, List.getElem?_append_left hiS, ← List.getD_eq_getElem?_getD]
      rw [e1]; exact t.aok i hi
    · have := t.al; omega
  · intro y hy
    rcases List.mem_append.1 hy with q | q
    · exact t.rch y q
    · exact hTr y q
  · have h0 := t.zero
    rw [List.getElem?_append_left (List.getElem?_eq_some_iff.1 h0).1]; exact h0
  · have q2 : w2.heap[sb]? = wr.heap[sb]? := kp2.block sb hsb.1 hsb.2.1
    rw [kp3.block sb (by omega) hsb.2.2, q2]
  · intro hm
    rcases fr2 _ hm with e | e
    · exact hsb.2.1 e
    · omega
  · intro hm
    rcases fr3 _ hm with e | e | e
    · exact hsb.2.2 e
    · omega
    · omega

theorem TIn.acc {w : World} {B tb : Nat} {vp vr : Value} {bs fs : List Nat} {ps : List (Bool × Nat × Nat)} {Ks : List Nat} {cl : Nat → Nat} {F : List Nat} {S : List (Nat × Nat)} {tk : Nat} {gs : List Nat} {rows : List (List Int)} {accs : List Int} {vn va : Value} {wr w2 w3 : World} {x : Nat × Nat} {o : Obj} {g1 cap1 : Nat} {r : Int} {sb : Nat}
    (t : TIn w B tb vp vr bs fs ps Ks cl F S tk gs rows accs vn va wr) (hx : S[accs.length]? = some x) (hr : FirstBit x.2 ps.length r) (kp2 : Kp [] wr w2)
    (own1 : w3.ownsRow 0 3 1 (.slice (some ⟨g1, 0, none⟩) (accs.length + 1) cap1) (accs.length + 1) (iv accs ++ [.int .i64 r])) (grow1 : (w2.alloc o).grownBy w3 va.ownBlock) (at1 : va.ownBlock = some g1 ∨ g1 = w2.heap.size + 1)
    (hsb : sb < wr.heap.size ∧ sb ∉ F ∧ sb ∉ tfoot tb vn va gs) :
    TIn w B tb vp vr bs fs ps Ks cl F S tk gs rows (accs ++ [r]) vn (.slice (some ⟨g1, 0, none⟩) (accs.length + 1) cap1) (w3.setCell ⟨tb, 257, none⟩ (.slice (some ⟨g1, 0, none⟩) (accs.length + 1) cap1)) ∧
      (w3.setCell ⟨tb, 257, none⟩ (.slice (some ⟨g1, 0, none⟩) (accs.length + 1) cap1)).heap[sb]? = wr.heap[sb]? ∧ sb ∉ tfoot tb vn (.slice (some ⟨g1, 0, none⟩) (accs.length + 1) cap1) gs := by
  have t2 := t.kp kp2 (by simp)
  obtain ⟨tab3, kp3, fr3⟩ := t2.tab.addAcc own1 grow1 at1
  have lw : w.heap.size < wr.heap.size := lt_of_block t.bR
  have s2 := kp2.size
  have hxl := (List.getElem?_eq_some_iff.1 hx).1
  refine ⟨⟨t2.bl.kp kp3 (fun q hq => (t.frT q hq).2), tab3, ?_, ?_, t.frF, ?_, t.ok, ?_, ?_, t.rch, t.zero⟩, ?_, ?_⟩
  · exact t2.old.trans kp3 (fun y hy => .inr (Nat.le_of_lt (t.frT y hy).1))
  · refine kp3.keep t2.bR ?_
    intro hm; have := (t.frT _ hm).1; omega
  · intro q hq
    rcases fr3 q hq with e | e
    · exact t.frT q e
    · exact ⟨by omega, fun hm => by have := t2.bl.lt q hm; omega⟩
  · intro i hi
    rw [List.length_append, List.length_singleton] at hi
    by_cases e : i = accs.length
    · subst e
      rw [getD_snoc_eq]
      have e1 : S.getD accs.length (0, 0) = x := by rw [List.getD_eq_getElem?_getD, hx]; rfl
      rw [e1]; exact hr
    · rw [getD_snoc_lt (by omega)]; exact t.aok i (by omega)
  · rw [List.length_append, List.length_singleton]; omega
  · rw [kp3.block sb (by omega) hsb.2.2, kp2.block sb hsb.1 (by simp)]
  · intro hm
    rcases fr3 _ hm with e | e
    · exact hsb.2.2 e
    · omega
end Go.Proofs.Ytbjdkbcfpmeneaa
