/- What is proved here: there is one smallest table, with its states and classes numbered as the document says, for what texts lead to. No program is named. -/
import Derived.Test.YtbjdkbcfpmeneaaM17
namespace Go.Proofs.Ytbjdkbcfpmeneaa
set_option linter.unusedVariables false
set_option linter.unusedSimpArgs false

structure Tab where
  cls : Nat → Nat
  nx : Nat → Nat → Int
  ac : Nat → Int
  N : Nat
  C : Nat
def Bytes (z : List Nat) : Prop := ∀ c ∈ z, c < 256
def Tab.go (T : Tab) (s : Int) (z : List Nat) : Int := z.foldl (stepT T.cls T.nx) s
def Tab.out (T : Tab) (s : Int) (z : List Nat) : Int := if T.go s z = -1 then -1 else T.ac (T.go s z).toNat

theorem Tab.go_cons (T : Tab) (s : Int) (c : Nat) (z : List Nat) : T.go s (c :: z) = T.go (stepT T.cls T.nx s c) z := rfl
theorem Tab.go_none (T : Tab) : ∀ z, T.go (-1) z = -1 := by
  intro z
  induction z with
  | nil => rfl
  | cons c z ih => rw [T.go_cons, stepT, if_pos rfl]; exact ih
theorem Tab.out_none (T : Tab) (z : List Nat) : T.out (-1) z = -1 := by unfold Tab.out; rw [if_pos (T.go_none z)]
theorem stepT_nat (cls : Nat → Nat) (nx : Nat → Nat → Int) (s c : Nat) : stepT cls nx s c = nx s (cls c) := by
  unfold stepT
  rw [if_neg (by omega), Int.toNat_natCast]
theorem Tab.out_cons (T : Tab) (s c : Nat) (z : List Nat) : T.out s (c :: z) = T.out (T.nx s (T.cls c)) z := by
  unfold Tab.out
  rw [T.go_cons, stepT_nat]
theorem Tab.out_nil (T : Tab) (s : Nat) : T.out s [] = T.ac s := by
  unfold Tab.out
  have : T.go s [] = s := rfl
  rw [this, if_neg (by omega), Int.toNat_natCast]
theorem Bytes.cons {c : Nat} {z : List Nat} (hc : c < 256) (h : Bytes z) : Bytes (c :: z) := fun d hd => by
  rcases List.mem_cons.1 hd with rfl | hd
  · exact hc
  · exact h d hd

/- The smallest table for what texts lead to. -/
structure Canon (T : Tab) (R : List Nat → Int) : Prop where
  pos : 0 < T.N
  cl : ∀ c, c < 256 → T.cls c < T.C
  rng : ∀ s k, s < T.N → k < T.C → -1 ≤ T.nx s k ∧ T.nx s k < T.N
  sem : ∀ x, Bytes x → T.out 0 x = R x
  reach : ∀ s, s < T.N → ∃ x, Bytes x ∧ T.go 0 x = s
  alive : ∀ s k, s < T.N → k < T.C → T.nx s k ≠ -1 → ∃ z, Bytes z ∧ T.out (T.nx s k) z ≠ -1
  dist : ∀ s t : Nat, s < T.N → t < T.N → (∀ z, Bytes z → T.out s z = T.out t z) → s = t
  csur : ∀ k, k < T.C → ∃ c, c < 256 ∧ T.cls c = k
  cdist : ∀ c d, c < 256 → d < 256 → (∀ s, s < T.N → T.nx s (T.cls c) = T.nx s (T.cls d)) → T.cls c = T.cls d
  cord : ∀ c k, c < 256 → k < T.cls c → ∃ d, d < c ∧ T.cls d = k
  sfrom : ∀ t : Nat, 0 < t → t < T.N → ∃ s k, s < t ∧ k < T.C ∧ T.nx s k = t
  sord : ∀ s k (t u : Nat), s < T.N → k < T.C → T.nx s k = t → 0 < u → u < t → ∃ s' k', s' < T.N ∧ k' < T.C ∧ (s' < s ∨ s' = s ∧ k' < k) ∧ T.nx s' k' = u

/- From two states, one of each table, the same texts lead to the same rules. -/
def Like (T U : Tab) (s t : Int) : Prop := ∀ z, Bytes z → T.out s z = U.out t z
theorem Like.symm {T U : Tab} {s t : Int} (h : Like T U s t) : Like U T t s := fun z hz => (h z hz).symm

theorem like_step {T U : Tab} {R : List Nat → Int} (hT : Canon T R) (hU : Canon U R) {s t : Nat} (hs : s < T.N) (ht : t < U.N) (h : Like T U s t) (c : Nat) (hc : c < 256) :
    Like T U (T.nx s (T.cls c)) (U.nx t (U.cls c)) ∧ (T.nx s (T.cls c) = -1 ↔ U.nx t (U.cls c) = -1) := by
  have h1 : Like T U (T.nx s (T.cls c)) (U.nx t (U.cls c)) := fun z hz => by
    have := h (c :: z) (hz.cons hc)
    rw [T.out_cons, U.out_cons] at this
    exact this
  refine ⟨h1, fun e => ?_, fun e => ?_⟩
  · apply Classical.byContradiction
    intro n
    obtain ⟨z, hz, ne⟩ := hU.alive t _ ht (hU.cl c hc) n
    rw [← h1 z hz, e, T.out_none] at ne
    exact ne rfl
  · apply Classical.byContradiction
    intro n
    obtain ⟨z, hz, ne⟩ := hT.alive s _ hs (hT.cl c hc) n
    rw [h1 z hz, e, U.out_none] at ne
    exact ne rfl

theorem like_go {T U : Tab} {R : List Nat → Int} (hT : Canon T R) (hU : Canon U R) : ∀ (x : List Nat) (s t : Nat), Bytes x → s < T.N → t < U.N → Like T U s t →
    (T.go s x = -1 ∧ U.go t x = -1) ∨ ∃ s' t' : Nat, T.go s x = s' ∧ U.go t x = t' ∧ s' < T.N ∧ t' < U.N ∧ Like T U s' t' := by
  intro x
  induction x with
  | nil => intro s t _ hs ht h; exact .inr ⟨s, t, rfl, rfl, hs, ht, h⟩
  | cons c x ih =>
    intro s t hx hs ht h
    have hc := hx c (by simp)
    obtain ⟨l1, l2⟩ := like_step hT hU hs ht h c hc
    rw [T.go_cons, U.go_cons, stepT_nat, stepT_nat]
    have r1 := hT.rng s _ hs (hT.cl c hc)
    have r2 := hU.rng t _ ht (hU.cl c hc)
    by_cases e : T.nx s (T.cls c) = -1
    · rw [e, l2.1 e]; exact .inl ⟨T.go_none x, U.go_none x⟩
    · have e' : U.nx t (U.cls c) ≠ -1 := fun q => e (l2.2 q)
      obtain ⟨a, ha⟩ : ∃ a : Nat, T.nx s (T.cls c) = a := ⟨_, (Int.toNat_of_nonneg (by omega)).symm⟩
      obtain ⟨b, hb⟩ : ∃ b : Nat, U.nx t (U.cls c) = b := ⟨_, (Int.toNat_of_nonneg (by omega)).symm⟩
      rw [ha] at l1 r1 ⊢
      rw [hb] at l1 r2 ⊢
      exact ih a b (fun d hd => hx d (by simp [hd])) (by omega) (by omega) l1

theorem like_first {T U : Tab} {R : List Nat → Int} (hT : Canon T R) (hU : Canon U R) : Like T U (0 : Nat) (0 : Nat) := fun z hz => (hT.sem z hz).trans (hU.sem z hz).symm
theorem like_each {T U : Tab} {R : List Nat → Int} (hT : Canon T R) (hU : Canon U R) (s : Nat) (hs : s < T.N) : ∃ t : Nat, t < U.N ∧ Like T U s t := by
  obtain ⟨x, hx, e⟩ := hT.reach s hs
  rcases like_go hT hU x 0 0 hx hT.pos hU.pos (like_first hT hU) with ⟨a, _⟩ | ⟨s', t', a, b, _, d, l⟩
  · have a' : T.go 0 x = -1 := a
    rw [e] at a'; omega
  · have a' : T.go 0 x = s' := a
    rw [e] at a'
    have : s = s' := by omega
    rw [this]; exact ⟨t', d, l⟩
theorem like_right {T U : Tab} {R : List Nat → Int} (hU : Canon U R) {s : Int} {t t' : Nat} (ht : t < U.N) (ht' : t' < U.N) (h : Like T U s t) (k : Like T U s t') : t = t' := hU.dist t t' ht ht' fun z hz => (h z hz).symm.trans (k z hz)
theorem like_left {T U : Tab} {R : List Nat → Int} (hT : Canon T R) {s s' : Nat} {t : Int} (hs : s < T.N) (hs' : s' < T.N) (h : Like T U s t) (k : Like T U s' t) : s = s' := hT.dist s s' hs hs' fun z hz => (h z hz).trans (k z hz).symm

/- The classes are the same. -/
theorem canon_kernel {T U : Tab} {R : List Nat → Int} (hT : Canon T R) (hU : Canon U R) (c d : Nat) (hc : c < 256) (hd : d < 256) (h : T.cls c = T.cls d) : U.cls c = U.cls d := by
  refine hU.cdist c d hc hd fun t ht => ?_
  obtain ⟨s, hs, l⟩ := like_each hU hT t ht
  obtain ⟨l1, l2⟩ := like_step hT hU hs ht l.symm c hc
  obtain ⟨k1, k2⟩ := like_step hT hU hs ht l.symm d hd
  rw [← h] at k1 k2
  have r1 := hU.rng t _ ht (hU.cl c hc)
  have r2 := hU.rng t _ ht (hU.cl d hd)
  by_cases e : T.nx s (T.cls c) = -1
  · rw [l2.1 e, k2.1 e]
  · have e1 : U.nx t (U.cls c) ≠ -1 := fun q => e (l2.2 q)
    have e2 : U.nx t (U.cls d) ≠ -1 := fun q => e (k2.2 q)
    obtain ⟨a, ha⟩ : ∃ a : Nat, U.nx t (U.cls c) = a := ⟨_, (Int.toNat_of_nonneg (by omega)).symm⟩
    obtain ⟨b, hb⟩ : ∃ b : Nat, U.nx t (U.cls d) = b := ⟨_, (Int.toNat_of_nonneg (by omega)).symm⟩
    rw [ha] at l1 r1 ⊢
    rw [hb] at k1 r2 ⊢
    rw [like_right hU (by omega) (by omega) l1 k1]

theorem canon_cls {T U : Tab} {R : List Nat → Int} (hT : Canon T R) (hU : Canon U R) : ∀ m c, c < m → c < 256 → T.cls c = U.cls c := by
  intro m
  induction m with
  | zero => intro c h; omega
  | succ m ih =>
    intro c hcm hc
    by_cases he : ∃ d, d < c ∧ T.cls d = T.cls c
    · obtain ⟨d, h1, h2⟩ := he
      rw [← canon_kernel hT hU d c (by omega) hc h2, ← h2]
      exact ih d (by omega) (by omega)
    · rcases Nat.lt_trichotomy (T.cls c) (U.cls c) with q | q | q
      · obtain ⟨d, h1, h2⟩ := hU.cord c _ hc q
        exact absurd ⟨d, h1, by rw [ih d (by omega) (by omega)]; exact h2⟩ he
      · exact q
      · obtain ⟨d, h1, h2⟩ := hT.cord c _ hc q
        rw [ih d (by omega) (by omega)] at h2
        exact absurd ⟨d, h1, canon_kernel hU hT d c (by omega) hc h2⟩ he

theorem canon_C {T U : Tab} {R : List Nat → Int} (hT : Canon T R) (hU : Canon U R) : T.C = U.C := by
  have key : ∀ {T U : Tab}, Canon T R → Canon U R → T.C ≤ U.C := fun {T U} hT hU => by
    rcases Nat.lt_or_ge U.C T.C with h | h
    · obtain ⟨c, hc, e⟩ := hT.csur U.C h
      have := hU.cl c hc
      rw [← canon_cls hT hU 256 c hc hc] at this
      omega
    · exact h
  exact Nat.le_antisymm (key hT hU) (key hU hT)

/- By a class. -/
theorem like_class {T U : Tab} {R : List Nat → Int} (hT : Canon T R) (hU : Canon U R) {s t : Nat} (hs : s < T.N) (ht : t < U.N) (h : Like T U s t) (k : Nat) (hk : k < T.C) : Like T U (T.nx s k) (U.nx t k) ∧ (T.nx s k = -1 ↔ U.nx t k = -1) := by
  obtain ⟨c, hc, e⟩ := hT.csur k hk
  have := like_step hT hU hs ht h c hc
  rw [← canon_cls hT hU 256 c hc hc, e] at this
  exact this

/- A state that is its own counterpart's: none comes to it earlier. -/
theorem canon_descend {T U : Tab} {R : List Nat → Int} (hT : Canon T R) (hU : Canon U R) (m t : Nat) (hm : 0 < m) (hmT : m < T.N) (hlt : m < t) (htU : t < U.N) (hl : Like T U m t) (below : ∀ s : Nat, s < m → s < U.N ∧ Like T U s s) :
    ∀ (q s k : Nat), s * T.C + k < q → s < m → k < T.C → T.nx s k = m → False := by
  intro q
  induction q with
  | zero => intro s k h; omega
  | succ q ih =>
    intro s k hq hs hk e
    have hC := canon_C hT hU
    obtain ⟨hsU, ls⟩ := below s hs
    obtain ⟨l1, l2⟩ := like_class hT hU (by omega) hsU ls k hk
    have r := hU.rng s k hsU (by omega)
    have ne : U.nx s k ≠ -1 := fun z => by have := l2.2 z; omega
    obtain ⟨b, hb⟩ : ∃ b : Nat, U.nx s k = b := ⟨_, (Int.toNat_of_nonneg (by omega)).symm⟩
    rw [e, hb] at l1
    have eb : b = t := like_right hU (by omega) htU l1 hl
    obtain ⟨s', k', h1, h2, h3, h4⟩ := hU.sord s k t m hsU (by omega) (by rw [hb, eb]) hm hlt
    have hs' : s' < m := by omega
    obtain ⟨_, ls'⟩ := below s' hs'
    obtain ⟨p1, p2⟩ := like_class hT hU (by omega) h1 ls' k' (by omega)
    have r' := hT.rng s' k' (by omega) (by omega)
    have ne' : T.nx s' k' ≠ -1 := fun z => by have := p2.1 z; omega
    obtain ⟨a, ha⟩ : ∃ a : Nat, T.nx s' k' = a := ⟨_, (Int.toNat_of_nonneg (by omega)).symm⟩
    rw [ha, h4] at p1
    have am : m < a := by
      rcases Nat.lt_trichotomy a m with q | q | q
      · obtain ⟨aU, la⟩ := below a q
        have := like_right hU aU (by omega) la p1
        omega
      · rw [q] at p1
        have := like_right hU htU (by omega) hl p1
        omega
      · exact q
    obtain ⟨s2, k2, g1, g2, g3, g4⟩ := hT.sord s' k' a m (by omega) (by omega) ha hm am
    have lt1 : s2 * T.C + k2 < s' * T.C + k' := by
      rcases g3 with g | ⟨g, g'⟩
      · have : (s2 + 1) * T.C ≤ s' * T.C := Nat.mul_le_mul_right _ g
        rw [Nat.add_mul, Nat.one_mul] at this
        omega
      · rw [g]; omega
    have lt2 : s' * T.C + k' < s * T.C + k := by
      rcases h3 with g | ⟨g, g'⟩
      · have : (s' + 1) * T.C ≤ s * T.C := Nat.mul_le_mul_right _ g
        rw [Nat.add_mul, Nat.one_mul] at this
        omega
      · rw [g]; omega
    exact ih s2 k2 (by omega) (by omega) g2 g4

theorem canon_same {T U : Tab} {R : List Nat → Int} (hT : Canon T R) (hU : Canon U R) : ∀ m s : Nat, s < m → s < T.N → s < U.N ∧ Like T U s s := by
  intro m
  induction m with
  | zero => intro s h; omega
  | succ m ih =>
    intro s hs hsT
    by_cases h0 : s = 0
    · subst h0; exact ⟨hU.pos, like_first hT hU⟩
    · have below : ∀ u : Nat, u < s → u < U.N ∧ Like T U u u := fun u hu => ih u (by omega) (by omega)
      obtain ⟨t, ht, l⟩ := like_each hT hU s hsT
      rcases Nat.lt_trichotomy s t with c | c | c
      · obtain ⟨p, k, h1, h2, h3⟩ := hT.sfrom s (by omega) hsT
        exact (canon_descend hT hU s t (by omega) hsT c ht l below _ p k (Nat.lt_succ_self _) h1 h2 h3).elim
      · rw [← c] at ht l; exact ⟨ht, l⟩
      · obtain ⟨_, lt⟩ := below t c
        have := like_left hT hsT (by omega) l lt
        omega

theorem canon_N {T U : Tab} {R : List Nat → Int} (hT : Canon T R) (hU : Canon U R) : T.N = U.N := by
  have key : ∀ {T U : Tab}, Canon T R → Canon U R → T.N ≤ U.N := fun {T U} hT hU => by
    rcases Nat.lt_or_ge U.N T.N with h | h
    · have := (canon_same hT hU (U.N + 1) U.N (by omega) h).1; omega
    · exact h
  exact Nat.le_antisymm (key hT hU) (key hU hT)

/- There is one smallest table. -/
theorem canon_one {T U : Tab} {R : List Nat → Int} (hT : Canon T R) (hU : Canon U R) : T.N = U.N ∧ T.C = U.C ∧ (∀ c, c < 256 → T.cls c = U.cls c) ∧ (∀ s k, s < T.N → k < T.C → T.nx s k = U.nx s k) ∧ (∀ s, s < T.N → T.ac s = U.ac s) := by
  refine ⟨canon_N hT hU, canon_C hT hU, fun c hc => canon_cls hT hU 256 c hc hc, fun s k hs hk => ?_, fun s hs => ?_⟩
  · obtain ⟨hsU, l⟩ := canon_same hT hU (s + 1) s (by omega) hs
    obtain ⟨l1, l2⟩ := like_class hT hU hs hsU l k hk
    have hC := canon_C hT hU
    have r1 := hT.rng s k hs hk
    have r2 := hU.rng s k hsU (by omega)
    by_cases e : T.nx s k = -1
    · rw [e, l2.1 e]
    · have e1 : U.nx s k ≠ -1 := fun q => e (l2.2 q)
      obtain ⟨a, ha⟩ : ∃ a : Nat, T.nx s k = a := ⟨_, (Int.toNat_of_nonneg (by omega)).symm⟩
      obtain ⟨b, hb⟩ : ∃ b : Nat, U.nx s k = b := ⟨_, (Int.toNat_of_nonneg (by omega)).symm⟩
      rw [ha, hb] at l1
      rw [ha] at r1 ⊢
      rw [hb] at r2 ⊢
      obtain ⟨aU, la⟩ := canon_same hT hU (a + 1) a (by omega) (by omega)
      rw [like_right hU aU (by omega) la l1]
  · obtain ⟨_, l⟩ := canon_same hT hU (s + 1) s (by omega) hs
    have := l [] (fun c hc => by cases hc)
    rw [T.out_nil, U.out_nil] at this
    exact this
end Go.Proofs.Ytbjdkbcfpmeneaa

/- What is proved here: a table whose states are merged as far as no text tells them apart, and its classes likewise, is the smallest one. No program is named. -/
namespace Go.Proofs.Ytbjdkbcfpmeneaa
set_option linter.unusedVariables false
set_option linter.unusedSimpArgs false

/- A class leads on from a state, or from nowhere. -/
def Tab.nxI (T : Tab) (s : Int) (k : Nat) : Int := if s = -1 then -1 else T.nx s.toNat k
def Tab.acI (T : Tab) (s : Int) : Int := if s = -1 then -1 else T.ac s.toNat

theorem Tab.out_nilI (T : Tab) (s : Int) : T.out s [] = T.acI s := rfl
theorem Tab.out_consI (T : Tab) (s : Int) (c : Nat) (z : List Nat) : T.out s (c :: z) = T.out (T.nxI s (T.cls c)) z := rfl
theorem Tab.nxI_nat (T : Tab) (s k : Nat) : T.nxI s k = T.nx s k := by
  unfold Tab.nxI; rw [if_neg (by omega), Int.toNat_natCast]

/- A table of which only the numbers are in order. -/
structure Plain (T : Tab) : Prop where
  pos : 0 < T.N
  cl : ∀ c, c < 256 → T.cls c < T.C
  rng : ∀ s k, s < T.N → k < T.C → -1 ≤ T.nx s k ∧ T.nx s k < T.N
  csur : ∀ k, k < T.C → ∃ c, c < 256 ∧ T.cls c = k
  cord : ∀ c k, c < 256 → k < T.cls c → ∃ d, d < c ∧ T.cls d = k

theorem Plain.rngI {T : Tab} (h : Plain T) {s : Int} {k : Nat} (h1 : -1 ≤ s) (h2 : s < T.N) (hk : k < T.C) : -1 ≤ T.nxI s k ∧ T.nxI s k < T.N := by
  unfold Tab.nxI
  split
  · have := h.pos; omega
  · exact h.rng s.toNat k (by omega) hk

/- No text tells them apart. -/
def Same (T : Tab) (a b : Int) : Prop := ∀ z, Bytes z → T.out a z = T.out b z
theorem Same.symm {T : Tab} {a b : Int} (h : Same T a b) : Same T b a := fun z hz => (h z hz).symm
theorem Same.trans {T : Tab} {a b c : Int} (h : Same T a b) (k : Same T b c) : Same T a c := fun z hz => (h z hz).trans (k z hz)

/- The pairs that are held apart, when nothing more is found. -/
structure Parted (T : Tab) (A : Int → Int → Prop) : Prop where
  sound : ∀ a b : Int, A a b → -1 ≤ a ∧ a < b ∧ b < T.N ∧ ¬ Same T a b
  acc : ∀ a b : Int, -1 ≤ a → a < b → b < T.N → T.acI a ≠ T.acI b → A a b
  back : ∀ (a b : Int) (k : Nat), -1 ≤ a → a < b → b < T.N → k < T.C → A (min (T.nxI a k) (T.nxI b k)) (max (T.nxI a k) (T.nxI b k)) → A a b

theorem Parted.same {T : Tab} {A : Int → Int → Prop} (hT : Plain T) (h : Parted T A) : ∀ (z : List Nat) (a b : Int), Bytes z → -1 ≤ a → a < b → b < T.N → ¬ A a b → T.out a z = T.out b z := by
  intro z
  induction z with
  | nil =>
    intro a b _ h1 h2 h3 hn
    rw [T.out_nilI, T.out_nilI]
    apply Classical.byContradiction
    intro e
    exact hn (h.acc a b h1 h2 h3 e)
  | cons c z ih =>
    intro a b hz h1 h2 h3 hn
    have hc := hT.cl c (hz c (by simp))
    have hz' : Bytes z := fun d hd => hz d (by simp [hd])
    rw [T.out_consI, T.out_consI]
    have r1 := hT.rngI h1 (by omega) hc
    have r2 := hT.rngI (s := b) (by omega) h3 hc
    have nb : ¬ A (min (T.nxI a (T.cls c)) (T.nxI b (T.cls c))) (max (T.nxI a (T.cls c)) (T.nxI b (T.cls c))) := fun q => hn (h.back a b _ h1 h2 h3 hc q)
    generalize T.nxI a (T.cls c) = p at *
    generalize T.nxI b (T.cls c) = q at *
    rcases Int.lt_trichotomy p q with e | e | e
    · rw [Int.min_eq_left (by omega), Int.max_eq_right (by omega)] at nb
      exact ih p q hz' r1.1 e r2.2 nb
    · rw [e]
    · rw [Int.min_eq_right (by omega), Int.max_eq_left (by omega)] at nb
      exact (ih q p hz' r2.1 e r1.2 nb).symm

theorem Parted.iff {T : Tab} {A : Int → Int → Prop} (hT : Plain T) (h : Parted T A) {a b : Int} (h1 : -1 ≤ a) (h2 : a < b) (h3 : b < T.N) : A a b ↔ ¬ Same T a b :=
  ⟨fun q => (h.sound a b q).2.2.2, fun q => Classical.byContradiction fun n => q fun z hz => h.same hT z a b hz h1 h2 h3 n⟩

/- The states that are left, in the order in which they are come to; the rows by the old classes. -/
structure Shrunk (T : Tab) (ws : List Nat) (nx : Nat → Nat → Int) : Prop where
  first : ws.getD 0 0 = 0
  pos : 0 < ws.length
  nodup : ws.Nodup
  lt : ∀ s ∈ ws, s < T.N
  row : ∀ j k, j < ws.length → k < T.C → (Same T (-1) (T.nx (ws.getD j 0) k) ∧ nx j k = -1) ∨ (¬ Same T (-1) (T.nx (ws.getD j 0) k) ∧ ∃ i : Nat, nx j k = i ∧ i < ws.length ∧ Same T (ws.getD i 0 : Nat) (T.nx (ws.getD j 0) k))
  least : ∀ i, 0 < i → i < ws.length → ∀ t : Int, -1 ≤ t → t < (ws.getD i 0 : Nat) → ¬ Same T t (ws.getD i 0 : Nat)
  sfrom : ∀ t : Nat, 0 < t → t < ws.length → ∃ s k, s < t ∧ k < T.C ∧ nx s k = t
  sord : ∀ s k (t u : Nat), s < ws.length → k < T.C → nx s k = t → 0 < u → u < t → ∃ s' k', s' < ws.length ∧ k' < T.C ∧ (s' < s ∨ s' = s ∧ k' < k) ∧ nx s' k' = u

/- The classes that are left. -/
structure Joined (N C : Nat) (nx : Nat → Nat → Int) (num : Nat → Nat) (C' : Nat) : Prop where
  lt : ∀ k, k < C → num k < C'
  sur : ∀ m, m < C' → ∃ k, k < C ∧ num k = m
  eq : ∀ k k', k < C → k' < C → (num k = num k' ↔ ∀ j, j < N → nx j k = nx j k')
  ord : ∀ k m, k < C → m < num k → ∃ k', k' < k ∧ num k' = m

theorem getD_inj {l : List Nat} (h : l.Nodup) {i j : Nat} (hi : i < l.length) (hj : j < l.length) (e : l.getD i 0 = l.getD j 0) : i = j := by
  rw [List.getD_eq_getElem?_getD, List.getD_eq_getElem?_getD, List.getElem?_eq_getElem hi, List.getElem?_eq_getElem hj] at e
  exact (List.getElem_inj h).1 e
theorem getD_mem {l : List Nat} {i : Nat} (hi : i < l.length) : l.getD i 0 ∈ l := by
  rw [List.getD_eq_getElem?_getD, List.getElem?_eq_getElem hi]; exact List.getElem_mem hi

theorem merged_canon {T : Tab} (hT : Plain T) {ws : List Nat} {nx : Nat → Nat → Int} (hs : Shrunk T ws nx) {num : Nat → Nat} {C' : Nat} (hj : Joined ws.length T.C nx num C') {U : Tab}
    (hC : U.C = C') (hN : U.N = ws.length) (hcl : ∀ c, c < 256 → U.cls c = num (T.cls c)) (hnx : ∀ j k, j < ws.length → k < T.C → U.nx j (num k) = nx j k) (hac : ∀ j, j < ws.length → U.ac j = T.ac (ws.getD j 0)) :
    Canon U (fun x => T.out 0 x) := by
  have hrow : ∀ j k, j < ws.length → k < T.C → -1 ≤ nx j k ∧ nx j k < ws.length := fun j k h1 h2 => by
    rcases hs.row j k h1 h2 with ⟨_, e⟩ | ⟨_, i, e, h3, _⟩
    · have := hs.pos; omega
    · omega
  -- where a text leads, in both
  have sem : ∀ (z : List Nat) (j : Nat), Bytes z → j < ws.length → U.out j z = T.out (ws.getD j 0 : Nat) z := by
    intro z
    induction z with
    | nil =>
      intro j _ h1
      rw [U.out_nil, T.out_nil, hac j h1]
    | cons c z ih =>
      intro j hz h1
      have hc := hz c (by simp)
      have hz' : Bytes z := fun d hd => hz d (by simp [hd])
      have hk := hT.cl c hc
      rw [U.out_cons, T.out_cons, hcl c hc, hnx j _ h1 hk]
      rcases hs.row j _ h1 hk with ⟨a, e⟩ | ⟨_, i, e, h3, a⟩
      · rw [e, U.out_none, ← a z hz', T.out_none]
      · rw [e, ih i hz' h3]; exact a z hz'
  have sameN : ∀ i, i < ws.length → ∀ t : Nat, t < T.N → Same T (ws.getD i 0 : Nat) t → Same T (ws.getD i 0 : Nat) t := fun _ _ _ _ h => h
  refine ⟨by rw [hN]; exact hs.pos, ?_, ?_, ?_, ?_, ?_, ?_, ?_, ?_, ?_, ?_, ?_⟩
  · intro c hc; rw [hC, hcl c hc]; exact hj.lt _ (hT.cl c hc)
  · intro s k h1 h2
    rw [hN] at h1 ⊢; rw [hC] at h2
    obtain ⟨q, h3, rfl⟩ := hj.sur k h2
    rw [hnx s q h1 h3]
    exact hrow s q h1 h3
  · intro x hx
    have := sem x 0 hx hs.pos
    rw [hs.first] at this
    exact this
  · -- reach
    have key : ∀ m s, s < m → s < ws.length → ∃ x, Bytes x ∧ U.go 0 x = s := by
      intro m
      induction m with
      | zero => intro s h; omega
      | succ m ih =>
        intro s h1 h2
        by_cases h0 : s = 0
        · subst h0; exact ⟨[], fun c h => by simp at h, rfl⟩
        · obtain ⟨p, k, h3, h4, h5⟩ := hs.sfrom s (by omega) h2
          obtain ⟨x, hx, e⟩ := ih p (by omega) (by omega)
          obtain ⟨c, hc, e2⟩ := hT.csur k h4
          refine ⟨x ++ [c], fun d hd => ?_, ?_⟩
          · rcases List.mem_append.1 hd with q | q
            · exact hx d q
            · rw [List.mem_singleton.1 q]; exact hc
          · show (x ++ [c]).foldl (stepT U.cls U.nx) 0 = s
            rw [List.foldl_append]
            have e' : x.foldl (stepT U.cls U.nx) 0 = p := e
            rw [e']
            show stepT U.cls U.nx p c = s
            rw [stepT_nat, hcl c hc, hnx p _ (by omega) (by rw [e2]; exact h4), e2, h5]
    intro s h1
    rw [hN] at h1
    exact key (s + 1) s (by omega) h1
  · -- alive
    intro s k h1 h2 h3
    rw [hN] at h1; rw [hC] at h2
    obtain ⟨q, h4, rfl⟩ := hj.sur k h2
    rw [hnx s q h1 h4] at h3 ⊢
    rcases hs.row s q h1 h4 with ⟨_, e⟩ | ⟨a, i, e, h5, b⟩
    · exact absurd e h3
    · have : ∃ z, Bytes z ∧ T.out (-1) z ≠ T.out (T.nx (ws.getD s 0) q) z := by
        apply Classical.byContradiction
        intro n
        apply a
        intro z hz
        apply Classical.byContradiction
        intro e
        exact n ⟨z, hz, e⟩
      obtain ⟨z, hz, ne⟩ := this
      refine ⟨z, hz, ?_⟩
      rw [e, sem z i hz h5, b z hz]
      rw [T.out_none] at ne
      exact fun q => ne q.symm
  · -- dist
    intro s t h1 h2 h
    rw [hN] at h1 h2
    have hw : ∀ z, Bytes z → T.out (ws.getD s 0 : Nat) z = T.out (ws.getD t 0 : Nat) z := fun z hz => by
      rw [← sem z s hz h1, ← sem z t hz h2]; exact h z hz
    rcases Nat.lt_trichotomy (ws.getD s 0) (ws.getD t 0) with c | c | c
    · by_cases t0 : t = 0
      · subst t0; rw [hs.first] at c; omega
      · exact absurd hw (hs.least t (by omega) h2 _ (by omega) (by omega))
    · exact getD_inj hs.nodup h1 h2 c
    · by_cases s0 : s = 0
      · subst s0; rw [hs.first] at c; omega
      · exact absurd (fun z hz => (hw z hz).symm) (hs.least s (by omega) h1 _ (by omega) (by omega))
  · -- csur
    intro m hm
    rw [hC] at hm
    obtain ⟨k, h1, rfl⟩ := hj.sur m hm
    obtain ⟨c, hc, rfl⟩ := hT.csur k h1
    exact ⟨c, hc, hcl c hc⟩
  · -- cdist
    intro c d hc hd h
    rw [hcl c hc, hcl d hd]
    refine (hj.eq _ _ (hT.cl c hc) (hT.cl d hd)).2 fun j h1 => ?_
    have := h j (by rw [hN]; exact h1)
    rw [hcl c hc, hcl d hd, hnx j _ h1 (hT.cl c hc), hnx j _ h1 (hT.cl d hd)] at this
    exact this
  · -- cord
    intro c m hc hm
    rw [hcl c hc] at hm
    obtain ⟨k, h1, h2⟩ := hj.ord _ m (hT.cl c hc) hm
    obtain ⟨d, h3, h4⟩ := hT.cord c k hc h1
    exact ⟨d, h3, by rw [hcl d (by omega), h4, h2]⟩
  · intro t h0 h1
    rw [hN] at h1
    obtain ⟨s, k, h2, h3, h4⟩ := hs.sfrom t h0 h1
    exact ⟨s, num k, h2, by rw [hC]; exact hj.lt k h3, by rw [hnx s k (by omega) h3]; exact h4⟩
  · intro s m t u h1 h2 h3 h4 h5
    rw [hN] at h1; rw [hC] at h2
    -- the least old class of this number
    have hleast : ∃ k, k < T.C ∧ num k = m ∧ ∀ k', k' < k → num k' ≠ m := by
      obtain ⟨k0, a, b⟩ := hj.sur m h2
      have : ∀ q k, k < q → k < T.C → num k = m → ∃ k, k < T.C ∧ num k = m ∧ ∀ k', k' < k → num k' ≠ m := by
        intro q
        induction q with
        | zero => intro k h; omega
        | succ q ih =>
          intro k h1 h2 h3
          by_cases e : ∃ k', k' < k ∧ num k' = m
          · obtain ⟨k', e1, e2⟩ := e
            exact ih k' (by omega) (by omega) e2
          · exact ⟨k, h2, h3, fun k' e1 e2 => e ⟨k', e1, e2⟩⟩
      exact this (k0 + 1) k0 (by omega) a b
    obtain ⟨q, h6, rfl, hl⟩ := hleast
    rw [hnx s q h1 h6] at h3
    obtain ⟨s', k', g1, g2, g3, g4⟩ := hs.sord s q t u h1 h6 h3 h4 h5
    refine ⟨s', num k', by rw [hN]; exact g1, by rw [hC]; exact hj.lt k' g2, ?_, by rw [hnx s' k' g1 g2]; exact g4⟩
    rcases g3 with g | ⟨g, g'⟩
    · exact .inl g
    · right
      refine ⟨g, ?_⟩
      rcases Nat.lt_trichotomy (num k') (num q) with c | c | c
      · exact c
      · exact absurd c (hl k' g')
      · -- an old class ahead of k' has q's number: it would be less than q
        obtain ⟨k2, e1, e2⟩ := hj.ord k' (num q) g2 c
        exact absurd e2 (hl k2 (by omega))

/- What the rules tell of a text; of no bytes: nothing. -/
noncomputable def told (L : Nat → Lang) (n : Nat) (x : List Nat) : Int := if x = [] then -1 else firstR L n x

theorem told_congr {L L' : Nat → Lang} {n : Nat} (h : ∀ i x, i < n → (L i x ↔ L' i x)) : told L n = told L' n := by
  funext x
  unfold told
  by_cases hx : x = []
  · rw [if_pos hx, if_pos hx]
  · rw [if_neg hx, if_neg hx]
    rcases firstR_spec L x n with ⟨a, b⟩ | ⟨i, a, b, c, d⟩
    · rw [a, firstR_of_none fun i hi q => b i hi ((h i x hi).2 q)]
    · rw [a, firstR_of b ((h i x b).1 c) fun k hk q => d k hk ((h k x (by omega)).2 q)]

/- A table that is right has them for its answer. -/
theorem TableOk.told {L : Nat → Lang} {n : Nat} {T : Tab} (h : TableOk L n T.cls T.nx T.ac T.N T.C) (h0 : T.ac 0 = -1) : ∀ x, Bytes x → T.out 0 x = told L n x := by
  intro x hx
  unfold Go.Proofs.Ytbjdkbcfpmeneaa.told
  by_cases e : x = []
  · subst e; rw [if_pos rfl]; exact h0
  · rw [if_neg e]
    unfold Tab.out
    have hw : walkT T.cls T.nx x = T.go 0 x := rfl
    by_cases q : T.go 0 x = -1
    · rw [if_pos q]
      have := h.none x e hx (by rw [hw]; exact q) [] (by simp)
      rw [List.append_nil] at this
      exact this.symm
    · rw [if_neg q]
      have := h.some x e hx (by rw [hw]; exact q)
      rw [hw] at this
      exact this
theorem Canon.congr {T : Tab} {R R' : List Nat → Int} (h : Canon T R) (e : ∀ x, Bytes x → R x = R' x) : Canon T R' :=
  ⟨h.pos, h.cl, h.rng, fun x hx => (h.sem x hx).trans (e x hx), h.reach, h.alive, h.dist, h.csur, h.cdist, h.cord, h.sfrom, h.sord⟩

/- .. and the smallest one is right. -/
theorem Canon.ok {L : Nat → Lang} {n : Nat} {T : Tab} (h : Canon T (told L n)) : TableOk L n T.cls T.nx T.ac T.N T.C := by
  refine ⟨h.pos, h.cl, h.rng, fun x e hx q => ?_, fun x e hx q z hz => ?_⟩
  · have := h.sem x hx
    unfold Go.Proofs.Ytbjdkbcfpmeneaa.told at this
    rw [if_neg e] at this
    unfold Tab.out at this
    have hw : walkT T.cls T.nx x = T.go 0 x := rfl
    rw [hw] at q ⊢
    rw [if_neg q] at this
    exact this
  · have := h.sem (x ++ z) fun c hc => by
      rcases List.mem_append.1 hc with a | a
      · exact hx c a
      · exact hz c a
    unfold Go.Proofs.Ytbjdkbcfpmeneaa.told at this
    rw [if_neg (by simp [e])] at this
    rw [← this]
    unfold Tab.out
    have e2 : T.go 0 (x ++ z) = -1 := by
      show (x ++ z).foldl (stepT T.cls T.nx) 0 = -1
      rw [List.foldl_append]
      have : x.foldl (stepT T.cls T.nx) 0 = -1 := q
      rw [this]
      exact T.go_none z
    rw [if_pos e2]
end Go.Proofs.Ytbjdkbcfpmeneaa
