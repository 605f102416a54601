/- What is proved here: the positions that are read from a pattern match just the texts that the pattern matches; lists and numbers alone, no program is named. -/
import Derived.Test.YtbjdkbcfpmeneaaM01
import Derived.Test.YtbjdkbcfpmeneaaRows
import Derived.Test.YtbjdkbcfpmeneaaM06
namespace Go.Proofs.Ytbjdkbcfpmeneaa
set_option linter.unusedVariables false
set_option linter.unusedSimpArgs false

abbrev Lang := List Nat → Prop

def lEps : Lang := fun x => x = []
def lSet (s : Nat) : Lang := fun x => ∃ c, x = [c] ∧ s.testBit c = true
def lCat (a b : Lang) : Lang := fun x => ∃ y z, x = y ++ z ∧ a y ∧ b z
def lAlt (a b : Lang) : Lang := fun x => a x ∨ b x
def lPow (a : Lang) : Nat → Lang
  | 0 => lEps
  | n + 1 => lCat a (lPow a n)
def lStar (a : Lang) : Lang := fun x => ∃ n, lPow a n x
def lPlus (a : Lang) : Lang := fun x => ∃ n, lPow a (n + 1) x
def lOpt (a : Lang) : Lang := fun x => x = [] ∨ a x

/- From position q on a text is read to its end: q matches the first byte, and so on. -/
def rd (B F : Nat → Nat) (last : Nat) : Nat → List Nat → Prop
  | _, [] => False
  | q, c :: cs => (B q).testBit c = true ∧ ((cs = [] ∧ last.testBit q = true) ∨ ∃ r, (F q).testBit r = true ∧ rd B F last r cs)

/- The texts of a part. -/
def lang (B F : Nat → Nat) (e : Bool) (first last : Nat) : Lang := fun x => (x = [] ∧ e = true) ∨ ∃ q, first.testBit q = true ∧ rd B F last q x

/- All numbers of the set lie from lo up to hi. -/
def In (lo hi s : Nat) : Prop := ∀ q, s.testBit q = true → lo ≤ q ∧ q < hi

/- A part over the positions from lo up to hi: nothing leads out of them. -/
structure Part (B F : Nat → Nat) (lo hi : Nat) (e : Bool) (first last : Nat) (L : Lang) : Prop where
  fi : In lo hi first
  la : In lo hi last
  fo : ∀ q, lo ≤ q → q < hi → In lo hi (F q)
  eq : ∀ x, lang B F e first last x ↔ L x

/- What is read stays within the part; so only its followers matter. -/
theorem rd_congr {B F F' : Nat → Nat} {lo hi last : Nat} (hf : ∀ q, lo ≤ q → q < hi → F' q = F q) (ho : ∀ q, lo ≤ q → q < hi → In lo hi (F q)) :
    ∀ (x : List Nat) (q : Nat), lo ≤ q → q < hi → (rd B F' last q x ↔ rd B F last q x) := by
  intro x
  induction x with
  | nil => intro q _ _; exact Iff.rfl
  | cons c cs ih =>
    intro q h1 h2
    simp only [rd, hf q h1 h2]
    constructor
    · rintro ⟨a, b | ⟨r, b, d⟩⟩
      · exact ⟨a, .inl b⟩
      · have := ho q h1 h2 r b
        exact ⟨a, .inr ⟨r, b, (ih r this.1 this.2).1 d⟩⟩
    · rintro ⟨a, b | ⟨r, b, d⟩⟩
      · exact ⟨a, .inl b⟩
      · have := ho q h1 h2 r b
        exact ⟨a, .inr ⟨r, b, (ih r this.1 this.2).2 d⟩⟩

theorem Part.congr {B F B' F' : Nat → Nat} {lo hi : Nat} {e : Bool} {first last : Nat} {L : Lang} (h : Part B F lo hi e first last L)
    (hb : ∀ q, q < hi → B' q = B q) (hf : ∀ q, lo ≤ q → q < hi → F' q = F q) : Part B' F' lo hi e first last L := by
  have key : ∀ (x : List Nat) (q : Nat), lo ≤ q → q < hi → (rd B' F' last q x ↔ rd B F last q x) := by
    intro x
    induction x with
    | nil => intro q _ _; exact Iff.rfl
    | cons c cs ih =>
      intro q h1 h2
      simp only [rd, hf q h1 h2, hb q h2]
      constructor
      · rintro ⟨a, b | ⟨r, b, d⟩⟩
        · exact ⟨a, .inl b⟩
        · have := h.fo q h1 h2 r b
          exact ⟨a, .inr ⟨r, b, (ih r this.1 this.2).1 d⟩⟩
      · rintro ⟨a, b | ⟨r, b, d⟩⟩
        · exact ⟨a, .inl b⟩
        · have := h.fo q h1 h2 r b
          exact ⟨a, .inr ⟨r, b, (ih r this.1 this.2).2 d⟩⟩
  refine ⟨h.fi, h.la, fun q h1 h2 => by rw [hf q h1 h2]; exact h.fo q h1 h2, fun x => ?_⟩
  rw [← h.eq x]
  constructor
  · rintro (a | ⟨q, a, b⟩)
    · exact .inl a
    · exact .inr ⟨q, a, (key x q (h.fi q a).1 (h.fi q a).2).1 b⟩
  · rintro (a | ⟨q, a, b⟩)
    · exact .inl a
    · exact .inr ⟨q, a, (key x q (h.fi q a).1 (h.fi q a).2).2 b⟩

theorem In.mono {lo hi lo' hi' s : Nat} (h : In lo hi s) (h1 : lo' ≤ lo) (h2 : hi ≤ hi') : In lo' hi' s := fun q hq => by have := h q hq; omega
theorem In.or {lo hi s t : Nat} (h : In lo hi s) (k : In lo hi t) : In lo hi (s ||| t) := fun q hq => by
  rw [Nat.testBit_or, Bool.or_eq_true] at hq
  rcases hq with hq | hq
  · exact h q hq
  · exact k q hq
theorem In.zero (lo hi : Nat) : In lo hi 0 := fun q hq => by simp at hq
theorem In.one {lo hi n : Nat} (h1 : lo ≤ n) (h2 : n < hi) : In lo hi (1 <<< n) := fun q hq => by
  rw [Nat.one_shiftLeft, Nat.testBit_two_pow, decide_eq_true_eq] at hq
  omega

/- The text of no bytes alone. -/
theorem Part.eps (B F : Nat → Nat) (n : Nat) : Part B F n n true 0 0 lEps :=
  ⟨In.zero _ _, In.zero _ _, fun q h1 h2 => by omega, fun x => by
    unfold lang lEps
    constructor
    · rintro (⟨a, _⟩ | ⟨q, a, _⟩)
      · exact a
      · simp at a
    · intro a; exact .inl ⟨a, rfl⟩⟩

/- One position. -/
theorem Part.single (B F : Nat → Nat) (n : Nat) (hF : F n = 0) : Part B F n (n + 1) false (1 <<< n) (1 <<< n) (lSet (B n)) := by
  refine ⟨In.one (Nat.le_refl _) (by omega), In.one (Nat.le_refl _) (by omega), fun q h1 h2 => ?_, fun x => ?_⟩
  · have : q = n := by omega
    rw [this, hF]; exact In.zero _ _
  · unfold lang lSet
    have hb : ∀ q, (1 <<< n).testBit q = true ↔ q = n := fun q => by rw [Nat.one_shiftLeft, Nat.testBit_two_pow, decide_eq_true_eq]; exact eq_comm
    constructor
    · rintro (⟨_, a⟩ | ⟨q, a, b⟩)
      · cases a
      · rw [hb] at a
        subst a
        cases x with
        | nil => exact b.elim
        | cons c cs =>
          obtain ⟨b1, ⟨b2, _⟩ | ⟨r, b2, _⟩⟩ := b
          · subst b2; exact ⟨c, rfl, b1⟩
          · rw [hF] at b2; simp at b2
    · rintro ⟨c, rfl, a⟩
      exact .inr ⟨n, (hb n).2 rfl, a, .inl ⟨rfl, (hb n).2 rfl⟩⟩

/- One of two. -/
theorem Part.either {B F : Nat → Nat} {lo mid hi : Nat} {e1 e2 : Bool} {f1 l1 f2 l2 : Nat} {L M : Lang} (h : Part B F lo mid e1 f1 l1 L) (k : Part B F mid hi e2 f2 l2 M) (h1 : lo ≤ mid) (h2 : mid ≤ hi) :
    Part B F lo hi (e1 || e2) (f1 ||| f2) (l1 ||| l2) (lAlt L M) := by
  have left : ∀ (x : List Nat) (q : Nat), lo ≤ q → q < mid → (rd B F (l1 ||| l2) q x ↔ rd B F l1 q x) := by
    intro x
    induction x with
    | nil => intro q _ _; exact Iff.rfl
    | cons c cs ih =>
      intro q a b
      simp only [rd]
      have e : (l1 ||| l2).testBit q = l1.testBit q := by
        rw [Nat.testBit_or]
        cases e2 : l2.testBit q with
        | false => simp
        | true => have := k.la q e2; omega
      rw [e]
      constructor
      · rintro ⟨x, y | ⟨r, y, z⟩⟩
        · exact ⟨x, .inl y⟩
        · have := h.fo q a b r y; exact ⟨x, .inr ⟨r, y, (ih r this.1 this.2).1 z⟩⟩
      · rintro ⟨x, y | ⟨r, y, z⟩⟩
        · exact ⟨x, .inl y⟩
        · have := h.fo q a b r y; exact ⟨x, .inr ⟨r, y, (ih r this.1 this.2).2 z⟩⟩
  have right : ∀ (x : List Nat) (q : Nat), mid ≤ q → q < hi → (rd B F (l1 ||| l2) q x ↔ rd B F l2 q x) := by
    intro x
    induction x with
    | nil => intro q _ _; exact Iff.rfl
    | cons c cs ih =>
      intro q a b
      simp only [rd]
      have e : (l1 ||| l2).testBit q = l2.testBit q := by
        rw [Nat.testBit_or]
        cases e1 : l1.testBit q with
        | false => simp
        | true => have := h.la q e1; omega
      rw [e]
      constructor
      · rintro ⟨x, y | ⟨r, y, z⟩⟩
        · exact ⟨x, .inl y⟩
        · have := k.fo q a b r y; exact ⟨x, .inr ⟨r, y, (ih r this.1 this.2).1 z⟩⟩
      · rintro ⟨x, y | ⟨r, y, z⟩⟩
        · exact ⟨x, .inl y⟩
        · have := k.fo q a b r y; exact ⟨x, .inr ⟨r, y, (ih r this.1 this.2).2 z⟩⟩
  refine ⟨(h.fi.mono (Nat.le_refl _) h2).or (k.fi.mono h1 (Nat.le_refl _)), (h.la.mono (Nat.le_refl _) h2).or (k.la.mono h1 (Nat.le_refl _)), fun q a b => ?_, fun x => ?_⟩
  · rcases Nat.lt_or_ge q mid with c | c
    · exact (h.fo q a c).mono (Nat.le_refl _) h2
    · exact (k.fo q c b).mono h1 (Nat.le_refl _)
  · unfold lAlt
    rw [← h.eq x, ← k.eq x]
    unfold lang
    constructor
    · rintro (⟨a, b⟩ | ⟨q, a, b⟩)
      · rw [Bool.or_eq_true] at b
        rcases b with b | b
        · exact .inl (.inl ⟨a, b⟩)
        · exact .inr (.inl ⟨a, b⟩)
      · rw [Nat.testBit_or, Bool.or_eq_true] at a
        rcases a with a | a
        · exact .inl (.inr ⟨q, a, (left x q (h.fi q a).1 (h.fi q a).2).1 b⟩)
        · exact .inr (.inr ⟨q, a, (right x q (k.fi q a).1 (k.fi q a).2).1 b⟩)
    · rintro ((⟨a, b⟩ | ⟨q, a, b⟩) | (⟨a, b⟩ | ⟨q, a, b⟩))
      · exact .inl ⟨a, by rw [b]; rfl⟩
      · exact .inr ⟨q, by rw [Nat.testBit_or, a]; rfl, (left x q (h.fi q a).1 (h.fi q a).2).2 b⟩
      · exact .inl ⟨a, by rw [b, Bool.or_true]⟩
      · exact .inr ⟨q, by rw [Nat.testBit_or, a, Bool.or_true], (right x q (k.fi q a).1 (k.fi q a).2).2 b⟩

/- What is proved here: parts put behind one another, and repeated, match what they should; lists and numbers alone, no program is named. -/

/- The followers behind a link from the ends to the starts. -/
def lkF (F : Nat → Nat) (ends starts : Nat) : Nat → Nat := fun q => if ends.testBit q then F q ||| starts else F q
theorem lkF_bit (F : Nat → Nat) (a b q r : Nat) : (lkF F a b q).testBit r = true ↔ (F q).testBit r = true ∨ (a.testBit q = true ∧ b.testBit r = true) := by
  unfold lkF
  split
  · rename_i h; rw [Nat.testBit_or, Bool.or_eq_true]; simp [h]
  · rename_i h; simp [h]

theorem out_of {lo hi s q : Nat} (h : In lo hi s) (hq : q < lo ∨ hi ≤ q) : s.testBit q = false := by
  cases e : s.testBit q with
  | false => rfl
  | true => have := h q e; omega

theorem Part.chain {B F : Nat → Nat} {lo mid hi : Nat} {e1 e2 : Bool} {f1 l1 f2 l2 : Nat} {L M : Lang} (h : Part B F lo mid e1 f1 l1 L) (k : Part B F mid hi e2 f2 l2 M) (h1 : lo ≤ mid) (h2 : mid ≤ hi) :
    Part B (lkF F l1 f2) lo hi (e1 && e2) (if e1 then f1 ||| f2 else f1) (if e2 then l1 ||| l2 else l2) (lCat L M) := by
  have La : ∀ q, (if e2 then l1 ||| l2 else l2).testBit q = true ↔ l2.testBit q = true ∨ (e2 = true ∧ l1.testBit q = true) := by
    intro q; cases e2 <;> simp [or_comm]
  have Fi : ∀ q, (if e1 then f1 ||| f2 else f1).testBit q = true ↔ f1.testBit q = true ∨ (e1 = true ∧ f2.testBit q = true) := by
    intro q; cases e1 <;> simp
  generalize (if e2 then l1 ||| l2 else l2) = la at *
  generalize (if e1 then f1 ||| f2 else f1) = fi at *
  have right : ∀ (x : List Nat) (q : Nat), mid ≤ q → q < hi → (rd B (lkF F l1 f2) la q x ↔ rd B F l2 q x) := by
    intro x
    induction x with
    | nil => intro q _ _; exact Iff.rfl
    | cons c cs ih =>
      intro q a b
      have n1 := out_of h.la (q := q) (.inr a)
      simp only [rd, La, lkF_bit, n1]
      simp only [Bool.false_eq_true, and_false, false_and, or_false]
      constructor
      · rintro ⟨x, y | ⟨r, y, z⟩⟩
        · exact ⟨x, .inl y⟩
        · have := k.fo q a b r y; exact ⟨x, .inr ⟨r, y, (ih r this.1 this.2).1 z⟩⟩
      · rintro ⟨x, y | ⟨r, y, z⟩⟩
        · exact ⟨x, .inl y⟩
        · have := k.fo q a b r y; exact ⟨x, .inr ⟨r, y, (ih r this.1 this.2).2 z⟩⟩
  have left : ∀ (x : List Nat) (q : Nat), lo ≤ q → q < mid → (rd B (lkF F l1 f2) la q x ↔ ∃ y z, x = y ++ z ∧ rd B F l1 q y ∧ lang B F e2 f2 l2 z) := by
    intro x
    induction x with
    | nil =>
      intro q _ _
      constructor
      · intro a; exact a.elim
      · rintro ⟨y, z, e, a, _⟩
        have : y = [] := by cases y with | nil => rfl | cons _ _ => simp at e
        subst this; exact a.elim
    | cons c cs ih =>
      intro q a b
      have n2 := out_of k.la (q := q) (.inl b)
      constructor
      · rintro ⟨u, ⟨v, w⟩ | ⟨r, v, w⟩⟩
        · rw [La, n2] at w
          simp only [Bool.false_eq_true, false_or] at w
          subst v
          exact ⟨[c], [], rfl, ⟨u, .inl ⟨rfl, w.2⟩⟩, .inl ⟨rfl, w.1⟩⟩
        · rw [lkF_bit] at v
          rcases v with v | ⟨v1, v2⟩
          · have hr := h.fo q a b r v
            obtain ⟨y, z, e, s, t⟩ := (ih r hr.1 hr.2).1 w
            exact ⟨c :: y, z, by rw [e]; rfl, ⟨u, .inr ⟨r, v, s⟩⟩, t⟩
          · have hr := k.fi r v2
            exact ⟨[c], cs, rfl, ⟨u, .inl ⟨rfl, v1⟩⟩, .inr ⟨r, v2, (right cs r hr.1 hr.2).1 w⟩⟩
      · rintro ⟨y, z, e, s, t⟩
        cases y with
        | nil => exact s.elim
        | cons d y =>
          simp only [List.cons_append, List.cons.injEq] at e
          obtain ⟨rfl, rfl⟩ := e
          obtain ⟨u, ⟨v, v2⟩ | ⟨r, v, v2⟩⟩ := s
          · subst v
            rcases t with ⟨t1, t2⟩ | ⟨r, t1, t2⟩
            · subst t1
              exact ⟨u, .inl ⟨rfl, (La q).2 (.inr ⟨t2, v2⟩)⟩⟩
            · have hr := k.fi r t1
              exact ⟨u, .inr ⟨r, (lkF_bit _ _ _ _ _).2 (.inr ⟨v2, t1⟩), (right _ r hr.1 hr.2).2 t2⟩⟩
          · have hr := h.fo q a b r v
            exact ⟨u, .inr ⟨r, (lkF_bit _ _ _ _ _).2 (.inl v), (ih r hr.1 hr.2).2 ⟨y, z, rfl, v2, t⟩⟩⟩
  refine ⟨fun q hq => ?_, fun q hq => ?_, fun q a b r hr => ?_, fun x => ?_⟩
  · rcases (Fi q).1 hq with c | ⟨_, c⟩
    · have := h.fi q c; omega
    · have := k.fi q c; omega
  · rcases (La q).1 hq with c | ⟨_, c⟩
    · have := k.la q c; omega
    · have := h.la q c; omega
  · rcases (lkF_bit _ _ _ _ _).1 hr with c | ⟨_, c⟩
    · rcases Nat.lt_or_ge q mid with d | d
      · have := h.fo q a d r c; omega
      · have := k.fo q d b r c; omega
    · have := k.fi r c; omega
  · unfold lCat
    constructor
    · rintro (⟨a, b⟩ | ⟨q, a, b⟩)
      · rw [Bool.and_eq_true] at b
        exact ⟨[], [], by rw [a]; rfl, (h.eq _).1 (.inl ⟨rfl, b.1⟩), (k.eq _).1 (.inl ⟨rfl, b.2⟩)⟩
      · rcases (Fi q).1 a with c | ⟨c1, c2⟩
        · have hq := h.fi q c
          obtain ⟨y, z, e, s, t⟩ := (left x q hq.1 hq.2).1 b
          exact ⟨y, z, e, (h.eq _).1 (.inr ⟨q, c, s⟩), (k.eq _).1 t⟩
        · have hq := k.fi q c2
          exact ⟨[], x, rfl, (h.eq _).1 (.inl ⟨rfl, c1⟩), (k.eq _).1 (.inr ⟨q, c2, (right x q hq.1 hq.2).1 b⟩)⟩
    · rintro ⟨y, z, e, s, t⟩
      rw [← h.eq] at s
      rw [← k.eq] at t
      rcases s with ⟨s1, s2⟩ | ⟨q, s1, s2⟩
      · subst s1
        rw [List.nil_append] at e
        subst e
        rcases t with ⟨t1, t2⟩ | ⟨q, t1, t2⟩
        · exact .inl ⟨t1, by rw [s2, t2]; rfl⟩
        · have hq := k.fi q t1
          exact .inr ⟨q, (Fi q).2 (.inr ⟨s2, t1⟩), (right x q hq.1 hq.2).2 t2⟩
      · have hq := h.fi q s1
        exact .inr ⟨q, (Fi q).2 (.inl s1), (left x q hq.1 hq.2).2 ⟨y, z, e, s2, t⟩⟩

/- What is read where the ends lead back to the starts. -/
theorem rd_loop {B F : Nat → Nat} {lo hi f l : Nat} (hf : In lo hi f) (ho : ∀ q, lo ≤ q → q < hi → In lo hi (F q)) :
    ∀ (x : List Nat) (q : Nat), lo ≤ q → q < hi → (rd B (lkF F l f) l q x ↔ ∃ y z, x = y ++ z ∧ rd B F l q y ∧ (z = [] ∨ ∃ r, f.testBit r = true ∧ rd B (lkF F l f) l r z)) := by
  intro x
  induction x with
  | nil =>
    intro q _ _
    constructor
    · intro a; exact a.elim
    · rintro ⟨y, z, e, a, _⟩
      have : y = [] := by cases y with | nil => rfl | cons _ _ => simp at e
      subst this; exact a.elim
  | cons c cs ih =>
    intro q a b
    constructor
    · rintro ⟨u, ⟨v, w⟩ | ⟨r, v, w⟩⟩
      · subst v
        exact ⟨[c], [], rfl, ⟨u, .inl ⟨rfl, w⟩⟩, .inl rfl⟩
      · rw [lkF_bit] at v
        rcases v with v | ⟨v1, v2⟩
        · have hr := ho q a b r v
          obtain ⟨y, z, e, s, t⟩ := (ih r hr.1 hr.2).1 w
          exact ⟨c :: y, z, by rw [e]; rfl, ⟨u, .inr ⟨r, v, s⟩⟩, t⟩
        · exact ⟨[c], cs, rfl, ⟨u, .inl ⟨rfl, v1⟩⟩, .inr ⟨r, v2, w⟩⟩
    · rintro ⟨y, z, e, s, t⟩
      cases y with
      | nil => exact s.elim
      | cons d y =>
        simp only [List.cons_append, List.cons.injEq] at e
        obtain ⟨rfl, rfl⟩ := e
        obtain ⟨u, ⟨v, v2⟩ | ⟨r, v, v2⟩⟩ := s
        · subst v
          rcases t with t1 | ⟨r, t1, t2⟩
          · subst t1
            exact ⟨u, .inl ⟨rfl, v2⟩⟩
          · exact ⟨u, .inr ⟨r, (lkF_bit _ _ _ _ _).2 (.inr ⟨v2, t1⟩), t2⟩⟩
        · have hr := ho q a b r v
          exact ⟨u, .inr ⟨r, (lkF_bit _ _ _ _ _).2 (.inl v), (ih r hr.1 hr.2).2 ⟨y, z, rfl, v2, t⟩⟩⟩

theorem rd_ne {B F : Nat → Nat} {l q : Nat} {x : List Nat} (h : rd B F l q x) : x ≠ [] := by
  rintro rfl; exact h.elim

theorem loop_pow {B F : Nat → Nat} {lo hi : Nat} {e : Bool} {f l : Nat} {L : Lang} (h : Part B F lo hi e f l L) :
    ∀ (n : Nat) (x : List Nat), x.length ≤ n → (∃ q, f.testBit q = true ∧ rd B (lkF F l f) l q x) → ∃ m, lPow L (m + 1) x := by
  intro n
  induction n with
  | zero =>
    rintro x hx ⟨q, _, hr⟩
    exact absurd (List.eq_nil_of_length_eq_zero (by omega)) (rd_ne hr)
  | succ n ih =>
    rintro x hx ⟨q, hq, hr⟩
    have hi := h.fi q hq
    obtain ⟨y, z, e1, s, t⟩ := (rd_loop h.fi h.fo x q hi.1 hi.2).1 hr
    have hL : L y := (h.eq y).1 (.inr ⟨q, hq, s⟩)
    have hy : 0 < y.length := List.length_pos_iff.2 (rd_ne s)
    rcases t with t | t
    · subst t
      exact ⟨0, y, [], e1, hL, rfl⟩
    · have hz : z.length ≤ n := by have := congrArg List.length e1; simp at this; omega
      obtain ⟨m, hm⟩ := ih z hz t
      exact ⟨m + 1, y, z, e1, hL, hm⟩

theorem pow_loop {B F : Nat → Nat} {lo hi : Nat} {e : Bool} {f l : Nat} {L : Lang} (h : Part B F lo hi e f l L) :
    ∀ (n : Nat) (x : List Nat), lPow L (n + 1) x → lang B (lkF F l f) e f l x := by
  intro n
  induction n with
  | zero =>
    rintro x ⟨y, z, rfl, hy, hz⟩
    have hz' : z = [] := hz
    subst hz'
    rw [List.append_nil]
    rw [← h.eq] at hy
    rcases hy with hy | ⟨q, hq, hr⟩
    · exact .inl hy
    · have hi := h.fi q hq
      exact .inr ⟨q, hq, (rd_loop h.fi h.fo y q hi.1 hi.2).2 ⟨y, [], by simp, hr, .inl rfl⟩⟩
  | succ n ih =>
    rintro x ⟨y, z, rfl, hy, hz⟩
    have hz' := ih z hz
    rw [← h.eq] at hy
    rcases hy with ⟨hy1, hy2⟩ | ⟨q, hq, hr⟩
    · subst hy1; exact hz'
    · have hi := h.fi q hq
      refine .inr ⟨q, hq, (rd_loop h.fi h.fo _ q hi.1 hi.2).2 ⟨y, z, rfl, hr, ?_⟩⟩
      rcases hz' with ⟨a, _⟩ | a
      · exact .inl a
      · exact .inr a

theorem loop_fo {B F : Nat → Nat} {lo hi : Nat} {e : Bool} {f l : Nat} {L : Lang} (h : Part B F lo hi e f l L) (q : Nat) (a : lo ≤ q) (b : q < hi) : In lo hi (lkF F l f q) := by
  intro r hr
  rcases (lkF_bit _ _ _ _ _).1 hr with c | ⟨_, c⟩
  · exact h.fo q a b r c
  · exact h.fi r c

theorem Part.plus {B F : Nat → Nat} {lo hi : Nat} {e : Bool} {f l : Nat} {L : Lang} (h : Part B F lo hi e f l L) : Part B (lkF F l f) lo hi e f l (lPlus L) := by
  refine ⟨h.fi, h.la, loop_fo h, fun x => ⟨?_, ?_⟩⟩
  · rintro (⟨a, b⟩ | a)
    · subst a
      exact ⟨0, [], [], rfl, (h.eq _).1 (.inl ⟨rfl, b⟩), rfl⟩
    · exact loop_pow h x.length x (Nat.le_refl _) a
  · rintro ⟨n, hn⟩; exact pow_loop h n x hn
theorem Part.star {B F : Nat → Nat} {lo hi : Nat} {e : Bool} {f l : Nat} {L : Lang} (h : Part B F lo hi e f l L) : Part B (lkF F l f) lo hi true f l (lStar L) := by
  refine ⟨h.fi, h.la, loop_fo h, fun x => ⟨?_, ?_⟩⟩
  · rintro (⟨a, _⟩ | a)
    · exact ⟨0, a⟩
    · obtain ⟨m, hm⟩ := loop_pow h x.length x (Nat.le_refl _) a
      exact ⟨m + 1, hm⟩
  · rintro ⟨n, hn⟩
    cases n with
    | zero => exact .inl ⟨hn, rfl⟩
    | succ n =>
      rcases pow_loop h n x hn with ⟨a, _⟩ | a
      · exact .inl ⟨a, rfl⟩
      · exact .inr a
theorem Part.opt {B F : Nat → Nat} {lo hi : Nat} {e : Bool} {f l : Nat} {L : Lang} (h : Part B F lo hi e f l L) : Part B F lo hi true f l (lOpt L) := by
  refine ⟨h.fi, h.la, h.fo, fun x => ?_⟩
  unfold lOpt
  rw [← h.eq x]
  constructor
  · rintro (⟨a, _⟩ | a)
    · exact .inl a
    · exact .inr (.inr a)
  · rintro (a | ⟨a, _⟩ | a)
    · exact .inl ⟨a, rfl⟩
    · exact .inl ⟨a, rfl⟩
    · exact .inr a
end Go.Proofs.Ytbjdkbcfpmeneaa

/- What is proved here: what the method link of the positions does. -/
namespace Go.Proofs.Ytbjdkbcfpmeneaa
set_option linter.unusedVariables false
set_option linter.unusedSimpArgs false
open Go.RowKit

theorem union2 (a b g : Nat) (w : World) (h : w.heap[g]? = some (.cells #[.int .u64 (wd a 0), .int .u64 (wd a 1), .int .u64 (wd a 2), .int .u64 (wd a 3), .int .u64 (wd b 0), .int .u64 (wd b 1), .int .u64 (wd b 2), .int .u64 (wd b 3)] 62 (0, 0))) :
    Calls Try.prog 54 #[.slice (some ⟨g, 0, none⟩) 2 2] w fun e w' => e = .returned (setV (a ||| b)) ∧ Below w.heap.size w w' := by
  refine (union_any g 2 2 [a, b] w rfl (by decide) ?_ (lt_of_block h)).mono ?_
  · intro j hj i hi
    rw [cell_of_block h]
    have hj' : j = 0 ∨ j = 1 := by omega
    have hi' : i = 0 ∨ i = 1 ∨ i = 2 ∨ i = 3 := by omega
    rcases hj' with rfl | rfl <;> rcases hi' with rfl | rfl | rfl | rfl <;> rfl
  · rintro _ w' ⟨rfl, hb⟩
    exact ⟨by simp, hb⟩

def lk (e st n x : Nat) : Nat := if e.testBit n then x ||| st else x
def linkTo (e st : Nat) : Nat → List Nat → List Nat
  | 0, fs => fs
  | k + 1, fs => (linkTo e st k fs).set k (lk e st k ((linkTo e st k fs).getD k 0))
def linkL (e st : Nat) (fs : List Nat) : List Nat := linkTo e st fs.length fs
theorem linkTo_len (e st : Nat) (fs : List Nat) : ∀ k, (linkTo e st k fs).length = fs.length
  | 0 => rfl
  | k + 1 => by rw [linkTo, List.length_set]; exact linkTo_len e st fs k

theorem flat_set (l : List Nat) (k v : Nat) (hk : k < l.length) : flat (l.set k v) = ((((flat l).set (k * 4) (.int .u64 (wd v 0))).set (k * 4 + 1) (.int .u64 (wd v 1))).set (k * 4 + 2) (.int .u64 (wd v 2))).set (k * 4 + 3) (.int .u64 (wd v 3)) := by
  induction l generalizing k with
  | nil => simp at hk
  | cons a l ih =>
    have e : ∀ (x : Nat) (m : List Nat), flat (x :: m) = .int .u64 (wd x 0) :: .int .u64 (wd x 1) :: .int .u64 (wd x 2) :: .int .u64 (wd x 3) :: flat m := fun x m => by simp [flat]
    cases k with
    | zero => rw [List.set_cons_zero, e, e]; simp
    | succ k =>
      rw [List.set_cons_succ, e, e, ih k (by simpa using hk)]
      have h4 : (k + 1) * 4 = k * 4 + 4 := by omega
      rw [h4]
      simp [List.set_cons_succ, Nat.add_assoc]

theorem PosAt.row {w : World} {p g N cap : Nat} {bs L : List Nat} {vb : Value} (h : PosAt w p bs L vb (.slice (some ⟨g, 0, none⟩) N cap)) (hl : L.length = N) (k : Nat) (hk : k < N) :
    w.cell? ⟨g, k * 4, none⟩ = some (.int .u64 (wd (L.getD k 0) 0)) ∧ w.cell? ⟨g, k * 4 + 1, none⟩ = some (.int .u64 (wd (L.getD k 0) 1)) ∧ w.cell? ⟨g, k * 4 + 2, none⟩ = some (.int .u64 (wd (L.getD k 0) 2)) ∧ w.cell? ⟨g, k * 4 + 3, none⟩ = some (.int .u64 (wd (L.getD k 0) 3)) ∧
    w.frozen? ⟨g, k * 4, none⟩ = false ∧ w.frozen? ⟨g, k * 4 + 1, none⟩ = false ∧ w.frozen? ⟨g, k * 4 + 2, none⟩ = false ∧ w.frozen? ⟨g, k * 4 + 3, none⟩ = false := by
  have ho : w.ownsRow 0 62 4 (.slice (some ⟨g, 0, none⟩) N cap) N (flat L) := by have := h.of; rw [hl] at this; exact this
  have c : ∀ i < 4, w.cell? ⟨g, k * 4 + i, none⟩ = some (.int .u64 (wd (L.getD k 0) i)) := fun i hi => by
    rw [ho.cellAt (k * 4 + i) (by omega)]; exact flat_get L k (by omega) i hi
  exact ⟨c 0 (by omega), c 1 (by omega), c 2 (by omega), c 3 (by omega), ho.frozenAt _, ho.frozenAt _, ho.frozenAt _, ho.frozenAt _⟩

theorem Kp.set4' {xs : List Nat} {w w1 : World} (h : Kp xs w w1) {b : Nat} (hb : b ∈ xs ∨ w.heap.size ≤ b) (k : Nat) (v0 v1 v2 v3 : Value) :
    Kp xs w ((((w1.setCell ⟨b, k, none⟩ v0).setCell ⟨b, k + 1, none⟩ v1).setCell ⟨b, k + 2, none⟩ v2).setCell ⟨b, k + 3, none⟩ v3) := (((h.set hb _ _).set hb _ _).set hb _ _).set hb _ _
theorem PosAt.store {w : World} {p g N cap : Nat} {bs L : List Nat} {vb : Value} (h : PosAt w p bs L vb (.slice (some ⟨g, 0, none⟩) N cap)) (hl : L.length = N) (k : Nat) (hk : k < N) (v : Nat) :
    PosAt ((((w.setCell ⟨g, k * 4, none⟩ (.int .u64 (wd v 0))).setCell ⟨g, k * 4 + 1, none⟩ (.int .u64 (wd v 1))).setCell ⟨g, k * 4 + 2, none⟩ (.int .u64 (wd v 2))).setCell ⟨g, k * 4 + 3, none⟩ (.int .u64 (wd v 3))) p bs (L.set k v) vb (.slice (some ⟨g, 0, none⟩) N cap) := by
  have kk := (Kp.refl [g] w).set4' (b := g) (.inl (by simp)) (k * 4) (.int .u64 (wd v 0)) (.int .u64 (wd v 1)) (.int .u64 (wd v 2)) (.int .u64 (wd v 3))
  have hgp : g ≠ p := fun e => h.nf (by rw [← e]; rfl)
  have ho : w.ownsRow 0 62 4 (.slice (some ⟨g, 0, none⟩) N cap) N (flat L) := by have := h.of; rw [hl] at this; exact this
  refine ⟨kk.keep h.blk (by simp; exact fun e => hgp e.symm), owns_kp h.ob kk (fun q e hm => by simp at hm; subst hm; exact h.ne _ e rfl), ?_, by rw [List.length_set]; exact h.len, h.nb, h.nf, h.ne⟩
  rw [List.length_set, hl, flat_set L k v (by omega)]
  exact ((((ho.stored _ _).1.stored _ _).1.stored _ _).1.stored _ _).1

set_option maxRecDepth 100000 in
set_option maxHeartbeats 4000000 in
theorem link_some (p e st g cap : Nat) (bs fs : List Nat) (vb : Value) (w : World) (h : PosAt w p bs fs vb (.slice (some ⟨g, 0, none⟩) fs.length cap)) (hn : fs.length ≤ 200) :
    Calls Try.prog 86 #[.pointer (some ⟨p, 0, none⟩), setV e, setV st] w fun x w' => x = .returned (.tuple #[]) ∧ PosAt w' p bs (linkL e st fs) vb (.slice (some ⟨g, 0, none⟩) fs.length cap) ∧ Kp (foot p vb (.slice (some ⟨g, 0, none⟩) fs.length cap)) w w' := by
  have hp := lt_of_block h.blk
  have hpne : p ≠ w.heap.size := by omega
  have hpne1 : p ≠ w.heap.size + 1 := by omega
  obtain ⟨c0, c1, f0, f1⟩ := two h.blk
  have HP : Hid _ := h
  have hg : g < w.heap.size := h.lt g (foot_mem.2 (.inr (.inr rfl)))
  generalize hN : fs.length = N at *
  have HN := hide hN
  clear h hN
  go_enter Try.func86, Try.ntmps86
  go_wp2_with fail
  go_loopw [12] (fun i w' => ∃ k : Nat, k ≤ N ∧ i = .int .i64 k ∧ PosAt w' p bs (linkTo e st k fs) vb (.slice (some ⟨g, 0, none⟩) N cap) ∧ Kp (foot p vb (.slice (some ⟨g, 0, none⟩) N cap)) w w' ∧
      w'.heap[w.heap.size]? = some (.cells #[.int .u64 (wd e 0), .int .u64 (wd e 1), .int .u64 (wd e 2), .int .u64 (wd e 3)] 62 (0, 0)) ∧
      w'.heap[w.heap.size + 1]? = some (.cells #[.int .u64 (wd st 0), .int .u64 (wd st 1), .int .u64 (wd st 2), .int .u64 (wd st 3)] 62 (0, 0)))
    (fun i _ => N - (intOf i).toNat)
  case atStart =>
    refine ⟨0, by omega, rfl, HP.out.kp (((Kp.refl [] w).alloc _).alloc _) (by simp), ((Kp.refl _ w).alloc _).alloc _, ?_, ?_⟩
    · simp only [blk_alloc, size_alloc]; simp
    · simp only [blk_alloc, size_alloc]; simp
  case round =>
    obtain ⟨k, hk, rfl, P, kp, be, bst⟩ := hrel
    have PK := hide P
    have BE := hide be
    have BS := hide bst
    have lr : w.heap.size + 1 < wr.heap.size := lt_of_block bst
    have hkp := hide kp
    obtain ⟨pc0, pc1, pf0, pf1⟩ := two P.blk
    obtain ⟨ec0, ec1, ec2, ec3, _⟩ := four be
    obtain ⟨sc0, sc1, sc2, sc3, _⟩ := four bst
    have hlen := linkTo_len e st fs k
    rw [HN.out] at hlen
    have HLEN := hide hlen
    clear c0 c1 f0 f1 P be bst hlen kp
    by_cases hlt : k < N
    · have hu8 : IntKind.u8.wrap (k : Int) = k := by simp [IntKind.wrap, IntKind.bits, IntKind.signed]; omega
      have hlt' : (k : Int) < N := by omega
      go_wp2_with fail
      refine (has_any e k _ (by omega)).mono ?_
      rintro _ w1 ⟨rfl, h1⟩
      by_cases hb : e.testBit k
      · have HB := hide hb
        have K1 := hide (hkp.out.below h1)
        have P1 := PK.out.kp ((Kp.refl [] wr).below h1) (by simp)
        have be1 := bkeep h1 BE.out
        have bs1 := bkeep h1 BS.out
        generalize hL : linkTo e st k fs = L at *
        have HL := hide hL
        clear hb hL pc0 pc1 pf0 pf1 ec0 ec1 ec2 ec3 sc0 sc1 sc2 sc3
        obtain ⟨g0, g1, g2, g3, gf0, gf1, gf2, gf3⟩ := P1.row HLEN.out k hlt
        have HRow : Hid (∀ w', PosAt w' p bs L vb (.slice (some ⟨g, 0, none⟩) N cap) → _) := fun w' h' => h'.row HLEN.out k hlt
        generalize hX : L.getD k 0 = X at *
        have HX := hide hX
        obtain ⟨pc0, pc1, pf0, pf1⟩ := two P1.blk
        obtain ⟨sc0, sc1, sc2, sc3, _⟩ := four bs1
        have l1 := lt_of_block bs1
        have n1 : p < w1.heap.size := by omega
        have n2 : g < w1.heap.size := by omega
        have P1H := hide P1
        have BE1 := hide be1
        have BS1 := hide bs1
        clear P1 be1 bs1 hX
        rw [HB.out]
        go_wp2_with fail
        go_region_with ((go_at_call 54; refine (union2 X st _ _ (by rw [blk_drew, blk_alloc, if_pos rfl])).mono ?_; rintro _ w2 ⟨rfl, h2⟩; have P2 := P1H.out.kp ((((Kp.refl [] w1).alloc _).drew).below h2) (by simp); obtain ⟨_, x1, _⟩ := two P2.blk; obtain ⟨y0, y1, y2, y3, yf0, yf1, yf2, yf3⟩ := HRow.out _ P2; have P2H := hide P2; clear P2))
        all_goals
          have P4 : PosAt ((((w2.setCell ⟨g, k * 4, none⟩ (.int .u64 (wd (X ||| st) 0))).setCell ⟨g, k * 4 + 1, none⟩ (.int .u64 (wd (X ||| st) 1))).setCell ⟨g, k * 4 + 2, none⟩ (.int .u64 (wd (X ||| st) 2))).setCell ⟨g, k * 4 + 3, none⟩ (.int .u64 (wd (X ||| st) 3))) p bs (linkTo e st (k + 1) fs) vb (.slice (some ⟨g, 0, none⟩) N cap) := by
            have e1 : linkTo e st (k + 1) fs = L.set k (X ||| st) := by rw [linkTo, HL.out, HX.out, lk, if_pos HB.out]
            rw [e1]
            exact P2H.out.store HLEN.out k hlt (X ||| st)
          have K4 := (((K1.out.alloc (.cells #[.int .u64 (wd X 0), .int .u64 (wd X 1), .int .u64 (wd X 2), .int .u64 (wd X 3), .int .u64 (wd st 0), .int .u64 (wd st 1), .int .u64 (wd st 2), .int .u64 (wd st 3)] 62)).drew).below h2).set4' (b := g) (.inl (foot_mem.2 (.inr (.inr rfl)))) (k * 4) (.int .u64 (wd (X ||| st) 0)) (.int .u64 (wd (X ||| st) 1)) (.int .u64 (wd (X ||| st) 2)) (.int .u64 (wd (X ||| st) 3))
          go_wp2
          refine ⟨⟨k + 1, by omega, by go_num, P4, K4, ?_, ?_⟩, by simp [intOf]; omega⟩
          · simp only [blk_set, if_neg (show w.heap.size ≠ g by omega)]
            exact bkeep h2 (by rw [blk_drew, blk_alloc, if_neg (by omega)]; exact BE1.out)
          · simp only [blk_set, if_neg (show w.heap.size + 1 ≠ g by omega)]
            exact bkeep h2 (by rw [blk_drew, blk_alloc, if_neg (by omega)]; exact BS1.out)
      · have hb' : e.testBit k = false := by simpa using hb
        have HB := hide hb'
        have K1 := hkp.out.below h1
        have P1 := PK.out.kp ((Kp.refl [] wr).below h1) (by simp)
        have be1 := bkeep h1 BE.out
        have bs1 := bkeep h1 BS.out
        clear hb hb'
        rw [HB.out]
        go_wp2
        refine ⟨⟨k + 1, by omega, by go_num, ?_, K1, be1, bs1⟩, by simp [intOf]; omega⟩
        have e1 : linkTo e st (k + 1) fs = linkTo e st k fs := by
          rw [linkTo, lk, if_neg (by simp [HB.out])]
          rw [List.getD_eq_getElem?_getD, List.getElem?_eq_getElem (by rw [HLEN.out]; exact hlt)]
          simp
        rw [e1]; exact P1
    · have hkN : k = N := by omega
      have HK := hide hkN
      clear hkN
      go_wp2
      go_end0
      refine ⟨rfl, ?_, hkp.out⟩
      have := PK.out
      rw [HK.out] at this
      rw [linkL, HN.out]; exact this

theorem link_none (p e st cap : Nat) (a : Option Addr) (bs : List Nat) (vb : Value) (w : World) (h : PosAt w p bs [] vb (.slice a 0 cap)) :
    Calls Try.prog 86 #[.pointer (some ⟨p, 0, none⟩), setV e, setV st] w fun x w' => x = .returned (.tuple #[]) ∧ PosAt w' p bs (linkL e st []) vb (.slice a 0 cap) ∧ Kp (foot p vb (.slice a 0 cap)) w w' := by
  have hp := lt_of_block h.blk
  have hpne : p ≠ w.heap.size := by omega
  have hpne1 : p ≠ w.heap.size + 1 := by omega
  obtain ⟨c0, c1, f0, f1⟩ := two h.blk
  have HP : Hid _ := h
  clear h
  go_enter Try.func86, Try.ntmps86
  go_wp2_with fail
  go_rounds 1
  go_end0
  exact ⟨rfl, HP.out.kp (((Kp.refl [] w).alloc _).alloc _) (by simp), ((Kp.refl _ w).alloc _).alloc _⟩

theorem link_code (p e st : Nat) (bs fs : List Nat) (vb vf : Value) (w : World) (h : PosAt w p bs fs vb vf) (hn : fs.length ≤ 200) :
    Calls Try.prog 86 #[.pointer (some ⟨p, 0, none⟩), setV e, setV st] w fun x w' => x = .returned (.tuple #[]) ∧ PosAt w' p bs (linkL e st fs) vb vf ∧ Kp (foot p vb vf) w w' := by
  rcases h.of.2 with ⟨rfl, e0⟩ | ⟨g, cap, cur, rfl, _⟩
  · have : fs = [] := List.eq_nil_of_length_eq_zero e0
    subst this
    exact link_none p e st 0 none bs vb w h
  · exact link_some p e st g cap bs fs vb w h hn
end Go.Proofs.Ytbjdkbcfpmeneaa
