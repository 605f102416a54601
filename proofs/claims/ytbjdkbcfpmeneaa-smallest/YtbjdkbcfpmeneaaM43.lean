/- What is proved here: how two patterns with | between them are read, and one in brackets alone. No program is named. -/
import Derived.Test.YtbjdkbcfpmeneaaM42
import Derived.Test.YtbjdkbcfpmeneaaM40
import Derived.Test.YtbjdkbcfpmeneaaM20
namespace Go.Proofs.Ytbjdkbcfpmeneaa
set_option linter.unusedVariables false
set_option linter.unusedSimpArgs false

theorem lAlt_assoc (A B C : Lang) : lAlt (lAlt A B) C = lAlt A (lAlt B C) := by
  funext x
  exact propext or_assoc

/- What stands ahead of a | stays. -/
theorem pp_acc (s : ByteArray) (X : Lang) : ∀ (m : Nat) (acc : Lang) (i : Nat), (pp s m 0 acc i).err = 0 → pp s m 0 (lAlt X acc) i = good (pp s m 0 acc i).j (lAlt X (pp s m 0 acc i).v) := by
  intro m
  induction m with
  | zero => intro acc i h; simp [pp, bad] at h
  | succ m ih =>
    intro acc i h
    rw [pp_alt] at h ⊢
    have e := pp_alt s m acc i
    by_cases g : gt s i = 124
    · rw [if_pos g] at h e ⊢
      by_cases h1 : (pp s m 1 lEps (i + 1)).err ≠ 0
      · rw [if_pos h1] at h; exact absurd h h1
      · rw [if_neg h1] at h e ⊢
        rw [e, lAlt_assoc]
        exact ih _ _ h
    · rw [if_neg g] at e ⊢
      rw [e]; rfl

/- A pattern with | behind it is read up to there. -/
theorem sh_cont {a t : ByteArray} {o : Nat} (h : Within a t o) (hz : Nz t) (hle : o + a.size ≤ t.size) : ∀ (m : Nat) (acc : Lang) (i : Nat), i ≤ a.size → 2 * (t.size - (o + i)) + 2 ≤ m → (pp a m 0 acc i).err = 0 → (pp a m 0 acc i).j = a.size → ∀ M M', 2 * (t.size - (o + i)) + 2 ≤ M → 2 * (t.size - (o + a.size)) + 2 ≤ M' →
    pp t M 0 acc (o + i) = pp t M' 0 (pp a m 0 acc i).v (o + a.size) := by
  intro m
  induction m with
  | zero => intro acc i _ _ x; simp [pp, bad] at x
  | succ m ih =>
    intro acc i hi hm hok hj M M' hM hM'
    have ea := pp_alt a m acc i
    by_cases g : gt a i = 124
    · have hl : i < a.size := by have := h.nz i; omega
      have sh := (pp_shape a h.nz m).2.1 lEps (i + 1) (by omega)
      rw [if_pos g] at ea
      by_cases h1 : (pp a m 1 lEps (i + 1)).err = 0
      · obtain ⟨e1, l1⟩ := (sh_pp h m).2.1 lEps (i + 1) (by omega) h1
        obtain ⟨K, rfl⟩ : ∃ K, M = K + 1 := ⟨M - 1, by omega⟩
        have e2 : pp t K 1 lEps (o + i + 1) = good (o + (pp a m 1 lEps (i + 1)).j) (pp a m 1 lEps (i + 1)).v := by
          rw [Nat.add_assoc, ← e1]
          exact (pp_fuel t hz K).2.1 m lEps (o + (i + 1)) (by omega) (by omega) (by omega)
        rw [if_neg (fun q => q h1)] at ea
        rw [ea] at hok hj ⊢
        rw [pp_alt, h.same i hl, if_pos g, e2, if_neg (c := (good (o + (pp a m 1 lEps (i + 1)).j) (pp a m 1 lEps (i + 1)).v).err ≠ 0) (by simp [good])]
        have lt : i + 1 ≤ (pp a m 1 lEps (i + 1)).j := by
          rcases sh with ⟨_, _, q, _⟩ | ⟨q, _⟩
          · exact q
          · exact absurd h1 q
        exact ih _ _ l1 (by omega) hok hj K M' (by omega) hM'
      · rw [if_pos h1] at ea; rw [ea] at hok; exact absurd hok h1
    · rw [if_neg g] at ea
      rw [ea] at hj ⊢
      have ei : i = a.size := hj
      subst ei
      exact (pp_fuel t hz M).1 M' acc _ hle hM hM'

theorem nz_of {t : ByteArray} (hf : ∀ j, j < t.size → 32 ≤ gt t j ∧ gt t j ≤ 126) : Nz t := nz_of_fb t (fb_all t t.size 0 fun j _ h2 => hf j (by omega))

/- a|b. -/
theorem read_bar {a b t : ByteArray} (ha : (readW a).err = 0) (hb : (readW b).err = 0) (hsz : t.size = a.size + b.size + 1) (h16 : t.size ≤ 16) (h : Within a t 0) (hbar : gt t a.size = 124) (h' : Within b t (a.size + 1)) : readW t = good t.size (lAlt (readW a).v (readW b).v) := by
  obtain ⟨_, hza, hfa, a1, a2, a3⟩ := right_of a ha
  obtain ⟨_, hzb, hfb, b1, b2, b3⟩ := right_of b hb
  have hend : gt t t.size = 0 := gt_out t t.size (Nat.le_refl _)
  have hf : ∀ j, j < t.size → 32 ≤ gt t j ∧ gt t j ≤ 126 := by
    intro j hj
    by_cases h1 : j < a.size
    · have := h.same j h1
      rw [Nat.zero_add] at this
      rw [this]
      exact fb_none a a.size 0 hfa j (by omega) (by omega)
    · by_cases h2 : j = a.size
      · rw [h2, hbar]; decide
      · have := h'.same (j - (a.size + 1)) (by omega)
        rw [show a.size + 1 + (j - (a.size + 1)) = j by omega] at this
        rw [this]
        exact fb_none b b.size 0 hfb (j - (a.size + 1)) (by omega) (by omega)
  have hz : Nz t := nz_of hf
  have ac : (pp a 40 1 lEps 0).err = 0 := by
    by_cases x : (pp a 40 1 lEps 0).err = 0
    · exact x
    · unfold aR at a1; rw [if_pos x] at a1; exact absurd a1 x
  have bc : (pp b 40 1 lEps 0).err = 0 := by
    by_cases x : (pp b 40 1 lEps 0).err = 0
    · exact x
    · unfold aR at b1; rw [if_pos x] at b1; exact absurd b1 x
  have ea : aR a 40 0 = pp a 40 0 (pp a 40 1 lEps 0).v (pp a 40 1 lEps 0).j := by unfold aR; rw [if_neg (fun q => q ac)]
  have eb : aR b 40 0 = pp b 40 0 (pp b 40 1 lEps 0).v (pp b 40 1 lEps 0).j := by unfold aR; rw [if_neg (fun q => q bc)]
  obtain ⟨t1, l1⟩ := (sh_pp h 40).2.1 lEps 0 (by omega) ac
  rw [Nat.zero_add, Nat.zero_add] at t1
  have f1 : pp b 39 1 lEps 0 = pp b 40 1 lEps 0 := (pp_fuel b hzb 39).2.1 40 lEps 0 (by omega) (by omega) (by omega)
  obtain ⟨t2, l2⟩ := (sh_pp h' 39).2.1 lEps 0 (by omega) (by rw [f1]; exact bc)
  rw [f1, Nat.add_zero] at t2
  rw [f1] at l2
  have f2 : ∀ acc, pp b 39 0 acc (pp b 40 1 lEps 0).j = pp b 40 0 acc (pp b 40 1 lEps 0).j := fun acc => (pp_fuel b hzb 39).1 40 acc _ l2 (by omega) (by omega)
  have f3 := pp_acc b (readW a).v 40 (pp b 40 1 lEps 0).v (pp b 40 1 lEps 0).j (by rw [← eb]; exact b1)
  rw [← eb, b2] at f3
  have hb0 : gt t (a.size + 1 + b.size) = 0 := by rw [show a.size + 1 + b.size = t.size by omega]; exact hend
  obtain ⟨t3, _⟩ := (sh_pp h' 39).1 (lAlt (readW a).v (pp b 40 1 lEps 0).v) _ l2 (by rw [f2, f3]; rfl) (.inl (by rw [hb0]; decide))
  rw [f2, f3] at t3
  apply readW_of h16 hf
  unfold aR
  rw [t1, if_neg (by simp [good])]
  show pp t 40 0 (pp a 40 1 lEps 0).v (pp a 40 1 lEps 0).j = _
  have c1 := sh_cont h hz (by omega) 40 (pp a 40 1 lEps 0).v (pp a 40 1 lEps 0).j l1 (by omega) (by rw [← ea]; exact a1) (by rw [← ea]; exact a2) 40 40 (by omega) (by omega)
  rw [Nat.zero_add, Nat.zero_add, ← ea, ← a3] at c1
  rw [c1, pp_alt, if_pos hbar, t2, if_neg (by simp [good])]
  show pp t 39 0 (lAlt (readW a).v (pp b 40 1 lEps 0).v) (a.size + 1 + (pp b 40 1 lEps 0).j) = _
  rw [t3, b3]
  show good (a.size + 1 + b.size) (lAlt (readW a).v (aR b 40 0).v) = _
  rw [show a.size + 1 + b.size = t.size by omega]

/- (a). -/
theorem read_paren {a t : ByteArray} (ha : (readW a).err = 0) (hsz : t.size = a.size + 2) (h16 : t.size ≤ 16) (h : InBr a t 1) (hg : gt t 0 = 40) : readW t = good t.size (readW a).v := by
  obtain ⟨_, _, hf, _, _, _⟩ := right_of a ha
  have hend : gt t t.size = 0 := gt_out t t.size (Nat.le_refl _)
  have h1 : pp t 40 1 lEps 0 = good t.size (readW a).v := by
    have at1 := paren_atom (o := 0) h hg ha 38 (by omega) lEps
    rw [show 0 + 1 + a.size + 1 = t.size by omega] at at1
    rw [cat_on (n := 39) lEps hg at1, pReps_end hend]
    show pp t 39 1 (lCat lEps (readW a).v) t.size = _
    rw [lCat_eps, pp1_end hend 38]
  apply readW_of h16
  · intro j hj
    by_cases h0 : j = 0
    · rw [h0, hg]; decide
    · by_cases h1 : j < a.size + 1
      · have := h.same (j - 1) (by omega)
        rw [show 1 + (j - 1) = j by omega] at this
        rw [this]
        exact fb_none a a.size 0 hf (j - 1) (by omega) (by omega)
      · have := h.close; rw [show 1 + a.size = j by omega] at this; rw [this]; decide
  · unfold aR
    rw [h1, if_neg (by simp [good])]
    exact pp0_end hend 39 _

/- The pattern of no bytes. -/
theorem read_empty {t : ByteArray} (h : t.size = 0) : readW t = good 0 lEps := by
  have hend : gt t 0 = 0 := gt_out t 0 (by omega)
  have := readW_of (t := t) (v := lEps) (by omega) (fun j hj => by omega) (by
    unfold aR
    rw [pp1_end hend 39, if_neg (by simp [good])]
    show pp t 40 0 lEps 0 = _
    rw [pp0_end hend 39, h])
  rw [this, h]
end Go.Proofs.Ytbjdkbcfpmeneaa

/- What is proved here: what the patterns match that Composed puts together. No program is named. -/
namespace Go.Proofs.Ytbjdkbcfpmeneaa
set_option linter.unusedVariables false
set_option linter.unusedSimpArgs false

theorem gt_l {x y : ByteArray} {i : Nat} (h : i < x.size) : gt (x ++ y) i = gt x i := by rw [gt_app, if_pos h]
theorem gt_r {x y : ByteArray} {i : Nat} (h : x.size ≤ i) : gt (x ++ y) i = gt y (i - x.size) := by rw [gt_app, if_neg (by omega)]
theorem sz_app (x y : ByteArray) : (x ++ y).size = x.size + y.size := ByteArray.size_append

theorem hits_of {t : ByteArray} {v : Lang} {n : Nat} (h : readW t = good n v) (text : ByteArray) : Hits t text ↔ v (tx text) := by
  unfold Hits
  rw [h]
  exact ⟨fun q => q.2, fun q => ⟨rfl, q⟩⟩

theorem inbr_first {p a u : ByteArray} (hp : p.size = 1) (hz : Nz a) (hu : 0 < u.size) (hg : gt u 0 = 41) : InBr a ((p ++ a) ++ u) 1 := by
  have c : gt ((p ++ a) ++ u) (1 + a.size) = 41 := by
    rw [gt_r (by rw [sz_app]; omega), sz_app, show 1 + a.size - (p.size + a.size) = 0 by omega]; exact hg
  refine ⟨⟨fun i hi => ?_, .inl c, hz⟩, c⟩
  rw [gt_l (by rw [sz_app]; omega), gt_r (by omega), show 1 + i - p.size = i by omega]

/- (a)c. -/
theorem hits_rep {a p q : ByteArray} (hp : p.size = 1 ∧ gt p 0 = 40) (c : Nat) (hq : q.size = 2 ∧ gt q 0 = 41 ∧ gt q 1 = c) (hc : c = 42 ∨ c = 43 ∨ c = 63) (ha : (readW a).err = 0) (h16 : a.size + 3 ≤ 16) (text : ByteArray) :
    Hits (p ++ a ++ q) text ↔ (if c = 42 then lStar (readW a).v else if c = 43 then lPlus (readW a).v else lOpt (readW a).v) (tx text) := by
  obtain ⟨_, hz, _⟩ := right_of a ha
  have hs : (p ++ a ++ q).size = a.size + 3 := by rw [sz_app, sz_app]; omega
  refine hits_of (read_rep ha hs (by omega) (inbr_first hp.1 hz (by omega) hq.2.1) ?_ c ?_ hc _ rfl) text
  · rw [gt_l (by rw [sz_app]; omega), gt_l (by omega)]; exact hp.2
  · rw [gt_r (by rw [sz_app]; omega), sz_app, show a.size + 2 - (p.size + a.size) = 1 by omega]; exact hq.2.2

/- (a)(b). -/
theorem hits_two {a b p q r : ByteArray} (hp : p.size = 1 ∧ gt p 0 = 40) (hq : q.size = 2 ∧ gt q 0 = 41 ∧ gt q 1 = 40) (hr : r.size = 1 ∧ gt r 0 = 41) (ha : (readW a).err = 0) (hb : (readW b).err = 0) (h16 : a.size + b.size + 4 ≤ 16) (text : ByteArray) :
    Hits (p ++ a ++ q ++ b ++ r) text ↔ lCat (readW a).v (readW b).v (tx text) := by
  obtain ⟨_, hz, _⟩ := right_of a ha
  obtain ⟨_, hz', _⟩ := right_of b hb
  have hs : (p ++ a ++ q ++ b ++ r).size = a.size + b.size + 4 := by rw [sz_app, sz_app, sz_app, sz_app]; omega
  have low : ∀ i, i < a.size + 3 → gt (p ++ a ++ q ++ b ++ r) i = gt (p ++ a ++ q) i := fun i hi => by
    rw [gt_l (by rw [sz_app, sz_app, sz_app]; omega), gt_l (by rw [sz_app, sz_app]; omega)]
  have br := inbr_first (u := q) hp.1 hz (by omega) hq.2.1
  have c1 : gt (p ++ a ++ q ++ b ++ r) (1 + a.size) = 41 := by rw [low _ (by omega)]; exact br.close
  have c2 : gt (p ++ a ++ q ++ b ++ r) (a.size + 3 + b.size) = 41 := by
    rw [gt_r (by rw [sz_app, sz_app, sz_app]; omega), sz_app, sz_app, sz_app, show a.size + 3 + b.size - (p.size + a.size + q.size + b.size) = 0 by omega]; exact hr.2
  refine hits_of (read_two ha hb hs (by omega) ⟨⟨fun i hi => by rw [low _ (by omega)]; exact br.same i hi, .inl c1, hz⟩, c1⟩ ?_ ⟨⟨fun i hi => ?_, .inl c2, hz'⟩, c2⟩ ?_) text
  · rw [low _ (by omega), gt_l (by rw [sz_app]; omega), gt_l (by omega)]; exact hp.2
  · rw [gt_l (by rw [sz_app, sz_app, sz_app]; omega), gt_r (by rw [sz_app, sz_app]; omega), sz_app, sz_app, show a.size + 3 + i - (p.size + a.size + q.size) = i by omega]
  · rw [low _ (by omega), gt_r (by rw [sz_app]; omega), sz_app, show a.size + 2 - (p.size + a.size) = 1 by omega]; exact hq.2.2

/- (a)|(b). -/
theorem hits_either {a b p q r : ByteArray} (hp : p.size = 1 ∧ gt p 0 = 40) (hq : q.size = 3 ∧ gt q 0 = 41 ∧ gt q 1 = 124 ∧ gt q 2 = 40) (hr : r.size = 1 ∧ gt r 0 = 41) (ha : (readW a).err = 0) (hb : (readW b).err = 0) (h16 : a.size + b.size + 5 ≤ 16) (text : ByteArray) :
    Hits (p ++ a ++ q ++ b ++ r) text ↔ lAlt (readW a).v (readW b).v (tx text) := by
  obtain ⟨_, hz, _⟩ := right_of a ha
  obtain ⟨_, hz', _⟩ := right_of b hb
  have hs : (p ++ a ++ q ++ b ++ r).size = a.size + b.size + 5 := by rw [sz_app, sz_app, sz_app, sz_app]; omega
  have low : ∀ i, i < a.size + 4 → gt (p ++ a ++ q ++ b ++ r) i = gt (p ++ a ++ q) i := fun i hi => by
    rw [gt_l (by rw [sz_app, sz_app, sz_app]; omega), gt_l (by rw [sz_app, sz_app]; omega)]
  have br := inbr_first (u := q) hp.1 hz (by omega) hq.2.1
  have c1 : gt (p ++ a ++ q ++ b ++ r) (1 + a.size) = 41 := by rw [low _ (by omega)]; exact br.close
  have c2 : gt (p ++ a ++ q ++ b ++ r) (a.size + 4 + b.size) = 41 := by
    rw [gt_r (by rw [sz_app, sz_app, sz_app]; omega), sz_app, sz_app, sz_app, show a.size + 4 + b.size - (p.size + a.size + q.size + b.size) = 0 by omega]; exact hr.2
  refine hits_of (read_either ha hb hs (by omega) ⟨⟨fun i hi => by rw [low _ (by omega)]; exact br.same i hi, .inl c1, hz⟩, c1⟩ ?_ ?_ ⟨⟨fun i hi => ?_, .inl c2, hz'⟩, c2⟩ ?_) text
  · rw [low _ (by omega), gt_l (by rw [sz_app]; omega), gt_l (by omega)]; exact hp.2
  · rw [low _ (by omega), gt_r (by rw [sz_app]; omega), sz_app, show a.size + 2 - (p.size + a.size) = 1 by omega]; exact hq.2.2.1
  · rw [gt_l (by rw [sz_app, sz_app, sz_app]; omega), gt_r (by rw [sz_app, sz_app]; omega), sz_app, sz_app, show a.size + 4 + i - (p.size + a.size + q.size) = i by omega]
  · rw [low _ (by omega), gt_r (by rw [sz_app]; omega), sz_app, show a.size + 3 - (p.size + a.size) = 2 by omega]; exact hq.2.2.2

/- A text's parts. -/
theorem tx_extract (t : ByteArray) (i j : Nat) : tx (t.extract i j) = ((tx t).take j).drop i := by
  unfold tx
  rw [ByteArray.data_extract, Array.toList_extract, List.extract_eq_take_drop, List.map_take, List.map_drop, List.drop_take]
end Go.Proofs.Ytbjdkbcfpmeneaa

/- What is proved here: rules that match the same texts: the same first rule. No program is named. -/
namespace Go.Proofs.Ytbjdkbcfpmeneaa
set_option linter.unusedVariables false
set_option linter.unusedSimpArgs false

theorem lAlt_self (v : Lang) : lAlt v v = v := by
  funext x
  exact propext or_self_iff
theorem lAlt_eps (v : Lang) (h : v []) : lAlt (lAlt lEps v) lEps = v := by
  funext x
  apply propext
  constructor
  · rintro ((e | q) | e)
    · have e' : x = [] := e
      rw [e']; exact h
    · exact q
    · have e' : x = [] := e
      rw [e']; exact h
  · exact fun q => .inl (.inr q)

theorem firstR_congr {L M : Nat → Lang} {n : Nat} {x : List Nat} (h : ∀ i, i < n → (L i x ↔ M i x)) : firstR L n x = firstR M n x := by
  rcases firstR_spec L x n with ⟨a, b⟩ | ⟨i, a, b, c, d⟩
  · rw [a, firstR_of_none fun i hi q => b i hi ((h i hi).2 q)]
  · rw [a, firstR_of b ((h i b).1 c) fun k hk q => d k hk ((h k (by omega)).2 q)]

/- A rule behind all that matches what one of them matches changes nothing. -/
theorem firstR_more {L : Nat → Lang} {n k : Nat} (hk : k < n) {x : List Nat} (h : L n x → L k x) : firstR L (n + 1) x = firstR L n x := by
  rcases firstR_spec L x n with ⟨a, b⟩ | ⟨i, a, b, c, d⟩
  · rw [a]
    refine firstR_of_none fun i hi q => ?_
    by_cases e : i = n
    · rw [e] at q; exact b k hk (h q)
    · exact b i (by omega) q
  · rw [a]
    exact firstR_of (by omega) c d
end Go.Proofs.Ytbjdkbcfpmeneaa
