/- What is proved here: what Others, Meets and Span of package sets answer, at every argument. -/
import Derived.Test.YtbjdkbcfpmeneaaGreatRows
import Derived.Test.YtbjdkbcfpmeneaaGreatSets
import Derived.Test.YtbjdkbcfpmeneaaGreatBase
import Derived.Handy
import Derived.Deep.RegionHeld3
import Derived.ChangeKeysEq
namespace Go.Proofs.YtbjdkbcfpmeneaaGreat
set_option linter.unusedVariables false
set_option linter.unusedSimpArgs false
open Go.RowKit
attribute [local go_sem] idx0 idx1 idx2 idx3

theorem comp_bit (s i : Nat) : (comp s).testBit i = (decide (i < 256) && !s.testBit i) := by
  unfold comp
  rw [Nat.testBit_two_pow_sub_succ (Nat.mod_lt _ (Nat.two_pow_pos _)), Nat.testBit_mod_two_pow]
  by_cases h : i < 256 <;> simp [h]
theorem wd_comp (s i : Nat) (hi : i < 4) : bits .xor .u64 IntKind.u64.max (wd s i) = wd (comp s) i := by
  have e : IntKind.u64.max = ((2 ^ 64 - 1 : Nat) : Int) := by decide
  unfold wd
  rw [e, u64_xor_nat _ _ (by decide) (by have := Nat.mod_lt (s / 2 ^ (64 * i)) (y := 2 ^ 64) (by decide); omega)]
  congr 1
  apply Nat.eq_of_testBit_eq
  intro j
  rw [Nat.testBit_xor, Nat.testBit_two_pow_sub_one, Nat.testBit_mod_two_pow, Nat.testBit_mod_two_pow, Nat.testBit_div_two_pow, Nat.testBit_div_two_pow, comp_bit]
  by_cases h : j < 64
  · have : 64 * i + j < 256 := by omega
    simp [h]
    omega
  · simp [h]

set_option maxHeartbeats 400000 in
theorem others_any (s : Nat) (w : World) :
    Calls Tryz.prog 121 #[setV s] w fun e w' => e = .returned (setV (comp s)) ∧ Below w.heap.size w w' := by
  have hsg : IntKind.u64.signed = false := rfl
  go_enter Tryz.func121, Tryz.ntmps121
  go_wp2
  go_rounds 5
  refine bodyPost_ret (v := setV (comp s)) ?_ rfl ⟨rfl, ((Below.refl _ _).alloc (Nat.le_refl _) _).alloc (by simp) _⟩
  simp [results, Tryz.results121, go_sem, wd_comp s 0 (by decide), wd_comp s 1 (by decide), wd_comp s 2 (by decide), wd_comp s 3 (by decide)]

theorem wd_none (x : Nat) (h : x < 2 ^ 256) (h0 : wd x 0 = 0) (h1 : wd x 1 = 0) (h2 : wd x 2 = 0) (h3 : wd x 3 = 0) : x = 0 := by
  unfold wd at *
  simp only [Nat.mul_zero, Nat.pow_zero, Nat.div_one, Nat.mul_one, Nat.reduceMul, Nat.reducePow] at *
  omega
theorem wd_some (x i : Nat) (h0 : wd x i ≠ 0) : x ≠ 0 := by
  rintro rfl
  exact h0 (wd_zero i)

set_option maxHeartbeats 400000 in
theorem common_any (s t : Nat) (w : World) :
    Calls Tryz.prog 37 #[setV s, setV t] w fun e w' => e = .returned (setV (s &&& t)) ∧ Below w.heap.size w w' := by
  go_enter Tryz.func37, Tryz.ntmps37
  go_wp2
  go_rounds 5
  refine bodyPost_ret (v := setV (s &&& t)) ?_ rfl ⟨rfl, (((Below.refl _ _).alloc (Nat.le_refl _) _).alloc (by simp) _).alloc (by simp [size_alloc]; omega) _⟩
  simp [results, Tryz.results37, go_sem, wd_and]

/- Two sets are compared word by word. -/
theorem run_eq_set (x y : Nat) (w : World) (hx : x < 2 ^ 256) (hy : y < 2 ^ 256) : (Op.equalIn 10000 65 (setV x) (setV y)).run Tryz.prog w = .ok (x == y) w := by
  obtain ⟨i, hi⟩ := info_of_underlying Tryz.underlying63
  rw [show (10000 : Nat) = 9999 + 1 from rfl, run_equalIn_array w _ _ _ Tryz.underlying65 hi]
  have hc : Tryz.prog.cellsOf 63 = 1 := by kernel_rfl
  have p0 : ∀ (a b c d : Value) (w : World), (part 63 #[a, b, c, d] 0).run Tryz.prog w = .ok a w := fun a b c d w => by simp [part, isAgg, run_underlying Tryz.underlying63]
  have p1 : ∀ (a b c d : Value) (w : World), (part 63 #[a, b, c, d] 1).run Tryz.prog w = .ok b w := fun a b c d w => by simp [part, isAgg, run_underlying Tryz.underlying63]
  have p2 : ∀ (a b c d : Value) (w : World), (part 63 #[a, b, c, d] 2).run Tryz.prog w = .ok c w := fun a b c d w => by simp [part, isAgg, run_underlying Tryz.underlying63]
  have p3 : ∀ (a b c d : Value) (w : World), (part 63 #[a, b, c, d] 3).run Tryz.prog w = .ok d w := fun a b c d w => by simp [part, isAgg, run_underlying Tryz.underlying63]
  have q : ∀ (a b : Int) (w : World), (Op.equalIn 9999 63 (.int .u64 a) (.int .u64 b)).run Tryz.prog w = .ok (a == b) w := fun a b w => run_equalIn_int w 9998 _ _ _ a b Tryz.underlying63
  rw [hc, show List.range 4 = [0, 1, 2, 3] from rfl]
  have key : x = y ↔ wd x 0 = wd y 0 ∧ wd x 1 = wd y 1 ∧ wd x 2 = wd y 2 ∧ wd x 3 = wd y 3 := by
    constructor
    · rintro rfl; exact ⟨rfl, rfl, rfl, rfl⟩
    · unfold wd
      simp only [Nat.mul_zero, Nat.pow_zero, Nat.div_one, Nat.mul_one, Nat.reduceMul, Nat.reducePow] at *
      omega
  by_cases h0 : wd x 0 = wd y 0
  · by_cases h1 : wd x 1 = wd y 1
    · by_cases h2 : wd x 2 = wd y 2
      · by_cases h3 : wd x 3 = wd y 3
        · rw [show (x == y) = true from beq_iff_eq.2 (key.2 ⟨h0, h1, h2, h3⟩)]; simp [Op.eqItems, p0, p1, p2, p3, q, h0, h1, h2, h3]
        · rw [show (x == y) = false from beq_eq_false_iff_ne.2 (fun e => h3 (key.1 e).2.2.2)]; simp [Op.eqItems, p0, p1, p2, p3, q, h0, h1, h2, h3]
      · rw [show (x == y) = false from beq_eq_false_iff_ne.2 (fun e => h2 (key.1 e).2.2.1)]; simp [Op.eqItems, p0, p1, p2, p3, q, h0, h1, h2]
    · rw [show (x == y) = false from beq_eq_false_iff_ne.2 (fun e => h1 (key.1 e).2.1)]; simp [Op.eqItems, p0, p1, p2, p3, q, h0, h1]
  · rw [show (x == y) = false from beq_eq_false_iff_ne.2 (fun e => h0 (key.1 e).1)]; simp [Op.eqItems, p0, p1, p2, p3, q, h0]
theorem run_eq_set0 (x : Nat) (w : World) (hx : x < 2 ^ 256) : (Op.equalIn 10000 65 (setV x) (.agg #[.int .u64 0, .int .u64 0, .int .u64 0, .int .u64 0])).run Tryz.prog w = .ok (x == 0) w := by
  have h := run_eq_set x 0 w hx (by decide)
  simpa only [setV, wd_zero] using h

set_option maxRecDepth 100000 in
set_option maxHeartbeats 400000 in
theorem meets_any (s t : Nat) (w : World) (hs : s < 2 ^ 256) :
    Calls Tryz.prog 40 #[setV s, setV t] w fun e w' => e = .returned (.bool (s &&& t != 0)) ∧ Below w.heap.size w w' := by
  have hlt : s &&& t < 2 ^ 256 := Nat.lt_of_le_of_lt Nat.and_le_left hs
  have q := fun w => run_eq_set0 (s &&& t) w hlt
  clear hs hlt
  go_enter Tryz.func40, Tryz.ntmps40
  go_wp2_with (go_at_call 37; refine (common_any s t _).mono ?_; rintro _ w2 ⟨rfl, h2⟩)
  go_ret
  exact ⟨rfl, (((Below.refl _ _).alloc (Nat.le_refl _) _).alloc (by simp) _).trans (h2.mono (by simp [size_alloc]; omega))⟩

theorem spanN_self (a : Nat) : ∀ k, k ≤ a → spanN a k = 0
  | 0, _ => rfl
  | k + 1, h => by rw [spanN, if_neg (by omega)]; exact spanN_self a k (by omega)
theorem wrap_pow (k : Nat) : IntKind.u64.wrap (2 ^ (k % 64)) = ((2 ^ (k % 64) : Nat) : Int) := by
  have : (2 : Nat) ^ (k % 64) < 2 ^ 64 := Nat.pow_lt_pow_right (by decide) (Nat.mod_lt _ (by decide))
  simp only [IntKind.wrap, IntKind.bits, IntKind.signed]
  have e3 : (2 : Int) ^ (k % 64) = ((2 ^ (k % 64) : Nat) : Int) := by simp
  rw [e3]
  generalize (2 : Nat) ^ (k % 64) = z at *
  simp
  omega
theorem wd_ins (s k i : Nat) (hi : i < 4) (hk : k < 256) : wd (s ||| 1 <<< k) i = if i = k / 64 then bits .or .u64 (wd s i) (IntKind.u64.wrap (2 ^ (k % 64))) else wd s i := by
  rw [← wd_or, wd_one k (k / 64) (by omega) rfl i hi]
  split
  · rw [wrap_pow]
  · unfold wd
    rw [show (0 : Int) = ((0 : Nat) : Int) from rfl, u64_or_nat _ _ (by have := Nat.mod_lt (s / 2 ^ (64 * i)) (y := 2 ^ 64) (by decide); omega) (by decide), Nat.or_zero]

set_option maxHeartbeats 400000 in
theorem span_any (a b : Nat) (w : World) (ha : a < 256) (hb : b < 256) :
    Calls Tryz.prog 125 #[.int .u8 a, .int .u8 b] w fun e w' => e = .returned (setV (spanN a (b + 1))) ∧ Below w.heap.size w w' := by
  have ha0 : (a : Int) ≤ 255 := by omega
  have hb0 : (b : Int) ≤ 255 := by omega
  go_enter Tryz.func125, Tryz.ntmps125
  go_wp2
  go_loopw [6] (fun i w' => ∃ k : Nat, a ≤ k ∧ k ≤ 256 ∧ (k ≤ b + 1 ∨ k = a) ∧ i = .int .i64 k ∧ w'.heap[w.heap.size]? = some (.cells #[.int .u64 0, .int .u64 0, .int .u64 0, .int .u64 0] 65 (0, 0))
      ∧ w'.heap[w.heap.size + 1]? = some (.cells #[.int .u64 (wd (spanN a k) 0), .int .u64 (wd (spanN a k) 1), .int .u64 (wd (spanN a k) 2), .int .u64 (wd (spanN a k) 3)] 65 (0, 0)) ∧ Below w.heap.size w w')
    (fun i _ => 256 - (intOf i).toNat)
  case atStart =>
    refine ⟨a, by omega, by omega, .inr rfl, rfl, ?_, ?_, ((Below.refl _ _).alloc (Nat.le_refl _) _).alloc (by simp) _⟩
    · simp only [blk_alloc, size_alloc]; simp
    · simp only [blk_alloc, size_alloc, spanN_self a a (Nat.le_refl _)]; simp [wd_zero]
  case round =>
    obtain ⟨k, hak, hk, hkb, rfl, hb0, hb1, hB⟩ := hrel
    have hs0 := lt_of_block hb0
    have hs1 := lt_of_block hb1
    by_cases hlt : k ≤ b
    · have d0 := cell_of_block hb1 0
      have d1 := cell_of_block hb1 1
      have d2 := cell_of_block hb1 2
      have d3 := cell_of_block hb1 3
      have f0 := frozen_of_block hb1 0
      have f1 := frozen_of_block hb1 1
      have f2 := frozen_of_block hb1 2
      have f3 := frozen_of_block hb1 3
      simp only [List.getElem?_toArray, List.getElem?_cons_zero, List.getElem?_cons_succ] at d0 d1 d2 d3
      have HB0 : Hid _ := hb0
      have HB1 : Hid _ := hb1
      clear hb0 hb1
      have hq : k / 64 = 0 ∨ k / 64 = 1 ∨ k / 64 = 2 ∨ k / 64 = 3 := by omega
      have i0 := wd_ins (spanN a k) k 0 (by decide) (by omega)
      have i1 := wd_ins (spanN a k) k 1 (by decide) (by omega)
      have i2 := wd_ins (spanN a k) k 2 (by decide) (by omega)
      have i3 := wd_ins (spanN a k) k 3 (by decide) (by omega)
      have HS : Hid (spanN a (k + 1) = spanN a k ||| 1 <<< k) := by show spanN a (k + 1) = _; rw [spanN, if_pos hak]
      rcases hq with hq | hq | hq | hq
      all_goals
        have hz : ((k : Int) / 64) = ((k / 64 : Nat) : Int) := by omega
        rw [hq] at hz
        simp only [hq] at i0 i1 i2 i3
        have I : Hid (_ ∧ _ ∧ _ ∧ _) := ⟨i0, i1, i2, i3⟩
        clear i0 i1 i2 i3 hq
        go_wp2
        go_region
        all_goals go_wp2
        refine ⟨⟨k + 1, by omega, by omega, .inl (by omega), by go_num, ?_, ?_, (hB.setCell (by simp) _).drew⟩, by simp [intOf]; omega⟩
        · simp only [blk_drew, blk_set, HB0.out]
          simp
        · rw [HS.out, I.out.1, I.out.2.1, I.out.2.2.1, I.out.2.2.2]
          simp only [blk_drew, blk_set, HB1.out]
          simp [setObj_cells]
    · have hfin : spanN a k = spanN a (b + 1) := by
        rcases hkb with h | h
        · rw [show k = b + 1 from by omega]
        · subst h; rw [spanN_self k k (Nat.le_refl _), spanN_self k (b + 1) (by omega)]
      rw [hfin] at hb1
      clear hfin
      generalize hU : spanN a (b + 1) = U at hb1
      have HU : Hid _ := hU
      clear hU
      have d0 := cell_of_block hb1 0
      have d1 := cell_of_block hb1 1
      have d2 := cell_of_block hb1 2
      have d3 := cell_of_block hb1 3
      have e0 := cell_of_block hb0 0
      have e1 := cell_of_block hb0 1
      have e2 := cell_of_block hb0 2
      have e3 := cell_of_block hb0 3
      have f0 := frozen_of_block hb0 0
      have f1 := frozen_of_block hb0 1
      have f2 := frozen_of_block hb0 2
      have f3 := frozen_of_block hb0 3
      simp only [List.getElem?_toArray, List.getElem?_cons_zero, List.getElem?_cons_succ] at d0 d1 d2 d3 e0 e1 e2 e3
      clear hb0 hb1
      go_wp2
      refine bodyPost_ret (v := setV U) ?_ rfl ⟨by rw [HU.out], (((hB.setCell (by simp) _).setCell (by simp) _).setCell (by simp) _).setCell (by simp) _⟩
      simp [results, Tryz.results125, go_sem, e0, e1, e2, e3]
end Go.Proofs.YtbjdkbcfpmeneaaGreat
