/- What is proved here: what the functions of package sets answer, at every argument. -/
import Derived.Test.YtbjdkbcfpmeneaaGreatRows
import Derived.Test.YtbjdkbcfpmeneaaGreatBase
import Derived.Handy
namespace Go.Proofs.YtbjdkbcfpmeneaaGreat
set_option linter.unusedVariables false
set_option linter.unusedSimpArgs false
open Go.RowKit

set_option maxHeartbeats 400000 in
theorem has_core (a b c d n x : Int) (w : World) (h0 : 0 ≤ n) (h1 : n ≤ 255) (hg : [Value.int IntKind.u64 a, Value.int IntKind.u64 b, Value.int IntKind.u64 c, Value.int IntKind.u64 d][(n / 64).toNat]? = some (.int .u64 x)) :
    Calls Tryz.prog 51 #[.agg #[.int .u64 a, .int .u64 b, .int .u64 c, .int .u64 d], .int .u8 n] w fun e w' => e = .returned (.bool (bits .and .u64 (x / 2 ^ (n % 64).toNat) 1 == 1)) ∧ Below w.heap.size w w' := by
  go_enter Tryz.func51, Tryz.ntmps51
  go_wp2
  go_ret
  exact ⟨rfl, (Below.refl _ _).alloc (Nat.le_refl _) _⟩

theorem has_any (s n : Nat) (w : World) (hn : n < 256) :
    Calls Tryz.prog 51 #[setV s, .int .u8 n] w fun e w' => e = .returned (.bool (s.testBit n)) ∧ Below w.heap.size w w' := by
  have e : ((n : Int) / 64).toNat = n / 64 := by omega
  have e2 : ((n : Int) % 64).toNat = n % 64 := by omega
  refine (has_core _ _ _ _ n (wd s (n / 64)) w (by omega) (by omega) ?_).mono ?_
  · rw [e]
    have : n / 64 = 0 ∨ n / 64 = 1 ∨ n / 64 = 2 ∨ n / 64 = 3 := by omega
    rcases this with h | h | h | h <;> rw [h] <;> rfl
  · rintro _ w' ⟨rfl, h⟩
    rw [e2, wd_has]
    exact ⟨rfl, h⟩

theorem wd_one (n k : Nat) (hk : k < 4) (hq : n / 64 = k) (i : Nat) (_hi : i < 4) : wd (1 <<< n) i = if i = k then ((2 ^ (n % 64) : Nat) : Int) else 0 := by
  unfold wd
  rw [Nat.one_shiftLeft]
  have hn : n = 64 * k + n % 64 := by omega
  have hm : n % 64 < 64 := Nat.mod_lt _ (by decide)
  generalize n % 64 = m at *
  subst hn
  split
  · subst_vars
    congr 1
    rw [Nat.pow_add, Nat.mul_comm, Nat.mul_div_cancel _ (Nat.two_pow_pos _), Nat.mod_eq_of_lt (Nat.pow_lt_pow_right (by decide) hm)]
  · rename_i h
    rcases Nat.lt_or_gt_of_ne h with h | h
    · have : 2 ^ (64 * k + m) = 2 ^ (64 * i) * (2 ^ 64 * 2 ^ (64 * k + m - 64 * i - 64)) := by
        rw [← Nat.pow_add, ← Nat.pow_add]; congr 1; omega
      rw [this, Nat.mul_div_cancel_left _ (Nat.two_pow_pos _), Nat.mul_mod_right]; rfl
    · have : 2 ^ (64 * k + m) < 2 ^ (64 * i) := Nat.pow_lt_pow_right (by decide) (by omega)
      rw [Nat.div_eq_of_lt this]; rfl

set_option maxHeartbeats 400000 in
theorem one_any (n : Nat) (w : World) (hn : n < 256) :
    Calls Tryz.prog 53 #[.int .u8 n] w fun e w' => e = .returned (setV (1 <<< n)) ∧ Below w.heap.size w w' := by
  have h0 : (0 : Int) ≤ n := by omega
  have h1 : (n : Int) ≤ 255 := by omega
  have hw : IntKind.u64.wrap (2 ^ ((n : Int) % 64).toNat) = ((2 ^ (n % 64) : Nat) : Int) := by
    have e2 : ((n : Int) % 64).toNat = n % 64 := by omega
    have : (2 : Nat) ^ (n % 64) < 2 ^ 64 := Nat.pow_lt_pow_right (by decide) (Nat.mod_lt _ (by decide))
    rw [e2]
    simp only [IntKind.wrap, IntKind.bits, IntKind.signed]
    have e3 : (2 : Int) ^ (n % 64) = ((2 ^ (n % 64) : Nat) : Int) := by simp
    rw [e3]
    generalize (2 : Nat) ^ (n % 64) = z at *
    simp
    omega
  have hq : n / 64 = 0 ∨ n / 64 = 1 ∨ n / 64 = 2 ∨ n / 64 = 3 := by omega
  rcases hq with hq | hq | hq | hq
  all_goals
    have hz : ((n : Int) / 64) = ((n / 64 : Nat) : Int) := by omega
    rw [hq] at hz
    have e0 := wd_one n _ (by decide) hq 0 (by decide)
    have e1 := wd_one n _ (by decide) hq 1 (by decide)
    have e2 := wd_one n _ (by decide) hq 2 (by decide)
    have e3 := wd_one n _ (by decide) hq 3 (by decide)
    simp at e0 e1 e2 e3
    have E : Hid (wd (1 <<< n) 0 = _ ∧ wd (1 <<< n) 1 = _ ∧ wd (1 <<< n) 2 = _ ∧ wd (1 <<< n) 3 = _) := ⟨e0, e1, e2, e3⟩
    clear e0 e1 e2 e3 hq
    go_enter Tryz.func53, Tryz.ntmps53
    go_wp2
    refine bodyPost_ret (v := setV (1 <<< n)) ?_ rfl ⟨rfl, ((Below.refl _ _).alloc (Nat.le_refl _) _).alloc (by simp) _⟩
    simp [results, Tryz.results53, go_sem, E.out.1, E.out.2.1, E.out.2.2.1, E.out.2.2.2]
theorem idx0 (x0 x1 x2 x3 : Value) (w : World) : (Instr.index 65 (.agg #[x0, x1, x2, x3]) (.int .i64 0)).run Tryz.prog w = .ok x0 w := by kernel_rfl
theorem idx1 (x0 x1 x2 x3 : Value) (w : World) : (Instr.index 65 (.agg #[x0, x1, x2, x3]) (.int .i64 1)).run Tryz.prog w = .ok x1 w := by kernel_rfl
theorem idx2 (x0 x1 x2 x3 : Value) (w : World) : (Instr.index 65 (.agg #[x0, x1, x2, x3]) (.int .i64 2)).run Tryz.prog w = .ok x2 w := by kernel_rfl
theorem idx3 (x0 x1 x2 x3 : Value) (w : World) : (Instr.index 65 (.agg #[x0, x1, x2, x3]) (.int .i64 3)).run Tryz.prog w = .ok x3 w := by kernel_rfl
attribute [local go_sem] idx0 idx1 idx2 idx3 wd_or

set_option maxHeartbeats 400000 in
theorem union_any (g n cap : Nat) (ss : List Nat) (w : World) (hl : ss.length = n) (hcap : n ≤ 1000)
    (hc : ∀ j < n, ∀ i < 4, w.cell? ⟨g, j * 4 + i, none⟩ = some (.int .u64 (wd (ss.getD j 0) i))) (hg : g < w.heap.size) :
    Calls Tryz.prog 52 #[.slice (some ⟨g, 0, none⟩) n cap] w fun e w' => e = .returned (setV (ss.foldl (· ||| ·) 0)) ∧ Below w.heap.size w w' := by
  have hgne : g ≠ w.heap.size := by omega
  go_enter Tryz.func52, Tryz.ntmps52
  go_wp2
  go_loopw [10] (fun i w' => ∃ k : Nat, k ≤ n ∧ i = .int .i64 k ∧ w'.heap[w.heap.size]? = some (.cells #[.int .u64 0, .int .u64 0, .int .u64 0, .int .u64 0] 65 (0, 0))
      ∧ w'.heap[w.heap.size + 1]? = some (.cells #[.int .u64 (wd ((ss.take k).foldl (· ||| ·) 0) 0), .int .u64 (wd ((ss.take k).foldl (· ||| ·) 0) 1), .int .u64 (wd ((ss.take k).foldl (· ||| ·) 0) 2), .int .u64 (wd ((ss.take k).foldl (· ||| ·) 0) 3)] 65 (0, 0)) ∧ Below w.heap.size w w')
    (fun i _ => n - (intOf i).toNat)
  case atStart =>
    refine ⟨0, by omega, rfl, ?_, ?_, ((Below.refl _ _).alloc (Nat.le_refl _) _).alloc (by simp) _⟩
    · simp only [blk_alloc, size_alloc]; simp
    · simp only [blk_alloc, size_alloc]; simp [wd_zero]
  case round =>
    obtain ⟨k, hk, rfl, hb0, hb1, hB⟩ := hrel
    have hs0 := lt_of_block hb0
    have hs1 := lt_of_block hb1
    by_cases hlt : k < n
    · have c0 := hc k hlt 0 (by omega)
      have c1 := hc k hlt 1 (by omega)
      have c2 := hc k hlt 2 (by omega)
      have c3 := hc k hlt 3 (by omega)
      rw [← hB.cell (by exact hg)] at c0 c1 c2 c3
      have hU : (ss.take (k + 1)).foldl (· ||| ·) 0 = (ss.take k).foldl (· ||| ·) 0 ||| ss.getD k 0 := by
        rw [List.take_succ_eq_append_getElem (by omega), List.foldl_append]
        simp [List.getD_eq_getElem?_getD, List.getElem?_eq_getElem (show k < ss.length by omega)]
      have HU : Hid _ := hU
      clear hU
      generalize (ss.take k).foldl (· ||| ·) 0 = U at *
      generalize ss.getD k 0 = V at *
      have d0 := cell_of_block hb1 0
      have d1 := cell_of_block hb1 1
      have d2 := cell_of_block hb1 2
      have d3 := cell_of_block hb1 3
      have f0 := frozen_of_block hb1 0
      have f1 := frozen_of_block hb1 1
      have f2 := frozen_of_block hb1 2
      have f3 := frozen_of_block hb1 3
      simp only [List.getElem?_toArray, List.getElem?_cons_zero, List.getElem?_cons_succ] at d0 d1 d2 d3
      have HB0 : Hid _ := hb0
      have HB1 : Hid _ := hb1
      clear hb0 hb1 hc hl
      simp only [Nat.add_zero] at c0
      go_wp2
      go_rounds 5
      refine ⟨⟨k + 1, by omega, by go_num, ?_, ?_, ?_⟩, by simp [intOf]; omega⟩
      · simp only [blk_alloc, blk_set, size_set, HB0.out]
        simp [Nat.ne_of_lt hs0]
      · rw [HU.out]
        simp only [blk_alloc, blk_set, size_set, HB1.out]
        simp [Nat.ne_of_lt hs1, setObj_cells]
      · exact ((((hB.setCell (by simp) _).setCell (by simp) _).setCell (by simp) _).setCell (by simp) _).alloc (by simp; omega) _
    · have hkn : k = n := by omega
      subst hkn
      rw [List.take_of_length_le (by omega)] at hb1
      generalize hU : ss.foldl (· ||| ·) 0 = U at hb1
      have HU : Hid _ := hU
      clear hU
      have d0 := cell_of_block hb1 0
      have d1 := cell_of_block hb1 1
      have d2 := cell_of_block hb1 2
      have d3 := cell_of_block hb1 3
      have e0 := cell_of_block hb0 0
      have e1 := cell_of_block hb0 1
      have e2 := cell_of_block hb0 2
      have e3 := cell_of_block hb0 3
      have f0 := frozen_of_block hb0 0
      have f1 := frozen_of_block hb0 1
      have f2 := frozen_of_block hb0 2
      have f3 := frozen_of_block hb0 3
      simp only [List.getElem?_toArray, List.getElem?_cons_zero, List.getElem?_cons_succ] at d0 d1 d2 d3 e0 e1 e2 e3
      have HB0 : Hid _ := hb0
      clear hb0 hb1 hc hl
      go_wp2
      refine bodyPost_ret (v := setV U) ?_ rfl ⟨by rw [HU.out], (((hB.setCell (by simp) _).setCell (by simp) _).setCell (by simp) _).setCell (by simp) _⟩
      simp [results, Tryz.results52, go_sem, e0, e1, e2, e3]

end Go.Proofs.YtbjdkbcfpmeneaaGreat
