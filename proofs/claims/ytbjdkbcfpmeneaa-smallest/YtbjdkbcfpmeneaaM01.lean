/- What is proved here: facts about sets of numbers below 256 kept in four words, and about blocks of memory that stay as they were; no program is named. -/
import Derived.WalkKit
import Derived.WalkSpells
import Derived.WalkLawsBesides
import Derived.Test.YtbjdkbcfpmeneaaRows
import Derived.Handy
import Derived.Deep.RegionHeld3
import Derived.ChangeKeysEq
namespace Go.Proofs.Ytbjdkbcfpmeneaa
set_option linter.unusedVariables false
set_option linter.unusedSimpArgs false
open Go.RowKit

/- A set is a number: bit n says whether n is in it. Its i-th word. -/
def wd (s i : Nat) : Int := ((s / 2 ^ (64 * i) % 2 ^ 64 : Nat) : Int)

abbrev setV (s : Nat) : Value := .agg #[.int .u64 (wd s 0), .int .u64 (wd s 1), .int .u64 (wd s 2), .int .u64 (wd s 3)]
abbrev partV (e : Bool) (f l : Nat) : Value := .agg #[.bool e, .int .u64 (wd f 0), .int .u64 (wd f 1), .int .u64 (wd f 2), .int .u64 (wd f 3), .int .u64 (wd l 0), .int .u64 (wd l 1), .int .u64 (wd l 2), .int .u64 (wd l 3)]

theorem wd_nonneg (s i : Nat) : 0 ≤ wd s i := by unfold wd; omega
theorem wd_zero (i : Nat) : wd 0 i = 0 := by unfold wd; simp
theorem wd_or (s t i : Nat) : bits .or .u64 (wd s i) (wd t i) = wd (s ||| t) i := by
  unfold wd
  rw [u64_or_nat _ _ (by have := Nat.mod_lt (s / 2 ^ (64 * i)) (y := 2 ^ 64) (by decide); omega) (by have := Nat.mod_lt (t / 2 ^ (64 * i)) (y := 2 ^ 64) (by decide); omega)]
  congr 1
  apply Nat.eq_of_testBit_eq
  intro j
  simp only [Nat.testBit_or, Nat.testBit_mod_two_pow, Nat.testBit_div_two_pow]
  by_cases h : j < 64 <;> simp [h]
theorem wd_and (s t i : Nat) : bits .and .u64 (wd s i) (wd t i) = wd (s &&& t) i := by
  unfold wd
  rw [u64_and_nat _ _ (by have := Nat.mod_lt (s / 2 ^ (64 * i)) (y := 2 ^ 64) (by decide); omega) (by have := Nat.mod_lt (t / 2 ^ (64 * i)) (y := 2 ^ 64) (by decide); omega)]
  congr 1
  apply Nat.eq_of_testBit_eq
  intro j
  simp only [Nat.testBit_and, Nat.testBit_mod_two_pow, Nat.testBit_div_two_pow]
  by_cases h : j < 64 <;> simp [h]
theorem wd_has (s n : Nat) : (bits .and .u64 (wd s (n / 64) / 2 ^ (n % 64)) 1 == 1) = s.testBit n := by
  have e : wd s (n / 64) / 2 ^ (n % 64) = ((s / 2 ^ (64 * (n / 64)) % 2 ^ 64 / 2 ^ (n % 64) : Nat) : Int) := by unfold wd; simp
  rw [e, show (1 : Int) = ((1 : Nat) : Int) from rfl, u64_and_nat _ _ ?_ (by decide)]
  · rw [Nat.and_one_is_mod]
    have hb : (s / 2 ^ (64 * (n / 64)) % 2 ^ 64 / 2 ^ (n % 64) % 2 = 1) ↔ s.testBit n = true := by
      have : s.testBit n = (s / 2 ^ (64 * (n / 64)) % 2 ^ 64).testBit (n % 64) := by
        rw [Nat.testBit_mod_two_pow, Nat.testBit_div_two_pow]
        have : n % 64 < 64 := Nat.mod_lt _ (by decide)
        simp [this]
        congr 1; omega
      rw [this, Nat.testBit_eq_decide_div_mod_eq]
      simp
    rw [Bool.eq_iff_iff, beq_iff_eq, ← hb]
    omega
  · have h1 := Nat.mod_lt (s / 2 ^ (64 * (n / 64))) (y := 2 ^ 64) (by decide)
    have h2 := Nat.div_le_self (s / 2 ^ (64 * (n / 64)) % 2 ^ 64) (2 ^ (n % 64))
    omega

/- Blocks of memory. -/
theorem cell_of_block {w : World} {b : Nat} {c : Array Value} {e : TypeId} (h : w.heap[b]? = some (.cells c e (0, 0))) (i : Nat) : w.cell? ⟨b, i, none⟩ = c[i]? := by
  simp [World.cell?, h]
theorem frozen_of_block {w : World} {b : Nat} {c : Array Value} {e : TypeId} (h : w.heap[b]? = some (.cells c e (0, 0))) (i : Nat) : w.frozen? ⟨b, i, none⟩ = false := by
  simp [World.frozen?, h]
theorem lt_of_block {w : World} {b : Nat} {o : Obj} (h : w.heap[b]? = some o) : b < w.heap.size := by
  rcases Nat.lt_or_ge b w.heap.size with hlt | hge
  · exact hlt
  · rw [Array.getElem?_eq_none hge] at h; cases h
def setObj (i : Nat) (v : Value) : Obj → Obj
  | .cells c e f => .cells (c.setIfInBounds i v) e f
  | o => o
theorem setObj_cells (i : Nat) (v : Value) (c : Array Value) (e : TypeId) (f : Nat × Nat) : setObj i v (.cells c e f) = .cells (c.setIfInBounds i v) e f := rfl
theorem blk_alloc (w : World) (o : Obj) (k : Nat) : (w.alloc o).heap[k]? = if k = w.heap.size then some o else w.heap[k]? := by
  show (w.heap.push o)[k]? = _
  rw [Array.getElem?_push]
theorem blk_set (w : World) (b i : Nat) (v : Value) (k : Nat) : (w.setCell ⟨b, i, none⟩ v).heap[k]? = if k = b then (w.heap[k]?).map (setObj i v) else w.heap[k]? := by
  simp only [World.setCell, Array.getElem?_modify]
  by_cases h : b = k
  · subst h
    simp only [if_true]
    cases hk : w.heap[b]? with
    | none => simp
    | some o => cases o <;> simp [setObj]
  · rw [if_neg h, if_neg (fun e => h e.symm)]
theorem blk_drew (w : World) (k : Nat) : w.drew.heap[k]? = w.heap[k]? := rfl
theorem size_alloc (w : World) (o : Obj) : (w.alloc o).heap.size = w.heap.size + 1 := by
  show (w.heap.push o).size = _
  simp
theorem size_set (w : World) (a : Addr) (v : Value) : (w.setCell a v).heap.size = w.heap.size := by simp [World.setCell]
theorem size_drew (w : World) : w.drew.heap.size = w.heap.size := rfl

/- What is said here: how the document reads a pattern: the errors with their places, and what each part of it matches; no program is named. -/

/- The numbers below 256 that s does not have. -/
def comp (s : Nat) : Nat := 2 ^ 256 - (s % 2 ^ 256 + 1)
def spanN (a : Nat) : Nat → Nat
  | 0 => 0
  | k + 1 => if a ≤ k then spanN a k ||| (1 <<< k) else spanN a k

/- The byte at a place, 0 behind the end. -/
def gt (s : ByteArray) (i : Nat) : Nat := (s.data[i]?.getD 0).toNat
theorem gt_lt (s : ByteArray) (i : Nat) : gt s i < 256 := UInt8.toNat_lt _

/- What a reading comes to: an error (0: none), its place, where it ended, what was read. -/
structure PR (α : Type) where
  err : Int
  pl : Int
  j : Nat
  v : α
def bad {α : Type} (s : ByteArray) (e pl : Int) (v : α) : PR α := ⟨e, pl, s.size, v⟩
def good {α : Type} (j : Nat) (v : α) : PR α := ⟨0, 0, j, v⟩

def pOne (s : ByteArray) (i : Nat) : PR Nat :=
  if gt s i = 0 then bad s 4 s.size 0
  else if gt s i = 92 then (if gt s (i + 1) = 0 then bad s 4 s.size 0 else good (i + 2) (gt s (i + 1)))
  else if gt s i = 91 ∨ gt s i = 93 ∨ gt s i = 94 ∨ gt s i = 45 then bad s 5 i 0
  else good (i + 1) (gt s i)

def pItem (s : ByteArray) (i : Nat) : PR Nat :=
  let a := pOne s i
  if a.err ≠ 0 then a
  else if gt s a.j = 45 then
    let b := pOne s (a.j + 1)
    if b.err ≠ 0 then b else if b.v < a.v then bad s 6 i 0 else good b.j (spanN a.v (b.v + 1))
  else good a.j (spanN a.v (a.v + 1))

def pItems (s : ByteArray) : Nat → Nat → Nat → PR Nat
  | 0, _, _ => bad s 99 0 0
  | n + 1, acc, i =>
    let a := pItem s i
    if a.err ≠ 0 then a
    else if gt s a.j = 0 then bad s 4 s.size 0
    else if gt s a.j = 93 then good (a.j + 1) (acc ||| a.v)
    else pItems s n (acc ||| a.v) a.j

def pSet (s : ByteArray) (i : Nat) : PR Nat :=
  if gt s i = 94 then
    let a := pItems s 20 0 (i + 1)
    if a.err ≠ 0 then a else good a.j (comp a.v)
  else pItems s 20 0 i

end Go.Proofs.Ytbjdkbcfpmeneaa

/- What is proved here: what the functions of package sets answer, at every argument. -/
namespace Go.Proofs.Ytbjdkbcfpmeneaa
set_option linter.unusedVariables false
set_option linter.unusedSimpArgs false
open Go.RowKit

set_option maxHeartbeats 400000 in
theorem has_core (a b c d n x : Int) (w : World) (h0 : 0 ≤ n) (h1 : n ≤ 255) (hg : [Value.int IntKind.u64 a, Value.int IntKind.u64 b, Value.int IntKind.u64 c, Value.int IntKind.u64 d][(n / 64).toNat]? = some (.int .u64 x)) :
    Calls Try.prog 61 #[.agg #[.int .u64 a, .int .u64 b, .int .u64 c, .int .u64 d], .int .u8 n] w fun e w' => e = .returned (.bool (bits .and .u64 (x / 2 ^ (n % 64).toNat) 1 == 1)) ∧ Below w.heap.size w w' := by
  go_enter Try.func61, Try.ntmps61
  go_wp2
  go_ret
  exact ⟨rfl, (Below.refl _ _).alloc (Nat.le_refl _) _⟩

theorem has_any (s n : Nat) (w : World) (hn : n < 256) :
    Calls Try.prog 61 #[setV s, .int .u8 n] w fun e w' => e = .returned (.bool (s.testBit n)) ∧ Below w.heap.size w w' := by
  have e : ((n : Int) / 64).toNat = n / 64 := by omega
  have e2 : ((n : Int) % 64).toNat = n % 64 := by omega
  refine (has_core _ _ _ _ n (wd s (n / 64)) w (by omega) (by omega) ?_).mono ?_
  · rw [e]
    have : n / 64 = 0 ∨ n / 64 = 1 ∨ n / 64 = 2 ∨ n / 64 = 3 := by omega
    rcases this with h | h | h | h <;> rw [h] <;> rfl
  · rintro _ w' ⟨rfl, h⟩
    rw [e2, wd_has]
    exact ⟨rfl, h⟩

theorem wd_one (n k : Nat) (hk : k < 4) (hq : n / 64 = k) (i : Nat) (_hi : i < 4) : wd (1 <<< n) i = if i = k then ((2 ^ (n % 64) : Nat) : Int) else 0 := by
  unfold wd
  rw [Nat.one_shiftLeft]
  have hn : n = 64 * k + n % 64 := by omega
  have hm : n % 64 < 64 := Nat.mod_lt _ (by decide)
  generalize n % 64 = m at *
  subst hn
  split
  · subst_vars
    congr 1
    rw [Nat.pow_add, Nat.mul_comm, Nat.mul_div_cancel _ (Nat.two_pow_pos _), Nat.mod_eq_of_lt (Nat.pow_lt_pow_right (by decide) hm)]
  · rename_i h
    rcases Nat.lt_or_gt_of_ne h with h | h
    · have : 2 ^ (64 * k + m) = 2 ^ (64 * i) * (2 ^ 64 * 2 ^ (64 * k + m - 64 * i - 64)) := by
        rw [← Nat.pow_add, ← Nat.pow_add]; congr 1; omega
      rw [this, Nat.mul_div_cancel_left _ (Nat.two_pow_pos _), Nat.mul_mod_right]; rfl
    · have : 2 ^ (64 * k + m) < 2 ^ (64 * i) := Nat.pow_lt_pow_right (by decide) (by omega)
      rw [Nat.div_eq_of_lt this]; rfl

set_option maxHeartbeats 400000 in
theorem one_any (n : Nat) (w : World) (hn : n < 256) :
    Calls Try.prog 73 #[.int .u8 n] w fun e w' => e = .returned (setV (1 <<< n)) ∧ Below w.heap.size w w' := by
  have h0 : (0 : Int) ≤ n := by omega
  have h1 : (n : Int) ≤ 255 := by omega
  have hw : IntKind.u64.wrap (2 ^ ((n : Int) % 64).toNat) = ((2 ^ (n % 64) : Nat) : Int) := by
    have e2 : ((n : Int) % 64).toNat = n % 64 := by omega
    have : (2 : Nat) ^ (n % 64) < 2 ^ 64 := Nat.pow_lt_pow_right (by decide) (Nat.mod_lt _ (by decide))
    rw [e2]
    simp only [IntKind.wrap, IntKind.bits, IntKind.signed]
    have e3 : (2 : Int) ^ (n % 64) = ((2 ^ (n % 64) : Nat) : Int) := by simp
    rw [e3]
    generalize (2 : Nat) ^ (n % 64) = z at *
    simp
    omega
  have hq : n / 64 = 0 ∨ n / 64 = 1 ∨ n / 64 = 2 ∨ n / 64 = 3 := by omega
  rcases hq with hq | hq | hq | hq
  all_goals
    have hz : ((n : Int) / 64) = ((n / 64 : Nat) : Int) := by omega
    rw [hq] at hz
    have e0 := wd_one n _ (by decide) hq 0 (by decide)
    have e1 := wd_one n _ (by decide) hq 1 (by decide)
    have e2 := wd_one n _ (by decide) hq 2 (by decide)
    have e3 := wd_one n _ (by decide) hq 3 (by decide)
    simp at e0 e1 e2 e3
    have E : Hid (wd (1 <<< n) 0 = _ ∧ wd (1 <<< n) 1 = _ ∧ wd (1 <<< n) 2 = _ ∧ wd (1 <<< n) 3 = _) := ⟨e0, e1, e2, e3⟩
    clear e0 e1 e2 e3 hq
    go_enter Try.func73, Try.ntmps73
    go_wp2
    refine bodyPost_ret (v := setV (1 <<< n)) ?_ rfl ⟨rfl, ((Below.refl _ _).alloc (Nat.le_refl _) _).alloc (by simp) _⟩
    simp [results, Try.results73, go_sem, E.out.1, E.out.2.1, E.out.2.2.1, E.out.2.2.2]
theorem idx0 (x0 x1 x2 x3 : Value) (w : World) : (Instr.index 62 (.agg #[x0, x1, x2, x3]) (.int .i64 0)).run Try.prog w = .ok x0 w := by kernel_rfl
theorem idx1 (x0 x1 x2 x3 : Value) (w : World) : (Instr.index 62 (.agg #[x0, x1, x2, x3]) (.int .i64 1)).run Try.prog w = .ok x1 w := by kernel_rfl
theorem idx2 (x0 x1 x2 x3 : Value) (w : World) : (Instr.index 62 (.agg #[x0, x1, x2, x3]) (.int .i64 2)).run Try.prog w = .ok x2 w := by kernel_rfl
theorem idx3 (x0 x1 x2 x3 : Value) (w : World) : (Instr.index 62 (.agg #[x0, x1, x2, x3]) (.int .i64 3)).run Try.prog w = .ok x3 w := by kernel_rfl
attribute [local go_sem] idx0 idx1 idx2 idx3 wd_or

set_option maxHeartbeats 400000 in
theorem union_any (g n cap : Nat) (ss : List Nat) (w : World) (hl : ss.length = n) (hcap : n ≤ 1000)
    (hc : ∀ j < n, ∀ i < 4, w.cell? ⟨g, j * 4 + i, none⟩ = some (.int .u64 (wd (ss.getD j 0) i))) (hg : g < w.heap.size) :
    Calls Try.prog 54 #[.slice (some ⟨g, 0, none⟩) n cap] w fun e w' => e = .returned (setV (ss.foldl (· ||| ·) 0)) ∧ Below w.heap.size w w' := by
  have hgne : g ≠ w.heap.size := by omega
  go_enter Try.func54, Try.ntmps54
  go_wp2
  go_loopw [10] (fun i w' => ∃ k : Nat, k ≤ n ∧ i = .int .i64 k ∧ w'.heap[w.heap.size]? = some (.cells #[.int .u64 0, .int .u64 0, .int .u64 0, .int .u64 0] 62 (0, 0))
      ∧ w'.heap[w.heap.size + 1]? = some (.cells #[.int .u64 (wd ((ss.take k).foldl (· ||| ·) 0) 0), .int .u64 (wd ((ss.take k).foldl (· ||| ·) 0) 1), .int .u64 (wd ((ss.take k).foldl (· ||| ·) 0) 2), .int .u64 (wd ((ss.take k).foldl (· ||| ·) 0) 3)] 62 (0, 0)) ∧ Below w.heap.size w w')
    (fun i _ => n - (intOf i).toNat)
  case atStart =>
    refine ⟨0, by omega, rfl, ?_, ?_, ((Below.refl _ _).alloc (Nat.le_refl _) _).alloc (by simp) _⟩
    · simp only [blk_alloc, size_alloc]; simp
    · simp only [blk_alloc, size_alloc]; simp [wd_zero]
  case round =>
    obtain ⟨k, hk, rfl, hb0, hb1, hB⟩ := hrel
    have hs0 := lt_of_block hb0
    have hs1 := lt_of_block hb1
    by_cases hlt : k < n
    · have c0 := hc k hlt 0 (by omega)
      have c1 := hc k hlt 1 (by omega)
      have c2 := hc k hlt 2 (by omega)
      have c3 := hc k hlt 3 (by omega)
      rw [← hB.cell (by exact hg)] at c0 c1 c2 c3
      have hU : (ss.take (k + 1)).foldl (· ||| ·) 0 = (ss.take k).foldl (· ||| ·) 0 ||| ss.getD k 0 := by
        rw [List.take_succ_eq_append_getElem (by omega), List.foldl_append]
        simp [List.getD_eq_getElem?_getD, List.getElem?_eq_getElem (show k < ss.length by omega)]
      have HU : Hid _ := hU
      clear hU
      generalize (ss.take k).foldl (· ||| ·) 0 = U at *
      generalize ss.getD k 0 = V at *
      have d0 := cell_of_block hb1 0
      have d1 := cell_of_block hb1 1
      have d2 := cell_of_block hb1 2
      have d3 := cell_of_block hb1 3
      have f0 := frozen_of_block hb1 0
      have f1 := frozen_of_block hb1 1
      have f2 := frozen_of_block hb1 2
      have f3 := frozen_of_block hb1 3
      simp only [List.getElem?_toArray, List.getElem?_cons_zero, List.getElem?_cons_succ] at d0 d1 d2 d3
      have HB0 : Hid _ := hb0
      have HB1 : Hid _ := hb1
      clear hb0 hb1 hc hl
      simp only [Nat.add_zero] at c0
      go_wp2
      go_rounds 5
      refine ⟨⟨k + 1, by omega, by go_num, ?_, ?_, ?_⟩, by simp [intOf]; omega⟩
      · simp only [blk_alloc, blk_set, size_set, HB0.out]
        simp [Nat.ne_of_lt hs0]
      · rw [HU.out]
        simp only [blk_alloc, blk_set, size_set, HB1.out]
        simp [Nat.ne_of_lt hs1, setObj_cells]
      · exact ((((hB.setCell (by simp) _).setCell (by simp) _).setCell (by simp) _).setCell (by simp) _).alloc (by simp; omega) _
    · have hkn : k = n := by omega
      subst hkn
      rw [List.take_of_length_le (by omega)] at hb1
      generalize hU : ss.foldl (· ||| ·) 0 = U at hb1
      have HU : Hid _ := hU
      clear hU
      have d0 := cell_of_block hb1 0
      have d1 := cell_of_block hb1 1
      have d2 := cell_of_block hb1 2
      have d3 := cell_of_block hb1 3
      have e0 := cell_of_block hb0 0
      have e1 := cell_of_block hb0 1
      have e2 := cell_of_block hb0 2
      have e3 := cell_of_block hb0 3
      have f0 := frozen_of_block hb0 0
      have f1 := frozen_of_block hb0 1
      have f2 := frozen_of_block hb0 2
      have f3 := frozen_of_block hb0 3
      simp only [List.getElem?_toArray, List.getElem?_cons_zero, List.getElem?_cons_succ] at d0 d1 d2 d3 e0 e1 e2 e3
      have HB0 : Hid _ := hb0
      clear hb0 hb1 hc hl
      go_wp2
      refine bodyPost_ret (v := setV U) ?_ rfl ⟨by rw [HU.out], (((hB.setCell (by simp) _).setCell (by simp) _).setCell (by simp) _).setCell (by simp) _⟩
      simp [results, Try.results54, go_sem, e0, e1, e2, e3]

end Go.Proofs.Ytbjdkbcfpmeneaa

/- What is proved here: what Others, Meets and Span of package sets answer, at every argument. -/
namespace Go.Proofs.Ytbjdkbcfpmeneaa
set_option linter.unusedVariables false
set_option linter.unusedSimpArgs false
open Go.RowKit
attribute [local go_sem] idx0 idx1 idx2 idx3

theorem comp_bit (s i : Nat) : (comp s).testBit i = (decide (i < 256) && !s.testBit i) := by
  unfold comp
  rw [Nat.testBit_two_pow_sub_succ (Nat.mod_lt _ (Nat.two_pow_pos _)), Nat.testBit_mod_two_pow]
  by_cases h : i < 256 <;> simp [h]
theorem wd_comp (s i : Nat) (hi : i < 4) : bits .xor .u64 IntKind.u64.max (wd s i) = wd (comp s) i := by
  have e : IntKind.u64.max = ((2 ^ 64 - 1 : Nat) : Int) := by decide
  unfold wd
  rw [e, u64_xor_nat _ _ (by decide) (by have := Nat.mod_lt (s / 2 ^ (64 * i)) (y := 2 ^ 64) (by decide); omega)]
  congr 1
  apply Nat.eq_of_testBit_eq
  intro j
  rw [Nat.testBit_xor, Nat.testBit_two_pow_sub_one, Nat.testBit_mod_two_pow, Nat.testBit_mod_two_pow, Nat.testBit_div_two_pow, Nat.testBit_div_two_pow, comp_bit]
  by_cases h : j < 64
  · have : 64 * i + j < 256 := by omega
    simp [h]
    omega
  · simp [h]

set_option maxHeartbeats 400000 in
theorem others_any (s : Nat) (w : World) :
    Calls Try.prog 94 #[setV s] w fun e w' => e = .returned (setV (comp s)) ∧ Below w.heap.size w w' := by
  have hsg : IntKind.u64.signed = false := rfl
  go_enter Try.func94, Try.ntmps94
  go_wp2
  go_rounds 5
  refine bodyPost_ret (v := setV (comp s)) ?_ rfl ⟨rfl, ((Below.refl _ _).alloc (Nat.le_refl _) _).alloc (by simp) _⟩
  simp [results, Try.results94, go_sem, wd_comp s 0 (by decide), wd_comp s 1 (by decide), wd_comp s 2 (by decide), wd_comp s 3 (by decide)]

theorem wd_none (x : Nat) (h : x < 2 ^ 256) (h0 : wd x 0 = 0) (h1 : wd x 1 = 0) (h2 : wd x 2 = 0) (h3 : wd x 3 = 0) : x = 0 := by
  unfold wd at *
  simp only [Nat.mul_zero, Nat.pow_zero, Nat.div_one, Nat.mul_one, Nat.reduceMul, Nat.reducePow] at *
  omega
theorem wd_some (x i : Nat) (h0 : wd x i ≠ 0) : x ≠ 0 := by
  rintro rfl
  exact h0 (wd_zero i)

set_option maxHeartbeats 400000 in
theorem common_any (s t : Nat) (w : World) :
    Calls Try.prog 45 #[setV s, setV t] w fun e w' => e = .returned (setV (s &&& t)) ∧ Below w.heap.size w w' := by
  go_enter Try.func45, Try.ntmps45
  go_wp2
  go_rounds 5
  refine bodyPost_ret (v := setV (s &&& t)) ?_ rfl ⟨rfl, (((Below.refl _ _).alloc (Nat.le_refl _) _).alloc (by simp) _).alloc (by simp [size_alloc]; omega) _⟩
  simp [results, Try.results45, go_sem, wd_and]

/- Two sets are compared word by word. -/
theorem run_eq_set (x y : Nat) (w : World) (hx : x < 2 ^ 256) (hy : y < 2 ^ 256) : (Op.equalIn 10000 62 (setV x) (setV y)).run Try.prog w = .ok (x == y) w := by
  obtain ⟨i, hi⟩ := info_of_underlying Try.underlying60
  rw [show (10000 : Nat) = 9999 + 1 from rfl, run_equalIn_array w _ _ _ Try.underlying62 hi]
  have hc : Try.prog.cellsOf 60 = 1 := by kernel_rfl
  have p0 : ∀ (a b c d : Value) (w : World), (part 60 #[a, b, c, d] 0).run Try.prog w = .ok a w := fun a b c d w => by simp [part, isAgg, run_underlying Try.underlying60]
  have p1 : ∀ (a b c d : Value) (w : World), (part 60 #[a, b, c, d] 1).run Try.prog w = .ok b w := fun a b c d w => by simp [part, isAgg, run_underlying Try.underlying60]
  have p2 : ∀ (a b c d : Value) (w : World), (part 60 #[a, b, c, d] 2).run Try.prog w = .ok c w := fun a b c d w => by simp [part, isAgg, run_underlying Try.underlying60]
  have p3 : ∀ (a b c d : Value) (w : World), (part 60 #[a, b, c, d] 3).run Try.prog w = .ok d w := fun a b c d w => by simp [part, isAgg, run_underlying Try.underlying60]
  have q : ∀ (a b : Int) (w : World), (Op.equalIn 9999 60 (.int .u64 a) (.int .u64 b)).run Try.prog w = .ok (a == b) w := fun a b w => run_equalIn_int w 9998 _ _ _ a b Try.underlying60
  rw [hc, show List.range 4 = [0, 1, 2, 3] from rfl]
  have key : x = y ↔ wd x 0 = wd y 0 ∧ wd x 1 = wd y 1 ∧ wd x 2 = wd y 2 ∧ wd x 3 = wd y 3 := by
    constructor
    · rintro rfl; exact ⟨rfl, rfl, rfl, rfl⟩
    · unfold wd
      simp only [Nat.mul_zero, Nat.pow_zero, Nat.div_one, Nat.mul_one, Nat.reduceMul, Nat.reducePow] at *
      omega
  by_cases h0 : wd x 0 = wd y 0
  · by_cases h1 : wd x 1 = wd y 1
    · by_cases h2 : wd x 2 = wd y 2
      · by_cases h3 : wd x 3 = wd y 3
        · rw [show (x == y) = true from beq_iff_eq.2 (key.2 ⟨h0, h1, h2, h3⟩)]; simp [Op.eqItems, p0, p1, p2, p3, q, h0, h1, h2, h3]
        · rw [show (x == y) = false from beq_eq_false_iff_ne.2 (fun e => h3 (key.1 e).2.2.2)]; simp [Op.eqItems, p0, p1, p2, p3, q, h0, h1, h2, h3]
      · rw [show (x == y) = false from beq_eq_false_iff_ne.2 (fun e => h2 (key.1 e).2.2.1)]; simp [Op.eqItems, p0, p1, p2, p3, q, h0, h1, h2]
    · rw [show (x == y) = false from beq_eq_false_iff_ne.2 (fun e => h1 (key.1 e).2.1)]; simp [Op.eqItems, p0, p1, p2, p3, q, h0, h1]
  · rw [show (x == y) = false from beq_eq_false_iff_ne.2 (fun e => h0 (key.1 e).1)]; simp [Op.eqItems, p0, p1, p2, p3, q, h0]
theorem run_eq_set0 (x : Nat) (w : World) (hx : x < 2 ^ 256) : (Op.equalIn 10000 62 (setV x) (.agg #[.int .u64 0, .int .u64 0, .int .u64 0, .int .u64 0])).run Try.prog w = .ok (x == 0) w := by
  have h := run_eq_set x 0 w hx (by decide)
  simpa only [setV, wd_zero] using h

set_option maxRecDepth 100000 in
set_option maxHeartbeats 400000 in
theorem meets_any (s t : Nat) (w : World) (hs : s < 2 ^ 256) :
    Calls Try.prog 48 #[setV s, setV t] w fun e w' => e = .returned (.bool (s &&& t != 0)) ∧ Below w.heap.size w w' := by
  have hlt : s &&& t < 2 ^ 256 := Nat.lt_of_le_of_lt Nat.and_le_left hs
  have q := fun w => run_eq_set0 (s &&& t) w hlt
  clear hs hlt
  go_enter Try.func48, Try.ntmps48
  go_wp2_with (go_at_call 45; refine (common_any s t _).mono ?_; rintro _ w2 ⟨rfl, h2⟩)
  go_ret
  exact ⟨rfl, (((Below.refl _ _).alloc (Nat.le_refl _) _).alloc (by simp) _).trans (h2.mono (by simp [size_alloc]; omega))⟩

theorem spanN_self (a : Nat) : ∀ k, k ≤ a → spanN a k = 0
  | 0, _ => rfl
  | k + 1, h => by rw [spanN, if_neg (by omega)]; exact spanN_self a k (by omega)
theorem wrap_pow (k : Nat) : IntKind.u64.wrap (2 ^ (k % 64)) = ((2 ^ (k % 64) : Nat) : Int) := by
  have : (2 : Nat) ^ (k % 64) < 2 ^ 64 := Nat.pow_lt_pow_right (by decide) (Nat.mod_lt _ (by decide))
  simp only [IntKind.wrap, IntKind.bits, IntKind.signed]
  have e3 : (2 : Int) ^ (k % 64) = ((2 ^ (k % 64) : Nat) : Int) := by simp
  rw [e3]
  generalize (2 : Nat) ^ (k % 64) = z at *
  simp
  omega
theorem wd_ins (s k i : Nat) (hi : i < 4) (hk : k < 256) : wd (s ||| 1 <<< k) i = if i = k / 64 then bits .or .u64 (wd s i) (IntKind.u64.wrap (2 ^ (k % 64))) else wd s i := by
  rw [← wd_or, wd_one k (k / 64) (by omega) rfl i hi]
  split
  · rw [wrap_pow]
  · unfold wd
    rw [show (0 : Int) = ((0 : Nat) : Int) from rfl, u64_or_nat _ _ (by have := Nat.mod_lt (s / 2 ^ (64 * i)) (y := 2 ^ 64) (by decide); omega) (by decide), Nat.or_zero]

set_option maxHeartbeats 400000 in
theorem span_any (a b : Nat) (w : World) (ha : a < 256) (hb : b < 256) :
    Calls Try.prog 98 #[.int .u8 a, .int .u8 b] w fun e w' => e = .returned (setV (spanN a (b + 1))) ∧ Below w.heap.size w w' := by
  have ha0 : (a : Int) ≤ 255 := by omega
  have hb0 : (b : Int) ≤ 255 := by omega
  go_enter Try.func98, Try.ntmps98
  go_wp2
  go_loopw [6] (fun i w' => ∃ k : Nat, a ≤ k ∧ k ≤ 256 ∧ (k ≤ b + 1 ∨ k = a) ∧ i = .int .i64 k ∧ w'.heap[w.heap.size]? = some (.cells #[.int .u64 0, .int .u64 0, .int .u64 0, .int .u64 0] 62 (0, 0))
      ∧ w'.heap[w.heap.size + 1]? = some (.cells #[.int .u64 (wd (spanN a k) 0), .int .u64 (wd (spanN a k) 1), .int .u64 (wd (spanN a k) 2), .int .u64 (wd (spanN a k) 3)] 62 (0, 0)) ∧ Below w.heap.size w w')
    (fun i _ => 256 - (intOf i).toNat)
  case atStart =>
    refine ⟨a, by omega, by omega, .inr rfl, rfl, ?_, ?_, ((Below.refl _ _).alloc (Nat.le_refl _) _).alloc (by simp) _⟩
    · simp only [blk_alloc, size_alloc]; simp
    · simp only [blk_alloc, size_alloc, spanN_self a a (Nat.le_refl _)]; simp [wd_zero]
  case round =>
    obtain ⟨k, hak, hk, hkb, rfl, hb0, hb1, hB⟩ := hrel
    have hs0 := lt_of_block hb0
    have hs1 := lt_of_block hb1
    by_cases hlt : k ≤ b
    · have d0 := cell_of_block hb1 0
      have d1 := cell_of_block hb1 1
      have d2 := cell_of_block hb1 2
      have d3 := cell_of_block hb1 3
      have f0 := frozen_of_block hb1 0
      have f1 := frozen_of_block hb1 1
      have f2 := frozen_of_block hb1 2
      have f3 := frozen_of_block hb1 3
      simp only [List.getElem?_toArray, List.getElem?_cons_zero, List.getElem?_cons_succ] at d0 d1 d2 d3
      have HB0 : Hid _ := hb0
      have HB1 : Hid _ := hb1
      clear hb0 hb1
      have hq : k / 64 = 0 ∨ k / 64 = 1 ∨ k / 64 = 2 ∨ k / 64 = 3 := by omega
      have i0 := wd_ins (spanN a k) k 0 (by decide) (by omega)
      have i1 := wd_ins (spanN a k) k 1 (by decide) (by omega)
      have i2 := wd_ins (spanN a k) k 2 (by decide) (by omega)
      have i3 := wd_ins (spanN a k) k 3 (by decide) (by omega)
      have HS : Hid (spanN a (k + 1) = spanN a k ||| 1 <<< k) := by show spanN a (k + 1) = _; rw [spanN, if_pos hak]
      rcases hq with hq | hq | hq | hq
      all_goals
        have hz : ((k : Int) / 64) = ((k / 64 : Nat) : Int) := by omega
        rw [hq] at hz
        simp only [hq] at i0 i1 i2 i3
        have I : Hid (_ ∧ _ ∧ _ ∧ _) := ⟨i0, i1, i2, i3⟩
        clear i0 i1 i2 i3 hq
        go_wp2
        go_region
        all_goals go_wp2
        refine ⟨⟨k + 1, by omega, by omega, .inl (by omega), by go_num, ?_, ?_, (hB.setCell (by simp) _).drew⟩, by simp [intOf]; omega⟩
        · simp only [blk_drew, blk_set, HB0.out]
          simp
        · rw [HS.out, I.out.1, I.out.2.1, I.out.2.2.1, I.out.2.2.2]
          simp only [blk_drew, blk_set, HB1.out]
          simp [setObj_cells]
    · have hfin : spanN a k = spanN a (b + 1) := by
        rcases hkb with h | h
        · rw [show k = b + 1 from by omega]
        · subst h; rw [spanN_self k k (Nat.le_refl _), spanN_self k (b + 1) (by omega)]
      rw [hfin] at hb1
      clear hfin
      generalize hU : spanN a (b + 1) = U at hb1
      have HU : Hid _ := hU
      clear hU
      have d0 := cell_of_block hb1 0
      have d1 := cell_of_block hb1 1
      have d2 := cell_of_block hb1 2
      have d3 := cell_of_block hb1 3
      have e0 := cell_of_block hb0 0
      have e1 := cell_of_block hb0 1
      have e2 := cell_of_block hb0 2
      have e3 := cell_of_block hb0 3
      have f0 := frozen_of_block hb0 0
      have f1 := frozen_of_block hb0 1
      have f2 := frozen_of_block hb0 2
      have f3 := frozen_of_block hb0 3
      simp only [List.getElem?_toArray, List.getElem?_cons_zero, List.getElem?_cons_succ] at d0 d1 d2 d3 e0 e1 e2 e3
      clear hb0 hb1
      go_wp2
      refine bodyPost_ret (v := setV U) ?_ rfl ⟨by rw [HU.out], (((hB.setCell (by simp) _).setCell (by simp) _).setCell (by simp) _).setCell (by simp) _⟩
      simp [results, Try.results98, go_sem, e0, e1, e2, e3]
end Go.Proofs.Ytbjdkbcfpmeneaa
