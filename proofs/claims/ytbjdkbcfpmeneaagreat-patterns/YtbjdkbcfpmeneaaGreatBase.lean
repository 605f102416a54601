/- What is proved here: facts about sets of numbers below 256 kept in four words, and about blocks of memory that stay as they were; no program is named. -/
import Derived.WalkKit
import Derived.WalkSpells
import Derived.WalkLawsBesides
namespace Go.Proofs.YtbjdkbcfpmeneaaGreat
set_option linter.unusedVariables false
set_option linter.unusedSimpArgs false
open Go.RowKit

/- A set is a number: bit n says whether n is in it. Its i-th word. -/
def wd (s i : Nat) : Int := ((s / 2 ^ (64 * i) % 2 ^ 64 : Nat) : Int)

abbrev setV (s : Nat) : Value := .agg #[.int .u64 (wd s 0), .int .u64 (wd s 1), .int .u64 (wd s 2), .int .u64 (wd s 3)]
abbrev partV (e : Bool) (f l : Nat) : Value := .agg #[.bool e, .int .u64 (wd f 0), .int .u64 (wd f 1), .int .u64 (wd f 2), .int .u64 (wd f 3), .int .u64 (wd l 0), .int .u64 (wd l 1), .int .u64 (wd l 2), .int .u64 (wd l 3)]

theorem wd_nonneg (s i : Nat) : 0 ≤ wd s i := by unfold wd; omega
theorem wd_zero (i : Nat) : wd 0 i = 0 := by unfold wd; simp
theorem wd_or (s t i : Nat) : bits .or .u64 (wd s i) (wd t i) = wd (s ||| t) i := by
  unfold wd
  rw [u64_or_nat _ _ (by have := Nat.mod_lt (s / 2 ^ (64 * i)) (y := 2 ^ 64) (by decide); omega) (by have := Nat.mod_lt (t / 2 ^ (64 * i)) (y := 2 ^ 64) (by decide); omega)]
  congr 1
  apply Nat.eq_of_testBit_eq
  intro j
  simp only [Nat.testBit_or, Nat.testBit_mod_two_pow, Nat.testBit_div_two_pow]
  by_cases h : j < 64 <;> simp [h]
theorem wd_and (s t i : Nat) : bits .and .u64 (wd s i) (wd t i) = wd (s &&& t) i := by
  unfold wd
  rw [u64_and_nat _ _ (by have := Nat.mod_lt (s / 2 ^ (64 * i)) (y := 2 ^ 64) (by decide); omega) (by have := Nat.mod_lt (t / 2 ^ (64 * i)) (y := 2 ^ 64) (by decide); omega)]
  congr 1
  apply Nat.eq_of_testBit_eq
  intro j
  simp only [Nat.testBit_and, Nat.testBit_mod_two_pow, Nat.testBit_div_two_pow]
  by_cases h : j < 64 <;> simp [h]
theorem wd_has (s n : Nat) : (bits .and .u64 (wd s (n / 64) / 2 ^ (n % 64)) 1 == 1) = s.testBit n := by
  have e : wd s (n / 64) / 2 ^ (n % 64) = ((s / 2 ^ (64 * (n / 64)) % 2 ^ 64 / 2 ^ (n % 64) : Nat) : Int) := by unfold wd; simp
  rw [e, show (1 : Int) = ((1 : Nat) : Int) from rfl, u64_and_nat _ _ ?_ (by decide)]
  · rw [Nat.and_one_is_mod]
    have hb : (s / 2 ^ (64 * (n / 64)) % 2 ^ 64 / 2 ^ (n % 64) % 2 = 1) ↔ s.testBit n = true := by
      have : s.testBit n = (s / 2 ^ (64 * (n / 64)) % 2 ^ 64).testBit (n % 64) := by
        rw [Nat.testBit_mod_two_pow, Nat.testBit_div_two_pow]
        have : n % 64 < 64 := Nat.mod_lt _ (by decide)
        simp [this]
        congr 1; omega
      rw [this, Nat.testBit_eq_decide_div_mod_eq]
      simp
    rw [Bool.eq_iff_iff, beq_iff_eq, ← hb]
    omega
  · have h1 := Nat.mod_lt (s / 2 ^ (64 * (n / 64))) (y := 2 ^ 64) (by decide)
    have h2 := Nat.div_le_self (s / 2 ^ (64 * (n / 64)) % 2 ^ 64) (2 ^ (n % 64))
    omega

/- Blocks of memory. -/
theorem cell_of_block {w : World} {b : Nat} {c : Array Value} {e : TypeId} (h : w.heap[b]? = some (.cells c e (0, 0))) (i : Nat) : w.cell? ⟨b, i, none⟩ = c[i]? := by
  simp [World.cell?, h]
theorem frozen_of_block {w : World} {b : Nat} {c : Array Value} {e : TypeId} (h : w.heap[b]? = some (.cells c e (0, 0))) (i : Nat) : w.frozen? ⟨b, i, none⟩ = false := by
  simp [World.frozen?, h]
theorem lt_of_block {w : World} {b : Nat} {o : Obj} (h : w.heap[b]? = some o) : b < w.heap.size := by
  rcases Nat.lt_or_ge b w.heap.size with hlt | hge
  · exact hlt
  · rw [Array.getElem?_eq_none hge] at h; cases h
def setObj (i : Nat) (v : Value) : Obj → Obj
  | .cells c e f => .cells (c.setIfInBounds i v) e f
  | o => o
theorem setObj_cells (i : Nat) (v : Value) (c : Array Value) (e : TypeId) (f : Nat × Nat) : setObj i v (.cells c e f) = .cells (c.setIfInBounds i v) e f := rfl
theorem blk_alloc (w : World) (o : Obj) (k : Nat) : (w.alloc o).heap[k]? = if k = w.heap.size then some o else w.heap[k]? := by
  show (w.heap.push o)[k]? = _
  rw [Array.getElem?_push]
theorem blk_set (w : World) (b i : Nat) (v : Value) (k : Nat) : (w.setCell ⟨b, i, none⟩ v).heap[k]? = if k = b then (w.heap[k]?).map (setObj i v) else w.heap[k]? := by
  simp only [World.setCell, Array.getElem?_modify]
  by_cases h : b = k
  · subst h
    simp only [if_true]
    cases hk : w.heap[b]? with
    | none => simp
    | some o => cases o <;> simp [setObj]
  · rw [if_neg h, if_neg (fun e => h e.symm)]
theorem blk_drew (w : World) (k : Nat) : w.drew.heap[k]? = w.heap[k]? := rfl
theorem size_alloc (w : World) (o : Obj) : (w.alloc o).heap.size = w.heap.size + 1 := by
  show (w.heap.push o).size = _
  simp
theorem size_set (w : World) (a : Addr) (v : Value) : (w.setCell a v).heap.size = w.heap.size := by simp [World.setCell]
theorem size_drew (w : World) : w.drew.heap.size = w.heap.size := rfl

/- What is said here: how the document reads a pattern: the errors with their places, and what each part of it matches; no program is named. -/

/- The numbers below 256 that s does not have. -/
def comp (s : Nat) : Nat := 2 ^ 256 - (s % 2 ^ 256 + 1)
def spanN (a : Nat) : Nat → Nat
  | 0 => 0
  | k + 1 => if a ≤ k then spanN a k ||| (1 <<< k) else spanN a k

/- The byte at a place, 0 behind the end. -/
def gt (s : ByteArray) (i : Nat) : Nat := (s.data[i]?.getD 0).toNat
theorem gt_lt (s : ByteArray) (i : Nat) : gt s i < 256 := UInt8.toNat_lt _

/- What a reading comes to: an error (0: none), its place, where it ended, what was read. -/
structure PR (α : Type) where
  err : Int
  pl : Int
  j : Nat
  v : α
def bad {α : Type} (s : ByteArray) (e pl : Int) (v : α) : PR α := ⟨e, pl, s.size, v⟩
def good {α : Type} (j : Nat) (v : α) : PR α := ⟨0, 0, j, v⟩

def pOne (s : ByteArray) (i : Nat) : PR Nat :=
  if gt s i = 0 then bad s 4 s.size 0
  else if gt s i = 92 then (if gt s (i + 1) = 0 then bad s 4 s.size 0 else good (i + 2) (gt s (i + 1)))
  else if gt s i = 91 ∨ gt s i = 93 ∨ gt s i = 94 ∨ gt s i = 45 then bad s 5 i 0
  else good (i + 1) (gt s i)

def pItem (s : ByteArray) (i : Nat) : PR Nat :=
  let a := pOne s i
  if a.err ≠ 0 then a
  else if gt s a.j = 45 then
    let b := pOne s (a.j + 1)
    if b.err ≠ 0 then b else if b.v < a.v then bad s 6 i 0 else good b.j (spanN a.v (b.v + 1))
  else good a.j (spanN a.v (a.v + 1))

def pItems (s : ByteArray) : Nat → Nat → Nat → PR Nat
  | 0, _, _ => bad s 99 0 0
  | n + 1, acc, i =>
    let a := pItem s i
    if a.err ≠ 0 then a
    else if gt s a.j = 0 then bad s 4 s.size 0
    else if gt s a.j = 93 then good (a.j + 1) (acc ||| a.v)
    else pItems s n (acc ||| a.v) a.j

def pSet (s : ByteArray) (i : Nat) : PR Nat :=
  if gt s i = 94 then
    let a := pItems s 20 0 (i + 1)
    if a.err ≠ 0 then a else good a.j (comp a.v)
  else pItems s 20 0 i

end Go.Proofs.YtbjdkbcfpmeneaaGreat
