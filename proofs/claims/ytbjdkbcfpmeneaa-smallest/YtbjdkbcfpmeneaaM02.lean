/- What is proved here: what the small methods of the pattern reader do. -/
import Derived.Test.YtbjdkbcfpmeneaaRows
import Derived.Test.YtbjdkbcfpmeneaaM01
import Derived.BigQuiet
import Derived.Deep.QuietTactic
import Derived.Lib.Bytealg
import Derived.Deep.MidRow
import Derived.Deep.OwnRows
import Derived.Deep.AppendLies
import Derived.Deep.RegionHeld3
namespace Go.Proofs.Ytbjdkbcfpmeneaa
set_option linter.unusedVariables false
set_option linter.unusedSimpArgs false
open Go.RowKit

/- A reader in its block: the text, the place, the error, its place, the positions' block. -/
abbrev rdO (s : ByteArray) (i : Nat) (e pl : Int) (p : Nat) : Obj := .cells #[.string s, .int .i64 i, .pointer (some ⟨p, 0, none⟩), .int .i64 e, .int .i64 pl] 79 (0, 0)

/- All blocks of w but those listed are as they were. -/
structure Kp (xs : List Nat) (w w' : World) : Prop where
  os : w'.os = w.os
  tape : w'.tape = w.tape
  output : w'.output = w.output
  size : w.heap.size ≤ w'.heap.size
  block : ∀ k, k < w.heap.size → k ∉ xs → w'.heap[k]? = w.heap[k]?
theorem Kp.refl (xs : List Nat) (w : World) : Kp xs w w := ⟨rfl, rfl, rfl, Nat.le_refl _, fun _ _ _ => rfl⟩
theorem Kp.drew {xs : List Nat} {w w1 : World} (h : Kp xs w w1) : Kp xs w w1.drew := ⟨h.os, h.tape, h.output, h.size, h.block⟩
theorem Kp.drewN {xs : List Nat} {w w1 : World} (h : Kp xs w w1) (n : Nat) : Kp xs w (w1.drewN n) := ⟨h.os, h.tape, h.output, h.size, h.block⟩
theorem Kp.ofDrewN {xs : List Nat} {w w1 : World} {n : Nat} (h : Kp xs (w.drewN n) w1) : Kp xs w w1 := ⟨h.os, h.tape, h.output, h.size, h.block⟩
theorem Kp.alloc {xs : List Nat} {w w1 : World} (h : Kp xs w w1) (o : Obj) : Kp xs w (w1.alloc o) :=
  ⟨h.os, h.tape, h.output, by rw [size_alloc]; have := h.size; omega, fun k hk hx => by rw [blk_alloc, if_neg (by have := h.size; omega)]; exact h.block k hk hx⟩
theorem Kp.set {xs : List Nat} {w w1 : World} (h : Kp xs w w1) {b : Nat} (hb : b ∈ xs ∨ w.heap.size ≤ b) (i : Nat) (v : Value) : Kp xs w (w1.setCell ⟨b, i, none⟩ v) :=
  ⟨h.os, h.tape, h.output, by rw [size_set]; exact h.size, fun k hk hx => by
    rw [blk_set, if_neg (fun e => by subst e; rcases hb with hb | hb; exact hx hb; omega)]; exact h.block k hk hx⟩
theorem Kp.trans {xs ys : List Nat} {w w1 w2 : World} (h : Kp xs w w1) (h2 : Kp ys w1 w2) (hy : ∀ y ∈ ys, y ∈ xs ∨ w.heap.size ≤ y) : Kp xs w w2 :=
  ⟨h2.os.trans h.os, h2.tape.trans h.tape, h2.output.trans h.output, Nat.le_trans h.size h2.size, fun k hk hx => by
    rw [h2.block k (by have := h.size; omega) (fun e => by rcases hy k e with e | e; exact hx e; omega)]; exact h.block k hk hx⟩
theorem Kp.below {xs : List Nat} {w w1 w2 : World} (h : Kp xs w w1) (h2 : Below w1.heap.size w1 w2) : Kp xs w w2 :=
  ⟨h2.os.trans h.os, h2.tape.trans h.tape, h2.output.trans h.output, Nat.le_trans h.size h2.size, fun k hk hx => by
    rw [h2.block k (by have := h.size; omega)]; exact h.block k hk hx⟩
theorem Kp.toBelow {w w1 : World} (h : Kp [] w w1) : Below w.heap.size w w1 := ⟨h.os, h.tape, h.output, h.size, fun k hk => h.block k hk (by simp)⟩
theorem Kp.keep {xs : List Nat} {w w1 : World} (h : Kp xs w w1) {b : Nat} {o : Obj} (hb : w.heap[b]? = some o) (hx : b ∉ xs) : w1.heap[b]? = some o := by
  rw [h.block b (lt_of_block hb) hx]; exact hb
theorem bkeep {w w1 : World} (h : Below w.heap.size w w1) {b : Nat} {o : Obj} (hb : w.heap[b]? = some o) : w1.heap[b]? = some o := by
  rw [h.block b (lt_of_block hb)]; exact hb

theorem Kp.set4 {xs : List Nat} {w w1 : World} (h : Kp xs w w1) {b : Nat} (hb : b ∈ xs ∨ w.heap.size ≤ b) (v0 v1 v2 v3 : Value) :
    Kp xs w ((((w1.setCell ⟨b, 0, none⟩ v0).setCell ⟨b, 1, none⟩ v1).setCell ⟨b, 2, none⟩ v2).setCell ⟨b, 3, none⟩ v3) := (((h.set hb _ _).set hb _ _).set hb _ _).set hb _ _
theorem four {w : World} {b : Nat} {x0 x1 x2 x3 : Value} {e : TypeId} (h : w.heap[b]? = some (.cells #[x0, x1, x2, x3] e (0, 0))) :
    w.cell? ⟨b, 0, none⟩ = some x0 ∧ w.cell? ⟨b, 1, none⟩ = some x1 ∧ w.cell? ⟨b, 2, none⟩ = some x2 ∧ w.cell? ⟨b, 3, none⟩ = some x3 ∧
    w.frozen? ⟨b, 0, none⟩ = false ∧ w.frozen? ⟨b, 1, none⟩ = false ∧ w.frozen? ⟨b, 2, none⟩ = false ∧ w.frozen? ⟨b, 3, none⟩ = false :=
  ⟨by rw [cell_of_block h]; rfl, by rw [cell_of_block h]; rfl, by rw [cell_of_block h]; rfl, by rw [cell_of_block h]; rfl, frozen_of_block h _, frozen_of_block h _, frozen_of_block h _, frozen_of_block h _⟩
abbrev zeroSet : Obj := .cells #[.int .u64 0, .int .u64 0, .int .u64 0, .int .u64 0] 62 (0, 0)

set_option maxHeartbeats 400000 in
theorem ended_any (s : ByteArray) (i p r : Nat) (e pl : Int) (w : World) (h : w.heap[r]? = some (rdO s i e pl p)) :
    Calls Try.prog 30 #[.pointer (some ⟨r, 0, none⟩)] w fun x w' => x = .returned (.bool (i == s.size)) ∧ ∃ n, w' = w.drewN n := by
  have c0 := cell_of_block h 0
  have c1 := cell_of_block h 1
  simp only [List.getElem?_toArray, List.getElem?_cons_zero, List.getElem?_cons_succ] at c0 c1
  clear h
  go_enter Try.func30, Try.ntmps30
  go_wp2
  go_quiet (fail)
  go_wp2
  go_ret
  refine ⟨?_, _, rfl⟩
  have : ((i : Int) == (s.size : Int)) = (i == s.size) := by rw [Bool.eq_iff_iff]; simp only [beq_iff_eq]; omega
  simp [this]
theorem ended_no (s : ByteArray) (i p r : Nat) (e pl : Int) (w : World) (h : w.heap[r]? = some (rdO s i e pl p)) (hi : i < s.size) :
    Calls Try.prog 30 #[.pointer (some ⟨r, 0, none⟩)] w fun x w' => x = .returned (.bool false) ∧ ∃ n, w' = w.drewN n := by
  refine (ended_any s i p r e pl w h).mono ?_
  rintro _ w' ⟨rfl, h2⟩
  rw [show (i == s.size) = false from by simp; omega]
  exact ⟨rfl, h2⟩
theorem ended_yes (s : ByteArray) (p r : Nat) (e pl : Int) (w : World) (h : w.heap[r]? = some (rdO s s.size e pl p)) :
    Calls Try.prog 30 #[.pointer (some ⟨r, 0, none⟩)] w fun x w' => x = .returned (.bool true) ∧ ∃ n, w' = w.drewN n := by
  refine (ended_any s s.size p r e pl w h).mono ?_
  rintro _ w' ⟨rfl, h2⟩
  rw [show (s.size == s.size) = true from by simp]
  exact ⟨rfl, h2⟩

set_option maxHeartbeats 400000 in
theorem fail_first (s : ByteArray) (i p r : Nat) (pl er q : Int) (w : World) (h : w.heap[r]? = some (rdO s i 0 pl p)) :
    Calls Try.prog 31 #[.pointer (some ⟨r, 0, none⟩), .int .i64 er, .int .i64 q] w fun x w' => x = .returned (.tuple #[]) ∧ w'.heap[r]? = some (rdO s s.size er q p) ∧ Kp [r] w w' := by
  have c0 := cell_of_block h 0
  have c1 := cell_of_block h 1
  have c3 := cell_of_block h 3
  have c4 := cell_of_block h 4
  have f1 := frozen_of_block h 1
  have f3 := frozen_of_block h 3
  have f4 := frozen_of_block h 4
  simp only [List.getElem?_toArray, List.getElem?_cons_zero, List.getElem?_cons_succ] at c0 c1 c3 c4
  have H : Hid _ := h
  clear h
  go_enter Try.func31, Try.ntmps31
  go_wp2
  go_end0
  refine ⟨rfl, ?_, (((Kp.refl _ _).set (by simp) _ _).set (by simp) _ _).set (by simp) _ _⟩
  simp only [blk_set, H.out]
  simp [setObj_cells]
set_option maxHeartbeats 400000 in
theorem fail_later (s : ByteArray) (i p r : Nat) (e pl er q : Int) (w : World) (h : w.heap[r]? = some (rdO s i e pl p)) (he : e ≠ 0) :
    Calls Try.prog 31 #[.pointer (some ⟨r, 0, none⟩), .int .i64 er, .int .i64 q] w fun x w' => x = .returned (.tuple #[]) ∧ w'.heap[r]? = some (rdO s s.size e pl p) ∧ Kp [r] w w' := by
  have c0 := cell_of_block h 0
  have c1 := cell_of_block h 1
  have c3 := cell_of_block h 3
  have f1 := frozen_of_block h 1
  simp only [List.getElem?_toArray, List.getElem?_cons_zero, List.getElem?_cons_succ] at c0 c1 c3
  have H : Hid _ := h
  clear h
  have hb : (e == 0) = false := by simp [he]
  go_enter Try.func31, Try.ntmps31
  go_wp2
  go_end0
  refine ⟨rfl, ?_, (Kp.refl _ _).set (by simp) _ _⟩
  simp only [blk_set, H.out]
  simp [setObj_cells]

theorem gt_at (s : ByteArray) (i : Nat) (hi : i < s.size) : gt s i = s[i].toNat := by
  unfold gt
  have : i < s.data.size := hi
  simp [Array.getElem?_eq_getElem this]
  rfl

set_option maxHeartbeats 400000 in
theorem next_yes (s : ByteArray) (i p r : Nat) (e pl : Int) (w : World) (h : w.heap[r]? = some (rdO s i e pl p)) (hi : i < s.size) (hs : s.size ≤ 16) :
    Calls Try.prog 89 #[.pointer (some ⟨r, 0, none⟩)] w fun x w' => x = .returned (.int .u8 (gt s i)) ∧ w'.heap[r]? = some (rdO s (i + 1) e pl p) ∧ Kp [r] w w' := by
  have c0 := cell_of_block h 0
  have c1 := cell_of_block h 1
  have f1 := frozen_of_block h 1
  simp only [List.getElem?_toArray, List.getElem?_cons_zero, List.getElem?_cons_succ] at c0 c1
  have H : Hid _ := h
  have hi' : (i : Int) < s.size := by omega
  have hg := gt_at s i hi
  have HG : Hid _ := hg
  clear h hg
  go_enter Try.func89, Try.ntmps89
  go_wp2_with fail
  refine (ended_no s i p r e pl _ (by exact H.out) hi).mono ?_
  rintro _ w1 ⟨rfl, n, rfl⟩
  go_wp2
  go_quiet (fail)
  go_wp2
  go_ret
  refine ⟨?_, ?_, ((Kp.refl _ _).drewN _).set (by simp) _ _⟩
  · rw [HG.out]; rfl
  · simp only [blk_set, World.heap_drewN, H.out]
    simp [setObj_cells]
set_option maxHeartbeats 400000 in
theorem next_end (s : ByteArray) (p r : Nat) (pl : Int) (w : World) (h : w.heap[r]? = some (rdO s s.size 0 pl p)) :
    Calls Try.prog 89 #[.pointer (some ⟨r, 0, none⟩)] w fun x w' => x = .returned (.int .u8 0) ∧ w'.heap[r]? = some (rdO s s.size 4 s.size p) ∧ Kp [r] w w' := by
  have c0 := cell_of_block h 0
  simp only [List.getElem?_toArray, List.getElem?_cons_zero] at c0
  have H : Hid _ := h
  clear h
  go_enter Try.func89, Try.ntmps89
  go_wp2_with fail
  refine (ended_yes s p r 0 pl _ (by exact H.out)).mono ?_
  rintro _ w1 ⟨rfl, n, rfl⟩
  go_wp2_with fail
  refine (fail_first s s.size p r pl 4 s.size _ (by exact H.out)).mono ?_
  rintro _ w1 ⟨rfl, h1, h2⟩
  go_wp2
  go_ret
  exact ⟨rfl, h1, h2.ofDrewN⟩

theorem run_index (t : ByteArray) (c : Int) (w : World) : (callFunc 95 #[.string t, .int .u8 c]).run Try.prog w = .ok (.value (.int .i64 (Lib.indexByte t.data.toList c.toNat.toUInt8))) w := by
  rw [run_callFunc_extern (e := Extern.BytealgIndexByte.indexByte) Try.func95 (by kernel_rfl) (by kernel_rfl) (by kernel_rfl) (by kernel_rfl), Lib.run_indexByteString]
  rfl
set_option maxHeartbeats 400000 in
theorem index_any (t : ByteArray) (c : Int) (w : World) :
    Calls Try.prog 85 #[.string t, .int .u8 c] w fun x w' => x = .returned (.int .i64 (Lib.indexByte t.data.toList c.toNat.toUInt8)) ∧ w' = w := by
  have hr := fun w => run_index t c w
  go_enter Try.func85, Try.ntmps85
  go_wp2
  go_ret
  exact ⟨rfl, rfl⟩

/- take: the byte is there. -/
set_option maxHeartbeats 400000 in
theorem take_yes (s : ByteArray) (i p r : Nat) (e pl b : Int) (w : World) (h : w.heap[r]? = some (rdO s i e pl p)) (hi : i < s.size) (hs : s.size ≤ 16) (hb : (gt s i : Int) = b) :
    Calls Try.prog 50 #[.pointer (some ⟨r, 0, none⟩), .int .u8 b] w fun x w' => x = .returned (.bool true) ∧ w'.heap[r]? = some (rdO s (i + 1) e pl p) ∧ Kp [r] w w' := by
  have c0 := cell_of_block h 0
  have c1 := cell_of_block h 1
  have f1 := frozen_of_block h 1
  simp only [List.getElem?_toArray, List.getElem?_cons_zero, List.getElem?_cons_succ] at c0 c1
  have H : Hid _ := h
  have hi' : (i : Int) < s.size := by omega
  have hq : ((s[i].toNat : Int) != b) = false := by rw [gt_at s i hi] at hb; simp [hb]
  clear h hb
  go_enter Try.func50, Try.ntmps50
  go_wp2
  go_quiet ((go_at_call 30; exact Calls.quiet_of (ended_no s i p r e pl _ (by exact H.out) hi)))
  go_wp2
  go_ret
  refine ⟨rfl, ?_, ((Kp.refl _ _).drewN _).set (by simp) _ _⟩
  simp only [blk_set, World.heap_drewN, H.out]
  simp [setObj_cells]
/- .. another byte is there. -/
set_option maxHeartbeats 400000 in
theorem take_no (s : ByteArray) (i p r : Nat) (e pl b : Int) (w : World) (h : w.heap[r]? = some (rdO s i e pl p)) (hi : i < s.size) (_hs : s.size ≤ 16) (hb : (gt s i : Int) ≠ b) :
    Calls Try.prog 50 #[.pointer (some ⟨r, 0, none⟩), .int .u8 b] w fun x w' => x = .returned (.bool false) ∧ ∃ n, w' = w.drewN n := by
  have c0 := cell_of_block h 0
  have c1 := cell_of_block h 1
  simp only [List.getElem?_toArray, List.getElem?_cons_zero, List.getElem?_cons_succ] at c0 c1
  have H : Hid _ := h
  have hi' : (i : Int) < s.size := by omega
  have hq : ((s[i].toNat : Int) != b) = true := by rw [gt_at s i hi] at hb; simp [hb]
  clear h hb
  go_enter Try.func50, Try.ntmps50
  go_wp2
  go_quiet ((go_at_call 30; exact Calls.quiet_of (ended_no s i p r e pl _ (by exact H.out) hi)))
  go_wp2
  go_ret
  exact ⟨rfl, _, rfl⟩
/- .. none is there. -/
set_option maxHeartbeats 400000 in
theorem take_end (s : ByteArray) (p r : Nat) (e pl b : Int) (w : World) (h : w.heap[r]? = some (rdO s s.size e pl p)) :
    Calls Try.prog 50 #[.pointer (some ⟨r, 0, none⟩), .int .u8 b] w fun x w' => x = .returned (.bool false) ∧ ∃ n, w' = w.drewN n := by
  have H : Hid _ := h
  clear h
  go_enter Try.func50, Try.ntmps50
  go_wp2
  go_quiet ((go_at_call 30; exact Calls.quiet_of (ended_yes s p r e pl _ (by exact H.out))))
  go_wp2
  go_ret
  exact ⟨rfl, _, rfl⟩

set_option maxHeartbeats 400000 in
theorem shut_yes (s : ByteArray) (i p r : Nat) (e pl b : Int) (w : World) (h : w.heap[r]? = some (rdO s i e pl p)) (hi : i < s.size) (hs : s.size ≤ 16) (hb : (gt s i : Int) = b) :
    Calls Try.prog 91 #[.pointer (some ⟨r, 0, none⟩), .int .u8 b] w fun x w' => x = .returned (.tuple #[]) ∧ w'.heap[r]? = some (rdO s (i + 1) e pl p) ∧ Kp [r] w w' := by
  have H : Hid _ := h
  have HB : Hid _ := hb
  clear h hb
  go_enter Try.func91, Try.ntmps91
  go_wp2_with fail
  refine (take_yes s i p r e pl b _ (by exact H.out) hi hs HB.out).mono ?_
  rintro _ w1 ⟨rfl, h1, h2⟩
  have H1 : Hid _ := h1
  clear h1
  go_wp2
  go_end0
  exact ⟨rfl, H1.out, h2⟩
set_option maxHeartbeats 400000 in
theorem shut_end (s : ByteArray) (p r : Nat) (pl b : Int) (w : World) (h : w.heap[r]? = some (rdO s s.size 0 pl p)) :
    Calls Try.prog 91 #[.pointer (some ⟨r, 0, none⟩), .int .u8 b] w fun x w' => x = .returned (.tuple #[]) ∧ w'.heap[r]? = some (rdO s s.size 4 s.size p) ∧ Kp [r] w w' := by
  have c0 := cell_of_block h 0
  simp only [List.getElem?_toArray, List.getElem?_cons_zero] at c0
  have H : Hid _ := h
  clear h
  go_enter Try.func91, Try.ntmps91
  go_wp2_with fail
  refine (take_end s p r 0 pl b _ (by exact H.out)).mono ?_
  rintro _ w1 ⟨rfl, n, rfl⟩
  go_wp2_with fail
  refine (fail_first s s.size p r pl 4 s.size _ (by exact H.out)).mono ?_
  rintro _ w1 ⟨rfl, h1, h2⟩
  have H1 : Hid _ := h1
  clear h1
  go_wp2
  go_end0
  exact ⟨rfl, H1.out, h2.ofDrewN⟩
set_option maxHeartbeats 400000 in
theorem shut_bad (s : ByteArray) (p r : Nat) (e pl b : Int) (w : World) (h : w.heap[r]? = some (rdO s s.size e pl p)) (he : e ≠ 0) :
    Calls Try.prog 91 #[.pointer (some ⟨r, 0, none⟩), .int .u8 b] w fun x w' => x = .returned (.tuple #[]) ∧ w'.heap[r]? = some (rdO s s.size e pl p) ∧ Kp [r] w w' := by
  have c0 := cell_of_block h 0
  simp only [List.getElem?_toArray, List.getElem?_cons_zero] at c0
  have H : Hid _ := h
  have HE : Hid _ := he
  clear h he
  go_enter Try.func91, Try.ntmps91
  go_wp2_with fail
  refine (take_end s p r e pl b _ (by exact H.out)).mono ?_
  rintro _ w1 ⟨rfl, n, rfl⟩
  go_wp2_with fail
  refine (fail_later s s.size p r e pl 4 s.size _ (by exact H.out) HE.out).mono ?_
  rintro _ w1 ⟨rfl, h1, h2⟩
  have H1 : Hid _ := h1
  clear h1
  go_wp2
  go_end0
  exact ⟨rfl, H1.out, h2.ofDrewN⟩

set_option maxHeartbeats 400000 in
theorem sees_at (s t : ByteArray) (i p r : Nat) (e pl : Int) (b : Bool) (w : World) (h : w.heap[r]? = some (rdO s i e pl p)) (hi : i < s.size) (_hs : s.size ≤ 16)
    (hb : decide (0 ≤ Lib.indexByte t.data.toList (gt s i).toUInt8) = b) :
    Calls Try.prog 75 #[.pointer (some ⟨r, 0, none⟩), .string t] w fun x w' => x = .returned (.bool b) ∧ ∃ n, w' = w.drewN n := by
  have c0 := cell_of_block h 0
  have c1 := cell_of_block h 1
  simp only [List.getElem?_toArray, List.getElem?_cons_zero, List.getElem?_cons_succ] at c0 c1
  have H : Hid _ := h
  have hi' : (i : Int) < s.size := by omega
  have hg := gt_at s i hi
  rw [hg] at hb
  have hq : ∀ w, Calls Try.prog 85 #[.string t, .int .u8 s[i].toNat] w fun x w' => x = .returned (.int .i64 (Lib.indexByte t.data.toList (s[i].toNat).toUInt8)) ∧ w' = w := fun w => index_any t s[i].toNat w
  generalize Lib.indexByte t.data.toList (s[i].toNat).toUInt8 = z at hb hq
  have HQ : Hid _ := hq
  clear h hg hq
  go_enter Try.func75, Try.ntmps75
  go_wp2
  go_quiet ((first | (go_at_call 30; exact Calls.quiet_of (ended_no s i p r e pl _ (by exact H.out) hi)) | (go_at_call 85; exact Calls.quiet_of_same (HQ.out _))))
  go_wp2
  go_ret
  exact ⟨rfl, _, rfl⟩
set_option maxHeartbeats 400000 in
theorem sees_end (s t : ByteArray) (p r : Nat) (e pl : Int) (w : World) (h : w.heap[r]? = some (rdO s s.size e pl p)) :
    Calls Try.prog 75 #[.pointer (some ⟨r, 0, none⟩), .string t] w fun x w' => x = .returned (.bool false) ∧ ∃ n, w' = w.drewN n := by
  have H : Hid _ := h
  clear h
  go_enter Try.func75, Try.ntmps75
  go_wp2
  go_quiet ((go_at_call 30; exact Calls.quiet_of (ended_yes s p r e pl _ (by exact H.out))))
  go_wp2
  go_ret
  exact ⟨rfl, _, rfl⟩
end Go.Proofs.Ytbjdkbcfpmeneaa

/- What is proved here: what a load or a store of a whole struct or array does, said of blocks and rows, whatever its size. -/
namespace Go.Proofs.Ytbjdkbcfpmeneaa
set_option linter.unusedVariables false
set_option linter.unusedSimpArgs false
open Go.RowKit

/- Values laid into a block from a place on. -/
def layAt (c : Array Value) : Nat → List Value → Array Value
  | _, [] => c
  | o, v :: r => layAt (c.setIfInBounds o v) (o + 1) r
theorem layAt_size : ∀ (vs : List Value) (o : Nat) (c : Array Value), (layAt c o vs).size = c.size
  | [], _, _ => rfl
  | v :: r, o, c => by rw [layAt, layAt_size r]; simp
theorem layAt_out : ∀ (vs : List Value) (o : Nat) (c : Array Value) (i : Nat), i < o ∨ o + vs.length ≤ i → (layAt c o vs)[i]? = c[i]?
  | [], _, _, _, _ => rfl
  | v :: r, o, c, i, h => by
    simp only [List.length_cons] at h
    rw [layAt, layAt_out r (o + 1) _ i (by omega), Array.getElem?_setIfInBounds_ne (by omega)]
theorem layAt_in : ∀ (vs : List Value) (o : Nat) (c : Array Value) (j : Nat), j < vs.length → o + vs.length ≤ c.size → (layAt c o vs)[o + j]? = vs[j]?
  | v :: r, o, c, 0, _, hc => by
    simp only [List.length_cons] at hc
    rw [layAt, layAt_out r (o + 1) _ _ (by omega)]
    simp only [Nat.add_zero, List.getElem?_cons_zero]
    rw [Array.getElem?_setIfInBounds_self_of_lt (by omega)]
  | v :: r, o, c, j + 1, hj, hc => by
    simp only [List.length_cons] at hc hj
    have := layAt_in r (o + 1) (c.setIfInBounds o v) j (by omega) (by simp; omega)
    rw [layAt, show o + (j + 1) = o + 1 + j by omega, this]
    rfl
theorem layAt_all (ys c : Array Value) (h : ys.size = c.size) : layAt c 0 ys.toList = ys := by
  apply Array.ext_getElem?
  intro i
  rcases Nat.lt_or_ge i ys.size with hi | hi
  · have := layAt_in ys.toList 0 c i (by simpa using hi) (by simp; omega)
    rw [Nat.zero_add] at this
    rw [this, Array.getElem?_toList]
  · rw [layAt_out _ _ _ _ (.inr (by simpa using hi)), Array.getElem?_eq_none (by omega), Array.getElem?_eq_none (by omega)]

theorem blk_setCells (b : Nat) : ∀ (vs : List Value) (o : Nat) (w : World) (c : Array Value) (e : TypeId) (f : Nat × Nat), w.heap[b]? = some (.cells c e f) → (w.setCells b o vs).heap[b]? = some (.cells (layAt c o vs) e f)
  | [], _, _, _, _, _, h => h
  | v :: r, o, w, c, e, f, h => by
    rw [World.setCells, layAt]
    refine blk_setCells b r (o + 1) _ _ e f ?_
    rw [blk_set, if_pos rfl, h]
    rfl
theorem kp_setCells (b : Nat) : ∀ (vs : List Value) (o : Nat) (w0 w : World) (xs : List Nat), b ∈ xs ∨ w0.heap.size ≤ b → Kp xs w0 w → Kp xs w0 (w.setCells b o vs)
  | [], _, _, _, _, _, h => h
  | v :: r, o, w0, w, xs, hb, h => by
    rw [World.setCells]
    exact kp_setCells b r (o + 1) w0 _ xs hb (h.set hb _ _)
theorem size_setCells (b : Nat) : ∀ (vs : List Value) (o : Nat) (w : World), (w.setCells b o vs).heap.size = w.heap.size
  | [], _, _ => rfl
  | v :: r, o, w => by rw [World.setCells, size_setCells b r, size_set]

theorem thereB {w : World} {b : Nat} {c : Array Value} {e : TypeId} (h : w.heap[b]? = some (.cells c e (0, 0))) (o n : Nat) (hn : o + n ≤ c.size) : w.there b o n := fun j hj => by
  rw [cell_of_block h, frozen_of_block h]
  exact ⟨by rw [Array.getElem?_eq_getElem (show o + j < c.size by omega)]; rfl, rfl⟩

section
variable {ops : Array Oper} {rest : List Oper} {op : Oper} {a : Act} {w : World} {Q : Exit → Act → World → Prop}

/- A whole block is written. -/
theorem storeAll (hgd : op.guard = none) (ty : TypeId) (x y : Operand) (ho : op.op = .store ty x y) {b : Nat} {c : Array Value} {e : TypeId} (hb : w.heap[b]? = some (.cells c e (0, 0)))
    (hx : a.eval x = .pointer (some ⟨b, 0, none⟩)) {ys : Array Value} (hy : a.eval y = .agg ys) (hn : ys.size = c.size) (hi : (Try.prog.info? ty).map (·.size) = some ys.size) (h1 : ys.all (·.oneCell') = true)
    (h : ∀ w', w'.heap[b]? = some (.cells ys e (0, 0)) → Kp [b] w w' → w'.heap.size = w.heap.size → wpList Try.prog ops Q rest (a.put op.dst undef) w') : wpList Try.prog ops Q (op :: rest) a w := by
  refine wpList_store_mid hgd ty x y ho b 0 ys hx hy (thereB hb 0 _ (by omega)) hi h1 (h _ ?_ ?_ ?_)
  · rw [blk_setCells b _ 0 w c e _ hb, layAt_all _ _ hn]
  · exact kp_setCells b _ 0 w w [b] (by simp) (Kp.refl _ _)
  · exact size_setCells b _ 0 w
/- A part of a block is written. -/
theorem storeMid (hgd : op.guard = none) (ty : TypeId) (x y : Operand) (ho : op.op = .store ty x y) {b o : Nat} {c : Array Value} {e : TypeId} (hb : w.heap[b]? = some (.cells c e (0, 0)))
    (hx : a.eval x = .pointer (some ⟨b, o, none⟩)) {ys : Array Value} (hy : a.eval y = .agg ys) (hn : o + ys.size ≤ c.size) (hi : (Try.prog.info? ty).map (·.size) = some ys.size) (h1 : ys.all (·.oneCell') = true)
    (h : ∀ w', w'.heap[b]? = some (.cells (layAt c o ys.toList) e (0, 0)) → Kp [b] w w' → w'.heap.size = w.heap.size → wpList Try.prog ops Q rest (a.put op.dst undef) w') : wpList Try.prog ops Q (op :: rest) a w := by
  refine wpList_store_mid hgd ty x y ho b o ys hx hy (thereB hb o _ hn) hi h1 (h _ ?_ ?_ ?_)
  · rw [blk_setCells b _ o w c e _ hb]
  · exact kp_setCells b _ o w w [b] (by simp) (Kp.refl _ _)
  · exact size_setCells b _ o w
/- A whole block is read. -/
theorem loadAll (hgd : op.guard = none) (ty : TypeId) (x : Operand) (ho : op.op = .load ty x) {b : Nat} {c : Array Value} {e : TypeId} (hb : w.heap[b]? = some (.cells c e (0, 0))) (hx : a.eval x = .pointer (some ⟨b, 0, none⟩))
    (d : TypeDesc) (hu : Try.prog.underlying ty = some d) (hd : d.isRow = true) (hi : (Try.prog.info? ty).map (·.size) = some c.size)
    (h : wpList Try.prog ops Q rest (a.put op.dst (.agg c)) w) : wpList Try.prog ops Q (op :: rest) a w := by
  refine wpList_load_mid hgd ty x ho b 0 hx c.toList d (fun j v hv => ?_) hu hd (by simpa using hi) h
  rw [cell_of_block hb, Nat.zero_add, ← Array.getElem?_toList]; exact hv
/- A part of a block is read. -/
theorem loadMid (hgd : op.guard = none) (ty : TypeId) (x : Operand) (ho : op.op = .load ty x) {b o : Nat} (ys : Array Value) (hb : ∀ j, j < ys.size → w.cell? ⟨b, o + j, none⟩ = ys[j]?) (hx : a.eval x = .pointer (some ⟨b, o, none⟩))
    (d : TypeDesc) (hu : Try.prog.underlying ty = some d) (hd : d.isRow = true) (hi : (Try.prog.info? ty).map (·.size) = some ys.size)
    (h : wpList Try.prog ops Q rest (a.put op.dst (.agg ys)) w) : wpList Try.prog ops Q (op :: rest) a w := by
  refine wpList_load_mid hgd ty x ho b o hx ys.toList d (fun j v hv => ?_) hu hd (by simpa using hi) h
  have hj : j < ys.size := by have := (List.getElem?_eq_some_iff.1 hv).1; simpa using this
  rw [hb j hj, ← Array.getElem?_toList]; exact hv
end

/- A new block of zeros. -/
theorem allocZ {ops : Array Oper} {rest : List Oper} {op : Oper} {a : Act} {w : World} {Q : Exit → Act → World → Prop} (hgd : op.guard = none) (ty : TypeId) (ho : op.op = .alloc ty) (z : Value) (hz : (Try.prog.info? ty).map (fun i => i.zero) = some (some z))
    (h : wpList Try.prog ops Q rest (a.put op.dst (.pointer (some ⟨w.heap.size, 0, none⟩))) (w.alloc (.cells z.cells ty (0, 0)))) : wpList Try.prog ops Q (op :: rest) a w := by
  refine wpList_plain hgd fun _ hK => ?_
  cases hq : Try.prog.info? ty with
  | none => simp [hq] at hz
  | some i =>
    have hz' : i.zero = some z := by simpa [hq] using hz
    unfold Oper.wp execOp
    simp only [ho]
    simp [go_sem, zeroValue, typeInfo, hq, hz']

    exact hK _ _ h

/- A result that lies in a block of its own. -/
theorem rangeB {w : World} {b : Nat} {c : Array Value} {e : TypeId} (hb : w.heap[b]? = some (.cells c e (0, 0))) : w.rangeAt b 0 c.toList := fun j v hv => by
  rw [cell_of_block hb, Nat.zero_add, ← Array.getElem?_toList]; exact hv
end Go.Proofs.Ytbjdkbcfpmeneaa

/- What is proved here: rows of integers in memory. -/
namespace Go.Proofs.Ytbjdkbcfpmeneaa
set_option linter.unusedVariables false
set_option linter.unusedSimpArgs false
open Go.RowKit

abbrev iv (l : List Int) : List Value := l.map (Value.int .i64)
abbrev iO (l : List Int) : Obj := .cells (iv l).toArray 3 (0, 0)
theorem icell {w : World} {b : Nat} {l : List Int} (h : w.heap[b]? = some (iO l)) (i : Nat) (hi : i < l.length) : w.cell? ⟨b, i, none⟩ = some (.int .i64 (l.getD i 0)) := by
  rw [cell_of_block h]
  simp [List.getElem?_eq_getElem hi]
theorem ifroz {w : World} {b : Nat} {l : List Int} (h : w.heap[b]? = some (iO l)) (i : Nat) : w.frozen? ⟨b, i, none⟩ = false := frozen_of_block h i
theorem iset {w : World} {b : Nat} {l : List Int} (h : w.heap[b]? = some (iO l)) (i : Nat) (v : Int) : (w.setCell ⟨b, i, none⟩ (.int .i64 v)).heap[b]? = some (iO (l.set i v)) := by
  rw [blk_set, if_pos rfl, h]
  simp [setObj, List.map_set]
theorem infoInt : (Try.prog.info? 3).map (fun i => (i.zero, i.size, i.bytes)) = some (some (.int .i64 0), 1, 8) := by kernel_rfl
theorem run_make_ints (n : Nat) (hn : n ≤ 1000000) (w : World) :
    (Instr.makeSlice 44 (.int .i64 (n : Int)) (.int .i64 (n : Int))).run Try.prog w = .ok (.slice (some ⟨w.heap.size, 0, none⟩) n n) (w.alloc (iO (List.replicate n 0))) := by
  rw [run_make_row' 44 3 (.int .i64 0) 8 Try.underlying44 infoInt rfl .i64 .i64 n (by omega) (by omega) w]
  congr 3
  rw [← Array.toArray_toList (xs := madeCells #[Value.int .i64 0] n), toList_madeCells_one, iv, List.map_replicate]
theorem getD_set_self (l : List Int) (i : Nat) (v : Int) (hi : i < l.length) : (l.set i v).getD i 0 = v := by
  rw [List.getD_eq_getElem?_getD, List.getElem?_set_self hi]; rfl
theorem getD_set_other (l : List Int) (i j : Nat) (v : Int) (h : i ≠ j) : (l.set i v).getD j 0 = l.getD j 0 := by
  rw [List.getD_eq_getElem?_getD, List.getElem?_set_ne h, ← List.getD_eq_getElem?_getD]
end Go.Proofs.Ytbjdkbcfpmeneaa

/- What is proved here: what the pattern reader's methods one, item and set do. -/
namespace Go.Proofs.Ytbjdkbcfpmeneaa
set_option linter.unusedVariables false
set_option linter.unusedSimpArgs false
open Go.RowKit

/- The text's bytes are none of them 0. -/
def Nz (s : ByteArray) : Prop := ∀ j, gt s j = 0 ↔ s.size ≤ j

theorem pOne_shape (s : ByteArray) (i : Nat) (hz : Nz s) : ((pOne s i).err = 0 ∧ (pOne s i).pl = 0 ∧ i < (pOne s i).j ∧ (pOne s i).j ≤ s.size ∧ (pOne s i).v < 256) ∨ ((pOne s i).err ≠ 0 ∧ (pOne s i).j = s.size ∧ (pOne s i).v = 0) := by
  have h0 := hz i
  have h1 := hz (i + 1)
  have l0 := gt_lt s i
  have l1 := gt_lt s (i + 1)
  unfold pOne
  split
  · right; simp [bad]
  · split
    · split
      · right; simp [bad]
      · left; simp [good]; omega
    · split
      · right; simp [bad]
      · left; simp [good]; omega

set_option maxHeartbeats 800000 in
theorem one_code (s : ByteArray) (i p r : Nat) (w : World) (h : w.heap[r]? = some (rdO s i 0 0 p)) (hz : Nz s) (hi : i ≤ s.size) (hs : s.size ≤ 16) :
    Calls Try.prog 97 #[.pointer (some ⟨r, 0, none⟩)] w fun x w' => x = .returned (.int .u8 (pOne s i).v) ∧ w'.heap[r]? = some (rdO s (pOne s i).j (pOne s i).err (pOne s i).pl p) ∧ Kp [r] w w' := by
  have c1 := cell_of_block h 1
  simp only [List.getElem?_toArray, List.getElem?_cons_zero, List.getElem?_cons_succ] at c1
  have H : Hid _ := h
  clear h
  by_cases h0 : gt s i = 0
  · have e : i = s.size := by have := (hz i).1 h0; omega
    subst e
    have HR : Hid (pOne s s.size = bad s 4 s.size 0) := by show pOne s s.size = _; rw [pOne, if_pos h0]
    clear hz h0
    go_enter Try.func97, Try.ntmps97
    go_wp2_with fail
    refine (next_end s p r 0 _ (by exact H.out)).mono ?_
    rintro _ w1 ⟨rfl, h1, h2⟩
    have H1 : Hid _ := h1
    clear h1
    go_wp2
    go_ret
    rw [HR.out]
    exact ⟨rfl, H1.out, h2⟩
  · have hlt : i < s.size := by have := (hz i).2; omega
    by_cases hq : gt s i = 92
    · have hq' : ((gt s i : Int) == 92) = true := by simp [hq]
      by_cases h1 : gt s (i + 1) = 0
      · have e : i + 1 = s.size := by have := (hz (i + 1)).1 h1; omega
        have HR : Hid (pOne s i = bad s 4 s.size 0) := by show pOne s i = _; rw [pOne, if_neg h0, if_pos hq, if_pos h1]
        have HE : Hid _ := e
        clear hz h0 h1 e hq
        go_enter Try.func97, Try.ntmps97
        go_wp2_with fail
        refine (next_yes s i p r 0 0 _ (by exact H.out) hlt hs).mono ?_
        rintro _ w1 ⟨rfl, h1, h2⟩
        rw [HE.out] at h1
        have H1 : Hid _ := h1
        clear h1
        go_wp2_with fail
        refine (next_end s p r 0 _ (by exact H1.out)).mono ?_
        rintro _ w2 ⟨rfl, h3, h4⟩
        have H3 : Hid _ := h3
        clear h3
        go_wp2
        go_ret
        rw [HR.out]
        exact ⟨rfl, H3.out, h2.trans h4 (by simp)⟩
      · have hlt1 : i + 1 < s.size := by have := (hz (i + 1)).2; omega
        have HR : Hid (pOne s i = good (i + 2) (gt s (i + 1))) := by show pOne s i = _; rw [pOne, if_neg h0, if_pos hq, if_neg h1]
        clear hz h0 h1 hq
        go_enter Try.func97, Try.ntmps97
        go_wp2_with fail
        refine (next_yes s i p r 0 0 _ (by exact H.out) hlt hs).mono ?_
        rintro _ w1 ⟨rfl, h1, h2⟩
        have H1 : Hid _ := h1
        clear h1
        go_wp2_with fail
        refine (next_yes s (i + 1) p r 0 0 _ (by exact H1.out) hlt1 hs).mono ?_
        rintro _ w2 ⟨rfl, h3, h4⟩
        have H3 : Hid _ := h3
        clear h3
        go_wp2
        go_ret
        rw [HR.out]
        exact ⟨rfl, H3.out, h2.trans h4 (by simp)⟩
    · by_cases hb : gt s i = 91 ∨ gt s i = 93 ∨ gt s i = 94 ∨ gt s i = 45
      · have HR : Hid (pOne s i = bad s 5 i 0) := by show pOne s i = _; rw [pOne, if_neg h0, if_neg hq, if_pos hb]
        have hq' : ((gt s i : Int) == 92) = false := by simp; omega
        clear hz h0
        go_enter Try.func97, Try.ntmps97
        go_wp2_with fail
        refine (next_yes s i p r 0 0 _ (by exact H.out) hlt hs).mono ?_
        rintro _ w1 ⟨rfl, h1, h2⟩
        have H1 : Hid _ := h1
        clear h1
        generalize gt s i = c at *
        rcases hb with rfl | rfl | rfl | rfl
        all_goals
          go_wp2_with fail
          refine (fail_first s (i + 1) p r 0 5 i _ (by exact H1.out)).mono ?_
          rintro _ w2 ⟨rfl, h3, h4⟩
          have H3 : Hid _ := h3
          clear h3
          go_wp2
          go_ret
          rw [HR.out]
          exact ⟨rfl, H3.out, h2.trans h4 (by simp)⟩
      · have HR : Hid (pOne s i = good (i + 1) (gt s i)) := by show pOne s i = _; rw [pOne, if_neg h0, if_neg hq, if_neg hb]
        have q1 : ((gt s i : Int) == 92) = false := by simp; omega
        have q2 : ((gt s i : Int) == 91) = false := by simp; omega
        have q3 : ((gt s i : Int) == 93) = false := by simp; omega
        have q4 : ((gt s i : Int) == 94) = false := by simp; omega
        have q5 : ((gt s i : Int) == 45) = false := by simp; omega
        clear hz h0 hq hb
        go_enter Try.func97, Try.ntmps97
        go_wp2_with fail
        refine (next_yes s i p r 0 0 _ (by exact H.out) hlt hs).mono ?_
        rintro _ w1 ⟨rfl, h1, h2⟩
        have H1 : Hid _ := h1
        clear h1
        go_wp2
        go_ret
        rw [HR.out]
        exact ⟨rfl, H1.out, h2⟩
end Go.Proofs.Ytbjdkbcfpmeneaa
