/- What is proved here: what the small methods of the pattern reader do. -/
import Derived.Test.YtbjdkbcfpmeneaaGreatRows
import Derived.Test.YtbjdkbcfpmeneaaGreatSets2
import Derived.BigQuiet
import Derived.Deep.QuietTactic
import Derived.Lib.Bytealg
namespace Go.Proofs.YtbjdkbcfpmeneaaGreat
set_option linter.unusedVariables false
set_option linter.unusedSimpArgs false
open Go.RowKit

/- A reader in its block: the text, the place, the error, its place, the positions' block. -/
abbrev rdO (s : ByteArray) (i : Nat) (e pl : Int) (p : Nat) : Obj := .cells #[.string s, .int .i64 i, .pointer (some ⟨p, 0, none⟩), .int .i64 e, .int .i64 pl] 122 (0, 0)

/- All blocks of w but those listed are as they were. -/
structure Kp (xs : List Nat) (w w' : World) : Prop where
  os : w'.os = w.os
  tape : w'.tape = w.tape
  output : w'.output = w.output
  size : w.heap.size ≤ w'.heap.size
  block : ∀ k, k < w.heap.size → k ∉ xs → w'.heap[k]? = w.heap[k]?
theorem Kp.refl (xs : List Nat) (w : World) : Kp xs w w := ⟨rfl, rfl, rfl, Nat.le_refl _, fun _ _ _ => rfl⟩
theorem Kp.drew {xs : List Nat} {w w1 : World} (h : Kp xs w w1) : Kp xs w w1.drew := ⟨h.os, h.tape, h.output, h.size, h.block⟩
theorem Kp.drewN {xs : List Nat} {w w1 : World} (h : Kp xs w w1) (n : Nat) : Kp xs w (w1.drewN n) := ⟨h.os, h.tape, h.output, h.size, h.block⟩
theorem Kp.ofDrewN {xs : List Nat} {w w1 : World} {n : Nat} (h : Kp xs (w.drewN n) w1) : Kp xs w w1 := ⟨h.os, h.tape, h.output, h.size, h.block⟩
theorem Kp.alloc {xs : List Nat} {w w1 : World} (h : Kp xs w w1) (o : Obj) : Kp xs w (w1.alloc o) :=
  ⟨h.os, h.tape, h.output, by rw [size_alloc]; have := h.size; omega, fun k hk hx => by rw [blk_alloc, if_neg (by have := h.size; omega)]; exact h.block k hk hx⟩
theorem Kp.set {xs : List Nat} {w w1 : World} (h : Kp xs w w1) {b : Nat} (hb : b ∈ xs ∨ w.heap.size ≤ b) (i : Nat) (v : Value) : Kp xs w (w1.setCell ⟨b, i, none⟩ v) :=
  ⟨h.os, h.tape, h.output, by rw [size_set]; exact h.size, fun k hk hx => by
    rw [blk_set, if_neg (fun e => by subst e; rcases hb with hb | hb; exact hx hb; omega)]; exact h.block k hk hx⟩
theorem Kp.trans {xs ys : List Nat} {w w1 w2 : World} (h : Kp xs w w1) (h2 : Kp ys w1 w2) (hy : ∀ y ∈ ys, y ∈ xs ∨ w.heap.size ≤ y) : Kp xs w w2 :=
  ⟨h2.os.trans h.os, h2.tape.trans h.tape, h2.output.trans h.output, Nat.le_trans h.size h2.size, fun k hk hx => by
    rw [h2.block k (by have := h.size; omega) (fun e => by rcases hy k e with e | e; exact hx e; omega)]; exact h.block k hk hx⟩
theorem Kp.below {xs : List Nat} {w w1 w2 : World} (h : Kp xs w w1) (h2 : Below w1.heap.size w1 w2) : Kp xs w w2 :=
  ⟨h2.os.trans h.os, h2.tape.trans h.tape, h2.output.trans h.output, Nat.le_trans h.size h2.size, fun k hk hx => by
    rw [h2.block k (by have := h.size; omega)]; exact h.block k hk hx⟩
theorem Kp.toBelow {w w1 : World} (h : Kp [] w w1) : Below w.heap.size w w1 := ⟨h.os, h.tape, h.output, h.size, fun k hk => h.block k hk (by simp)⟩
theorem Kp.keep {xs : List Nat} {w w1 : World} (h : Kp xs w w1) {b : Nat} {o : Obj} (hb : w.heap[b]? = some o) (hx : b ∉ xs) : w1.heap[b]? = some o := by
  rw [h.block b (lt_of_block hb) hx]; exact hb
theorem bkeep {w w1 : World} (h : Below w.heap.size w w1) {b : Nat} {o : Obj} (hb : w.heap[b]? = some o) : w1.heap[b]? = some o := by
  rw [h.block b (lt_of_block hb)]; exact hb

theorem Kp.set4 {xs : List Nat} {w w1 : World} (h : Kp xs w w1) {b : Nat} (hb : b ∈ xs ∨ w.heap.size ≤ b) (v0 v1 v2 v3 : Value) :
    Kp xs w ((((w1.setCell ⟨b, 0, none⟩ v0).setCell ⟨b, 1, none⟩ v1).setCell ⟨b, 2, none⟩ v2).setCell ⟨b, 3, none⟩ v3) := (((h.set hb _ _).set hb _ _).set hb _ _).set hb _ _
theorem four {w : World} {b : Nat} {x0 x1 x2 x3 : Value} {e : TypeId} (h : w.heap[b]? = some (.cells #[x0, x1, x2, x3] e (0, 0))) :
    w.cell? ⟨b, 0, none⟩ = some x0 ∧ w.cell? ⟨b, 1, none⟩ = some x1 ∧ w.cell? ⟨b, 2, none⟩ = some x2 ∧ w.cell? ⟨b, 3, none⟩ = some x3 ∧
    w.frozen? ⟨b, 0, none⟩ = false ∧ w.frozen? ⟨b, 1, none⟩ = false ∧ w.frozen? ⟨b, 2, none⟩ = false ∧ w.frozen? ⟨b, 3, none⟩ = false :=
  ⟨by rw [cell_of_block h]; rfl, by rw [cell_of_block h]; rfl, by rw [cell_of_block h]; rfl, by rw [cell_of_block h]; rfl, frozen_of_block h _, frozen_of_block h _, frozen_of_block h _, frozen_of_block h _⟩
abbrev zeroSet : Obj := .cells #[.int .u64 0, .int .u64 0, .int .u64 0, .int .u64 0] 65 (0, 0)

set_option maxHeartbeats 400000 in
theorem ended_any (s : ByteArray) (i p r : Nat) (e pl : Int) (w : World) (h : w.heap[r]? = some (rdO s i e pl p)) :
    Calls Tryz.prog 48 #[.pointer (some ⟨r, 0, none⟩)] w fun x w' => x = .returned (.bool (i == s.size)) ∧ ∃ n, w' = w.drewN n := by
  have c0 := cell_of_block h 0
  have c1 := cell_of_block h 1
  simp only [List.getElem?_toArray, List.getElem?_cons_zero, List.getElem?_cons_succ] at c0 c1
  clear h
  go_enter Tryz.func48, Tryz.ntmps48
  go_wp2
  go_quiet (fail)
  go_wp2
  go_ret
  refine ⟨?_, _, rfl⟩
  have : ((i : Int) == (s.size : Int)) = (i == s.size) := by rw [Bool.eq_iff_iff]; simp only [beq_iff_eq]; omega
  simp [this]
theorem ended_no (s : ByteArray) (i p r : Nat) (e pl : Int) (w : World) (h : w.heap[r]? = some (rdO s i e pl p)) (hi : i < s.size) :
    Calls Tryz.prog 48 #[.pointer (some ⟨r, 0, none⟩)] w fun x w' => x = .returned (.bool false) ∧ ∃ n, w' = w.drewN n := by
  refine (ended_any s i p r e pl w h).mono ?_
  rintro _ w' ⟨rfl, h2⟩
  rw [show (i == s.size) = false from by simp; omega]
  exact ⟨rfl, h2⟩
theorem ended_yes (s : ByteArray) (p r : Nat) (e pl : Int) (w : World) (h : w.heap[r]? = some (rdO s s.size e pl p)) :
    Calls Tryz.prog 48 #[.pointer (some ⟨r, 0, none⟩)] w fun x w' => x = .returned (.bool true) ∧ ∃ n, w' = w.drewN n := by
  refine (ended_any s s.size p r e pl w h).mono ?_
  rintro _ w' ⟨rfl, h2⟩
  rw [show (s.size == s.size) = true from by simp]
  exact ⟨rfl, h2⟩

set_option maxHeartbeats 400000 in
theorem fail_first (s : ByteArray) (i p r : Nat) (pl er q : Int) (w : World) (h : w.heap[r]? = some (rdO s i 0 pl p)) :
    Calls Tryz.prog 49 #[.pointer (some ⟨r, 0, none⟩), .int .i64 er, .int .i64 q] w fun x w' => x = .returned (.tuple #[]) ∧ w'.heap[r]? = some (rdO s s.size er q p) ∧ Kp [r] w w' := by
  have c0 := cell_of_block h 0
  have c1 := cell_of_block h 1
  have c3 := cell_of_block h 3
  have c4 := cell_of_block h 4
  have f1 := frozen_of_block h 1
  have f3 := frozen_of_block h 3
  have f4 := frozen_of_block h 4
  simp only [List.getElem?_toArray, List.getElem?_cons_zero, List.getElem?_cons_succ] at c0 c1 c3 c4
  have H : Hid _ := h
  clear h
  go_enter Tryz.func49, Tryz.ntmps49
  go_wp2
  go_end0
  refine ⟨rfl, ?_, (((Kp.refl _ _).set (by simp) _ _).set (by simp) _ _).set (by simp) _ _⟩
  simp only [blk_set, H.out]
  simp [setObj_cells]
set_option maxHeartbeats 400000 in
theorem fail_later (s : ByteArray) (i p r : Nat) (e pl er q : Int) (w : World) (h : w.heap[r]? = some (rdO s i e pl p)) (he : e ≠ 0) :
    Calls Tryz.prog 49 #[.pointer (some ⟨r, 0, none⟩), .int .i64 er, .int .i64 q] w fun x w' => x = .returned (.tuple #[]) ∧ w'.heap[r]? = some (rdO s s.size e pl p) ∧ Kp [r] w w' := by
  have c0 := cell_of_block h 0
  have c1 := cell_of_block h 1
  have c3 := cell_of_block h 3
  have f1 := frozen_of_block h 1
  simp only [List.getElem?_toArray, List.getElem?_cons_zero, List.getElem?_cons_succ] at c0 c1 c3
  have H : Hid _ := h
  clear h
  have hb : (e == 0) = false := by simp [he]
  go_enter Tryz.func49, Tryz.ntmps49
  go_wp2
  go_end0
  refine ⟨rfl, ?_, (Kp.refl _ _).set (by simp) _ _⟩
  simp only [blk_set, H.out]
  simp [setObj_cells]

theorem gt_at (s : ByteArray) (i : Nat) (hi : i < s.size) : gt s i = s[i].toNat := by
  unfold gt
  have : i < s.data.size := hi
  simp [Array.getElem?_eq_getElem this]
  rfl

set_option maxHeartbeats 400000 in
theorem next_yes (s : ByteArray) (i p r : Nat) (e pl : Int) (w : World) (h : w.heap[r]? = some (rdO s i e pl p)) (hi : i < s.size) (hs : s.size ≤ 16) :
    Calls Tryz.prog 116 #[.pointer (some ⟨r, 0, none⟩)] w fun x w' => x = .returned (.int .u8 (gt s i)) ∧ w'.heap[r]? = some (rdO s (i + 1) e pl p) ∧ Kp [r] w w' := by
  have c0 := cell_of_block h 0
  have c1 := cell_of_block h 1
  have f1 := frozen_of_block h 1
  simp only [List.getElem?_toArray, List.getElem?_cons_zero, List.getElem?_cons_succ] at c0 c1
  have H : Hid _ := h
  have hi' : (i : Int) < s.size := by omega
  have hg := gt_at s i hi
  have HG : Hid _ := hg
  clear h hg
  go_enter Tryz.func116, Tryz.ntmps116
  go_wp2_with fail
  refine (ended_no s i p r e pl _ (by exact H.out) hi).mono ?_
  rintro _ w1 ⟨rfl, n, rfl⟩
  go_wp2
  go_quiet (fail)
  go_wp2
  go_ret
  refine ⟨?_, ?_, ((Kp.refl _ _).drewN _).set (by simp) _ _⟩
  · rw [HG.out]; rfl
  · simp only [blk_set, World.heap_drewN, H.out]
    simp [setObj_cells]
set_option maxHeartbeats 400000 in
theorem next_end (s : ByteArray) (p r : Nat) (pl : Int) (w : World) (h : w.heap[r]? = some (rdO s s.size 0 pl p)) :
    Calls Tryz.prog 116 #[.pointer (some ⟨r, 0, none⟩)] w fun x w' => x = .returned (.int .u8 0) ∧ w'.heap[r]? = some (rdO s s.size 4 s.size p) ∧ Kp [r] w w' := by
  have c0 := cell_of_block h 0
  simp only [List.getElem?_toArray, List.getElem?_cons_zero] at c0
  have H : Hid _ := h
  clear h
  go_enter Tryz.func116, Tryz.ntmps116
  go_wp2_with fail
  refine (ended_yes s p r 0 pl _ (by exact H.out)).mono ?_
  rintro _ w1 ⟨rfl, n, rfl⟩
  go_wp2_with fail
  refine (fail_first s s.size p r pl 4 s.size _ (by exact H.out)).mono ?_
  rintro _ w1 ⟨rfl, h1, h2⟩
  go_wp2
  go_ret
  exact ⟨rfl, h1, h2.ofDrewN⟩

theorem run_index (t : ByteArray) (c : Int) (w : World) : (callFunc 122 #[.string t, .int .u8 c]).run Tryz.prog w = .ok (.value (.int .i64 (Lib.indexByte t.data.toList c.toNat.toUInt8))) w := by
  rw [run_callFunc_extern (e := Extern.BytealgIndexByte.indexByte) Tryz.func122 (by kernel_rfl) (by kernel_rfl) (by kernel_rfl) (by kernel_rfl), Lib.run_indexByteString]
  rfl
set_option maxHeartbeats 400000 in
theorem index_any (t : ByteArray) (c : Int) (w : World) :
    Calls Tryz.prog 112 #[.string t, .int .u8 c] w fun x w' => x = .returned (.int .i64 (Lib.indexByte t.data.toList c.toNat.toUInt8)) ∧ w' = w := by
  have hr := fun w => run_index t c w
  go_enter Tryz.func112, Tryz.ntmps112
  go_wp2
  go_ret
  exact ⟨rfl, rfl⟩

/- take: the byte is there. -/
set_option maxHeartbeats 400000 in
theorem take_yes (s : ByteArray) (i p r : Nat) (e pl b : Int) (w : World) (h : w.heap[r]? = some (rdO s i e pl p)) (hi : i < s.size) (hs : s.size ≤ 16) (hb : (gt s i : Int) = b) :
    Calls Tryz.prog 75 #[.pointer (some ⟨r, 0, none⟩), .int .u8 b] w fun x w' => x = .returned (.bool true) ∧ w'.heap[r]? = some (rdO s (i + 1) e pl p) ∧ Kp [r] w w' := by
  have c0 := cell_of_block h 0
  have c1 := cell_of_block h 1
  have f1 := frozen_of_block h 1
  simp only [List.getElem?_toArray, List.getElem?_cons_zero, List.getElem?_cons_succ] at c0 c1
  have H : Hid _ := h
  have hi' : (i : Int) < s.size := by omega
  have hq : ((s[i].toNat : Int) != b) = false := by rw [gt_at s i hi] at hb; simp [hb]
  clear h hb
  go_enter Tryz.func75, Tryz.ntmps75
  go_wp2
  go_quiet ((go_at_call 48; exact Calls.quiet_of (ended_no s i p r e pl _ (by exact H.out) hi)))
  go_wp2
  go_ret
  refine ⟨rfl, ?_, ((Kp.refl _ _).drewN _).set (by simp) _ _⟩
  simp only [blk_set, World.heap_drewN, H.out]
  simp [setObj_cells]
/- .. another byte is there. -/
set_option maxHeartbeats 400000 in
theorem take_no (s : ByteArray) (i p r : Nat) (e pl b : Int) (w : World) (h : w.heap[r]? = some (rdO s i e pl p)) (hi : i < s.size) (_hs : s.size ≤ 16) (hb : (gt s i : Int) ≠ b) :
    Calls Tryz.prog 75 #[.pointer (some ⟨r, 0, none⟩), .int .u8 b] w fun x w' => x = .returned (.bool false) ∧ ∃ n, w' = w.drewN n := by
  have c0 := cell_of_block h 0
  have c1 := cell_of_block h 1
  simp only [List.getElem?_toArray, List.getElem?_cons_zero, List.getElem?_cons_succ] at c0 c1
  have H : Hid _ := h
  have hi' : (i : Int) < s.size := by omega
  have hq : ((s[i].toNat : Int) != b) = true := by rw [gt_at s i hi] at hb; simp [hb]
  clear h hb
  go_enter Tryz.func75, Tryz.ntmps75
  go_wp2
  go_quiet ((go_at_call 48; exact Calls.quiet_of (ended_no s i p r e pl _ (by exact H.out) hi)))
  go_wp2
  go_ret
  exact ⟨rfl, _, rfl⟩
/- .. none is there. -/
set_option maxHeartbeats 400000 in
theorem take_end (s : ByteArray) (p r : Nat) (e pl b : Int) (w : World) (h : w.heap[r]? = some (rdO s s.size e pl p)) :
    Calls Tryz.prog 75 #[.pointer (some ⟨r, 0, none⟩), .int .u8 b] w fun x w' => x = .returned (.bool false) ∧ ∃ n, w' = w.drewN n := by
  have H : Hid _ := h
  clear h
  go_enter Tryz.func75, Tryz.ntmps75
  go_wp2
  go_quiet ((go_at_call 48; exact Calls.quiet_of (ended_yes s p r e pl _ (by exact H.out))))
  go_wp2
  go_ret
  exact ⟨rfl, _, rfl⟩

set_option maxHeartbeats 400000 in
theorem shut_yes (s : ByteArray) (i p r : Nat) (e pl b : Int) (w : World) (h : w.heap[r]? = some (rdO s i e pl p)) (hi : i < s.size) (hs : s.size ≤ 16) (hb : (gt s i : Int) = b) :
    Calls Tryz.prog 118 #[.pointer (some ⟨r, 0, none⟩), .int .u8 b] w fun x w' => x = .returned (.tuple #[]) ∧ w'.heap[r]? = some (rdO s (i + 1) e pl p) ∧ Kp [r] w w' := by
  have H : Hid _ := h
  have HB : Hid _ := hb
  clear h hb
  go_enter Tryz.func118, Tryz.ntmps118
  go_wp2_with fail
  refine (take_yes s i p r e pl b _ (by exact H.out) hi hs HB.out).mono ?_
  rintro _ w1 ⟨rfl, h1, h2⟩
  have H1 : Hid _ := h1
  clear h1
  go_wp2
  go_end0
  exact ⟨rfl, H1.out, h2⟩
set_option maxHeartbeats 400000 in
theorem shut_end (s : ByteArray) (p r : Nat) (pl b : Int) (w : World) (h : w.heap[r]? = some (rdO s s.size 0 pl p)) :
    Calls Tryz.prog 118 #[.pointer (some ⟨r, 0, none⟩), .int .u8 b] w fun x w' => x = .returned (.tuple #[]) ∧ w'.heap[r]? = some (rdO s s.size 4 s.size p) ∧ Kp [r] w w' := by
  have c0 := cell_of_block h 0
  simp only [List.getElem?_toArray, List.getElem?_cons_zero] at c0
  have H : Hid _ := h
  clear h
  go_enter Tryz.func118, Tryz.ntmps118
  go_wp2_with fail
  refine (take_end s p r 0 pl b _ (by exact H.out)).mono ?_
  rintro _ w1 ⟨rfl, n, rfl⟩
  go_wp2_with fail
  refine (fail_first s s.size p r pl 4 s.size _ (by exact H.out)).mono ?_
  rintro _ w1 ⟨rfl, h1, h2⟩
  have H1 : Hid _ := h1
  clear h1
  go_wp2
  go_end0
  exact ⟨rfl, H1.out, h2.ofDrewN⟩
set_option maxHeartbeats 400000 in
theorem shut_bad (s : ByteArray) (p r : Nat) (e pl b : Int) (w : World) (h : w.heap[r]? = some (rdO s s.size e pl p)) (he : e ≠ 0) :
    Calls Tryz.prog 118 #[.pointer (some ⟨r, 0, none⟩), .int .u8 b] w fun x w' => x = .returned (.tuple #[]) ∧ w'.heap[r]? = some (rdO s s.size e pl p) ∧ Kp [r] w w' := by
  have c0 := cell_of_block h 0
  simp only [List.getElem?_toArray, List.getElem?_cons_zero] at c0
  have H : Hid _ := h
  have HE : Hid _ := he
  clear h he
  go_enter Tryz.func118, Tryz.ntmps118
  go_wp2_with fail
  refine (take_end s p r e pl b _ (by exact H.out)).mono ?_
  rintro _ w1 ⟨rfl, n, rfl⟩
  go_wp2_with fail
  refine (fail_later s s.size p r e pl 4 s.size _ (by exact H.out) HE.out).mono ?_
  rintro _ w1 ⟨rfl, h1, h2⟩
  have H1 : Hid _ := h1
  clear h1
  go_wp2
  go_end0
  exact ⟨rfl, H1.out, h2.ofDrewN⟩

set_option maxHeartbeats 400000 in
theorem sees_at (s t : ByteArray) (i p r : Nat) (e pl : Int) (b : Bool) (w : World) (h : w.heap[r]? = some (rdO s i e pl p)) (hi : i < s.size) (_hs : s.size ≤ 16)
    (hb : decide (0 ≤ Lib.indexByte t.data.toList (gt s i).toUInt8) = b) :
    Calls Tryz.prog 100 #[.pointer (some ⟨r, 0, none⟩), .string t] w fun x w' => x = .returned (.bool b) ∧ ∃ n, w' = w.drewN n := by
  have c0 := cell_of_block h 0
  have c1 := cell_of_block h 1
  simp only [List.getElem?_toArray, List.getElem?_cons_zero, List.getElem?_cons_succ] at c0 c1
  have H : Hid _ := h
  have hi' : (i : Int) < s.size := by omega
  have hg := gt_at s i hi
  rw [hg] at hb
  have hq : ∀ w, Calls Tryz.prog 112 #[.string t, .int .u8 s[i].toNat] w fun x w' => x = .returned (.int .i64 (Lib.indexByte t.data.toList (s[i].toNat).toUInt8)) ∧ w' = w := fun w => index_any t s[i].toNat w
  generalize Lib.indexByte t.data.toList (s[i].toNat).toUInt8 = z at hb hq
  have HQ : Hid _ := hq
  clear h hg hq
  go_enter Tryz.func100, Tryz.ntmps100
  go_wp2
  go_quiet ((first | (go_at_call 48; exact Calls.quiet_of (ended_no s i p r e pl _ (by exact H.out) hi)) | (go_at_call 112; exact Calls.quiet_of_same (HQ.out _))))
  go_wp2
  go_ret
  exact ⟨rfl, _, rfl⟩
set_option maxHeartbeats 400000 in
theorem sees_end (s t : ByteArray) (p r : Nat) (e pl : Int) (w : World) (h : w.heap[r]? = some (rdO s s.size e pl p)) :
    Calls Tryz.prog 100 #[.pointer (some ⟨r, 0, none⟩), .string t] w fun x w' => x = .returned (.bool false) ∧ ∃ n, w' = w.drewN n := by
  have H : Hid _ := h
  clear h
  go_enter Tryz.func100, Tryz.ntmps100
  go_wp2
  go_quiet ((go_at_call 48; exact Calls.quiet_of (ended_yes s p r e pl _ (by exact H.out))))
  go_wp2
  go_ret
  exact ⟨rfl, _, rfl⟩
end Go.Proofs.YtbjdkbcfpmeneaaGreat
