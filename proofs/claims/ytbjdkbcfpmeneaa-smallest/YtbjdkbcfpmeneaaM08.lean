/- What is proved here: what nothing and either do. -/
import Derived.Test.YtbjdkbcfpmeneaaRows
import Derived.Test.YtbjdkbcfpmeneaaM06
import Derived.Deep.MidRow
namespace Go.Proofs.Ytbjdkbcfpmeneaa
set_option linter.unusedVariables false
set_option linter.unusedSimpArgs false
open Go.RowKit

set_option maxHeartbeats 800000 in
theorem nothing_any (w : World) : Calls Try.prog 74 #[] w fun x w' => x = .returned (partV true 0 0) ∧ Below w.heap.size w w' := by
  go_enter Try.func74, Try.ntmps74
  go_wp2
  refine bodyPost_ret (v := partV true 0 0) (res_part (b := w.heap.size) Try.results74 rfl (by simp only [blk_alloc, if_true]; simp [wd_zero])) rfl ⟨rfl, (Below.refl _ _).alloc (Nat.le_refl _) _⟩

/- What is proved here: what either does. -/

theorem union2' (a b g : Nat) (w : World) (h : w.heap[g]? = some (.cells #[.int .u64 (wd a 0), .int .u64 (wd a 1), .int .u64 (wd a 2), .int .u64 (wd a 3), .int .u64 (wd b 0), .int .u64 (wd b 1), .int .u64 (wd b 2), .int .u64 (wd b 3)] 62 (0, 0))) :
    Calls Try.prog 54 #[.slice (some ⟨g, 0, none⟩) 2 2] w fun e w' => e = .returned (setV (a ||| b)) ∧ Below w.heap.size w w' := by
  refine (union_any g 2 2 [a, b] w rfl (by decide) ?_ (lt_of_block h)).mono ?_
  · intro j hj i hi
    rw [cell_of_block h]
    have hj' : j = 0 ∨ j = 1 := by omega
    have hi' : i = 0 ∨ i = 1 ∨ i = 2 ∨ i = 3 := by omega
    rcases hj' with rfl | rfl <;> rcases hi' with rfl | rfl | rfl | rfl <;> rfl
  · rintro _ w' ⟨rfl, hb⟩
    exact ⟨by simp, hb⟩

theorem part_cells (b : Nat) (x0 x1 x2 x3 x4 x5 x6 x7 x8 : Value) (w : World) (h : w.heap[b]? = some (nineO x0 x1 x2 x3 x4 x5 x6 x7 x8)) :
    w.cell? ⟨b, 0, none⟩ = some x0 ∧ w.cell? ⟨b, 1, none⟩ = some x1 ∧ w.cell? ⟨b, 2, none⟩ = some x2 ∧ w.cell? ⟨b, 3, none⟩ = some x3 ∧ w.cell? ⟨b, 4, none⟩ = some x4 ∧
    w.cell? ⟨b, 5, none⟩ = some x5 ∧ w.cell? ⟨b, 6, none⟩ = some x6 ∧ w.cell? ⟨b, 7, none⟩ = some x7 ∧ w.cell? ⟨b, 8, none⟩ = some x8 := (nine h).1

abbrev partO (e : Bool) (f l : Nat) : Obj := nineO (.bool e) (.int .u64 (wd f 0)) (.int .u64 (wd f 1)) (.int .u64 (wd f 2)) (.int .u64 (wd f 3)) (.int .u64 (wd l 0)) (.int .u64 (wd l 1)) (.int .u64 (wd l 2)) (.int .u64 (wd l 3))

set_option maxRecDepth 100000 in
set_option maxHeartbeats 1000000 in
theorem either_false (f1 l1 f2 l2 : Nat) (e2 : Bool) (w : World) :
    Calls Try.prog 51 #[partV false f1 l1, partV e2 f2 l2] w fun x w' => x = .returned (partV e2 (f1 ||| f2) (l1 ||| l2)) ∧ Below w.heap.size w w' := by
  go_enter Try.func51, Try.ntmps51
  go_wp2_with fail
  have bA : (((w.alloc (partO false f1 l1)).alloc (partO e2 f2 l2)).alloc zeroPart).heap[w.heap.size]? = some (partO false f1 l1) := by simp only [blk_alloc, size_alloc]; rw [if_neg (by omega), if_neg (by omega), if_true]
  have bB : (((w.alloc (partO false f1 l1)).alloc (partO e2 f2 l2)).alloc zeroPart).heap[w.heap.size + 1]? = some (partO e2 f2 l2) := by simp only [blk_alloc, size_alloc]; rw [if_neg (by omega), if_true]
  have bZ : (((w.alloc (partO false f1 l1)).alloc (partO e2 f2 l2)).alloc zeroPart).heap[w.heap.size + 1 + 1]? = some zeroPart := by simp only [blk_alloc, size_alloc]; rw [if_true]
  have bK : Below w.heap.size w (((w.alloc (partO false f1 l1)).alloc (partO e2 f2 l2)).alloc zeroPart) := (((Kp.refl [] _).alloc _).alloc _).alloc _ |>.toBelow
  generalize ((w.alloc (partO false f1 l1)).alloc (partO e2 f2 l2)).alloc zeroPart = W at *
  have BZ := hide bZ
  have lZ := lt_of_block bZ
  have BK := hide bK
  generalize hA : w.heap.size = A at *
  have HA := hide hA
  have cA : ∀ w', Below (A + 2) W w' → w'.cell? ⟨A, 0, none⟩ = some (.bool false) ∧ w'.cell? ⟨A, 1, none⟩ = some (.int .u64 (wd f1 0)) ∧ w'.cell? ⟨A, 2, none⟩ = some (.int .u64 (wd f1 1)) ∧ w'.cell? ⟨A, 3, none⟩ = some (.int .u64 (wd f1 2)) ∧ w'.cell? ⟨A, 4, none⟩ = some (.int .u64 (wd f1 3)) ∧ w'.cell? ⟨A, 5, none⟩ = some (.int .u64 (wd l1 0)) ∧ w'.cell? ⟨A, 6, none⟩ = some (.int .u64 (wd l1 1)) ∧ w'.cell? ⟨A, 7, none⟩ = some (.int .u64 (wd l1 2)) ∧ w'.cell? ⟨A, 8, none⟩ = some (.int .u64 (wd l1 3)) :=
    fun w' h => part_cells _ _ _ _ _ _ _ _ _ _ w' (by rw [h.block A (by omega)]; exact bA)
  have cB : ∀ w', Below (A + 2) W w' → w'.cell? ⟨A + 1, 0, none⟩ = some (.bool e2) ∧ w'.cell? ⟨A + 1, 1, none⟩ = some (.int .u64 (wd f2 0)) ∧ w'.cell? ⟨A + 1, 2, none⟩ = some (.int .u64 (wd f2 1)) ∧ w'.cell? ⟨A + 1, 3, none⟩ = some (.int .u64 (wd f2 2)) ∧ w'.cell? ⟨A + 1, 4, none⟩ = some (.int .u64 (wd f2 3)) ∧ w'.cell? ⟨A + 1, 5, none⟩ = some (.int .u64 (wd l2 0)) ∧ w'.cell? ⟨A + 1, 6, none⟩ = some (.int .u64 (wd l2 1)) ∧ w'.cell? ⟨A + 1, 7, none⟩ = some (.int .u64 (wd l2 2)) ∧ w'.cell? ⟨A + 1, 8, none⟩ = some (.int .u64 (wd l2 3)) :=
    fun w' h => part_cells _ _ _ _ _ _ _ _ _ _ w' (by rw [h.block (A + 1) (by omega)]; exact bB)
  clear bZ bA bB bK hA
  have nA : A + 2 ≤ W.heap.size := by omega
  go_region_held3 (fun w' => Below (A + 2) W w')
    (repeat (any_goals (first | with_reducible exact S3 | with_reducible exact S2 | with_reducible exact Below.refl _ _ | with_reducible refine Below.drew ?_ | with_reducible refine Below.setCell ?_ ?_ _ | with_reducible refine Below.alloc ?_ ?_ _ | omega | (simp [size_alloc, size_drew]; done) | (simp [size_alloc, size_drew]; omega))))
    (first | (go_at_call 54; have _ := S2; refine (union2' l1 l2 _ _ ?hs).mono ?_; (case hs => first | (rw [blk_alloc, if_pos rfl]; done) | (refine bkeep h2 ?_; simp only [blk_drew, blk_alloc, size_alloc]; simp)); rintro _ w3 ⟨rfl, h3⟩; have S3 : Below (A + 2) W w3 := Below.trans (by (repeat (any_goals (first | with_reducible exact S2 | with_reducible refine Below.alloc ?_ ?_ _ | omega)))) (h3.mono (by first | omega | (simp [size_alloc]; omega))); have sz3 := S3.size; (have z3 : w3.heap[A + 1 + 1]? = some zeroPart := by refine bkeep h3 ?hz; (case hz => first | (with_reducible exact Z2.out) | (rw [blk_alloc, if_neg (Nat.ne_of_lt lz2)]; exact Z2.out))); obtain ⟨⟨zc0, zc1, zc2, zc3, zc4, zc5, zc6, zc7, zc8⟩, zf0, zf1, zf2, zf3, zf4, zf5, zf6, zf7, zf8⟩ := nine z3; have Z3 := hide z3; clear z3) | (go_at_call 54; refine (union2' f1 f2 _ _ (by simp only [blk_drew, blk_alloc, size_alloc]; simp)).mono ?_; rintro _ w2 ⟨rfl, h2⟩; have S2 : Below (A + 2) W w2 := Below.trans (by (repeat (any_goals (first | with_reducible exact Below.refl _ _ | with_reducible refine Below.drew ?_ | with_reducible refine Below.alloc ?_ ?_ _ | omega | (simp [size_alloc, size_drew]; omega))))) (h2.mono (by simp [size_alloc, size_drew]; omega)); have sz2 := S2.size; have z2 : w2.heap[A + 1 + 1]? = some zeroPart := bkeep h2 (by simp only [blk_drew, blk_alloc, size_alloc]; (first | (rw [if_neg (by omega), if_neg (by omega)]; exact BZ.out) | (rw [if_neg (by omega)]; exact BZ.out))); have Z2 := hide z2; have lz2 := lt_of_block z2; clear z2))
  all_goals
    go_wp2
    refine bodyPost_ret (v := partV e2 (f1 ||| f2) (l1 ||| l2)) (res_part (b := A + 1 + 1) Try.results51 rfl (by simp only [blk_set, Z3.out]; simp [setObj_cells])) rfl ⟨rfl, ?_⟩
    rw [HA.out]
    exact ((((((((((BK.out.trans (S3.mono (by omega))).setCell (by simp; omega) _).setCell (by simp; omega) _).setCell (by simp; omega) _).setCell (by simp; omega) _).setCell (by simp; omega) _).setCell (by simp; omega) _).setCell (by simp; omega) _).setCell (by simp; omega) _).setCell (by simp; omega) _)
end Go.Proofs.Ytbjdkbcfpmeneaa

/- What is proved here: what a store of a whole set or part into a known block leaves behind, said of blocks. -/
namespace Go.Proofs.Ytbjdkbcfpmeneaa
set_option linter.unusedVariables false
set_option linter.unusedSimpArgs false
open Go.RowKit

theorem infoPart : (Try.prog.info? 64).map (·.size) = some 9 := by kernel_rfl
theorem infoSet4 : (Try.prog.info? 62).map (·.size) = some 4 := by kernel_rfl

theorem there_of_block {w : World} {b : Nat} {c : Array Value} {e : TypeId} (h : w.heap[b]? = some (.cells c e (0, 0))) (o n : Nat) (hn : o + n ≤ c.size) : w.there b o n := fun j hj => by
  rw [cell_of_block h, frozen_of_block h]
  exact ⟨by rw [Array.getElem?_eq_getElem (show o + j < c.size by omega)]; rfl, rfl⟩

section
variable {ops : Array Oper} {rest : List Oper} {op : Oper} {a : Act} {w : World} {Q : Exit → Act → World → Prop}

theorem store9 (hgd : op.guard = none) (x y : Operand) (ho : op.op = .store 64 x y) {b : Nat} {x0 x1 x2 x3 x4 x5 x6 x7 x8 : Value} (hb : w.heap[b]? = some (nineO x0 x1 x2 x3 x4 x5 x6 x7 x8))
    (hx : a.eval x = .pointer (some ⟨b, 0, none⟩)) {y0 y1 y2 y3 y4 y5 y6 y7 y8 : Value} (hy : a.eval y = .agg #[y0, y1, y2, y3, y4, y5, y6, y7, y8]) (h1 : #[y0, y1, y2, y3, y4, y5, y6, y7, y8].all (·.oneCell') = true)
    (h : ∀ w', w'.heap[b]? = some (nineO y0 y1 y2 y3 y4 y5 y6 y7 y8) → Kp [b] w w' → w'.heap.size = w.heap.size → wpList Try.prog ops Q rest (a.put op.dst undef) w') : wpList Try.prog ops Q (op :: rest) a w := by
  refine wpList_store_mid hgd 64 x y ho b 0 _ hx hy (there_of_block hb 0 _ (by simp)) (by simp [infoPart]) h1 (h _ ?_ ?_ ?_)
  · simp only [World.setCells, blk_set, hb]; simp [setObj_cells]
  · exact (Kp.refl _ _).set9 (by simp) _ _ _ _ _ _ _ _ _
  · simp [World.setCells, size_set]

theorem storeFirst (hgd : op.guard = none) (x y : Operand) (ho : op.op = .store 62 x y) {b : Nat} {x0 x1 x2 x3 x4 x5 x6 x7 x8 : Value} (hb : w.heap[b]? = some (nineO x0 x1 x2 x3 x4 x5 x6 x7 x8))
    (hx : a.eval x = .pointer (some ⟨b, 1, none⟩)) {y0 y1 y2 y3 : Value} (hy : a.eval y = .agg #[y0, y1, y2, y3]) (h1 : #[y0, y1, y2, y3].all (·.oneCell') = true)
    (h : ∀ w', w'.heap[b]? = some (nineO x0 y0 y1 y2 y3 x5 x6 x7 x8) → Kp [b] w w' → w'.heap.size = w.heap.size → wpList Try.prog ops Q rest (a.put op.dst undef) w') : wpList Try.prog ops Q (op :: rest) a w := by
  refine wpList_store_mid hgd 62 x y ho b 1 _ hx hy (there_of_block hb 1 _ (by simp)) (by simp [infoSet4]) h1 (h _ ?_ ?_ ?_)
  · simp only [World.setCells, blk_set, hb]; simp [setObj_cells]
  · exact (((((Kp.refl _ _).set (by simp) _ _).set (by simp) _ _).set (by simp) _ _).set (by simp) _ _)
  · simp [World.setCells, size_set]

theorem storeLast (hgd : op.guard = none) (x y : Operand) (ho : op.op = .store 62 x y) {b : Nat} {x0 x1 x2 x3 x4 x5 x6 x7 x8 : Value} (hb : w.heap[b]? = some (nineO x0 x1 x2 x3 x4 x5 x6 x7 x8))
    (hx : a.eval x = .pointer (some ⟨b, 5, none⟩)) {y0 y1 y2 y3 : Value} (hy : a.eval y = .agg #[y0, y1, y2, y3]) (h1 : #[y0, y1, y2, y3].all (·.oneCell') = true)
    (h : ∀ w', w'.heap[b]? = some (nineO x0 x1 x2 x3 x4 y0 y1 y2 y3) → Kp [b] w w' → w'.heap.size = w.heap.size → wpList Try.prog ops Q rest (a.put op.dst undef) w') : wpList Try.prog ops Q (op :: rest) a w := by
  refine wpList_store_mid hgd 62 x y ho b 5 _ hx hy (there_of_block hb 5 _ (by simp)) (by simp [infoSet4]) h1 (h _ ?_ ?_ ?_)
  · simp only [World.setCells, blk_set, hb]; simp [setObj_cells]
  · exact (((((Kp.refl _ _).set (by simp) _ _).set (by simp) _ _).set (by simp) _ _).set (by simp) _ _)
  · simp [World.setCells, size_set]

theorem store4 (hgd : op.guard = none) (x y : Operand) (ho : op.op = .store 62 x y) {b : Nat} {x0 x1 x2 x3 : Value} {e : TypeId} (hb : w.heap[b]? = some (.cells #[x0, x1, x2, x3] e (0, 0)))
    (hx : a.eval x = .pointer (some ⟨b, 0, none⟩)) {y0 y1 y2 y3 : Value} (hy : a.eval y = .agg #[y0, y1, y2, y3]) (h1 : #[y0, y1, y2, y3].all (·.oneCell') = true)
    (h : ∀ w', w'.heap[b]? = some (.cells #[y0, y1, y2, y3] e (0, 0)) → Kp [b] w w' → w'.heap.size = w.heap.size → wpList Try.prog ops Q rest (a.put op.dst undef) w') : wpList Try.prog ops Q (op :: rest) a w := by
  refine wpList_store_mid hgd 62 x y ho b 0 _ hx hy (there_of_block hb 0 _ (by simp)) (by simp [infoSet4]) h1 (h _ ?_ ?_ ?_)
  · simp only [World.setCells, blk_set, hb]; simp [setObj_cells]
  · exact (Kp.refl _ _).set4 (by simp) _ _ _ _
  · simp [World.setCells, size_set]

theorem load9 (hgd : op.guard = none) (x : Operand) (ho : op.op = .load 64 x) {b : Nat} {x0 x1 x2 x3 x4 x5 x6 x7 x8 : Value} (hb : w.heap[b]? = some (nineO x0 x1 x2 x3 x4 x5 x6 x7 x8))
    (hx : a.eval x = .pointer (some ⟨b, 0, none⟩))
    (h : wpList Try.prog ops Q rest (a.put op.dst (.agg #[x0, x1, x2, x3, x4, x5, x6, x7, x8])) w) : wpList Try.prog ops Q (op :: rest) a w := by
  obtain ⟨⟨d0, d1, d2, d3, d4, d5, d6, d7, d8⟩, _⟩ := nine hb
  refine wpList_load_mid hgd 64 x ho b 0 hx [x0, x1, x2, x3, x4, x5, x6, x7, x8] _ ?_ Try.underlying64 rfl (by simp [infoPart]) h
  have hr := World.rangeAt_of_block hb 0 9
  simpa using hr
end
end Go.Proofs.Ytbjdkbcfpmeneaa
