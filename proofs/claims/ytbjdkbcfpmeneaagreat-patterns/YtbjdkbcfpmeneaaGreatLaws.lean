/- What is proved here: what a store of a whole set or part into a known block leaves behind, said of blocks. -/
import Derived.Test.YtbjdkbcfpmeneaaGreatRows
import Derived.Test.YtbjdkbcfpmeneaaGreatPos4
import Derived.Deep.MidRow
namespace Go.Proofs.YtbjdkbcfpmeneaaGreat
set_option linter.unusedVariables false
set_option linter.unusedSimpArgs false
open Go.RowKit

theorem infoPart : (Tryz.prog.info? 67).map (·.size) = some 9 := by kernel_rfl
theorem infoSet4 : (Tryz.prog.info? 65).map (·.size) = some 4 := by kernel_rfl

theorem there_of_block {w : World} {b : Nat} {c : Array Value} {e : TypeId} (h : w.heap[b]? = some (.cells c e (0, 0))) (o n : Nat) (hn : o + n ≤ c.size) : w.there b o n := fun j hj => by
  rw [cell_of_block h, frozen_of_block h]
  exact ⟨by rw [Array.getElem?_eq_getElem (show o + j < c.size by omega)]; rfl, rfl⟩

section
variable {ops : Array Oper} {rest : List Oper} {op : Oper} {a : Act} {w : World} {Q : Exit → Act → World → Prop}

theorem store9 (hgd : op.guard = none) (x y : Operand) (ho : op.op = .store 67 x y) {b : Nat} {x0 x1 x2 x3 x4 x5 x6 x7 x8 : Value} (hb : w.heap[b]? = some (nineO x0 x1 x2 x3 x4 x5 x6 x7 x8))
    (hx : a.eval x = .pointer (some ⟨b, 0, none⟩)) {y0 y1 y2 y3 y4 y5 y6 y7 y8 : Value} (hy : a.eval y = .agg #[y0, y1, y2, y3, y4, y5, y6, y7, y8]) (h1 : #[y0, y1, y2, y3, y4, y5, y6, y7, y8].all (·.oneCell') = true)
    (h : ∀ w', w'.heap[b]? = some (nineO y0 y1 y2 y3 y4 y5 y6 y7 y8) → Kp [b] w w' → w'.heap.size = w.heap.size → wpList Tryz.prog ops Q rest (a.put op.dst undef) w') : wpList Tryz.prog ops Q (op :: rest) a w := by
  refine wpList_store_mid hgd 67 x y ho b 0 _ hx hy (there_of_block hb 0 _ (by simp)) (by simp [infoPart]) h1 (h _ ?_ ?_ ?_)
  · simp only [World.setCells, blk_set, hb]; simp [setObj_cells]
  · exact (Kp.refl _ _).set9 (by simp) _ _ _ _ _ _ _ _ _
  · simp [World.setCells, size_set]

theorem storeFirst (hgd : op.guard = none) (x y : Operand) (ho : op.op = .store 65 x y) {b : Nat} {x0 x1 x2 x3 x4 x5 x6 x7 x8 : Value} (hb : w.heap[b]? = some (nineO x0 x1 x2 x3 x4 x5 x6 x7 x8))
    (hx : a.eval x = .pointer (some ⟨b, 1, none⟩)) {y0 y1 y2 y3 : Value} (hy : a.eval y = .agg #[y0, y1, y2, y3]) (h1 : #[y0, y1, y2, y3].all (·.oneCell') = true)
    (h : ∀ w', w'.heap[b]? = some (nineO x0 y0 y1 y2 y3 x5 x6 x7 x8) → Kp [b] w w' → w'.heap.size = w.heap.size → wpList Tryz.prog ops Q rest (a.put op.dst undef) w') : wpList Tryz.prog ops Q (op :: rest) a w := by
  refine wpList_store_mid hgd 65 x y ho b 1 _ hx hy (there_of_block hb 1 _ (by simp)) (by simp [infoSet4]) h1 (h _ ?_ ?_ ?_)
  · simp only [World.setCells, blk_set, hb]; simp [setObj_cells]
  · exact (((((Kp.refl _ _).set (by simp) _ _).set (by simp) _ _).set (by simp) _ _).set (by simp) _ _)
  · simp [World.setCells, size_set]

theorem storeLast (hgd : op.guard = none) (x y : Operand) (ho : op.op = .store 65 x y) {b : Nat} {x0 x1 x2 x3 x4 x5 x6 x7 x8 : Value} (hb : w.heap[b]? = some (nineO x0 x1 x2 x3 x4 x5 x6 x7 x8))
    (hx : a.eval x = .pointer (some ⟨b, 5, none⟩)) {y0 y1 y2 y3 : Value} (hy : a.eval y = .agg #[y0, y1, y2, y3]) (h1 : #[y0, y1, y2, y3].all (·.oneCell') = true)
    (h : ∀ w', w'.heap[b]? = some (nineO x0 x1 x2 x3 x4 y0 y1 y2 y3) → Kp [b] w w' → w'.heap.size = w.heap.size → wpList Tryz.prog ops Q rest (a.put op.dst undef) w') : wpList Tryz.prog ops Q (op :: rest) a w := by
  refine wpList_store_mid hgd 65 x y ho b 5 _ hx hy (there_of_block hb 5 _ (by simp)) (by simp [infoSet4]) h1 (h _ ?_ ?_ ?_)
  · simp only [World.setCells, blk_set, hb]; simp [setObj_cells]
  · exact (((((Kp.refl _ _).set (by simp) _ _).set (by simp) _ _).set (by simp) _ _).set (by simp) _ _)
  · simp [World.setCells, size_set]

theorem store4 (hgd : op.guard = none) (x y : Operand) (ho : op.op = .store 65 x y) {b : Nat} {x0 x1 x2 x3 : Value} {e : TypeId} (hb : w.heap[b]? = some (.cells #[x0, x1, x2, x3] e (0, 0)))
    (hx : a.eval x = .pointer (some ⟨b, 0, none⟩)) {y0 y1 y2 y3 : Value} (hy : a.eval y = .agg #[y0, y1, y2, y3]) (h1 : #[y0, y1, y2, y3].all (·.oneCell') = true)
    (h : ∀ w', w'.heap[b]? = some (.cells #[y0, y1, y2, y3] e (0, 0)) → Kp [b] w w' → w'.heap.size = w.heap.size → wpList Tryz.prog ops Q rest (a.put op.dst undef) w') : wpList Tryz.prog ops Q (op :: rest) a w := by
  refine wpList_store_mid hgd 65 x y ho b 0 _ hx hy (there_of_block hb 0 _ (by simp)) (by simp [infoSet4]) h1 (h _ ?_ ?_ ?_)
  · simp only [World.setCells, blk_set, hb]; simp [setObj_cells]
  · exact (Kp.refl _ _).set4 (by simp) _ _ _ _
  · simp [World.setCells, size_set]

theorem load9 (hgd : op.guard = none) (x : Operand) (ho : op.op = .load 67 x) {b : Nat} {x0 x1 x2 x3 x4 x5 x6 x7 x8 : Value} (hb : w.heap[b]? = some (nineO x0 x1 x2 x3 x4 x5 x6 x7 x8))
    (hx : a.eval x = .pointer (some ⟨b, 0, none⟩))
    (h : wpList Tryz.prog ops Q rest (a.put op.dst (.agg #[x0, x1, x2, x3, x4, x5, x6, x7, x8])) w) : wpList Tryz.prog ops Q (op :: rest) a w := by
  obtain ⟨⟨d0, d1, d2, d3, d4, d5, d6, d7, d8⟩, _⟩ := nine hb
  refine wpList_load_mid hgd 67 x ho b 0 hx [x0, x1, x2, x3, x4, x5, x6, x7, x8] _ ?_ Tryz.underlying67 rfl (by simp [infoPart]) h
  have hr := World.rangeAt_of_block hb 0 9
  simpa using hr
end
end Go.Proofs.YtbjdkbcfpmeneaaGreat
