/- What is proved here: rows of bools in memory. -/
import Derived.Test.YtbjdkbcfpmeneaaRows
import Derived.Test.YtbjdkbcfpmeneaaM02
import Derived.Deep.OwnRows
namespace Go.Proofs.Ytbjdkbcfpmeneaa
set_option linter.unusedVariables false
set_option linter.unusedSimpArgs false
open Go.RowKit

/- A row of bools in its block. -/
abbrev kbO (l : List Bool) : Obj := .cells (l.map Value.bool).toArray 4 (0, 0)
theorem kbcell {w : World} {b : Nat} {l : List Bool} (h : w.heap[b]? = some (kbO l)) (i : Nat) (hi : i < l.length) : w.cell? ⟨b, i, none⟩ = some (.bool (l.getD i false)) := by
  rw [cell_of_block h]
  simp [List.getElem?_eq_getElem hi]
theorem kbfroz {w : World} {b : Nat} {l : List Bool} (h : w.heap[b]? = some (kbO l)) (i : Nat) : w.frozen? ⟨b, i, none⟩ = false := frozen_of_block h i
theorem kbset {w : World} {b : Nat} {l : List Bool} (h : w.heap[b]? = some (kbO l)) (i : Nat) (v : Bool) : (w.setCell ⟨b, i, none⟩ (.bool v)).heap[b]? = some (kbO (l.set i v)) := by
  rw [blk_set, if_pos rfl, h]
  simp [setObj, List.map_set]
def kfl (n : Nat) : List Bool := List.replicate n false
theorem kfl_len (n : Nat) : (kfl n).length = n := List.length_replicate
theorem kfl_get (n i : Nat) : (kfl n).getD i false = false := by
  unfold kfl; rw [List.getD_eq_getElem?_getD, List.getElem?_replicate]; split <;> rfl
theorem kinfoBool : (Try.prog.info? 4).map (fun i => (i.zero, i.size, i.bytes)) = some (some (.bool false), 1, 1) := by kernel_rfl
theorem run_make_kb (n : Nat) (hn : n ≤ 1000000) (w : World) :
    (Instr.makeSlice 39 (.int .i64 (n : Int)) (.int .i64 (n : Int))).run Try.prog w = .ok (.slice (some ⟨w.heap.size, 0, none⟩) n n) (w.alloc (kbO (kfl n))) := by
  rw [run_make_row' 39 4 (.bool false) 1 Try.underlying39 kinfoBool rfl .i64 .i64 n (by omega) (by omega) w]
  congr 3
  rw [← Array.toArray_toList (xs := madeCells #[Value.bool false] n), toList_madeCells_one, kfl, List.map_replicate]
theorem kb_self (l : List Bool) (i : Nat) (v : Bool) (hi : i < l.length) : (l.set i v).getD i false = v := by
  rw [List.getD_eq_getElem?_getD, List.getElem?_set_self hi]; rfl
theorem kb_other (l : List Bool) (i j : Nat) (v : Bool) (h : i ≠ j) : (l.set i v).getD j false = l.getD j false := by
  rw [List.getD_eq_getElem?_getD, List.getElem?_set_ne h, ← List.getD_eq_getElem?_getD]
end Go.Proofs.Ytbjdkbcfpmeneaa
