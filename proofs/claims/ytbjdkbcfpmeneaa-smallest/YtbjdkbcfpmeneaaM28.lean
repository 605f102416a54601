/- What is proved here: what it is to box a table, to build a merger of one, to index an array that is a value. -/
import Derived.Test.YtbjdkbcfpmeneaaRows
import Derived.Test.YtbjdkbcfpmeneaaM21
namespace Go.Proofs.Ytbjdkbcfpmeneaa
set_option linter.unusedVariables false
set_option linter.unusedSimpArgs false
open Go.RowKit

section
variable {ops : Array Oper} {rest : List Oper} {op : Oper} {a : Act} {w : World} {Q : Exit → Act → World → Prop}
theorem boxB (hgd : op.guard = none) (ty : TypeId) (x : Operand) (ho : op.op = .box ty x) (v : Value) (hv : a.eval x = v)
    (h : wpList Try.prog ops Q rest (a.put op.dst (.pointer (some ⟨w.heap.size, 0, none⟩))) (w.alloc (.cells v.cells ty (0, 0)))) : wpList Try.prog ops Q (op :: rest) a w := by
  refine wpList_plain hgd fun _ hK => ?_
  unfold Oper.wp execOp
  simp only [ho, hv]
  simp [Instr.box, newVar, newRow, newObj, Sem.run_bind, go_sem]
  exact hK _ _ h
theorem indexCls (hgd : op.guard = none) (x y : Operand) (ho : op.op = .index 42 x y) (c : Array Value) (hx : a.eval x = .agg c) (k : Nat) (hy : a.eval y = .int .i64 k) (hk : k < 256) (v : Value) (hv : c[k]? = some v)
    (h : wpList Try.prog ops Q rest (a.put op.dst v) w) : wpList Try.prog ops Q (op :: rest) a w := by
  refine wpList_plain hgd fun _ hK => ?_
  obtain ⟨i0, hi0, hz0, hz1, hz2⟩ := info_parts infoInt
  have hk' : (k : Int) < 256 := by omega
  unfold Oper.wp execOp
  simp only [ho, hx, hy]
  simp [Instr.index, run_underlying Try.underlying42, asIntOf, sizeOf, typeInfo, hi0, hz1, hk', hk, part, isAgg, run_underlying Try.underlying3, hv]
  exact hK _ _ h
end
/- A merger of a table. -/
def mrgPlace : Nat → Option (Nat × Nat)
  | 0 => some (0, 258)
  | 1 => some (258, 1)
  | 2 => some (259, 3)
  | _ => none
theorem infoMrg : (Try.prog.info? 110).map (fun i => i.zero) = some (some (.agg (mArr z256 (.slice none 0 0) (.slice none 0 0) (.slice none 0 0) (.map none) (.slice none 0 0) (.int .i64 0)))) := by kernel_rfl
theorem infoMrgS : (Try.prog.info? 110).map (·.size) = some 262 := by kernel_rfl
set_option maxRecDepth 100000 in
theorem built_mrg (parts : List (Nat × Value)) : Try.prog.built 110 parts = Instr.fill mrgPlace (mArr z256 (.slice none 0 0) (.slice none 0 0) (.slice none 0 0) (.map none) (.slice none 0 0) (.int .i64 0)) parts := by
  have hz := infoMrg
  obtain ⟨i, hi⟩ : ∃ i, Try.prog.info? 110 = some i := by
    cases h : Try.prog.info? 110 with
    | none => rw [h] at hz; cases hz
    | some i => exact ⟨i, rfl⟩
  rw [hi] at hz
  have hz' : i.zero = some (.agg (mArr z256 (.slice none 0 0) (.slice none 0 0) (.slice none 0 0) (.map none) (.slice none 0 0) (.int .i64 0))) := by simpa using hz
  unfold Program.built
  simp only [hi, Try.underlying110, hz']
  have hp : ([(Try.prog.info? 46).map fun i => (0, i.size), (Try.prog.info? 102).map fun i => (258, i.size), (Try.prog.info? 108).map fun i => (259, i.size)] : List (Option (Nat × Nat))) = [some (0, 258), some (258, 1), some (259, 3)] := by kernel_rfl
  simp only [List.cons.injEq, and_true] at hp
  obtain ⟨p0, p1, p2⟩ := hp
  simp only [List.mapM_cons, List.mapM_nil, p0, p1, p2]
  have e : (fun x => ([(0, 258), (258, 1), (259, 3)] : List (Nat × Nat)).toArray[x]?) = mrgPlace := by
    funext x
    match x with
    | 0 => rfl
    | 1 => rfl
    | 2 => rfl
    | n + 3 => rfl
  rw [← e]
  rfl
theorem layAt_mrg {c : Array Value} (h : c.size = 256) (vn va : Value) : layAt (mArr z256 (.slice none 0 0) (.slice none 0 0) (.slice none 0 0) (.map none) (.slice none 0 0) (.int .i64 0)) 0 (tabArr c vn va).toList = mArr c vn va (.slice none 0 0) (.map none) (.slice none 0 0) (.int .i64 0) := by
  have hs := tabArr_size h vn va
  have hm := mArr_size z256_size (.slice none 0 0) (.slice none 0 0) (.slice none 0 0) (.map none) (.slice none 0 0) (.int .i64 0)
  have inn : ∀ i, i < 258 → (layAt (mArr z256 (.slice none 0 0) (.slice none 0 0) (.slice none 0 0) (.map none) (.slice none 0 0) (.int .i64 0)) 0 (tabArr c vn va).toList)[i]? = (tabArr c vn va)[i]? := fun i hi => by
    have := layAt_in (tabArr c vn va).toList 0 (mArr z256 (.slice none 0 0) (.slice none 0 0) (.slice none 0 0) (.map none) (.slice none 0 0) (.int .i64 0)) i (by simpa [hs] using hi) (by rw [hm]; simp [hs])
    rw [Nat.zero_add] at this
    rw [this, Array.getElem?_toList]
  have out : ∀ i, 258 ≤ i → (layAt (mArr z256 (.slice none 0 0) (.slice none 0 0) (.slice none 0 0) (.map none) (.slice none 0 0) (.int .i64 0)) 0 (tabArr c vn va).toList)[i]? = (mArr z256 (.slice none 0 0) (.slice none 0 0) (.slice none 0 0) (.map none) (.slice none 0 0) (.int .i64 0))[i]? := fun i hi =>
    layAt_out _ _ _ _ (.inr (by simpa [hs] using hi))
  refine mArr_ext h _ _ _ _ _ _ _ (by rw [layAt_size, hm]) ?_ ?_ ?_ ?_ ?_ ?_ ?_
  · intro i hi; rw [inn i (by omega), tabArr_lo h _ _ hi]
  · rw [inn 256 (by omega), tabArr_256 h]
  · rw [inn 257 (by omega), tabArr_257 h]
  · rw [out 258 (by omega), mArr_258 z256_size]
  · rw [out 259 (by omega), mArr_259 z256_size]
  · rw [out 260 (by omega), mArr_260 z256_size]
  · rw [out 261 (by omega), mArr_261 z256_size]
theorem fill_mrg {c : Array Value} (h : c.size = 256) (vn va : Value) : Instr.fill mrgPlace (mArr z256 (.slice none 0 0) (.slice none 0 0) (.slice none 0 0) (.map none) (.slice none 0 0) (.int .i64 0)) [(0, .agg (tabArr c vn va))] = some (mArr c vn va (.slice none 0 0) (.map none) (.slice none 0 0) (.int .i64 0)) := by
  rw [Instr.fill]
  simp only [mrgPlace, Value.cells, tabArr_size h, mArr_size z256_size]
  have := fold_lay 0 (tabArr c vn va).toList 0 (mArr z256 (.slice none 0 0) (.slice none 0 0) (.slice none 0 0) (.map none) (.slice none 0 0) (.int .i64 0))
  simp only [Nat.add_zero] at this
  rw [layAt_mrg h] at this
  rw [if_neg (by simp), Instr.fill]
  congr 1
  rw [← this, ← Array.foldl_toList]
  simp
section
variable {ops : Array Oper} {rest : List Oper} {op : Oper} {a : Act} {w : World} {Q : Exit → Act → World → Prop}
theorem buildMrg (hgd : op.guard = none) (parts : List (Nat × Operand)) (ho : op.op = .build 110 parts.toArray) (cells : Array Value) (hf : Instr.fill mrgPlace (mArr z256 (.slice none 0 0) (.slice none 0 0) (.slice none 0 0) (.map none) (.slice none 0 0) (.int .i64 0)) (parts.map fun q => (q.1, a.eval q.2)) = some cells)
    (h : wpList Try.prog ops Q rest (a.put op.dst (.agg cells)) w) : wpList Try.prog ops Q (op :: rest) a w := by
  have e : (parts.toArray.map fun (i, x) => (i, a.eval x)).toList = parts.map fun q => (q.1, a.eval q.2) := by simp
  refine wpList_plain hgd fun _ hK => wp_build 110 parts.toArray ho ?_ (hK _ _ ?_)
  · rw [built_mrg, e, hf]; rfl
  · rw [built_mrg, e, hf]; exact h
end
end Go.Proofs.Ytbjdkbcfpmeneaa
