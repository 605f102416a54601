/- What is proved here: a map that numbers its keys as they come: what is found in it, and what it is when one more came. No program is named. -/
import Derived.WalkKit
import Derived.Maps.Keyed
import Derived.MapViews
import Derived.Carry
import Derived.Test.YtbjdkbcfpmeneaaRows
import Derived.Test.YtbjdkbcfpmeneaaM03
import Derived.DeepKeys4
import Derived.Deep.RegionLaw
import Derived.Deep.DeepMust
namespace Go.Proofs.Ytbjdkbcfpmeneaa
set_option linter.unusedVariables false
set_option linter.unusedSimpArgs false
open Go.ChangeMaps Go.MapKept

/- A block that is a map of these keys; each has its place for its value. -/
def NumMap (w : World) (b : Nat) (ks : List Value) : Prop :=
  ∃ es clock, w.heap[b]? = some (.map es clock) ∧ es.toList.map (·.key) = ks ∧ ∀ (i : Nat) (e : MapEntry), es.toList[i]? = some e → e.val = .int .i64 i

/- These values are keys of that type. -/
def Keyish (P : Program) (k : TypeId) (v : Value) : Prop := ∃ l, keyOf P k v = some l

theorem num_new (w : World) : NumMap (w.alloc (.map #[] 0)) w.heap.size [] := by
  refine ⟨#[], 0, (MapKept.heap_alloc w _).1, rfl, ?_⟩
  intro i e h
  simp at h

theorem NumMap.lt {w : World} {b : Nat} {ks : List Value} (h : NumMap w b ks) : b < w.heap.size := by
  obtain ⟨es, c, hb, _⟩ := h
  exact (Array.getElem?_eq_some_iff.1 hb).1

theorem NumMap.keep {w w' : World} {b : Nat} {ks : List Value} (h : NumMap w b ks) (e : w'.heap[b]? = w.heap[b]?) : NumMap w' b ks := by
  obtain ⟨es, c, hb, h2, h3⟩ := h
  exact ⟨es, c, e.trans hb, h2, h3⟩

theorem NumMap.len {w : World} {b : Nat} {ks : List Value} (h : NumMap w b ks) : ∃ es c, w.heap[b]? = some (.map es c) ∧ es.size = ks.length := by
  obtain ⟨es, c, hb, h2, _⟩ := h
  exact ⟨es, c, hb, by rw [← h2]; simp⟩

section
variable {P : Program} {k t e : TypeId}

theorem look_known (K : Maps.Keyed P k) (ht : P.underlying t = some (.map k e)) (w : World) {b : Nat} {ks : List Value} (h : NumMap w b ks) (hk : ∀ v ∈ ks, Keyish P k v) (hn : ks.Nodup) {x : Value} {i : Nat} (hx : ks[i]? = some x) :
    (Instr.lookup t (.map (some b)) x true).run P w = .ok (.tuple #[.int .i64 i, .bool true]) w := by
  obtain ⟨es, c, hb, h2, h3⟩ := h
  obtain ⟨l, hl⟩ := hk x (List.mem_of_getElem? hx)
  rcases K.find w hl es.toList (fun e he => hk e.key (by rw [← h2]; exact List.mem_map.2 ⟨e, he, rfl⟩)) with ⟨h1, h4⟩ | ⟨j, e0, h1, h4, h5⟩
  · have : x ∈ es.toList.map (·.key) := by rw [h2]; exact List.mem_of_getElem? hx
    obtain ⟨e, he, q⟩ := List.mem_map.1 this
    exact absurd q (h4 e he)
  · have hj : ks[j]? = some x := by rw [← h2, List.getElem?_map, h4, ← h5]; rfl
    have hi : i < ks.length := (List.getElem?_eq_some_iff.1 hx).1
    have hij : i = j := (List.getElem?_inj hi hn).1 (by rw [hx, hj])
    subst hij
    simp [Instr.lookup, run_underlying ht, MapKept.run_getObj_map hb, K.check w _ hl, h1, Result.andThen, h3 i e0 h4]

theorem look_new (K : Maps.Keyed P k) (ht : P.underlying t = some (.map k e)) (w : World) (hz : (zeroValue e).run P w = .ok (.int .i64 0) w) {b : Nat} {ks : List Value} (h : NumMap w b ks) (hk : ∀ v ∈ ks, Keyish P k v) {x : Value} (hl : Keyish P k x) (hx : x ∉ ks) :
    (Instr.lookup t (.map (some b)) x true).run P w = .ok (.tuple #[.int .i64 0, .bool false]) w := by
  obtain ⟨es, c, hb, h2, h3⟩ := h
  obtain ⟨l, hl⟩ := hl
  rcases K.find w hl es.toList (fun e he => hk e.key (by rw [← h2]; exact List.mem_map.2 ⟨e, he, rfl⟩)) with ⟨h1, h4⟩ | ⟨j, e0, h1, h4, h5⟩
  · simp [Instr.lookup, run_underlying ht, MapKept.run_getObj_map hb, K.check w _ hl, h1, Result.andThen, hz]
  · exact absurd (by rw [← h2, ← h5]; exact List.mem_map.2 ⟨e0, List.mem_of_getElem? h4, rfl⟩) hx

theorem look_none (K : Maps.Keyed P k) (ht : P.underlying t = some (.map k e)) (w : World) (hz : (zeroValue e).run P w = .ok (.int .i64 0) w) {x : Value} (hl : Keyish P k x) :
    (Instr.lookup t (.map none) x true).run P w = .ok (.tuple #[.int .i64 0, .bool false]) w := by
  obtain ⟨l, hl⟩ := hl
  rcases K.find w hl [] (fun e he => by simp at he) with ⟨h1, _⟩ | ⟨j, e0, h1, h4, h5⟩
  · simp [Instr.lookup, run_underlying ht, K.check w _ hl, h1, Result.andThen, hz]
  · simp at h4

theorem put_new (K : Maps.Keyed P k) (ht : P.underlying t = some (.map k e)) (w : World) {b : Nat} {ks : List Value} (h : NumMap w b ks) (hk : ∀ v ∈ ks, Keyish P k v) {x : Value} (hl : Keyish P k x) (hx : x ∉ ks) :
    ∃ o, (Instr.mapUpdate t (.map (some b)) x (.int .i64 ks.length)).run P w = .ok () (setBlock w b o) ∧ NumMap (setBlock w b o) b (ks ++ [x]) := by
  obtain ⟨es, c, hb, h2, h3⟩ := h
  obtain ⟨l, hl⟩ := hl
  rcases K.find w hl es.toList (fun e he => hk e.key (by rw [← h2]; exact List.mem_map.2 ⟨e, he, rfl⟩)) with ⟨h1, h4⟩ | ⟨j, e0, h1, h4, h5⟩
  · refine ⟨.map (es.push ⟨x, .int .i64 ks.length, c⟩) (c + 1), ?_, es.push ⟨x, .int .i64 ks.length, c⟩, c + 1, heap_setBlock_same hb _, ?_, ?_⟩
    · simp [Instr.mapUpdate, run_underlying ht, MapKept.run_getObj_map hb, K.check w false hl, h1, MapKept.run_setObj_map _ hb, Result.andThen, setBlock]
    · rw [Array.toList_push, List.map_append, h2]; rfl
    · intro i e he
      rw [Array.toList_push, List.getElem?_append] at he
      split at he
      · exact h3 i e he
      · rename_i hlt
        have hlen : es.toList.length = ks.length := by rw [← h2, List.length_map]
        have hi : i - es.toList.length = 0 := by
          rcases Nat.eq_zero_or_pos (i - es.toList.length) with q | q
          · exact q
          · rw [List.getElem?_eq_none (by simp only [List.length_singleton]; omega)] at he; cases he
        rw [hi] at he
        simp at he
        subst he
        show Value.int .i64 _ = _
        have : i = ks.length := by omega
        rw [this]
  · exact absurd (by rw [← h2, ← h5]; exact List.mem_map.2 ⟨e0, List.mem_of_getElem? h4, rfl⟩) hx
end
end Go.Proofs.Ytbjdkbcfpmeneaa

/- What is proved here: what it is to number things as they come: the map and the row of them in memory, and keys of each kind. -/
namespace Go.Proofs.Ytbjdkbcfpmeneaa
set_option linter.unusedVariables false
set_option linter.unusedSimpArgs false
open Go.RowKit

abbrev pairV (a b : Int) : Value := .agg #[.int .i64 a, .int .i64 b]
theorem laid0 : laidOutB Try.prog = true := by kernel_rfl
theorem keyPair : Maps.Keyed Try.prog 135 := Maps.Keyed.of_law (deep_law_laid laid0 (m := 2) (by omega) (of_decide_eq_true (by kernel_rfl)) (by kernel_rfl) (by kernel_rfl))
theorem keySet : Maps.Keyed Try.prog 62 := Maps.Keyed.of_law (deep_law_laid laid0 (m := 2) (by omega) (of_decide_eq_true (by kernel_rfl)) (by kernel_rfl) (by kernel_rfl))
theorem keyState : Maps.Keyed Try.prog 96 := Maps.Keyed.of_law (deep_law_laid laid0 (m := 3) (by omega) (of_decide_eq_true (by kernel_rfl)) (by kernel_rfl) (by kernel_rfl))
theorem keyInt : Maps.Keyed Try.prog 3 := Maps.int_keyed (q := .i64) Try.underlying3

theorem tsize : ∃ m, Try.prog.types.size + 1 = m + 3 := ⟨Try.prog.types.size - 2, by have : 3 ≤ Try.prog.types.size := of_decide_eq_true (by kernel_rfl); omega⟩
abbrev stateV (a b : Nat) : Value := .agg #[.int .u64 (wd a 0), .int .u64 (wd a 1), .int .u64 (wd a 2), .int .u64 (wd a 3), .int .u64 (wd b 0), .int .u64 (wd b 1), .int .u64 (wd b 2), .int .u64 (wd b 3)]
theorem wfu64 (s i : Nat) : (Lit.int .u64 (wd s i)).wf = true := by
  have : wd s i < 18446744073709551616 := by unfold wd; omega
  have := wd_nonneg s i
  simp [Lit.wf, IntKind.min, IntKind.max, IntKind.bits, IntKind.signed]; omega
theorem wf64 {a : Int} (h1 : -9223372036854775808 ≤ a) (h2 : a ≤ 9223372036854775807) : (Lit.int .i64 a).wf = true := by
  simp [Lit.wf, IntKind.min, IntKind.max, IntKind.bits, IntKind.signed]; omega
theorem int_lits (m : Nat) {a : Int} (ha : (Lit.int .i64 a).wf = true) : Try.prog.keyLits (m + 1) 3 [.int .i64 a] = some [.int .i64 a] := by
  unfold Program.keyLits
  simp only [Try.underlying3]
  rw [if_pos ⟨trivial, ha⟩]
theorem u64_lits (m s i : Nat) : Try.prog.keyLits (m + 1) 60 [.int .u64 (wd s i)] = some [.int .u64 (wd s i)] := by
  unfold Program.keyLits
  simp only [Try.underlying60]
  rw [if_pos ⟨trivial, wfu64 s i⟩]
theorem pair_key {a b : Int} (ha : (Lit.int .i64 a).wf = true) (hb : (Lit.int .i64 b).wf = true) : Keyish Try.prog 135 (pairV a b) := by
  have kt : Try.prog.keyType 135 = true := by kernel_rfl
  have c1 : Try.prog.cellsOf 135 = 2 := by kernel_rfl
  have c2 : Try.prog.cellsOf 3 = 1 := by kernel_rfl
  have fm : (pairV a b).formed Try.prog 135 = true := by
    simp [Value.formed, Try.underlying135, c1]
  obtain ⟨m, hm⟩ := tsize
  unfold Keyish keyOf
  rw [hm]
  have kl : ∃ ls, Try.prog.keyLits (m + 3) 135 (pairV a b).cells.toList = some ls := by
    unfold Program.keyLits
    simp only [Try.underlying135, c1, Value.cells]
    simp [c2, int_lits, ha, hb]
  obtain ⟨ls, kl⟩ := kl
  simp only [Try.underlying135, kt, fm, kl]
  exact ⟨_, rfl⟩
theorem set_lits (m s : Nat) : Try.prog.keyLits (m + 2) 62 [.int .u64 (wd s 0), .int .u64 (wd s 1), .int .u64 (wd s 2), .int .u64 (wd s 3)] = some [.int .u64 (wd s 0), .int .u64 (wd s 1), .int .u64 (wd s 2), .int .u64 (wd s 3)] := by
  have c1 : Try.prog.cellsOf 62 = 4 := by kernel_rfl
  have c2 : Try.prog.cellsOf 60 = 1 := by kernel_rfl
  unfold Program.keyLits
  simp only [Try.underlying62, c1]
  simp [c2, u64_lits, List.range, List.range.loop]
theorem set_key (s : Nat) : Keyish Try.prog 62 (setV s) := by
  have kt : Try.prog.keyType 62 = true := by kernel_rfl
  have c1 : Try.prog.cellsOf 62 = 4 := by kernel_rfl
  have fm : (Value.agg #[.int .u64 (wd s 0), .int .u64 (wd s 1), .int .u64 (wd s 2), .int .u64 (wd s 3)]).formed Try.prog 62 = true := by
    simp [Value.formed, Try.underlying62, c1]
  obtain ⟨m, hm⟩ := tsize
  unfold Keyish keyOf
  rw [hm]
  have kl := set_lits (m + 1) s
  simp only [Try.underlying62, kt, fm, Value.cells, kl]
  exact ⟨_, rfl⟩
theorem state_key (a b : Nat) : Keyish Try.prog 96 (stateV a b) := by
  have kt : Try.prog.keyType 96 = true := by kernel_rfl
  have c1 : Try.prog.cellsOf 62 = 4 := by kernel_rfl
  have c2 : Try.prog.cellsOf 96 = 8 := by kernel_rfl
  have fm : (stateV a b).formed Try.prog 96 = true := by
    simp [Value.formed, Try.underlying96, c2]
  obtain ⟨m, hm⟩ := tsize
  unfold Keyish keyOf
  rw [hm]
  have k1 := set_lits m a
  have k2 := set_lits m b
  have kl : ∃ ls, Try.prog.keyLits (m + 3) 96 (stateV a b).cells.toList = some ls := by
    unfold Program.keyLits
    simp only [Try.underlying96, c2, Value.cells]
    simp [c1, k1, k2]
  obtain ⟨ls, kl⟩ := kl
  simp only [Try.underlying96, kt, fm, kl]
  exact ⟨_, rfl⟩
theorem int_key {a : Int} (ha : (Lit.int .i64 a).wf = true) : Keyish Try.prog 3 (.int .i64 a) := ⟨_, Maps.keyOf_int_mk Try.underlying3 ha⟩

end Go.Proofs.Ytbjdkbcfpmeneaa
