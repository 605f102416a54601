/- What is proved here: rows of bools in memory; what single and one of the document's reader answer. -/
import Derived.Test.YtbjdkbcfpmeneaaGreatRows
import Derived.Test.YtbjdkbcfpmeneaaGreatRef2
import Derived.Deep.OwnRows
namespace Go.Proofs.YtbjdkbcfpmeneaaGreat
set_option linter.unusedVariables false
set_option linter.unusedSimpArgs false
open Go.RowKit

/- A row of bools in its block. -/
abbrev boolsO (l : List Bool) : Obj := .cells (l.map Value.bool).toArray 4 (0, 0)
theorem bcell {w : World} {b : Nat} {l : List Bool} (h : w.heap[b]? = some (boolsO l)) (i : Nat) (hi : i < l.length) : w.cell? ⟨b, i, none⟩ = some (.bool (l.getD i false)) := by
  rw [cell_of_block h]
  simp [List.getElem?_eq_getElem hi]
theorem bfroz {w : World} {b : Nat} {l : List Bool} (h : w.heap[b]? = some (boolsO l)) (i : Nat) : w.frozen? ⟨b, i, none⟩ = false := frozen_of_block h i
theorem bset {w : World} {b : Nat} {l : List Bool} (h : w.heap[b]? = some (boolsO l)) (i : Nat) (v : Bool) : (w.setCell ⟨b, i, none⟩ (.bool v)).heap[b]? = some (boolsO (l.set i v)) := by
  rw [blk_set, if_pos rfl, h]
  simp [setObj, List.map_set]
def fl (n : Nat) : List Bool := List.replicate n false
theorem fl_len (n : Nat) : (fl n).length = n := List.length_replicate
theorem fl_get (n i : Nat) : (fl n).getD i false = false := by
  unfold fl; rw [List.getD_eq_getElem?_getD, List.getElem?_replicate]; split <;> rfl
theorem infoBool : (Tryz.prog.info? 4).map (fun i => (i.zero, i.size, i.bytes)) = some (some (.bool false), 1, 1) := by kernel_rfl
theorem run_make_bools (n : Nat) (hn : n ≤ 1000000) (w : World) :
    (Instr.makeSlice 80 (.int .i64 (n : Int)) (.int .i64 (n : Int))).run Tryz.prog w = .ok (.slice (some ⟨w.heap.size, 0, none⟩) n n) (w.alloc (boolsO (fl n))) := by
  rw [run_make_row' 80 4 (.bool false) 1 Tryz.underlying80 infoBool rfl .i64 .i64 n (by omega) (by omega) w]
  congr 3
  rw [← Array.toArray_toList (xs := madeCells #[Value.bool false] n), toList_madeCells_one, fl, List.map_replicate]
theorem run_make_256 (w : World) :
    (Instr.makeSlice 80 (.int .i64 256) (.int .i64 256)).run Tryz.prog w = .ok (.slice (some ⟨w.heap.size, 0, none⟩) 256 256) (w.alloc (boolsO (fl 256))) := run_make_bools 256 (by decide) w

/- A set of bytes as a row of 256 bools. -/
def bitsL (s : Nat) : List Bool := (List.range 256).map fun i => s.testBit i
theorem bitsL_len (s : Nat) : (bitsL s).length = 256 := by simp [bitsL]
theorem bitsL_get (s i : Nat) (hi : i < 256) : (bitsL s).getD i false = s.testBit i := by
  simp [bitsL, List.getElem?_range hi]
theorem bitsL_zero : bitsL 0 = fl 256 := by
  apply List.ext_getElem
  · rw [bitsL_len, fl_len]
  · intro i h1 h2
    simp only [bitsL, fl, List.getElem_map, List.getElem_replicate, Nat.zero_testBit]
theorem bitsL_set (s c : Nat) (_hc : c < 256) : (bitsL s).set c true = bitsL (s ||| 1 <<< c) := by
  apply List.ext_getElem
  · simp [bitsL]
  · intro i h1 h2
    rw [List.getElem_set]
    simp only [bitsL, List.getElem_map, List.getElem_range, Nat.testBit_or, Nat.one_shiftLeft, Nat.testBit_two_pow]
    by_cases h : c = i <;> simp [h]

set_option maxRecDepth 100000 in
set_option maxHeartbeats 400000 in
theorem single_any (c : Nat) (w : World) (hc : c < 256) :
    Calls Tryz.prog 78 #[.int .u8 c] w fun e w' => e = .returned (.slice (some ⟨w.heap.size, 0, none⟩) 256 256) ∧ w'.heap[w.heap.size]? = some (boolsO (bitsL (1 <<< c))) ∧ Kp [] w w' := by
  have hm := run_make_256
  have hc' : (c : Int) < 256 := by omega
  have hw : IntKind.i64.wrap (c : Int) = c := by simp [IntKind.wrap, IntKind.bits, IntKind.signed]; omega
  go_enter Tryz.func78, Tryz.ntmps78
  go_upto_region 2 with fail
  have k1 : Kp [] w (w.alloc (boolsO (fl 256))) := (Kp.refl _ _).alloc _
  have b1 : (w.alloc (boolsO (fl 256))).heap[w.heap.size]? = some (boolsO (fl 256)) := by rw [blk_alloc, if_pos rfl]
  generalize w.alloc (boolsO (fl 256)) = W at *
  have c1 := bcell b1 c (by rw [fl_len]; exact hc)
  have f1 := bfroz b1 c
  have B1 := hide b1
  have K1 := hide k1
  clear b1 k1 hm
  go_wp2
  go_ret
  refine ⟨rfl, ?_, K1.out.set (.inr (Nat.le_refl _)) _ _⟩
  rw [bset B1.out c true, ← bitsL_zero, bitsL_set 0 c hc, Nat.zero_or]

/- What one leaves behind. -/
def OnePost (R : PR Nat) (s : ByteArray) (r : Nat) (nv : Value) (w : World) (x : Ending) (w' : World) : Prop :=
  ∃ (v : Nat) (i' : Int), x = .returned (.int .u8 v) ∧ v < 256 ∧ w'.heap[r]? = some (rrO s i' R.err R.pl nv 0) ∧ Kp [r] w w' ∧ (R.err = 0 → v = R.v ∧ i' = R.j)

theorem rset1 {w : World} {r : Nat} {s : ByteArray} {i j e pl top : Int} {nv : Value} (h : w.heap[r]? = some (rrO s i e pl nv top)) : (w.setCell ⟨r, 1, none⟩ (.int .i64 j)).heap[r]? = some (rrO s j e pl nv top) := by
  rw [blk_set, if_pos rfl, h]; simp [setObj_cells]
theorem wrap1 (i : Nat) (hi : i ≤ 1000) : IntKind.i64.wrap ((i : Int) + 1) = ((i + 1 : Nat) : Int) := by simp [IntKind.wrap, IntKind.bits, IntKind.signed]; omega

set_option maxRecDepth 100000 in
set_option maxHeartbeats 2000000 in
theorem rone_code (s : ByteArray) (i r : Nat) (nv : Value) (w : World) (h : w.heap[r]? = some (rrO s i 0 0 nv 0)) (hi : i ≤ s.size) (hs : s.size ≤ 16) :
    Calls Tryz.prog 103 #[.pointer (some ⟨r, 0, none⟩)] w (OnePost (pOne s i) s r nv w) := by
  have H := hide h
  obtain ⟨c0, c1, c2, c3, c4, c5, f0, f1, f2, f3, f4, f5⟩ := six h
  have hR : Hid (pOne s i = if gt s i = 0 then bad s 4 s.size 0 else if gt s i = 92 then (if gt s (i + 1) = 0 then bad s 4 s.size 0 else good (i + 2) (gt s (i + 1))) else if gt s i = 91 ∨ gt s i = 93 ∨ gt s i = 94 ∨ gt s i = 45 then bad s 5 i 0 else good (i + 1) (gt s i)) := rfl
  generalize pOne s i = R at *
  have hw1 := wrap1 i (by omega)
  have hw2 := wrap1 (i + 1) (by omega)
  have hg1 := gt_lt s i
  have hg2 := gt_lt s (i + 1)
  clear h
  go_enter Tryz.func103, Tryz.ntmps103
  go_wp2_with fail
  refine (rnext_any s i r 0 0 nv _ (by exact H.out)).mono ?_
  rintro _ w1 ⟨rfl, n1, rfl⟩
  by_cases g0 : gt s i = 0
  · have hRk : R = bad s 4 s.size 0 := by rw [hR.out, if_pos g0]
    have HRK := hide hRk
    rw [g0]
    clear hRk hR g0
    go_wp2_with fail
    refine (rfail_first s i r 0 0 4 s.size nv _ (by exact H.out)).mono ?_
    rintro _ w2 ⟨rfl, h2, k2⟩
    obtain ⟨d0, d1, d2, d3, d4, d5, e0, e1, e2, e3, e4, e5⟩ := six h2
    have H2 := hide h2
    have K2 := hide k2
    clear h2 k2
    go_wp2
    go_ret
    exact ⟨0, i + 1, rfl, by omega, by rw [HRK.out]; exact rset1 H2.out, K2.out.ofDrewN.set (.inl (by simp)) _ _, fun e => absurd e (by rw [HRK.out]; simp [bad])⟩
  · have q0 : ((gt s i : Int) == 0) = false := by simp; omega
    by_cases g1 : gt s i = 92
    · rw [g1]
      by_cases g2 : gt s (i + 1) = 0
      · have HRK : Hid (R = bad s 4 s.size 0) := by show _ = _; rw [hR.out, if_neg g0, if_pos g1, if_pos g2]
        have H1 : Hid (((w.drewN n1).setCell ⟨r, 1, none⟩ (.int .i64 (i + 1 : Nat))).heap[r]? = some (rrO s (i + 1) 0 0 nv 0)) := rset1 (by exact H.out)
        have K1 : Hid (Kp [r] w ((w.drewN n1).setCell ⟨r, 1, none⟩ (.int .i64 (i + 1 : Nat)))) := ((Kp.refl _ _).drewN n1).set (.inl (by simp)) _ _
        clear hR g0 q0
        go_wp2_with fail
        refine (rnext_any s (i + 1) r 0 0 nv _ (by exact H1.out)).mono ?_
        rw [g2]
        rintro _ w2 ⟨rfl, n2, rfl⟩
        clear g2
        go_wp2_with fail
        refine (rfail_first s (i + 1) r 0 0 4 s.size nv _ (by exact H1.out)).mono ?_
        rintro _ w2 ⟨rfl, h2, k2⟩
        obtain ⟨d0, d1, d2, d3, d4, d5, e0, e1, e2, e3, e4, e5⟩ := six h2
        have H2 := hide h2
        have K2 := hide k2
        clear h2 k2
        go_wp2
        go_ret
        exact ⟨0, i + 1 + 1, rfl, by omega, by rw [HRK.out]; exact rset1 H2.out, (K1.out.trans K2.out.ofDrewN (by simp)).set (.inl (by simp)) _ _, fun e => absurd e (by rw [HRK.out]; simp [bad])⟩
      · have HRK : Hid (R = good (i + 2) (gt s (i + 1))) := by show _ = _; rw [hR.out, if_neg g0, if_pos g1, if_neg g2]
        have q2 : ((gt s (i + 1) : Int) == 0) = false := by simp; omega
        have H1 : Hid (((w.drewN n1).setCell ⟨r, 1, none⟩ (.int .i64 (i + 1 : Nat))).heap[r]? = some (rrO s (i + 1) 0 0 nv 0)) := rset1 (by exact H.out)
        have K1 : Hid (Kp [r] w ((w.drewN n1).setCell ⟨r, 1, none⟩ (.int .i64 (i + 1 : Nat)))) := ((Kp.refl _ _).drewN n1).set (.inl (by simp)) _ _
        clear hR g0 g2 q0
        go_wp2_with fail
        refine (rnext_any s (i + 1) r 0 0 nv _ (by exact H1.out)).mono ?_
        rintro _ w2 ⟨rfl, n2, rfl⟩
        go_wp2
        go_ret
        exact ⟨gt s (i + 1), i + 1 + 1, rfl, hg2, by rw [HRK.out]; exact rset1 (by exact H1.out), (K1.out.drewN n2).set (.inl (by simp)) _ _, fun _ => by rw [HRK.out]; exact ⟨rfl, rfl⟩⟩
    · have q1 : ((gt s i : Int) == 92) = false := by simp; omega
      by_cases g2 : gt s i = 91 ∨ gt s i = 93 ∨ gt s i = 94 ∨ gt s i = 45
      · have HRK : Hid (R = bad s 5 i 0) := by show _ = _; rw [hR.out, if_neg g0, if_neg g1, if_pos g2]
        clear hR g0 g1
        rcases g2 with g2 | g2 | g2 | g2
        all_goals
          rw [g2]
          clear g2 q0 q1 hg1
          go_wp2_with fail
          refine (rfail_first s i r 0 0 5 i nv _ (by exact H.out)).mono ?_
          rintro _ w2 ⟨rfl, h2, k2⟩
          obtain ⟨d0, d1, d2, d3, d4, d5, e0, e1, e2, e3, e4, e5⟩ := six h2
          have H2 := hide h2
          have K2 := hide k2
          clear h2 k2
          go_wp2
          go_ret
          exact ⟨_, i + 1, rfl, by decide, by rw [HRK.out]; exact rset1 H2.out, K2.out.ofDrewN.set (.inl (by simp)) _ _, fun e => absurd e (by rw [HRK.out]; simp [bad])⟩
      · have HRK : Hid (R = good (i + 1) (gt s i)) := by show _ = _; rw [hR.out, if_neg g0, if_neg g1, if_neg g2]
        have q2 : ((gt s i : Int) == 91) = false := by simp; omega
        have q3 : ((gt s i : Int) == 93) = false := by simp; omega
        have q4 : ((gt s i : Int) == 94) = false := by simp; omega
        have q5 : ((gt s i : Int) == 45) = false := by simp; omega
        clear hR g0 g1 g2
        go_wp2
        go_ret
        exact ⟨gt s i, i + 1, rfl, hg1, by rw [HRK.out]; exact rset1 (by exact H.out), ((Kp.refl _ _).drewN n1).set (.inl (by simp)) _ _, fun _ => by rw [HRK.out]; exact ⟨rfl, rfl⟩⟩
end Go.Proofs.YtbjdkbcfpmeneaaGreat
