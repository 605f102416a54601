/- What is proved here: short, num, looks and step of the statements' package: a step that asks Right or Match is as the document says. -/
import Derived.Test.YtbjdkbcfpmeneaaGreatRows
import Derived.Test.YtbjdkbcfpmeneaaGreatCalls1
import Derived.Test.YtbjdkbcfpmeneaaGreatEnd4
namespace Go.Proofs.YtbjdkbcfpmeneaaGreat
set_option linter.unusedVariables false
set_option linter.unusedSimpArgs false
open Go.RowKit

set_option maxHeartbeats 400000 in
theorem short_any (t : ByteArray) (w : World) : Calls Tryz.prog 9 #[.string t] w fun x w' => ∃ t' : ByteArray, x = .returned (.string t') ∧ t'.size ≤ 200 ∧ w' = w := by
  by_cases h : t.size ≤ 200
  · have q : (t.size : Int) ≤ 200 := by omega
    go_enter Tryz.func9, Tryz.ntmps9
    go_wp2
    go_ret
    exact ⟨t, rfl, h, rfl⟩
  · have q : (200 : Int) < t.size := by omega
    have q2 : (200 : Int) ≤ t.size := by omega
    have HN := hide h
    clear h
    go_enter Tryz.func9, Tryz.ntmps9
    go_wp2
    go_ret
    refine ⟨t.extract 0 200, rfl, ?_, rfl⟩
    rw [ByteArray.size_extract]; omega

theorem num_any (e : Int) (w : World) : Calls Tryz.prog 12 #[.int .i64 e] w fun x w' => x = .returned (.int .i64 e) ∧ w' = w := by
  go_enter Tryz.func12, Tryz.ntmps12
  go_wp2
  go_ret
  exact ⟨rfl, rfl⟩

/- The world of a script that makes no lexer. -/
abbrev worldO : Obj := .cells #[.slice none 0 0, .slice none 0 0, .slice none 0 0, .slice none 0 0] 31 (0, 0)

set_option maxRecDepth 100000 in
set_option maxHeartbeats 1000000 in
theorem looks_any (b : Nat) (w : World) (h : w.heap[b]? = some worldO) : Calls Tryz.prog 8 #[.pointer (some ⟨b, 0, none⟩)] w fun x w' => x = .returned (.bool true) ∧ w' = w := by
  obtain ⟨c0, c1, c2, c3, _⟩ := four h
  clear h
  go_enter Tryz.func8, Tryz.ntmps8
  go_wp2_with fail
  go_rounds 1
  go_wp2_with fail
  go_rounds 1
  go_wp2_with fail
  go_rounds 1
  go_wp2
  go_ret
  exact ⟨rfl, rfl⟩

abbrev opV (k o : Int) (p t : ByteArray) (v : Value) : Value := .agg #[.int .i64 k, .int .i64 o, .string p, .string t, v]
theorem five {w : World} {b : Nat} {x0 x1 x2 x3 x4 : Value} {e : TypeId} (h : w.heap[b]? = some (.cells #[x0, x1, x2, x3, x4] e (0, 0))) :
    w.cell? ⟨b, 0, none⟩ = some x0 ∧ w.cell? ⟨b, 1, none⟩ = some x1 ∧ w.cell? ⟨b, 2, none⟩ = some x2 ∧ w.cell? ⟨b, 3, none⟩ = some x3 ∧ w.cell? ⟨b, 4, none⟩ = some x4 ∧ w.frozen? ⟨b, 3, none⟩ = false :=
  ⟨by rw [cell_of_block h]; rfl, by rw [cell_of_block h]; rfl, by rw [cell_of_block h]; rfl, by rw [cell_of_block h]; rfl, by rw [cell_of_block h]; rfl, frozen_of_block h _⟩

open Classical in
set_option maxRecDepth 100000 in
set_option maxHeartbeats 2000000 in
theorem step_code (b : Nat) (k o : Int) (p t : ByteArray) (v : Value) (w : World) (h : w.heap[b]? = some worldO) (hk : k ≤ 2) :
    Calls Tryz.prog 7 #[.pointer (some ⟨b, 0, none⟩), opV k o p t v] w fun x w' => x = .returned (.bool true) ∧ Below w.heap.size w w' := by
  have H := hide h
  have hb := lt_of_block h
  clear h
  go_enter Tryz.func7, Tryz.ntmps7
  go_upto_region 1 with fail
  have kW : Kp [] w (w.alloc (.cells #[.int .i64 k, .int .i64 o, .string p, .string t, v] 34)) := (Kp.refl _ _).alloc _
  have bT : (w.alloc (.cells #[.int .i64 k, .int .i64 o, .string p, .string t, v] 34)).heap[w.heap.size]? = some (.cells #[.int .i64 k, .int .i64 o, .string p, .string t, v] 34 (0, 0)) := by rw [blk_alloc, if_pos rfl]
  generalize w.alloc (.cells #[.int .i64 k, .int .i64 o, .string p, .string t, v] 34) = W at *
  obtain ⟨c0, c1, c2, c3, c4, f3⟩ := five bT
  have KW := hide kW
  have BT := hide bT
  clear kW bT
  go_wp2_with fail
  refine (short_any t _).mono ?_
  rintro _ w1 ⟨t', rfl, ht, rfl⟩
  go_upto_region 2 with fail
  have k2 : Kp [] w (w1.setCell ⟨w.heap.size, 3, none⟩ (.string t')) := KW.out.set (.inr (Nat.le_refl _)) _ _
  have b2 : (w1.setCell ⟨w.heap.size, 3, none⟩ (.string t')).heap[w.heap.size]? = some (.cells #[.int .i64 k, .int .i64 o, .string p, .string t', v] 34 (0, 0)) := by rw [blk_set, if_pos rfl, BT.out]; simp [setObj_cells]
  generalize w1.setCell ⟨w.heap.size, 3, none⟩ (.string t') = W2 at *
  clear c0 c1 c2 c3 c4 f3
  obtain ⟨c0, c1, c2, c3, c4, f3⟩ := five b2
  have K2 := hide k2
  have B2 := hide b2
  clear k2 b2
  by_cases hk1 : k = 1
  · subst hk1
    go_wp2_with fail
    refine (right_code p _).mono ?_
    rintro _ w3 ⟨rfl, h3⟩
    have K3 : Hid (Kp [] w w3) := K2.out.below h3
    have b3 := bkeep h3 B2.out
    clear c0 c1 c2 c3 c4 f3 h3
    obtain ⟨c0, c1, c2, c3, c4, f3⟩ := five b3
    clear b3
    go_wp2_with fail
    refine (rread_code p _).mono ?_
    rintro _ w4 ⟨k4, ⟨h0, rfl⟩ | ⟨h0, hpl, r, kk, rfl, htr⟩⟩
    · have K4 : Hid (Kp [] w w4) := K3.out.trans k4 (by simp)
      clear k4 h0
      go_wp2_with fail
      refine (num_any (readW p).err _).mono ?_
      rintro _ w5 ⟨rfl, rfl⟩
      go_wp2
      go_ret
      exact ⟨by simp, K4.out.toBelow⟩
    · have K4 : Hid (Kp [] w w4) := K3.out.trans k4 (by simp)
      rw [h0, hpl]
      clear k4 h0 hpl htr
      go_wp2_with fail
      refine (num_any 0 _).mono ?_
      rintro _ w5 ⟨rfl, rfl⟩
      go_wp2
      go_ret
      exact ⟨by simp, K4.out.toBelow⟩
  · have q1 : (k == 1) = false := by simp [hk1]
    by_cases hk2 : k = 2
    · subst hk2
      clear q1 hk1
      have hM := fun w' => match_code p t' w' (by omega)
      have hR := fun w' => rmatch_code p t' w' (by omega)
      generalize decide ((readW p).err = 0 ∧ (readW p).v (tx t')) = bb at hM hR
      generalize (readW p).err = ee at hM hR
      have HM := hide hM
      have HR := hide hR
      clear hM hR
      go_wp2_with fail
      refine (HM.out _).mono ?_
      rintro _ w3 ⟨rfl, h3⟩
      have K3 : Hid (Kp [] w w3) := K2.out.below h3
      have b3 := bkeep h3 B2.out
      clear c0 c1 c2 c3 c4 f3 h3
      obtain ⟨c0, c1, c2, c3, c4, f3⟩ := five b3
      clear b3
      go_wp2_with fail
      refine (HR.out _).mono ?_
      rintro _ w4 ⟨rfl, h4⟩
      have K4 : Hid (Kp [] w w4) := K3.out.below h4
      clear h4
      have hbb : (bb == bb) = true := by simp
      go_wp2_with fail
      refine (num_any ee _).mono ?_
      rintro _ w5 ⟨rfl, rfl⟩
      go_wp2
      go_ret
      exact ⟨by simp, K4.out.toBelow⟩
    · have q2 : (k == 2) = false := by simp [hk2]
      have q3 : (k == 3) = false := by simp; omega
      have bw := K2.out.keep H.out (by simp)
      obtain ⟨e0, e1, e2, e3, _⟩ := four bw
      clear bw hk1 hk2
      go_wp2
      go_ret
      exact ⟨rfl, K2.out.toBelow⟩
end Go.Proofs.YtbjdkbcfpmeneaaGreat
