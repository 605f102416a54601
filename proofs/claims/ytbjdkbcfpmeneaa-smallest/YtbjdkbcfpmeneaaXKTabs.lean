/- What is proved here: tables of the second package of statements: two tables that are the same are told to be the same. -/
import Derived.Test.YtbjdkbcfpmeneaaRows
import Derived.Test.YtbjdkbcfpmeneaaM29
import Derived.BigQuiet
namespace Go.Proofs.Ytbjdkbcfpmeneaa
set_option linter.unusedVariables false
set_option linter.unusedSimpArgs false
open Go.RowKit Go.ChangeMaps

theorem TabR.congr {w : World} {vn va : Value} {T U : Tab} (h : TabR w vn va T) (hN : T.N = U.N) (hC : T.C = U.C) (hx : ∀ i k, i < U.N → k < U.C → T.nx i k = U.nx i k) (ha : ∀ i, i < U.N → T.ac i = U.ac i) : TabR w vn va U := by
  obtain ⟨⟨gn, cap, e, l, hr⟩, ⟨ga, capa, ea, la, hq⟩⟩ := h
  refine ⟨⟨gn, cap, by rw [e, hN], l, fun i hi => ?_⟩, ⟨ga, capa, by rw [ea, hN], la, fun i hi => by rw [hq i (by omega), ha i hi]⟩⟩
  obtain ⟨g, c, q1, q2, q3⟩ := hr i (by omega)
  exact ⟨g, c, by rw [q1, hC], q2, fun k hk => by rw [q3 k (by omega), hx i k hi hk]⟩
theorem clArr_congr {f g : Nat → Nat} (h : ∀ c, c < 256 → f c = g c) : clArr f 256 = clArr g 256 := by
  apply Array.ext_getElem?
  intro i
  rcases Nat.lt_or_ge i 256 with q | q
  · rw [clArr_get _ _ _ q, clArr_get _ _ _ q, if_pos q, if_pos q, h i q]
  · rw [Array.getElem?_eq_none (by rw [clArr_size]; exact q), Array.getElem?_eq_none (by rw [clArr_size]; exact q)]
/- A table in a variable, as it is read, whatever is made besides. -/
structure TabV (w : World) (b : Nat) (U : Tab) : Prop where
  val : ∃ vn va, w.heap[b]? = some (.cells (tabArr (clArr U.cls 256) vn va) 46 (0, 0)) ∧ TabR w vn va U
theorem TabV.kp {w w' : World} {b : Nat} {U : Tab} (h : TabV w b U) (hk : Kp [] w w') : TabV w' b U := by
  obtain ⟨vn, va, q1, q2⟩ := h.val
  exact ⟨vn, va, hk.keep q1 (by simp), q2.kp hk⟩
theorem TabV.cl {w : World} {b : Nat} {U : Tab} (h : TabV w b U) (c : Nat) (hc : c < 256) : w.cell? ⟨b, c, none⟩ = some (.int .i64 (U.cls c)) := by
  obtain ⟨vn, va, q1, _⟩ := h.val
  rw [cell_of_block q1, tabArr_lo (clArr_size _ _) _ _ hc, clArr_get _ _ _ hc, if_pos hc]
theorem TabV.next {w : World} {b : Nat} {U : Tab} (h : TabV w b U) : ∃ gn cn, w.cell? ⟨b, 256, none⟩ = some (.slice (some ⟨gn, 0, none⟩) U.N cn) ∧ ∀ i, i < U.N → ∃ g c, w.cell? ⟨gn, i, none⟩ = some (.slice (some ⟨g, 0, none⟩) U.C c) ∧ ∀ k, k < U.C → w.cell? ⟨g, k, none⟩ = some (.int .i64 (U.nx i k)) := by
  obtain ⟨vn, va, q1, ⟨⟨gn, cap, rfl, lgn, hrow⟩, _⟩⟩ := h.val
  refine ⟨gn, cap, by rw [cell_of_block q1, tabArr_256 (clArr_size _ _)], fun i hi => ?_⟩
  obtain ⟨g, c, a1, a2, a3⟩ := hrow i hi
  exact ⟨g, c, a1, a3⟩
theorem TabV.acc {w : World} {b : Nat} {U : Tab} (h : TabV w b U) : ∃ ga ca, w.cell? ⟨b, 257, none⟩ = some (.slice (some ⟨ga, 0, none⟩) U.N ca) ∧ ∀ i, i < U.N → w.cell? ⟨ga, i, none⟩ = some (.int .i64 (U.ac i)) := by
  obtain ⟨vn, va, q1, ⟨_, ⟨ga, cap, rfl, lga, hacc⟩⟩⟩ := h.val
  exact ⟨ga, cap, by rw [cell_of_block q1, tabArr_257 (clArr_size _ _)], hacc⟩

set_option maxRecDepth 100000 in
set_option maxHeartbeats 4000000 in
theorem tables_code (U : Tab) (vn va vn' va' : Value) (w : World) (h1 : TabR w vn va U) (h2 : TabR w vn' va' U) (hN : U.N ≤ 250) (hC : U.C ≤ 256) :
    Calls Try.prog 21 #[.agg (tabArr (clArr U.cls 256) vn va), .agg (tabArr (clArr U.cls 256) vn' va')] w fun x w' => x = .returned (.bool true) ∧ Below w.heap.size w w' := by
  have H1 := hide h1
  have H2 := hide h2
  clear h1 h2
  go_enter Try.func21, Try.ntmps21
  go_upto_region 0 with fail
  apply wp_region_lit
  refine boxB rfl _ _ rfl (.agg (tabArr (clArr U.cls 256) vn va)) rfl ?_
  refine boxB rfl _ _ rfl (.agg (tabArr (clArr U.cls 256) vn' va')) rfl ?_
  simp only [Act.put, List.setIfInBounds_toArray, List.set_cons_zero, List.set_cons_succ]
  have k1 : Kp [] w (w.alloc (.cells (Value.agg (tabArr (clArr U.cls 256) vn va)).cells 46 (0, 0))) := (Kp.refl [] w).alloc _
  have k2 : Kp [] w ((w.alloc (.cells (Value.agg (tabArr (clArr U.cls 256) vn va)).cells 46 (0, 0))).alloc (.cells (Value.agg (tabArr (clArr U.cls 256) vn' va')).cells 46 (0, 0))) := k1.alloc _
  have s1 : (w.alloc (.cells (Value.agg (tabArr (clArr U.cls 256) vn va)).cells 46 (0, 0))).heap.size = w.heap.size + 1 := size_alloc _ _
  have t1 : TabV ((w.alloc (.cells (Value.agg (tabArr (clArr U.cls 256) vn va)).cells 46 (0, 0))).alloc (.cells (Value.agg (tabArr (clArr U.cls 256) vn' va')).cells 46 (0, 0))) w.heap.size U := ⟨vn, va, by rw [blk_alloc, s1, if_neg (by omega), blk_alloc, if_pos rfl]; rfl, H1.out.kp k2⟩
  have t2 : TabV ((w.alloc (.cells (Value.agg (tabArr (clArr U.cls 256) vn va)).cells 46 (0, 0))).alloc (.cells (Value.agg (tabArr (clArr U.cls 256) vn' va')).cells 46 (0, 0))) (w.heap.size + 1) U := ⟨vn', va', by rw [blk_alloc, s1, if_pos rfl]; rfl, H2.out.kp k2⟩
  rw [s1]
  generalize ((w.alloc (.cells (Value.agg (tabArr (clArr U.cls 256) vn va)).cells 46 (0, 0))).alloc (.cells (Value.agg (tabArr (clArr U.cls 256) vn' va')).cells 46 (0, 0))) = W at *
  have K2 := hide k2
  have T1 := hide t1
  have T2 := hide t2
  clear k1 k2 s1 H1 H2
  obtain ⟨gn, cn, n1, _⟩ := t1.next
  obtain ⟨gn', cn', n2, _⟩ := t2.next
  obtain ⟨ga, ca, a1, _⟩ := t1.acc
  obtain ⟨ga', ca', a2, _⟩ := t2.acc
  clear t1 t2
  generalize w.heap.size + 1 = B at *
  go_wp2_with fail
  clear n1 n2 a1 a2
  go_loopw [5] (fun s5 w' => ∃ c : Nat, s5 = .int .i64 c ∧ c ≤ 256 ∧ Kp [] W w')
    (fun s5 _ => 257 - (intOf s5).toNat)
  case atStart => exact ⟨0, rfl, by omega, Kp.refl _ _⟩
  case round =>
    obtain ⟨c, rfl, hc, kp⟩ := hrel
    have KP := hide kp
    clear kp
    by_cases hlt : c < 256
    · have hlt' : (c : Int) < 256 := by omega
      have c1 := (T1.out.kp KP.out).cl c hlt
      have c2 := (T2.out.kp KP.out).cl c hlt
      go_upto_region 6 with fail
      go_quiet (fail)
      clear c1 c2
      go_wp2_with fail
      refine ⟨⟨c + 1, by go_num, by omega, KP.out.drewN nq⟩, by simp [intOf]; omega⟩
    · have hlt' : ¬ (c : Int) < 256 := by omega
      obtain ⟨gn, cn, n1, hr1⟩ := (T1.out.kp KP.out).next
      go_wp2_with fail
      clear n1
      go_loopw [6] (fun s6 w' => ∃ i : Nat, s6 = .int .i64 i ∧ i ≤ U.N ∧ Kp [] W w')
        (fun s6 _ => U.N + 1 - (intOf s6).toNat)
      case atStart => exact ⟨0, rfl, by omega, KP.out⟩
      case round =>
        clear KP hr1
        obtain ⟨i, rfl, hi, kp⟩ := hrel
        have KP := hide kp
        clear kp
        obtain ⟨gn, cn, n1, hr1⟩ := (T1.out.kp KP.out).next
        obtain ⟨gn', cn', n2, hr2⟩ := (T2.out.kp KP.out).next
        obtain ⟨ga, ca, a1, hq1⟩ := (T1.out.kp KP.out).acc
        obtain ⟨ga', ca', a2, hq2⟩ := (T2.out.kp KP.out).acc
        by_cases hin : i < U.N
        · have hin' : (i : Int) < U.N := by omega
          obtain ⟨g1, x1, r1, _⟩ := hr1 i hin
          obtain ⟨g2, x2, r2, _⟩ := hr2 i hin
          have q1 := hq1 i hin
          have q2 := hq2 i hin
          clear hr1 hr2 hq1 hq2
          go_upto_region 11 with fail
          go_quiet (fail)
          clear n1 n2 a1 a2 r1 r2 q1 q2
          have KN := hide (KP.out.drewN nq)
          generalize wr.drewN nq = wn at *
          clear KP
          obtain ⟨gn, cn, n1, hr1⟩ := (T1.out.kp KN.out).next
          obtain ⟨g1, x1, r1, _⟩ := hr1 i hin
          go_wp2_with fail
          clear n1 r1 hr1
          go_loopw [7] (fun s7 w' => ∃ k : Nat, s7 = .int .i64 k ∧ k ≤ U.C ∧ Kp [] W w')
            (fun s7 _ => U.C + 1 - (intOf s7).toNat)
          case atStart => exact ⟨0, rfl, by omega, KN.out⟩
          case round =>
            clear KN
            obtain ⟨k, rfl, hk, kp⟩ := hrel
            have KP := hide kp
            clear kp
            obtain ⟨gn, cn, n1, hr1⟩ := (T1.out.kp KP.out).next
            obtain ⟨gn', cn', n2, hr2⟩ := (T2.out.kp KP.out).next
            obtain ⟨g1, x1, r1, hx1⟩ := hr1 i hin
            obtain ⟨g2, x2, r2, hx2⟩ := hr2 i hin
            by_cases hkC : k < U.C
            · have hkC' : (k : Int) < U.C := by omega
              have y1 := hx1 k hkC
              have y2 := hx2 k hkC
              clear hr1 hr2 hx1 hx2
              go_upto_region 16 with fail
              go_quiet (fail)
              clear n1 n2 r1 r2 y1 y2
              go_wp2_with fail
              refine ⟨⟨k + 1, by go_num, by omega, KP.out.drewN nq⟩, by simp [intOf]; omega⟩
            · have hkC' : ¬ (k : Int) < U.C := by omega
              clear hr1 hr2 hx1 hx2
              go_wp2_with fail
              refine ⟨⟨i + 1, by go_num, by omega, KP.out⟩, by simp [intOf]; omega⟩
        · have hin' : ¬ (i : Int) < U.N := by omega
          clear hr1 hr2 hq1 hq2
          go_wp2_with fail
          go_ret
          exact ⟨by simp, (K2.out.trans KP.out (by simp)).toBelow⟩
end Go.Proofs.Ytbjdkbcfpmeneaa
