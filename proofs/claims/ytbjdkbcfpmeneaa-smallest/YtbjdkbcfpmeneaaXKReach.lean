/- What is proved here: reaching of the second package of statements: it answers true of the smallest table. -/
import Derived.Test.YtbjdkbcfpmeneaaRows
import Derived.Test.YtbjdkbcfpmeneaaXKTabs
import Derived.Test.YtbjdkbcfpmeneaaXKBools
import Derived.Test.YtbjdkbcfpmeneaaXSmallM
namespace Go.Proofs.Ytbjdkbcfpmeneaa
set_option linter.unusedVariables false
set_option linter.unusedSimpArgs false
open Go.RowKit Go.ChangeMaps

set_option maxRecDepth 100000 in
set_option maxHeartbeats 4000000 in
theorem reaching_code (U : Tab) (L : Nat → Lang) (n : Nat) (vn va : Value) (w : World) (h1 : TabR w vn va U) (hCan : Canon U (told L n)) (hN : U.N ≤ 250) (hC : U.C ≤ 256) :
    Calls Try.prog 18 #[.agg (tabArr (clArr U.cls 256) vn va)] w fun x w' => x = .returned (.bool true) ∧ Below w.heap.size w w' := by
  have H1 := hide h1
  have CAN := hide hCan
  clear h1 hCan
  go_enter Try.func18, Try.ntmps18
  go_upto_region 0 with fail
  apply wp_region_lit
  refine boxB rfl _ _ rfl (.agg (tabArr (clArr U.cls 256) vn va)) rfl ?_
  simp only [Act.put, List.setIfInBounds_toArray, List.set_cons_zero, List.set_cons_succ]
  have k1 : Kp [] w (w.alloc (.cells (Value.agg (tabArr (clArr U.cls 256) vn va)).cells 46 (0, 0))) := (Kp.refl [] w).alloc _
  have t1 : TabV (w.alloc (.cells (Value.agg (tabArr (clArr U.cls 256) vn va)).cells 46 (0, 0))) w.heap.size U := ⟨vn, va, by rw [blk_alloc, if_pos rfl]; rfl, H1.out.kp k1⟩
  generalize w.alloc (.cells (Value.agg (tabArr (clArr U.cls 256) vn va)).cells 46 (0, 0)) = W at *
  have K1 := hide k1
  have T1 := hide t1
  clear k1 H1
  obtain ⟨gn, cn, n1, _⟩ := t1.next
  clear t1
  generalize hA : w.heap.size = A at *
  have hmk := run_make_kb U.N (by omega)
  go_upto_region 3 with fail
  clear n1 hmk
  have b2 : (W.alloc (kbO (kfl U.N))).heap[W.heap.size]? = some (kbO (kfl U.N)) := by rw [blk_alloc, if_pos rfl]
  have K2 : Hid (Kp [] W (W.alloc (kbO (kfl U.N)))) := (Kp.refl [] W).alloc _
  generalize W.alloc (kbO (kfl U.N)) = W2 at *
  generalize hB : W.heap.size = B at *
  have HB := hide hB
  have HA := hide hA
  have B2 := hide b2
  clear b2 hB hA
  go_wp2_with fail
  go_loopw [5] (fun s5 w' => ∃ (r : Nat) (l : List Bool), s5 = .int .i64 r ∧ r ≤ U.N + 1 ∧ l.length = U.N ∧ (∀ j, j < U.N → Near U r j → l.getD j false = true) ∧ w'.heap[B]? = some (kbO l) ∧ Kp [] W w')
    (fun s5 _ => U.N + 2 - (intOf s5).toNat)
  case atStart => exact ⟨0, _, rfl, by omega, kfl_len _, fun j _ hn => absurd hn Near.zero, B2.out, K2.out⟩
  case round =>
    clear B2 K2
    obtain ⟨r, l, rfl, hr, hl, hnr, hbl, hkp⟩ := hrel
    have NR := hide hnr
    have HBL := hide hbl
    have HK := hide hkp
    clear hnr hbl hkp
    by_cases hrN : r ≤ U.N
    · have hrN' : (r : Int) ≤ U.N := by omega
      go_wp2_with fail
      go_loopw [6] (fun s6 w' => ∃ (i : Nat) (l' : List Bool), s6 = .int .i64 i ∧ i ≤ U.N ∧ l'.length = U.N ∧ (∀ j, j < U.N → Near U r j → l'.getD j false = true) ∧ (∀ j, j < i → Near U (r + 1) j → l'.getD j false = true) ∧ w'.heap[B]? = some (kbO l') ∧ Kp [] W w')
        (fun s6 _ => U.N + 1 - (intOf s6).toNat)
      case atStart => exact ⟨0, l, rfl, by omega, hl, NR.out, fun j hj => by omega, HBL.out, HK.out⟩
      case round =>
        clear NR HBL HK
        obtain ⟨i, l', rfl, hi, hl', hnr, hnx, hbl, hkp⟩ := hrel
        have NR := hide hnr
        have NX := hide hnx
        have HBL := hide hbl
        have HK := hide hkp
        clear hnr hnx hbl hkp
        by_cases hin : i < U.N
        · have hin' : (i : Int) < U.N := by omega
          have hac := CAN.out.ac_rng i hin
          obtain ⟨ga, ca, a1, hq⟩ := (T1.out.kp HK.out).acc
          have q1 := hq i hin
          have ci := kbcell HBL.out i (by omega)
          have fi := kbfroz HBL.out i
          clear hq
          have fin : ∀ v : Bool, v = (l'.getD i false || decide (0 ≤ U.ac i)) → (∃ l2 : List Bool, l2.length = U.N ∧ (∀ j, j < U.N → Near U r j → l2.getD j false = true) ∧ (∀ j, j < i → Near U (r + 1) j → l2.getD j false = true) ∧ (U.ac i ≠ -1 → l2.getD i false = true) ∧ (wr.setCell ⟨B, i, none⟩ (.bool v)).heap[B]? = some (kbO l2) ∧ Kp [] W (wr.setCell ⟨B, i, none⟩ (.bool v))) := fun v hv => by
            refine ⟨l'.set i v, by rw [List.length_set]; exact hl', fun j hj hn => ?_, fun j hj hn => ?_, fun hne => ?_, kbset HBL.out i v, HK.out.set (.inr (by rw [HB.out]; exact Nat.le_refl _)) _ _⟩
            · by_cases e : i = j
              · subst e; rw [kb_self _ _ _ (by omega), hv, NR.out i hj hn]; rfl
              · rw [kb_other _ _ _ _ e]; exact NR.out j hj hn
            · rw [kb_other _ _ _ _ (by omega)]; exact NX.out j hj hn
            · rw [kb_self _ _ _ (by omega), hv, decide_eq_true (by omega)]; simp
          have FIN := hide fin
          clear fin NR NX HBL HK
          have key : ∃ v : Bool, v = (l'.getD i false || decide (0 ≤ U.ac i)) := ⟨_, rfl⟩
          obtain ⟨v, hv⟩ := key
          obtain ⟨l2, hl2, hn2, hx2, ha2, hb2, hk2⟩ := FIN.out v hv
          have N2 := hide hn2
          have X2 := hide hx2
          have A2 := hide ha2
          have B2 := hide hb2
          have K2 := hide hk2
          clear FIN hn2 hx2 ha2 hb2 hk2
          generalize l'.getD i false = gi at *
          have HV := hide hv
          clear hv
          cases gi
          · have hv2 : v = decide (0 ≤ U.ac i) := by rw [HV.out]; simp
            subst hv2
            clear HV
            go_wp2_with fail
            clear a1 q1 ci fi
            generalize wr.setCell ⟨B, i, none⟩ (.bool (decide (0 ≤ U.ac i))) = W3 at *
            go_loopw [7] (fun s7 w' => ∃ (c : Nat) (l3 : List Bool), s7 = .int .i64 c ∧ c ≤ U.C ∧ l3.length = U.N ∧ (∀ j, j < U.N → Near U r j → l3.getD j false = true) ∧ (∀ j, j < i → Near U (r + 1) j → l3.getD j false = true) ∧ (U.ac i ≠ -1 → l3.getD i false = true) ∧ (∀ k, k < c → U.nx i k ≠ -1 → Near U r (U.nx i k).toNat → l3.getD i false = true) ∧ w'.heap[B]? = some (kbO l3) ∧ Kp [] W w')
              (fun s7 _ => U.C + 1 - (intOf s7).toNat)
            case atStart => exact ⟨0, l2, rfl, by omega, hl2, N2.out, X2.out, A2.out, fun k hk => by omega, B2.out, K2.out⟩
            case round =>
              clear N2 X2 A2 B2 K2
              obtain ⟨c, l3, rfl, hc, hl3, hn3, hx3, ha3, hs3, hb3, hk3⟩ := hrel
              have N3 := hide hn3
              have X3 := hide hx3
              have A3 := hide ha3
              have S3 := hide hs3
              have B3 := hide hb3
              have K3 := hide hk3
              clear hn3 hx3 ha3 hs3 hb3 hk3
              obtain ⟨gn, cn, n1, hr1⟩ := (T1.out.kp K3.out).next
              obtain ⟨g1, x1, r1, hx1⟩ := hr1 i hin
              clear hr1
              by_cases hcC : c < U.C
              · have hcC' : (c : Int) < U.C := by omega
                have y1 := hx1 c hcC
                have hrng := CAN.out.rng i c hin hcC
                have ci := kbcell B3.out i (by omega)
                have fi := kbfroz B3.out i
                clear hx1
                have fin : ∀ v : Bool, v = (l3.getD i false || (decide (U.nx i c ≠ -1) && l3.getD (U.nx i c).toNat false)) → (∃ (c0 : Nat) (l4 : List Bool), Value.int .i64 ((c : Int) + 1) = .int .i64 c0 ∧ c0 ≤ U.C ∧ l4.length = U.N ∧ (∀ j, j < U.N → Near U r j → l4.getD j false = true) ∧ (∀ j, j < i → Near U (r + 1) j → l4.getD j false = true) ∧ (U.ac i ≠ -1 → l4.getD i false = true) ∧ (∀ k, k < c0 → U.nx i k ≠ -1 → Near U r (U.nx i k).toNat → l4.getD i false = true) ∧ (wr.setCell ⟨B, i, none⟩ (.bool v)).heap[B]? = some (kbO l4) ∧ Kp [] W (wr.setCell ⟨B, i, none⟩ (.bool v))) := fun v hv => by
                  refine ⟨c + 1, l3.set i v, by simp, by omega, by rw [List.length_set]; exact hl3, fun j hj hn => ?_, fun j hj hn => ?_, fun hne => ?_, fun k hk hne hn => ?_, kbset B3.out i v, K3.out.set (.inr (by rw [HB.out]; exact Nat.le_refl _)) _ _⟩
                  · by_cases e : i = j
                    · subst e; rw [kb_self _ _ _ (by omega), hv, N3.out i hj hn]; rfl
                    · rw [kb_other _ _ _ _ e]; exact N3.out j hj hn
                  · rw [kb_other _ _ _ _ (by omega)]; exact X3.out j hj hn
                  · rw [kb_self _ _ _ (by omega), hv, A3.out hne]; rfl
                  · rw [kb_self _ _ _ (by omega), hv]
                    by_cases e : k = c
                    · subst e
                      rw [decide_eq_true hne, N3.out _ (by omega) hn]
                      simp
                    · rw [S3.out k (by omega) hne hn]; rfl
                have FIN := hide fin
                clear fin A3 S3 X3 N3
                by_cases ht : U.nx i c = -1
                · rw [ht] at y1 FIN
                  generalize l3.getD i false = gi at *
                  cases gi
                  · go_wp2_with fail
                    refine ⟨FIN.out _ (by simp), by simp [intOf]; omega⟩
                  · go_wp2_with fail
                    refine ⟨FIN.out _ (by simp), by simp [intOf]; omega⟩
                · obtain ⟨tn, htn⟩ : ∃ tn : Nat, U.nx i c = tn := ⟨(U.nx i c).toNat, by omega⟩
                  have htN : (tn : Int) < U.N := by omega
                  have ct := kbcell B3.out tn (by omega)
                  rw [htn] at y1 FIN
                  rw [Int.toNat_natCast] at FIN
                  have hdt : decide ((tn : Int) ≠ -1) = true := decide_eq_true (by omega)
                  rw [hdt] at FIN
                  clear hdt htn ht
                  generalize l3.getD i false = gi at *
                  generalize l3.getD tn false = gt2 at *
                  cases gi
                  · go_wp2_with fail
                    refine ⟨FIN.out _ (by simp), by simp [intOf]; omega⟩
                  · go_wp2_with fail
                    refine ⟨FIN.out _ (by simp), by simp [intOf]; omega⟩
              · have hcC' : ¬ (c : Int) < U.C := by omega
                clear hx1
                go_wp2_with fail
                refine ⟨⟨i + 1, l3, by go_num, by omega, hl3, N3.out, fun j hj hn => ?_, B3.out, K3.out⟩, by simp [intOf]; omega⟩
                by_cases e : j = i
                · subst e
                  rcases hn.cases CAN.out hin with q | ⟨k, hk, hne, hn'⟩
                  · exact A3.out q
                  · exact S3.out k (by omega) hne hn'
                · exact X3.out j (by omega) hn
          · have hv2 : v = true := by rw [HV.out]; simp
            subst hv2
            clear HV
            go_wp2_with fail
            clear a1 q1 ci fi
            generalize wr.setCell ⟨B, i, none⟩ (.bool true) = W3 at *
            go_loopw [7] (fun s7 w' => ∃ (c : Nat) (l3 : List Bool), s7 = .int .i64 c ∧ c ≤ U.C ∧ l3.length = U.N ∧ (∀ j, j < U.N → Near U r j → l3.getD j false = true) ∧ (∀ j, j < i → Near U (r + 1) j → l3.getD j false = true) ∧ (U.ac i ≠ -1 → l3.getD i false = true) ∧ (∀ k, k < c → U.nx i k ≠ -1 → Near U r (U.nx i k).toNat → l3.getD i false = true) ∧ w'.heap[B]? = some (kbO l3) ∧ Kp [] W w')
              (fun s7 _ => U.C + 1 - (intOf s7).toNat)
            case atStart => exact ⟨0, l2, rfl, by omega, hl2, N2.out, X2.out, A2.out, fun k hk => by omega, B2.out, K2.out⟩
            case round =>
              clear N2 X2 A2 B2 K2
              obtain ⟨c, l3, rfl, hc, hl3, hn3, hx3, ha3, hs3, hb3, hk3⟩ := hrel
              have N3 := hide hn3
              have X3 := hide hx3
              have A3 := hide ha3
              have S3 := hide hs3
              have B3 := hide hb3
              have K3 := hide hk3
              clear hn3 hx3 ha3 hs3 hb3 hk3
              obtain ⟨gn, cn, n1, hr1⟩ := (T1.out.kp K3.out).next
              obtain ⟨g1, x1, r1, hx1⟩ := hr1 i hin
              clear hr1
              by_cases hcC : c < U.C
              · have hcC' : (c : Int) < U.C := by omega
                have y1 := hx1 c hcC
                have hrng := CAN.out.rng i c hin hcC
                have ci := kbcell B3.out i (by omega)
                have fi := kbfroz B3.out i
                clear hx1
                have fin : ∀ v : Bool, v = (l3.getD i false || (decide (U.nx i c ≠ -1) && l3.getD (U.nx i c).toNat false)) → (∃ (c0 : Nat) (l4 : List Bool), Value.int .i64 ((c : Int) + 1) = .int .i64 c0 ∧ c0 ≤ U.C ∧ l4.length = U.N ∧ (∀ j, j < U.N → Near U r j → l4.getD j false = true) ∧ (∀ j, j < i → Near U (r + 1) j → l4.getD j false = true) ∧ (U.ac i ≠ -1 → l4.getD i false = true) ∧ (∀ k, k < c0 → U.nx i k ≠ -1 → Near U r (U.nx i k).toNat → l4.getD i false = true) ∧ (wr.setCell ⟨B, i, none⟩ (.bool v)).heap[B]? = some (kbO l4) ∧ Kp [] W (wr.setCell ⟨B, i, none⟩ (.bool v))) := fun v hv => by
                  refine ⟨c + 1, l3.set i v, by simp, by omega, by rw [List.length_set]; exact hl3, fun j hj hn => ?_, fun j hj hn => ?_, fun hne => ?_, fun k hk hne hn => ?_, kbset B3.out i v, K3.out.set (.inr (by rw [HB.out]; exact Nat.le_refl _)) _ _⟩
                  · by_cases e : i = j
                    · subst e; rw [kb_self _ _ _ (by omega), hv, N3.out i hj hn]; rfl
                    · rw [kb_other _ _ _ _ e]; exact N3.out j hj hn
                  · rw [kb_other _ _ _ _ (by omega)]; exact X3.out j hj hn
                  · rw [kb_self _ _ _ (by omega), hv, A3.out hne]; rfl
                  · rw [kb_self _ _ _ (by omega), hv]
                    by_cases e : k = c
                    · subst e
                      rw [decide_eq_true hne, N3.out _ (by omega) hn]
                      simp
                    · rw [S3.out k (by omega) hne hn]; rfl
                have FIN := hide fin
                clear fin A3 S3 X3 N3
                by_cases ht : U.nx i c = -1
                · rw [ht] at y1 FIN
                  generalize l3.getD i false = gi at *
                  cases gi
                  · go_wp2_with fail
                    refine ⟨FIN.out _ (by simp), by simp [intOf]; omega⟩
                  · go_wp2_with fail
                    refine ⟨FIN.out _ (by simp), by simp [intOf]; omega⟩
                · obtain ⟨tn, htn⟩ : ∃ tn : Nat, U.nx i c = tn := ⟨(U.nx i c).toNat, by omega⟩
                  have htN : (tn : Int) < U.N := by omega
                  have ct := kbcell B3.out tn (by omega)
                  rw [htn] at y1 FIN
                  rw [Int.toNat_natCast] at FIN
                  have hdt : decide ((tn : Int) ≠ -1) = true := decide_eq_true (by omega)
                  rw [hdt] at FIN
                  clear hdt htn ht
                  generalize l3.getD i false = gi at *
                  generalize l3.getD tn false = gt2 at *
                  cases gi
                  · go_wp2_with fail
                    refine ⟨FIN.out _ (by simp), by simp [intOf]; omega⟩
                  · go_wp2_with fail
                    refine ⟨FIN.out _ (by simp), by simp [intOf]; omega⟩
              · have hcC' : ¬ (c : Int) < U.C := by omega
                clear hx1
                go_wp2_with fail
                refine ⟨⟨i + 1, l3, by go_num, by omega, hl3, N3.out, fun j hj hn => ?_, B3.out, K3.out⟩, by simp [intOf]; omega⟩
                by_cases e : j = i
                · subst e
                  rcases hn.cases CAN.out hin with q | ⟨k, hk, hne, hn'⟩
                  · exact A3.out q
                  · exact S3.out k (by omega) hne hn'
                · exact X3.out j (by omega) hn
        · have hin' : ¬ (i : Int) < U.N := by omega
          go_wp2_with fail
          refine ⟨⟨r + 1, l', by go_num, by omega, hl', fun j hj hn => NX.out j (by omega) hn, HBL.out, HK.out⟩, by simp [intOf]; omega⟩
    · have hrN' : ¬ (r : Int) ≤ U.N := by omega
      have hall : ∀ j, 0 < j → j < U.N → l.getD j false = true := fun j h0 hj => NR.out j hj ((CAN.out.near j h0 hj).more (by omega))
      have ALL := hide hall
      clear hall
      go_wp2_with fail
      go_loopw [9] (fun s9 w' => ∃ i : Nat, s9 = .int .i64 i ∧ 1 ≤ i ∧ i ≤ U.N + 1 ∧ w'.heap[B]? = some (kbO l) ∧ Kp [] W w')
        (fun s9 _ => U.N + 2 - (intOf s9).toNat)
      case atStart => exact ⟨1, rfl, by omega, by omega, HBL.out, HK.out⟩
      case round =>
        clear HBL HK
        obtain ⟨i, rfl, hi1, hi2, hbl, hkp⟩ := hrel
        have HBL := hide hbl
        have HK := hide hkp
        clear hbl hkp
        by_cases hin : i < U.N
        · have hin' : (i : Int) < U.N := by omega
          have ci := kbcell HBL.out i (by omega)
          rw [ALL.out i (by omega) hin] at ci
          go_wp2_with fail
          refine ⟨⟨i + 1, by go_num, by omega, by omega, HBL.out, HK.out⟩, by simp [intOf]; omega⟩
        · have hin' : ¬ (i : Int) < U.N := by omega
          go_wp2_with fail
          go_ret
          exact ⟨by simp, (K1.out.trans HK.out (by simp)).toBelow⟩
end Go.Proofs.Ytbjdkbcfpmeneaa
