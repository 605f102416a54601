/- What is proved here: what the builder's next answers: the state behind another one, by a class of bytes. -/
import Derived.Test.YtbjdkbcfpmeneaaRows
import Derived.Test.YtbjdkbcfpmeneaaM13
import Derived.Deep.RegionHeld3
import Derived.Test.YtbjdkbcfpmeneaaM14
import Derived.Test.YtbjdkbcfpmeneaaM02
namespace Go.Proofs.Ytbjdkbcfpmeneaa
set_option linter.unusedVariables false
set_option linter.unusedSimpArgs false
open Go.RowKit Go.ChangeMaps

set_option maxRecDepth 100000 in
set_option maxHeartbeats 4000000 in
theorem bNext_code (B a b K p : Nat) (c : Array Value) (tB : TypeId) (vr vb vf : Value) (bs fs : List Nat) (ps : List (Bool × Nat × Nat)) (w : World) (hB : w.heap[B]? = some (.cells c tB (0, 0))) (h0 : c[0]? = some (.pointer (some ⟨p, 0, none⟩))) (h1 : c[1]? = some vr)
    (hR : RulesAt w vr ps) (hn : ps.length ≤ 6) (hP : PosAt w p bs fs vb vf) (hbs : bs.length ≤ 200) (hK : K < 2 ^ 256) :
    Calls Try.prog 59 #[.pointer (some ⟨B, 0, none⟩), stateV a b, setV K] w fun e w' => e = .returned (stateV (behN fs (a &&& K) fs.length) (wholes (lR ps) (a &&& K) ps.length)) ∧ Below w.heap.size w w' := by
  have lB := lt_of_block hB
  obtain ⟨av, capv, hvr⟩ := hR.slice
  have HB := hide hB
  have HR := hide hR
  have H0 := hide h0
  have H1 := hide h1
  have HVR := hide hvr
  have HP := hide hP
  have HK := hide hK
  clear hB hR h0 h1 hvr hP hK
  go_enter Try.func59, Try.ntmps59
  go_upto_region 1 with fail
  have kW : Kp [] w (((w.alloc (stateO a b)).alloc (setO K)).alloc zState) := (((Kp.refl _ w).alloc _).alloc _).alloc _
  have bE : (((w.alloc (stateO a b)).alloc (setO K)).alloc zState).heap[w.heap.size]? = some (stateO a b) := by simp only [blk_alloc, size_alloc]; simp; omega
  have bF : (((w.alloc (stateO a b)).alloc (setO K)).alloc zState).heap[w.heap.size + 1]? = some (setO K) := by simp only [blk_alloc, size_alloc]; simp
  have bZ : (((w.alloc (stateO a b)).alloc (setO K)).alloc zState).heap[w.heap.size + 1 + 1]? = some zState := by simp only [blk_alloc, size_alloc]; simp
  generalize (((w.alloc (stateO a b)).alloc (setO K)).alloc zState) = W at *
  obtain ⟨x0, x1, x2, x3, xr⟩ := eight bE
  obtain ⟨y0, y1, y2, y3, yr⟩ := four bF
  clear xr yr
  have KW := hide kW
  have BZ := hide bZ
  have lZ := lt_of_block bZ
  clear kW bE bF bZ
  go_wp2_with fail
  refine (common_any a K _).mono ?_
  rintro _ w1 ⟨rfl, h1⟩
  have hit256 : a &&& K < 2 ^ 256 := Nat.lt_of_le_of_lt Nat.and_le_right HK.out
  have H256 := hide hit256
  clear hit256
  generalize hh : a &&& K = hit at *
  have HH := hide hh
  clear hh
  have k1 := KW.out.below h1
  have bz1 := bkeep h1 BZ.out
  clear x0 x1 x2 x3 y0 y1 y2 y3 h1
  go_upto_region 2 with fail
  have kW2 : Kp [] w (w1.alloc (setO hit)) := k1.alloc _
  have bH : (w1.alloc (setO hit)).heap[w1.heap.size]? = some (setO hit) := by rw [blk_alloc, if_pos rfl]
  have lz1 := lt_of_block bz1
  have bZ2 : (w1.alloc (setO hit)).heap[w.heap.size + 1 + 1]? = some zState := by rw [blk_alloc, if_neg (by omega)]; exact bz1
  have hH : w.heap.size + 1 + 1 < w1.heap.size := lz1
  clear k1 bz1 lz1
  generalize w1.alloc (setO hit) = W2 at *
  generalize w1.heap.size = H at *
  have bB2 := kW2.keep HB.out (by simp)
  have lH := lt_of_block bH
  have lB2 := lt_of_block bB2
  have hbe : ∀ w' : World, PosAt w' p bs fs vb vf → Calls Try.prog 47 #[.pointer (some ⟨p, 0, none⟩), setV hit] w' fun x w'' => x = .returned (setV (behN fs hit fs.length)) ∧ Below w'.heap.size w' w'' := fun w' h' => behind_code p hit bs fs vb vf w' h' (by rw [h'.len]; exact hbs)
  generalize hO : behN fs hit fs.length = O at *
  have HO := hide hO
  have HBE := hide hbe
  clear hO hbe
  have hcE : ∀ w' : World, w'.heap[B]? = some (.cells c tB (0, 0)) ∧ w'.heap[H]? = some (setO hit) → w'.cell? ⟨B, 0, none⟩ = some (.pointer (some ⟨p, 0, none⟩)) ∧
      w'.cell? ⟨H, 0, none⟩ = some (.int .u64 (wd hit 0)) ∧ w'.cell? ⟨H, 1, none⟩ = some (.int .u64 (wd hit 1)) ∧ w'.cell? ⟨H, 2, none⟩ = some (.int .u64 (wd hit 2)) ∧ w'.cell? ⟨H, 3, none⟩ = some (.int .u64 (wd hit 3)) := fun w' h' => by
    obtain ⟨p0, p1, p2, p3, _⟩ := four h'.2
    exact ⟨by rw [cell_of_block h'.1]; exact H0.out, p0, p1, p2, p3⟩
  have hd : W2.drew.heap[B]? = some (.cells c tB (0, 0)) ∧ W2.drew.heap[H]? = some (setO hit) := ⟨bB2, bH⟩
  have hd2 : W2.heap[B]? = some (.cells c tB (0, 0)) ∧ W2.heap[H]? = some (setO hit) := ⟨bB2, bH⟩
  have nB2 : B ≠ W2.heap.size := Nat.ne_of_lt lB2
  have nH2 : H ≠ W2.heap.size := Nat.ne_of_lt lH
  have KW2 := hide kW2
  have BZ2 := hide bZ2
  have BH2 := hide bH
  clear kW2 bZ2 bH bB2
  go_region_held3 (fun w' : World => w'.heap[B]? = some (.cells c tB (0, 0)) ∧ w'.heap[H]? = some (setO hit))
    (first | with_reducible exact hd | with_reducible exact R3 | (simp only [blk_drew, blk_alloc, if_neg nB2, if_neg nH2]; with_reducible exact hd2) | (simp only [blk_set, if_neg nB2, if_neg nH2]; with_reducible exact R3) | (rw [blk_alloc, blk_alloc, if_neg (Nat.ne_of_lt (lt_of_block R3.1)), if_neg (Nat.ne_of_lt (lt_of_block R3.2))]; with_reducible exact R3))
    ((go_at_call 47; refine (HBE.out _ (HP.out.kp (xs := []) ?hk (by simp))).mono ?_; (case hk => first | with_reducible exact KW2.out.drew | exact (KW2.out.alloc _).drew); rintro _ w3 ⟨rfl, h3⟩; have R3 : w3.heap[B]? = some (.cells c tB (0, 0)) ∧ w3.heap[H]? = some (setO hit) := (by first | exact ⟨bkeep h3 hd.1, bkeep h3 hd.2⟩ | exact ⟨bkeep h3 (by simp only [blk_drew, blk_alloc, if_neg nB2]; exact hd2.1), bkeep h3 (by simp only [blk_drew, blk_alloc, if_neg nH2]; exact hd2.2)⟩); have k3 : Kp [] W2 w3 := (by first | exact ((Kp.refl [] W2).drew).below h3 | exact (((Kp.refl [] W2).alloc _).drew).below h3); (first | (refine (fun (A3 : w3.heap[W2.heap.size]? = some zState) => ?_) ?hx; (case hx => (refine bkeep h3 ?_; rw [blk_drew, blk_alloc, if_pos rfl]; done)); obtain ⟨z0, z1, z2, z3, z4, z5, z6, z7, g0, g1, g2, g3, g4, g5, g6, g7⟩ := eight A3; have HA3 := hide A3; clear A3) | skip)))
  all_goals
    first
      | (have kX : Kp [] W2 ((((((((w3.setCell ⟨W2.heap.size, 0, none⟩ (.int .u64 (wd O 0))).setCell ⟨W2.heap.size, 1, none⟩ (.int .u64 (wd O 1))).setCell ⟨W2.heap.size, 2, none⟩ (.int .u64 (wd O 2))).setCell ⟨W2.heap.size, 3, none⟩ (.int .u64 (wd O 3))).setCell ⟨W2.heap.size, 4, none⟩ (.int .u64 0)).setCell ⟨W2.heap.size, 5, none⟩ (.int .u64 0)).setCell ⟨W2.heap.size, 6, none⟩ (.int .u64 0)).setCell ⟨W2.heap.size, 7, none⟩ (.int .u64 0)) := k3.set8 (.inr (Nat.le_refl _)) _ _ _ _ _ _ _ _
         have bX : ((((((((w3.setCell ⟨W2.heap.size, 0, none⟩ (.int .u64 (wd O 0))).setCell ⟨W2.heap.size, 1, none⟩ (.int .u64 (wd O 1))).setCell ⟨W2.heap.size, 2, none⟩ (.int .u64 (wd O 2))).setCell ⟨W2.heap.size, 3, none⟩ (.int .u64 (wd O 3))).setCell ⟨W2.heap.size, 4, none⟩ (.int .u64 0)).setCell ⟨W2.heap.size, 5, none⟩ (.int .u64 0)).setCell ⟨W2.heap.size, 6, none⟩ (.int .u64 0)).setCell ⟨W2.heap.size, 7, none⟩ (.int .u64 0)).heap[W2.heap.size]? = some (.cells #[.int .u64 (wd O 0), .int .u64 (wd O 1), .int .u64 (wd O 2), .int .u64 (wd O 3), .int .u64 0, .int .u64 0, .int .u64 0, .int .u64 0] 96 (0, 0)) := blk_set8 HA3.out _ _ _ _ _ _ _ _
         generalize ((((((((w3.setCell ⟨W2.heap.size, 0, none⟩ (.int .u64 (wd O 0))).setCell ⟨W2.heap.size, 1, none⟩ (.int .u64 (wd O 1))).setCell ⟨W2.heap.size, 2, none⟩ (.int .u64 (wd O 2))).setCell ⟨W2.heap.size, 3, none⟩ (.int .u64 (wd O 3))).setCell ⟨W2.heap.size, 4, none⟩ (.int .u64 0)).setCell ⟨W2.heap.size, 5, none⟩ (.int .u64 0)).setCell ⟨W2.heap.size, 6, none⟩ (.int .u64 0)).setCell ⟨W2.heap.size, 7, none⟩ (.int .u64 0)) = W3 at *
         clear z0 z1 z2 z3 z4 z5 z6 z7 g0 g1 g2 g3 g4 g5 g6 g7
         clear HA3
         have sA : W2.heap.size ≤ W2.heap.size := Nat.le_refl _
         generalize hX : W2.heap.size = X at *)
      | (have kX : Kp [] W2 (w3.alloc (.cells #[.int .u64 (wd O 0), .int .u64 (wd O 1), .int .u64 (wd O 2), .int .u64 (wd O 3), .int .u64 0, .int .u64 0, .int .u64 0, .int .u64 0] 96 (0, 0))) := k3.alloc _
         have bX : (w3.alloc (.cells #[.int .u64 (wd O 0), .int .u64 (wd O 1), .int .u64 (wd O 2), .int .u64 (wd O 3), .int .u64 0, .int .u64 0, .int .u64 0, .int .u64 0] 96 (0, 0))).heap[w3.heap.size]? = some (.cells #[.int .u64 (wd O 0), .int .u64 (wd O 1), .int .u64 (wd O 2), .int .u64 (wd O 3), .int .u64 0, .int .u64 0, .int .u64 0, .int .u64 0] 96 (0, 0)) := by rw [blk_alloc, if_pos rfl]
         have sA : W2.heap.size ≤ w3.heap.size := k3.size
         generalize (w3.alloc (.cells #[.int .u64 (wd O 0), .int .u64 (wd O 1), .int .u64 (wd O 2), .int .u64 (wd O 3), .int .u64 0, .int .u64 0, .int .u64 0, .int .u64 0] 96 (0, 0))) = W3 at *
         generalize w3.heap.size = X at *)
    have K3 := hide (KW2.out.trans kX (by simp))
    have BZ3 := hide (kX.keep BZ2.out (by simp))
    have BH3 := hide (kX.keep BH2.out (by simp))
    have bX' : W3.heap[X]? = some (stateO O 0) := by simp only [stateO, wd_zero]; exact bX
    have BX3 := hide bX'
    have c1 : W3.cell? ⟨B, 1, none⟩ = some (.slice av ps.length capv) := by rw [cell_of_block (K3.out.keep HB.out (by simp)), H1.out, HVR.out]
    have hXH : H < X := by omega
    clear hcE hd hd2 k3 h3 R3 kX bX bX' nB2 nH2
    rename_i hHeld
    try clear hHeld
    clear sA lH lB2
    try clear hX
    go_wp2_with fail
    go_loopw [27] (fun i w' => ∃ k : Nat, k ≤ ps.length ∧ i = .int .i64 k ∧ Kp [] w w' ∧ w'.heap[w.heap.size + 1 + 1]? = some zState ∧ w'.heap[H]? = some (setO hit) ∧ w'.heap[X]? = some (stateO O (wholes (lR ps) hit k)))
      (fun i _ => ps.length - (intOf i).toNat)
    case atStart => exact ⟨0, by omega, rfl, K3.out, BZ3.out, BH3.out, BX3.out⟩
    case round =>
      obtain ⟨k, hk, rfl, kp, bz, bh, bx⟩ := hrel
      have KP := hide kp
      have lX := lt_of_block bx
      have lH := lt_of_block bh
      have lz := lt_of_block bz
      have BZr := hide bz
      have BHr := hide bh
      have BXr := hide bx
      clear bz bh bx kp c1
      by_cases hlt : k < ps.length
      · obtain ⟨g, cap, e, lg, hc⟩ := HR.out.at hlt
        have hs : av = some ⟨g, 0, none⟩ ∧ capv = cap := by rw [HVR.out] at e; cases e; exact ⟨rfl, rfl⟩
        obtain ⟨rfl, rfl⟩ := hs
        have hlt' : (k : Int) < ps.length := by omega
        have hu8 : IntKind.u8.wrap (k : Int) = k := by simp [IntKind.wrap, IntKind.bits, IntKind.signed]; omega
        have hb1 : Hid (wholes (lR ps) hit (k + 1) = if hit &&& lR ps k ≠ 0 then wholes (lR ps) hit k ||| (1 <<< k) else wholes (lR ps) hit k) := rfl
        generalize wholes (lR ps) hit k = V at *
        generalize hY : lR ps k = Y at *
        generalize fR ps k = F at *
        generalize eR ps k = Z at *
        have HC := hide hc
        clear hY hc e
        go_upto_region 5 with fail
        apply wp_region_lit
        iterate 6 go_step
        refine loadMid rfl _ _ rfl (b := g) (o := k * 9) (partV Z F Y).cells (fun j hj => ?_) rfl _ Try.underlying64 rfl infoPart ?_
        · rw [← HC.out j hj]; exact bkeepc KP.out.toBelow lg
        refine allocZ rfl _ rfl _ infoPartZ ?_
        iterate 3 go_step
        refine storeAll rfl _ _ _ rfl (b := wr.heap.size) (c := #[.bool false, .int .u64 0, .int .u64 0, .int .u64 0, .int .u64 0, .int .u64 0, .int .u64 0, .int .u64 0, .int .u64 0]) (e := 64) (by rw [blk_alloc, if_pos rfl] <;> rfl) rfl rfl rfl infoPart (by simp [Value.oneCell', Value.cells]) ?_
        intro w5 b5 k5 s5
        have K5 : Hid (Kp [] w w5) := (KP.out.alloc _).trans k5 (by simp <;> omega)
        have BZ5 : Hid (w5.heap[w.heap.size + 1 + 1]? = some zState) := k5.keep (by rw [blk_alloc, if_neg (by omega)]; exact BZr.out) (by simp <;> omega)
        have BH5 : w5.heap[H]? = some (setO hit) := k5.keep (by rw [blk_alloc, if_neg (by omega)]; exact BHr.out) (by simp <;> omega)
        have BX5 : Hid (w5.heap[X]? = some (stateO O V)) := k5.keep (by rw [blk_alloc, if_neg (by omega)]; exact BXr.out) (by simp <;> omega)
        have HH5 := hide BH5
        clear k5 s5
        obtain ⟨y0, y1, y2, y3, yr⟩ := four BH5
        have b5' : w5.heap[wr.heap.size]? = some (partO Z F Y) := b5
        obtain ⟨⟨x0, x1, x2, x3, x4, x5, x6, x7, x8⟩, xr⟩ := nine b5'
        clear b5 b5' BH5 xr yr x0 x1 x2 x3 x4
        go_wp2_with fail
        refine (meets_any hit Y _ H256.out).mono ?_
        rintro _ w6 ⟨rfl, h6⟩
        have K6 : Hid (Kp [] w w6) := K5.out.below h6
        have BZ6 : Hid (w6.heap[w.heap.size + 1 + 1]? = some zState) := bkeep h6 BZ5.out
        have BH6 : Hid (w6.heap[H]? = some (setO hit)) := bkeep h6 HH5.out
        have BX6 : Hid (w6.heap[X]? = some (stateO O V)) := bkeep h6 BX5.out
        clear x5 x6 x7 x8 y0 y1 y2 y3 h6
        cases hm : (hit &&& Y != 0) with
        | true =>
          have hm' : Hid (hit &&& Y ≠ 0) := bne_iff_ne.1 hm
          clear hm
          obtain ⟨y0, y1, y2, y3, y4, y5, y6, y7, f0, f1, f2, f3, f4, f5, f6, f7⟩ := eight BX6.out
          clear y0 y1 y2 y3 f0 f1 f2 f3
          go_upto_region 7 with fail
          go_region_with ((first | (go_at_call 73; refine (one_any k _ (by omega)).mono ?_; rintro _ w7 ⟨rfl, h7⟩; have k7 := K6.out.drew.below h7; have bx7 := bkeep h7 BX6.out; have bz7 := bkeep h7 BZ6.out; have bh7 := bkeep h7 BH6.out; obtain ⟨q0, q1, q2, q3, q4, q5, q6, q7, qr⟩ := eight bx7; clear qr q0 q1 q2 q3) | (go_at_call 54; refine (union2 V (1 <<< k) _ _ (by rw [blk_alloc, if_pos rfl])).mono ?_; rintro _ w8 ⟨rfl, h8⟩; have k8 := (k7.alloc _).below h8; have bx8 : w8.heap[X]? = some (stateO O V) := bkeep h8 (by rw [blk_alloc, if_neg (Nat.ne_of_lt (lt_of_block bx7))]; exact bx7); have bz8 : w8.heap[w.heap.size + 1 + 1]? = some zState := bkeep h8 (by rw [blk_alloc, if_neg (Nat.ne_of_lt (lt_of_block bz7))]; exact bz7); have bh8 : w8.heap[H]? = some (setO hit) := bkeep h8 (by rw [blk_alloc, if_neg (Nat.ne_of_lt (lt_of_block bh7))]; exact bh7); obtain ⟨p0, p1, p2, p3, p4, p5, p6, p7, r0, r1, r2, r3, r4, r5, r6, r7⟩ := eight bx8)))
          all_goals
            have K8 : Hid (Kp [] w w8) := k8
            have BX8 : Hid (w8.heap[X]? = some (stateO O V)) := bx8
            have BZ8 : Hid (w8.heap[w.heap.size + 1 + 1]? = some zState) := bz8
            have BH8 : Hid (w8.heap[H]? = some (setO hit)) := bh8
            clear p0 p1 p2 p3 p4 p5 p6 p7 r0 r1 r2 r3 r4 r5 r6 r7 h8 k8 bx8 bz8 bh8 q4 q5 q6 q7 h7 k7 bx7 bz7 bh7 y4 y5 y6 y7 f4 f5 f6 f7
            go_wp2
            refine ⟨⟨k + 1, by omega, by go_num, (((K8.out.set (.inr (by omega)) _ _).set (.inr (by omega)) _ _).set (.inr (by omega)) _ _).set (.inr (by omega)) _ _, ?_, ?_, ?_⟩, by simp [intOf]; omega⟩
            · simp only [blk_set, if_neg (show w.heap.size + 1 + 1 ≠ X by omega)]; exact BZ8.out
            · simp only [blk_set, if_neg (show H ≠ X by omega)]; exact BH8.out
            · simp only [blk_set, BX8.out]
              rw [hb1.out, if_pos hm'.out]
              simp [setObj_cells]
        | false =>
          have hm' : Hid (¬ (hit &&& Y ≠ 0)) := fun h => by rw [bne_iff_ne.2 h] at hm; cases hm
          clear hm
          go_wp2
          refine ⟨⟨k + 1, by omega, by go_num, K6.out, BZ6.out, BH6.out, ?_⟩, by simp [intOf]; omega⟩
          rw [hb1.out, if_neg hm'.out]; exact BX6.out
      · have hkN : k = ps.length := by omega
        subst hkN
        go_upto_region 9 with fail
        apply wp_region_lit
        refine loadAll rfl _ _ rfl BXr.out rfl _ Try.underlying96 rfl infoState1 ?_
        refine storeAll rfl _ _ _ rfl BZr.out rfl rfl rfl infoState1 (by simp [Value.oneCell']) ?_
        intro w2 b2 k2 s2
        go_wp2
        exact bodyPost_ret (v := stateV O (wholes (lR ps) hit ps.length)) (res_cell Try.results59 rfl b2 _ Try.underlying96 rfl infoState1) rfl ⟨by rw [HH.out, HO.out], (KP.out.trans k2 (by simp <;> omega)).toBelow⟩
end Go.Proofs.Ytbjdkbcfpmeneaa

/- What is proved here: what the builder's row does: from a state, by each class, the number of the next one. -/
namespace Go.Proofs.Ytbjdkbcfpmeneaa
set_option linter.unusedVariables false
set_option linter.unusedSimpArgs false
open Go.RowKit Go.ChangeMaps

/- The state behind one, by a kind. -/
def nxt (fs : List Nat) (ps : List (Bool × Nat × Nat)) (a K : Nat) : Nat × Nat := (behN fs (a &&& K) fs.length, wholes (lR ps) (a &&& K) ps.length)
theorem behN_lt {fs : List Nat} (hfs : ∀ q, fs.getD q 0 < 2 ^ 256) (h k : Nat) : behN fs h k < 2 ^ 256 := by
  apply Nat.lt_pow_two_of_testBit
  intro i hi
  cases e : (behN fs h k).testBit i with
  | false => rfl
  | true =>
    obtain ⟨q, _, _, h3⟩ := (behN_bit fs h i k).1 e
    rw [Nat.testBit_lt_two_pow (Nat.lt_of_lt_of_le (hfs q) (Nat.pow_le_pow_right (by decide) hi))] at h3
    cases h3
theorem wholes_lt (l : Nat → Nat) (h n : Nat) : wholes l h n < 2 ^ n := by
  apply Nat.lt_pow_two_of_testBit
  intro i hi
  cases e : (wholes l h n).testBit i with
  | false => rfl
  | true => have := (wholes_bit l h i n).1 e; omega
theorem numTo.mono {ss ss' : List Value} {a b : Nat} {r : Int} (h : numTo ss a b r) (hp : ss <+: ss') : numTo ss' a b r := by
  rcases h with h | ⟨h, i, e, hi⟩
  · exact .inl h
  · obtain ⟨t, rfl⟩ := hp
    exact .inr ⟨h, i, e, by rw [List.getElem?_append_left (List.getElem?_eq_some_iff.1 hi).1]; exact hi⟩


set_option maxRecDepth 100000 in
set_option maxHeartbeats 4000000 in
theorem bRow_code (B p a b : Nat) (vr vb vf : Value) (F : List Nat) (bs fs Ks : List Nat) (ps : List (Bool × Nat × Nat)) (ss : List Value) (tk : Nat) (w : World) (h : Bl w B (.pointer (some ⟨p, 0, none⟩)) vr F (Ks.map setV) ss tk) (hP : ∀ w', Kp F w w' → PosAt w' p bs fs vb vf) (hR : ∀ w', Kp F w w' → RulesAt w' vr ps) (hbs : bs.length ≤ 200) (hn : ps.length ≤ 6)
    (hKs : ∀ K ∈ Ks, K < 2 ^ 256) (hfs : ∀ q, fs.getD q 0 < 2 ^ 256) (hlen : ss.length + Ks.length < 90000) (hK0 : 0 < Ks.length) :
    Calls Try.prog 36 #[.pointer (some ⟨B, 0, none⟩), stateV a b] w fun e w' => ∃ (F' : List Nat) (ss' : List Value) (g : Nat) (rs : List Int), e = .returned (.slice (some ⟨g, 0, none⟩) Ks.length Ks.length) ∧ w.heap.size ≤ g ∧ g ∉ F' ∧ w'.heap[g]? = some (iO rs) ∧ rs.length = Ks.length ∧
      (∀ k, k < Ks.length → numTo ss' (nxt fs ps a (Ks.getD k 0)).1 (nxt fs ps a (Ks.getD k 0)).2 (rs.getD k 0)) ∧ ss <+: ss' ∧ (∀ x ∈ ss', x ∈ ss ∨ ∃ k, k < Ks.length ∧ x = stateV (nxt fs ps a (Ks.getD k 0)).1 (nxt fs ps a (Ks.getD k 0)).2) ∧
      ss'.length ≤ ss.length + Ks.length ∧ Bl w' B (.pointer (some ⟨p, 0, none⟩)) vr F' (Ks.map setV) ss' tk ∧ Kp F w w' ∧ ∀ g ∈ F', g ∈ F ∨ w.heap.size ≤ g := by
  have HH := hide h
  have HP := hide hP
  have HR := hide hR
  have lF := hide h.lt
  have HKs := hide hKs
  have HFs := hide hfs
  clear h hP hR hKs hfs
  go_enter Try.func36, Try.ntmps36
  go_upto_region 1 with fail
  have kW : Kp [] w (w.alloc (stateO a b)) := (Kp.refl _ w).alloc _
  have bX : (w.alloc (stateO a b)).heap[w.heap.size]? = some (stateO a b) := by rw [blk_alloc, if_pos rfl]
  have sW : (w.alloc (stateO a b)).heap.size = w.heap.size + 1 := size_alloc _ _
  generalize (w.alloc (stateO a b)) = W at *
  have KW := hide kW
  have BX := hide bX
  have SW := hide sW
  clear kW bX sW
  obtain ⟨vmK, vsK, vmS, vsS, bl, hF⟩ := HH.out
  have hcnt : ∀ w', Kp [] w w' → Calls Try.prog 57 #[.pointer (some ⟨B, 2, none⟩)] w' fun e w'' => e = .returned (.int .i64 Ks.length) ∧ w'' = w' := fun w' k' => by
    have := cntSet_code B 2 _ 92 vmK vsK (Ks.map setV) w' (k'.keep bl.blk (by simp)) rfl (bl.kinds.kp k' (by simp))
    rw [List.length_map] at this
    exact this
  have HC := hide hcnt
  clear hcnt bl hF
  go_wp2_with fail
  refine (HC.out _ KW.out).mono ?_
  rintro _ w1 ⟨rfl, rfl⟩
  have hmk := fun w => run_make_ints Ks.length (by omega) w
  go_upto_region 2 with fail
  have kW2 : Kp [] w (w1.alloc (iO (List.replicate Ks.length 0))) := KW.out.alloc _
  have bG : (w1.alloc (iO (List.replicate Ks.length 0))).heap[w1.heap.size]? = some (iO (List.replicate Ks.length 0)) := by rw [blk_alloc, if_pos rfl]
  have bX2 : (w1.alloc (iO (List.replicate Ks.length 0))).heap[w.heap.size]? = some (stateO a b) := by rw [blk_alloc, if_neg (Nat.ne_of_lt (lt_of_block BX.out))]; exact BX.out
  have hG : w1.heap.size = w.heap.size + 1 := SW.out
  generalize (w1.alloc (iO (List.replicate Ks.length 0))) = W2 at *
  rw [hG] at bG ⊢
  have KW2 := hide kW2
  have BG2 := hide bG
  have BX2 := hide bX2
  clear kW2 bG bX2 hG hmk BX SW KW
  go_wp2_with fail
  go_loopw [14] (fun i w' => ∃ (k : Nat) (F' : List Nat) (ss' : List Value) (rs : List Int), k ≤ Ks.length ∧ i = .int .i64 k ∧ rs.length = Ks.length ∧
      (∀ j, j < k → numTo ss' (nxt fs ps a (Ks.getD j 0)).1 (nxt fs ps a (Ks.getD j 0)).2 (rs.getD j 0)) ∧ ss <+: ss' ∧ (∀ x ∈ ss', x ∈ ss ∨ ∃ j, j < Ks.length ∧ x = stateV (nxt fs ps a (Ks.getD j 0)).1 (nxt fs ps a (Ks.getD j 0)).2) ∧
      ss'.length ≤ ss.length + k ∧ Bl w' B (.pointer (some ⟨p, 0, none⟩)) vr F' (Ks.map setV) ss' tk ∧ Kp F w w' ∧ (∀ g ∈ F', g ∈ F ∨ w.heap.size + 2 ≤ g) ∧ w'.heap[w.heap.size]? = some (stateO a b) ∧ w'.heap[w.heap.size + 1]? = some (iO rs))
    (fun i _ => Ks.length - (intOf i).toNat)
  case atStart =>
    exact ⟨0, F, ss, List.replicate Ks.length 0, by omega, rfl, by simp, fun j hj => by omega, ⟨[], by simp⟩, fun x hx => .inl hx, by omega, HH.out.kp KW2.out (by simp), KW2.out.mono (by simp), fun g hg => .inl hg, BX2.out, BG2.out⟩
  case round =>
    obtain ⟨k, F', ss', rs, hk, rfl, hrl, hnum, hpre, hmem, hsl, bl, kp, fr, bx, bg⟩ := hrel
    have nX : w.heap.size ∉ F' := fun hm => by rcases fr _ hm with e | e; have := lF.out _ e; omega; omega
    have nG : w.heap.size + 1 ∉ F' := fun hm => by rcases fr _ hm with e | e; have := lF.out _ e; omega; omega
    have NUM := hide hnum
    have PRE := hide hpre
    have MEM := hide hmem
    have BLr := hide bl
    have KP := hide kp
    have FR := hide fr
    have BXr := hide bx
    have BGr := hide bg
    have lG := lt_of_block bg
    clear hnum hpre hmem bl kp fr bx bg
    by_cases hlt : k < Ks.length
    · have hlt' : (k : Int) < Ks.length := by omega
      have hKk : (Ks.map setV)[k]? = some (setV (Ks.getD k 0)) := by rw [List.getElem?_map, List.getElem?_eq_getElem hlt, List.getD_eq_getElem?_getD, List.getElem?_eq_getElem hlt]; rfl
      have hK2 : Ks.getD k 0 < 2 ^ 256 := by rw [List.getD_eq_getElem?_getD, List.getElem?_eq_getElem hlt]; exact HKs.out _ (List.getElem_mem hlt)
      have hA2 : (nxt fs ps a (Ks.getD k 0)).1 < 2 ^ 256 := behN_lt HFs.out _ _
      have hB2 : (nxt fs ps a (Ks.getD k 0)).2 < 2 ^ 256 := Nat.lt_of_lt_of_le (wholes_lt _ _ _) (Nat.pow_le_pow_right (by decide) (by omega))
      have hmemb : ∀ w', Kp [] wr w' → Calls Try.prog 60 #[.pointer (some ⟨B, 2, none⟩), .int .i64 k] w' fun e w'' => e = .returned (setV (Ks.getD k 0)) ∧ Below w'.heap.size w' w'' := fun w' k' => by
        obtain ⟨vmK, vsK, vmS, vsS, b0, _⟩ := BLr.out
        exact memSet_code B 2 _ 92 vmK vsK (Ks.map setV) w' (k'.keep b0.blk (by simp)) rfl (b0.kinds.kp k' (by simp)) k _ hKk
      have hnext : ∀ w', Kp [] wr w' → Calls Try.prog 59 #[.pointer (some ⟨B, 0, none⟩), stateV a b, setV (Ks.getD k 0)] w' fun e w'' => e = .returned (stateV (nxt fs ps a (Ks.getD k 0)).1 (nxt fs ps a (Ks.getD k 0)).2) ∧ Below w'.heap.size w' w'' := fun w' k' => by
        obtain ⟨c0, q0, q1, q2⟩ := (BLr.out.kp k' (by simp)).blk
        have kk : Kp F w w' := KP.out.trans k' (by simp)
        exact bNext_code B a b (Ks.getD k 0) p c0 92 vr vb vf bs fs ps w' q0 q1 q2 (HR.out w' kk) hn (HP.out w' kk) hbs hK2
      have hnumb : ∀ w', Kp [] wr w' → Calls Try.prog 58 #[.pointer (some ⟨B, 0, none⟩), stateV (nxt fs ps a (Ks.getD k 0)).1 (nxt fs ps a (Ks.getD k 0)).2] w' fun e w'' => ∃ (r : Int) (F2 : List Nat) (ss2 : List Value), e = .returned (.int .i64 r) ∧ numTo ss2 (nxt fs ps a (Ks.getD k 0)).1 (nxt fs ps a (Ks.getD k 0)).2 r ∧ (ss2 = ss' ∨ ss2 = ss' ++ [stateV (nxt fs ps a (Ks.getD k 0)).1 (nxt fs ps a (Ks.getD k 0)).2]) ∧
          Bl w'' B (.pointer (some ⟨p, 0, none⟩)) vr F2 (Ks.map setV) ss2 tk ∧ Kp F' w' w'' ∧ ∀ g ∈ F2, g ∈ F' ∨ w'.heap.size ≤ g := fun w' k' =>
        bNumber_code B _ _ (.pointer (some ⟨p, 0, none⟩)) vr F' (Ks.map setV) ss' tk w' (BLr.out.kp k' (by simp)) hA2 hB2 (by omega)
      generalize hX : (nxt fs ps a (Ks.getD k 0)).1 = X at *
      generalize hY : (nxt fs ps a (Ks.getD k 0)).2 = Y at *
      generalize hZ : Ks.getD k 0 = Z at *
      have HX := hide hX
      have HY := hide hY
      have HZ := hide hZ
      have H1 := hide hmemb
      have H2 := hide hnext
      have H3 := hide hnumb
      have hcE : ∀ w' : World, w'.heap[w.heap.size]? = some (stateO a b) → w'.cell? ⟨w.heap.size, 0, none⟩ = some (.int .u64 (wd a 0)) ∧ w'.cell? ⟨w.heap.size, 1, none⟩ = some (.int .u64 (wd a 1)) ∧ w'.cell? ⟨w.heap.size, 2, none⟩ = some (.int .u64 (wd a 2)) ∧ w'.cell? ⟨w.heap.size, 3, none⟩ = some (.int .u64 (wd a 3)) ∧
          w'.cell? ⟨w.heap.size, 4, none⟩ = some (.int .u64 (wd b 0)) ∧ w'.cell? ⟨w.heap.size, 5, none⟩ = some (.int .u64 (wd b 1)) ∧ w'.cell? ⟨w.heap.size, 6, none⟩ = some (.int .u64 (wd b 2)) ∧ w'.cell? ⟨w.heap.size, 7, none⟩ = some (.int .u64 (wd b 3)) := fun w' h' => by
        obtain ⟨y0, y1, y2, y3, y4, y5, y6, y7, _⟩ := eight h'
        exact ⟨y0, y1, y2, y3, y4, y5, y6, y7⟩
      have hd : wr.drew.heap[w.heap.size]? = some (stateO a b) := BXr.out
      clear hX hY hZ hmemb hnext hnumb hKk hK2 hA2 hB2
      go_upto_region 5 with fail
      go_region_held3 (fun w' : World => w'.heap[w.heap.size]? = some (stateO a b))
        (first | with_reducible exact hd | with_reducible exact S2 | with_reducible exact S3 | with_reducible exact S4 | (rw [blk_set, if_neg (Nat.ne_of_lt (Nat.lt_succ_self _))]; with_reducible exact S4))
        (first | (go_at_call 60; refine (H1.out _ ((Kp.refl [] wr).drew)).mono ?_; rintro _ w2 ⟨rfl, h2⟩; have k2 := (Kp.refl [] wr).drew.below h2; have S2 : w2.heap[w.heap.size]? = some (stateO a b) := bkeep h2 hd) | (go_at_call 59; refine (H2.out _ k2).mono ?_; rintro _ w3 ⟨rfl, h3⟩; have k3 := k2.below h3; have S3 : w3.heap[w.heap.size]? = some (stateO a b) := bkeep h3 S2) | (go_at_call 58; refine (H3.out _ k3).mono ?_; rintro _ w4 ⟨r, F2, ss2, rfl, hr, hs2, bl4, kp4, fr4⟩; have k4 : Kp F' wr w4 := (k3.mono (by simp)).trans kp4 (fun y hy => .inl hy); have S4 : w4.heap[w.heap.size]? = some (stateO a b) := k4.keep BXr.out nX; have bg4 : w4.heap[w.heap.size + 1]? = some (iO rs) := k4.keep BGr.out nG; have cc4 := icell bg4 k (by omega); have ff4 := ifroz bg4 k))
      all_goals
        have FR4 : Hid (∀ g ∈ F2, g ∈ F' ∨ wr.heap.size ≤ g) := fun g hg => by
          rcases fr4 g hg with e | e
          · exact .inl e
          · exact .inr (Nat.le_trans k3.size e)
        have K4 := hide k4
        have BL4 := hide bl4
        have BG4 := hide bg4
        have S4' := hide S4
        have HR4 := hide hr
        have HS2 := hide hs2
        rename_i hHeld
        clear hHeld hcE hd S2 S3 S4 k2 k3 k4 bl4 kp4 fr4 bg4 cc4 ff4 hr hs2 h2 h3
        go_wp2
        have sr := KP.out.size
        have pre2 : ss' <+: ss2 := by
          rcases HS2.out with e | e
          · rw [e]; exact ⟨[], by simp⟩
          · rw [e]; exact ⟨_, rfl⟩
        have nG2 : w.heap.size + 1 ∉ F2 := fun hm => by
          rcases FR4.out _ hm with e | e
          · exact nG e
          · omega
        refine ⟨⟨k + 1, F2, ss2, rs.set k r, by omega, by go_num, by simp [hrl], ?_, PRE.out.trans pre2, ?_, ?_, BL4.out.kp ((Kp.refl [w.heap.size + 1] w4).set (by simp) _ _) (by simpa using nG2), ?_, ?_, ?_, iset BG4.out k r⟩, by simp [intOf]; omega⟩
        · intro j hj
          by_cases e : j = k
          · subst e
            rw [HZ.out, HX.out, HY.out, getD_set_self _ _ _ (by omega)]
            exact HR4.out
          · rw [getD_set_other _ _ _ _ (fun q => e q.symm)]
            exact (NUM.out j (by omega)).mono pre2
        · intro x hx
          have : x ∈ ss' ∨ x = stateV X Y := by
            rcases HS2.out with e | e
            · rw [e] at hx; exact .inl hx
            · rw [e] at hx
              rcases List.mem_append.1 hx with q | q
              · exact .inl q
              · exact .inr (List.mem_singleton.1 q)
          rcases this with q | q
          · exact MEM.out x q
          · exact .inr ⟨k, hlt, by rw [HZ.out, HX.out, HY.out]; exact q⟩
        · rcases HS2.out with e | e
          · rw [e]; omega
          · rw [e, List.length_append, List.length_singleton]; omega
        · refine (KP.out.trans K4.out ?_).set (.inr (by omega)) _ _
          intro y hy
          rcases FR.out y hy with e | e
          · exact .inl e
          · exact .inr (by omega)
        · intro g hg
          rcases FR4.out g hg with e | e
          · exact FR.out g e
          · exact .inr (by omega)
        · rw [blk_set, if_neg (by omega)]; exact S4'.out
    · have hkN : k = Ks.length := by omega
      subst hkN
      go_wp2
      go_ret
      refine ⟨F', ss', w.heap.size + 1, rs, rfl, by omega, nG, BGr.out, hrl, NUM.out, PRE.out, MEM.out, hsl, BLr.out, KP.out, ?_⟩
      intro g hg
      rcases FR.out g hg with e | e
      · exact .inl e
      · exact .inr (by omega)
end Go.Proofs.Ytbjdkbcfpmeneaa
