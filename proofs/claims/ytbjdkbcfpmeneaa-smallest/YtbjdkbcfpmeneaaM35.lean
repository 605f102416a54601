/- What is proved here: what either does where the left part matches the text of no bytes. -/
import Derived.Test.YtbjdkbcfpmeneaaRows
import Derived.Test.YtbjdkbcfpmeneaaM08
namespace Go.Proofs.Ytbjdkbcfpmeneaa
set_option linter.unusedVariables false
set_option linter.unusedSimpArgs false
open Go.RowKit

set_option maxRecDepth 100000 in
set_option maxHeartbeats 2000000 in
theorem either_true (f1 l1 f2 l2 : Nat) (e2 : Bool) (w : World) :
    Calls Try.prog 51 #[partV true f1 l1, partV e2 f2 l2] w fun x w' => x = .returned (partV true (f1 ||| f2) (l1 ||| l2)) ∧ Below w.heap.size w w' := by
  go_enter Try.func51, Try.ntmps51
  go_wp2_with fail
  have bA : (((w.alloc (partO true f1 l1)).alloc (partO e2 f2 l2)).alloc zeroPart).heap[w.heap.size]? = some (partO true f1 l1) := by simp only [blk_alloc, size_alloc]; rw [if_neg (by omega), if_neg (by omega), if_true]
  have bB : (((w.alloc (partO true f1 l1)).alloc (partO e2 f2 l2)).alloc zeroPart).heap[w.heap.size + 1]? = some (partO e2 f2 l2) := by simp only [blk_alloc, size_alloc]; rw [if_neg (by omega), if_true]
  have bZ : (((w.alloc (partO true f1 l1)).alloc (partO e2 f2 l2)).alloc zeroPart).heap[w.heap.size + 1 + 1]? = some zeroPart := by simp only [blk_alloc, size_alloc]; rw [if_true]
  have bK : Below w.heap.size w (((w.alloc (partO true f1 l1)).alloc (partO e2 f2 l2)).alloc zeroPart) := (((Kp.refl [] _).alloc _).alloc _).alloc _ |>.toBelow
  generalize ((w.alloc (partO true f1 l1)).alloc (partO e2 f2 l2)).alloc zeroPart = W at *
  have BZ := hide bZ
  have lZ := lt_of_block bZ
  have BK := hide bK
  generalize hA : w.heap.size = A at *
  have HA := hide hA
  have cA : ∀ w', Below (A + 2) W w' → w'.cell? ⟨A, 0, none⟩ = some (.bool true) ∧ w'.cell? ⟨A, 1, none⟩ = some (.int .u64 (wd f1 0)) ∧ w'.cell? ⟨A, 2, none⟩ = some (.int .u64 (wd f1 1)) ∧ w'.cell? ⟨A, 3, none⟩ = some (.int .u64 (wd f1 2)) ∧ w'.cell? ⟨A, 4, none⟩ = some (.int .u64 (wd f1 3)) ∧ w'.cell? ⟨A, 5, none⟩ = some (.int .u64 (wd l1 0)) ∧ w'.cell? ⟨A, 6, none⟩ = some (.int .u64 (wd l1 1)) ∧ w'.cell? ⟨A, 7, none⟩ = some (.int .u64 (wd l1 2)) ∧ w'.cell? ⟨A, 8, none⟩ = some (.int .u64 (wd l1 3)) :=
    fun w' h => part_cells _ _ _ _ _ _ _ _ _ _ w' (by rw [h.block A (by omega)]; exact bA)
  have cB : ∀ w', Below (A + 2) W w' → w'.cell? ⟨A + 1, 0, none⟩ = some (.bool e2) ∧ w'.cell? ⟨A + 1, 1, none⟩ = some (.int .u64 (wd f2 0)) ∧ w'.cell? ⟨A + 1, 2, none⟩ = some (.int .u64 (wd f2 1)) ∧ w'.cell? ⟨A + 1, 3, none⟩ = some (.int .u64 (wd f2 2)) ∧ w'.cell? ⟨A + 1, 4, none⟩ = some (.int .u64 (wd f2 3)) ∧ w'.cell? ⟨A + 1, 5, none⟩ = some (.int .u64 (wd l2 0)) ∧ w'.cell? ⟨A + 1, 6, none⟩ = some (.int .u64 (wd l2 1)) ∧ w'.cell? ⟨A + 1, 7, none⟩ = some (.int .u64 (wd l2 2)) ∧ w'.cell? ⟨A + 1, 8, none⟩ = some (.int .u64 (wd l2 3)) :=
    fun w' h => part_cells _ _ _ _ _ _ _ _ _ _ w' (by rw [h.block (A + 1) (by omega)]; exact bB)
  clear bZ bA bB bK hA
  have nA : A + 2 ≤ W.heap.size := by omega
  refine wp_region_held_drew (S := fun w' => Below (A + 2) W w') (by kernel_rfl) (Below.drew (Below.refl _ _)) (fun hHeld => ?_)
  refine wpAnyH_take (i := 0) (v := ?v0) rfl (by kernel_rfl) (by kernel_rfl) (by kernel_rfl) (fun _ _ _ h => h) (Or.inl ⟨by rfl, ?y0⟩) (by assumption) ?r0
  case y0 => intro w hSw; (try dsimp only at hSw); go_simp; first | done | with_reducible rfl
  case' r0 => try simp only [Act.put, List.setIfInBounds_toArray, List.set_cons_zero, List.set_cons_succ]
  refine wpAnyH_take (i := 1) (v := ?v1) rfl (by kernel_rfl) (by kernel_rfl) (by kernel_rfl) (fun _ _ _ h => h) (Or.inl ⟨by rfl, ?y1⟩) (by assumption) ?r1
  case y1 => intro w hSw; (try dsimp only at hSw); go_simp; first | done | with_reducible rfl
  case' r1 => try simp only [Act.put, List.setIfInBounds_toArray, List.set_cons_zero, List.set_cons_succ]
  refine wpAnyH_take (i := 2) (v := ?v2) rfl (by kernel_rfl) (by kernel_rfl) (by kernel_rfl) (fun _ _ _ h => h) (Or.inl ⟨by rfl, ?y2⟩) (by assumption) ?r2
  case y2 => intro w hSw; (try dsimp only at hSw); go_simp; first | done | with_reducible rfl
  case' r2 => try simp only [Act.put, List.setIfInBounds_toArray, List.set_cons_zero, List.set_cons_succ]
  refine wpAnyH_take (i := 3) (v := undef) rfl (by kernel_rfl) (by kernel_rfl) (by kernel_rfl) (fun _ _ _ h => h) (Or.inr ⟨by rfl, rfl⟩) (by assumption) ?_
  try simp only [Act.put, List.setIfInBounds_toArray, List.set_cons_zero, List.set_cons_succ]
  refine wpAnyH_take (i := 4) (v := undef) rfl (by kernel_rfl) (by kernel_rfl) (by kernel_rfl) (fun _ _ _ h => h) (Or.inr ⟨by rfl, rfl⟩) (by assumption) ?_
  try simp only [Act.put, List.setIfInBounds_toArray, List.set_cons_zero, List.set_cons_succ]
  refine wpAnyH_take (i := 5) (v := ?v5) rfl (by kernel_rfl) (by kernel_rfl) (by kernel_rfl) (fun _ _ _ h => h) (Or.inl ⟨by rfl, ?y5⟩) (by assumption) ?r5
  case y5 => intro w hSw; (try dsimp only at hSw); go_simp; first | done | with_reducible rfl
  case' r5 => try simp only [Act.put, List.setIfInBounds_toArray, List.set_cons_zero, List.set_cons_succ]
  refine wpAnyH_take (i := 6) (v := ?v6) rfl (by kernel_rfl) (by kernel_rfl) (by kernel_rfl) (fun _ _ _ h => h) (Or.inl ⟨by rfl, ?y6⟩) (by assumption) ?r6
  case y6 => intro w hSw; (try dsimp only at hSw); go_simp; first | done | with_reducible rfl
  case' r6 => try simp only [Act.put, List.setIfInBounds_toArray, List.set_cons_zero, List.set_cons_succ]
  refine wpAnyH_take (i := 7) (v := ?v7) rfl (by kernel_rfl) (by kernel_rfl) (by kernel_rfl) (fun _ _ _ h => h) (Or.inl ⟨by rfl, ?y7⟩) (by assumption) ?r7
  case y7 => intro w hSw; (try dsimp only at hSw); go_simp; first | done | with_reducible rfl
  case' r7 => try simp only [Act.put, List.setIfInBounds_toArray, List.set_cons_zero, List.set_cons_succ]
  refine wpAnyH_take (i := 8) (v := ?v8) rfl (by kernel_rfl) (by kernel_rfl) (by kernel_rfl) (fun _ _ _ h => h) (Or.inl ⟨by rfl, ?y8⟩) (by assumption) ?r8
  case y8 => intro w hSw; (try dsimp only at hSw); go_simp; first | done | with_reducible rfl
  case' r8 => try simp only [Act.put, List.setIfInBounds_toArray, List.set_cons_zero, List.set_cons_succ]
  refine wpAnyH_take (i := 9) (v := ?v9) rfl (by kernel_rfl) (by kernel_rfl) (by kernel_rfl) (fun _ _ _ h => h) (Or.inl ⟨by rfl, ?y9⟩) (by assumption) ?r9
  case y9 => intro w hSw; (try dsimp only at hSw); go_simp; first | done | with_reducible rfl
  case' r9 => try simp only [Act.put, List.setIfInBounds_toArray, List.set_cons_zero, List.set_cons_succ]
  refine wpAnyH_take (i := 12) (v := ?v12) rfl (by kernel_rfl) (by kernel_rfl) (by kernel_rfl) (fun _ _ _ h => h) (Or.inl ⟨by rfl, ?y12⟩) (by assumption) ?r12
  case y12 => intro w hSw; (try dsimp only at hSw); go_simp; first | done | with_reducible rfl
  case' r12 => try simp only [Act.put, List.setIfInBounds_toArray, List.set_cons_zero, List.set_cons_succ]
  refine wpAnyH_take (i := 13) (v := ?v13) rfl (by kernel_rfl) (by kernel_rfl) (by kernel_rfl) (fun _ _ _ h => h) (Or.inl ⟨by rfl, ?y13⟩) (by assumption) ?r13
  case y13 => intro w hSw; (try dsimp only at hSw); go_simp; first | done | with_reducible rfl
  case' r13 => try simp only [Act.put, List.setIfInBounds_toArray, List.set_cons_zero, List.set_cons_succ]
  refine wpAnyH_take (i := 14) (v := ?v14) rfl (by kernel_rfl) (by kernel_rfl) (by kernel_rfl) (fun _ _ _ h => h) (Or.inl ⟨by rfl, ?y14⟩) (by assumption) ?r14
  case y14 => intro w hSw; (try dsimp only at hSw); go_simp; first | done | with_reducible rfl
  case' r14 => try simp only [Act.put, List.setIfInBounds_toArray, List.set_cons_zero, List.set_cons_succ]
  refine wpAnyH_take (i := 15) (v := ?v15) rfl (by kernel_rfl) (by kernel_rfl) (by kernel_rfl) (fun _ _ _ h => h) (Or.inl ⟨by rfl, ?y15⟩) (by assumption) ?r15
  case y15 => intro w hSw; (try dsimp only at hSw); go_simp; first | done | with_reducible rfl
  case' r15 => try simp only [Act.put, List.setIfInBounds_toArray, List.set_cons_zero, List.set_cons_succ]
  refine wpAnyH_ready (rs := [10, 16]) (by kernel_rfl) (by simp) ?_
  refine AllReadyH.cons rfl (fun K hK => ?_) (AllReadyH.cons rfl (fun K hK => ?_) AllReadyH.nil)
  · skip
    go_simp
    refine hK.out _ _ ?hS (fun hHeld' => ?_)
    case hS => (repeat (any_goals (first | with_reducible exact S3 | with_reducible exact S2 | with_reducible exact hHeld | with_reducible exact Below.refl _ _ | with_reducible refine Below.drew ?_ | with_reducible refine Below.setCell ?_ ?_ _ | with_reducible refine Below.alloc ?_ ?_ _ | omega | (simp [size_alloc, size_drew]; done) | (simp [size_alloc, size_drew]; omega))))
    clear hK K hHeld
    have hHeld := hHeld'
    clear hHeld'
    try simp only [Act.put, List.setIfInBounds_toArray, List.set_cons_zero, List.set_cons_succ]
    refine wpAnyH_ready (rs := [11, 16]) (by kernel_rfl) (by simp) ?_
    refine AllReadyH.cons rfl (fun K hK => ?_) (AllReadyH.cons rfl (fun K hK => ?_) AllReadyH.nil)
    · skip
      go_simp
      (refine (union2' f1 f2 _ _ ?hs).mono ?_; (case hs => first | (simp only [blk_drew, blk_alloc, size_alloc]; simp; done)); rintro _ w2 ⟨rfl, h2⟩; have S2 : Below (A + 2) W w2 := Below.trans hHeld (h2.mono (by simp [size_alloc, size_drew]; omega)); have sz2 := S2.size; have z2 : w2.heap[A + 1 + 1]? = some zeroPart := bkeep h2 (by simp only [blk_drew, blk_alloc, size_alloc]; (first | (rw [if_neg (by omega), if_neg (by omega)]; exact BZ.out) | (rw [if_neg (by omega)]; exact BZ.out))); have Z2 := hide z2; have lz2 := lt_of_block z2; clear z2)
      go_wp2_with fail
      refine hK.out _ _ ?hS (fun hHeld' => ?_)
      case hS => (repeat (any_goals (first | with_reducible exact S3 | with_reducible exact S2 | with_reducible exact hHeld | with_reducible exact Below.refl _ _ | with_reducible refine Below.drew ?_ | with_reducible refine Below.setCell ?_ ?_ _ | with_reducible refine Below.alloc ?_ ?_ _ | omega | (simp [size_alloc, size_drew]; done) | (simp [size_alloc, size_drew]; omega))))
      clear hK K hHeld
      have hHeld := hHeld'
      clear hHeld'
      try simp only [Act.put, List.setIfInBounds_toArray, List.set_cons_zero, List.set_cons_succ]
      refine wpAnyH_ready (rs := [16]) (by kernel_rfl) (by simp) ?_
      refine AllReadyH.cons rfl (fun K hK => ?_) AllReadyH.nil
      go_simp
      refine hK.out _ _ ?hS (fun hHeld' => ?_)
      case hS => (repeat (any_goals (first | with_reducible exact S3 | with_reducible exact S2 | with_reducible exact hHeld | with_reducible exact Below.refl _ _ | with_reducible refine Below.drew ?_ | with_reducible refine Below.setCell ?_ ?_ _ | with_reducible refine Below.alloc ?_ ?_ _ | omega | (simp [size_alloc, size_drew]; done) | (simp [size_alloc, size_drew]; omega))))
      clear hK K hHeld
      have hHeld := hHeld'
      clear hHeld'
      try simp only [Act.put, List.setIfInBounds_toArray, List.set_cons_zero, List.set_cons_succ]
      refine wpAnyH_ready (rs := [17]) (by kernel_rfl) (by simp) ?_
      refine AllReadyH.cons rfl (fun K hK => ?_) AllReadyH.nil
      go_simp
      (refine (union2' l1 l2 _ _ ?hs).mono ?_; (case hs => first | (rw [blk_alloc, if_pos rfl]; done) | (refine bkeep h2 ?_; simp only [blk_drew, blk_alloc, size_alloc]; simp; done)); rintro _ w3 ⟨rfl, h3⟩; have S3 : Below (A + 2) W w3 := Below.trans hHeld (h3.mono (by first | omega | (simp [size_alloc]; omega))); have sz3 := S3.size; (have z3 : w3.heap[A + 1 + 1]? = some zeroPart := by refine bkeep h3 ?hz; (case hz => first | (with_reducible exact Z2.out) | (rw [blk_alloc, if_neg (Nat.ne_of_lt lz2)]; exact Z2.out))); obtain ⟨⟨zc0, zc1, zc2, zc3, zc4, zc5, zc6, zc7, zc8⟩, zf0, zf1, zf2, zf3, zf4, zf5, zf6, zf7, zf8⟩ := nine z3; have Z3 := hide z3; clear z3)
      go_wp2_with fail
      refine hK.out _ _ ?hS (fun hHeld' => ?_)
      case hS => (repeat (any_goals (first | with_reducible exact S3 | with_reducible exact S2 | with_reducible exact hHeld | with_reducible exact Below.refl _ _ | with_reducible refine Below.drew ?_ | with_reducible refine Below.setCell ?_ ?_ _ | with_reducible refine Below.alloc ?_ ?_ _ | omega | (simp [size_alloc, size_drew]; done) | (simp [size_alloc, size_drew]; omega))))
      clear hK K hHeld
      have hHeld := hHeld'
      clear hHeld'
      try simp only [Act.put, List.setIfInBounds_toArray, List.set_cons_zero, List.set_cons_succ]
      refine wpAnyH_take (i := 18) (v := ?v18a) rfl (by kernel_rfl) (by kernel_rfl) (by kernel_rfl) (fun _ _ _ h => h) (Or.inl ⟨by rfl, ?y18a⟩) (by assumption) ?r18a
      case y18a => intro w hSw; (try dsimp only at hSw); go_simp; first | done | with_reducible rfl
      case' r18a => try simp only [Act.put, List.setIfInBounds_toArray, List.set_cons_zero, List.set_cons_succ]
      refine wpAnyH_ready (rs := [19]) (by kernel_rfl) (by simp) ?_
      refine AllReadyH.cons rfl (fun K hK => ?_) AllReadyH.nil
      go_simp
      refine hK.out _ _ ?hS (fun hHeld' => ?_)
      case hS => (repeat (any_goals (first | with_reducible exact S3 | with_reducible exact S2 | with_reducible exact hHeld | with_reducible exact Below.refl _ _ | with_reducible refine Below.drew ?_ | with_reducible refine Below.setCell ?_ ?_ _ | with_reducible refine Below.alloc ?_ ?_ _ | omega | (simp [size_alloc, size_drew]; done) | (simp [size_alloc, size_drew]; omega))))
      clear hK K hHeld
      have hHeld := hHeld'
      clear hHeld'
      try simp only [Act.put, List.setIfInBounds_toArray, List.set_cons_zero, List.set_cons_succ]
      refine wpAnyH_done (by kernel_rfl) ?_ _
      go_wp2
      refine bodyPost_ret (v := partV true (f1 ||| f2) (l1 ||| l2)) (res_part (b := A + 1 + 1) Try.results51 rfl (by simp only [blk_set, Z3.out]; simp [setObj_cells])) rfl ⟨rfl, ?_⟩
      rw [HA.out]
      exact ((((((((((BK.out.trans (S3.mono (by omega))).setCell (by simp; omega) _).setCell (by simp; omega) _).setCell (by simp; omega) _).setCell (by simp; omega) _).setCell (by simp; omega) _).setCell (by simp; omega) _).setCell (by simp; omega) _).setCell (by simp; omega) _).setCell (by simp; omega) _)
    · skip
      go_simp
      refine hK.out _ _ ?hS (fun hHeld' => ?_)
      case hS => (repeat (any_goals (first | with_reducible exact S3 | with_reducible exact S2 | with_reducible exact hHeld | with_reducible exact Below.refl _ _ | with_reducible refine Below.drew ?_ | with_reducible refine Below.setCell ?_ ?_ _ | with_reducible refine Below.alloc ?_ ?_ _ | omega | (simp [size_alloc, size_drew]; done) | (simp [size_alloc, size_drew]; omega))))
      clear hK K hHeld
      have hHeld := hHeld'
      clear hHeld'
      try simp only [Act.put, List.setIfInBounds_toArray, List.set_cons_zero, List.set_cons_succ]
      refine wpAnyH_ready (rs := [11]) (by kernel_rfl) (by simp) ?_
      refine AllReadyH.cons rfl (fun K hK => ?_) AllReadyH.nil
      go_simp
      (refine (union2' f1 f2 _ _ ?hs).mono ?_; (case hs => first | (simp only [blk_drew, blk_alloc, size_alloc]; simp; done)); rintro _ w2 ⟨rfl, h2⟩; have S2 : Below (A + 2) W w2 := Below.trans hHeld (h2.mono (by simp [size_alloc, size_drew]; omega)); have sz2 := S2.size; have z2 : w2.heap[A + 1 + 1]? = some zeroPart := bkeep h2 (by simp only [blk_drew, blk_alloc, size_alloc]; (first | (rw [if_neg (by omega), if_neg (by omega)]; exact BZ.out) | (rw [if_neg (by omega)]; exact BZ.out))); have Z2 := hide z2; have lz2 := lt_of_block z2; clear z2)
      go_wp2_with fail
      refine hK.out _ _ ?hS (fun hHeld' => ?_)
      case hS => (repeat (any_goals (first | with_reducible exact S3 | with_reducible exact S2 | with_reducible exact hHeld | with_reducible exact Below.refl _ _ | with_reducible refine Below.drew ?_ | with_reducible refine Below.setCell ?_ ?_ _ | with_reducible refine Below.alloc ?_ ?_ _ | omega | (simp [size_alloc, size_drew]; done) | (simp [size_alloc, size_drew]; omega))))
      clear hK K hHeld
      have hHeld := hHeld'
      clear hHeld'
      try simp only [Act.put, List.setIfInBounds_toArray, List.set_cons_zero, List.set_cons_succ]
      refine wpAnyH_ready (rs := [17]) (by kernel_rfl) (by simp) ?_
      refine AllReadyH.cons rfl (fun K hK => ?_) AllReadyH.nil
      go_simp
      (refine (union2' l1 l2 _ _ ?hs).mono ?_; (case hs => first | (rw [blk_alloc, if_pos rfl]; done) | (refine bkeep h2 ?_; simp only [blk_drew, blk_alloc, size_alloc]; simp; done)); rintro _ w3 ⟨rfl, h3⟩; have S3 : Below (A + 2) W w3 := Below.trans hHeld (h3.mono (by first | omega | (simp [size_alloc]; omega))); have sz3 := S3.size; (have z3 : w3.heap[A + 1 + 1]? = some zeroPart := by refine bkeep h3 ?hz; (case hz => first | (with_reducible exact Z2.out) | (rw [blk_alloc, if_neg (Nat.ne_of_lt lz2)]; exact Z2.out))); obtain ⟨⟨zc0, zc1, zc2, zc3, zc4, zc5, zc6, zc7, zc8⟩, zf0, zf1, zf2, zf3, zf4, zf5, zf6, zf7, zf8⟩ := nine z3; have Z3 := hide z3; clear z3)
      go_wp2_with fail
      refine hK.out _ _ ?hS (fun hHeld' => ?_)
      case hS => (repeat (any_goals (first | with_reducible exact S3 | with_reducible exact S2 | with_reducible exact hHeld | with_reducible exact Below.refl _ _ | with_reducible refine Below.drew ?_ | with_reducible refine Below.setCell ?_ ?_ _ | with_reducible refine Below.alloc ?_ ?_ _ | omega | (simp [size_alloc, size_drew]; done) | (simp [size_alloc, size_drew]; omega))))
      clear hK K hHeld
      have hHeld := hHeld'
      clear hHeld'
      try simp only [Act.put, List.setIfInBounds_toArray, List.set_cons_zero, List.set_cons_succ]
      refine wpAnyH_take (i := 18) (v := ?v18b) rfl (by kernel_rfl) (by kernel_rfl) (by kernel_rfl) (fun _ _ _ h => h) (Or.inl ⟨by rfl, ?y18b⟩) (by assumption) ?r18b
      case y18b => intro w hSw; (try dsimp only at hSw); go_simp; first | done | with_reducible rfl
      case' r18b => try simp only [Act.put, List.setIfInBounds_toArray, List.set_cons_zero, List.set_cons_succ]
      refine wpAnyH_ready (rs := [19]) (by kernel_rfl) (by simp) ?_
      refine AllReadyH.cons rfl (fun K hK => ?_) AllReadyH.nil
      go_simp
      refine hK.out _ _ ?hS (fun hHeld' => ?_)
      case hS => (repeat (any_goals (first | with_reducible exact S3 | with_reducible exact S2 | with_reducible exact hHeld | with_reducible exact Below.refl _ _ | with_reducible refine Below.drew ?_ | with_reducible refine Below.setCell ?_ ?_ _ | with_reducible refine Below.alloc ?_ ?_ _ | omega | (simp [size_alloc, size_drew]; done) | (simp [size_alloc, size_drew]; omega))))
      clear hK K hHeld
      have hHeld := hHeld'
      clear hHeld'
      try simp only [Act.put, List.setIfInBounds_toArray, List.set_cons_zero, List.set_cons_succ]
      refine wpAnyH_done (by kernel_rfl) ?_ _
      go_wp2
      refine bodyPost_ret (v := partV true (f1 ||| f2) (l1 ||| l2)) (res_part (b := A + 1 + 1) Try.results51 rfl (by simp only [blk_set, Z3.out]; simp [setObj_cells])) rfl ⟨rfl, ?_⟩
      rw [HA.out]
      exact ((((((((((BK.out.trans (S3.mono (by omega))).setCell (by simp; omega) _).setCell (by simp; omega) _).setCell (by simp; omega) _).setCell (by simp; omega) _).setCell (by simp; omega) _).setCell (by simp; omega) _).setCell (by simp; omega) _).setCell (by simp; omega) _).setCell (by simp; omega) _)
  · skip
    go_simp
    refine hK.out _ _ ?hS (fun hHeld' => ?_)
    case hS => (repeat (any_goals (first | with_reducible exact S3 | with_reducible exact S2 | with_reducible exact hHeld | with_reducible exact Below.refl _ _ | with_reducible refine Below.drew ?_ | with_reducible refine Below.setCell ?_ ?_ _ | with_reducible refine Below.alloc ?_ ?_ _ | omega | (simp [size_alloc, size_drew]; done) | (simp [size_alloc, size_drew]; omega))))
    clear hK K hHeld
    have hHeld := hHeld'
    clear hHeld'
    try simp only [Act.put, List.setIfInBounds_toArray, List.set_cons_zero, List.set_cons_succ]
    refine wpAnyH_ready (rs := [10]) (by kernel_rfl) (by simp) ?_
    refine AllReadyH.cons rfl (fun K hK => ?_) AllReadyH.nil
    go_simp
    refine hK.out _ _ ?hS (fun hHeld' => ?_)
    case hS => (repeat (any_goals (first | with_reducible exact S3 | with_reducible exact S2 | with_reducible exact hHeld | with_reducible exact Below.refl _ _ | with_reducible refine Below.drew ?_ | with_reducible refine Below.setCell ?_ ?_ _ | with_reducible refine Below.alloc ?_ ?_ _ | omega | (simp [size_alloc, size_drew]; done) | (simp [size_alloc, size_drew]; omega))))
    clear hK K hHeld
    have hHeld := hHeld'
    clear hHeld'
    try simp only [Act.put, List.setIfInBounds_toArray, List.set_cons_zero, List.set_cons_succ]
    refine wpAnyH_ready (rs := [11]) (by kernel_rfl) (by simp) ?_
    refine AllReadyH.cons rfl (fun K hK => ?_) AllReadyH.nil
    go_simp
    (refine (union2' f1 f2 _ _ ?hs).mono ?_; (case hs => first | (simp only [blk_drew, blk_alloc, size_alloc]; simp; done)); rintro _ w2 ⟨rfl, h2⟩; have S2 : Below (A + 2) W w2 := Below.trans hHeld (h2.mono (by simp [size_alloc, size_drew]; omega)); have sz2 := S2.size; have z2 : w2.heap[A + 1 + 1]? = some zeroPart := bkeep h2 (by simp only [blk_drew, blk_alloc, size_alloc]; (first | (rw [if_neg (by omega), if_neg (by omega)]; exact BZ.out) | (rw [if_neg (by omega)]; exact BZ.out))); have Z2 := hide z2; have lz2 := lt_of_block z2; clear z2)
    go_wp2_with fail
    refine hK.out _ _ ?hS (fun hHeld' => ?_)
    case hS => (repeat (any_goals (first | with_reducible exact S3 | with_reducible exact S2 | with_reducible exact hHeld | with_reducible exact Below.refl _ _ | with_reducible refine Below.drew ?_ | with_reducible refine Below.setCell ?_ ?_ _ | with_reducible refine Below.alloc ?_ ?_ _ | omega | (simp [size_alloc, size_drew]; done) | (simp [size_alloc, size_drew]; omega))))
    clear hK K hHeld
    have hHeld := hHeld'
    clear hHeld'
    try simp only [Act.put, List.setIfInBounds_toArray, List.set_cons_zero, List.set_cons_succ]
    refine wpAnyH_ready (rs := [17]) (by kernel_rfl) (by simp) ?_
    refine AllReadyH.cons rfl (fun K hK => ?_) AllReadyH.nil
    go_simp
    (refine (union2' l1 l2 _ _ ?hs).mono ?_; (case hs => first | (rw [blk_alloc, if_pos rfl]; done) | (refine bkeep h2 ?_; simp only [blk_drew, blk_alloc, size_alloc]; simp; done)); rintro _ w3 ⟨rfl, h3⟩; have S3 : Below (A + 2) W w3 := Below.trans hHeld (h3.mono (by first | omega | (simp [size_alloc]; omega))); have sz3 := S3.size; (have z3 : w3.heap[A + 1 + 1]? = some zeroPart := by refine bkeep h3 ?hz; (case hz => first | (with_reducible exact Z2.out) | (rw [blk_alloc, if_neg (Nat.ne_of_lt lz2)]; exact Z2.out))); obtain ⟨⟨zc0, zc1, zc2, zc3, zc4, zc5, zc6, zc7, zc8⟩, zf0, zf1, zf2, zf3, zf4, zf5, zf6, zf7, zf8⟩ := nine z3; have Z3 := hide z3; clear z3)
    go_wp2_with fail
    refine hK.out _ _ ?hS (fun hHeld' => ?_)
    case hS => (repeat (any_goals (first | with_reducible exact S3 | with_reducible exact S2 | with_reducible exact hHeld | with_reducible exact Below.refl _ _ | with_reducible refine Below.drew ?_ | with_reducible refine Below.setCell ?_ ?_ _ | with_reducible refine Below.alloc ?_ ?_ _ | omega | (simp [size_alloc, size_drew]; done) | (simp [size_alloc, size_drew]; omega))))
    clear hK K hHeld
    have hHeld := hHeld'
    clear hHeld'
    try simp only [Act.put, List.setIfInBounds_toArray, List.set_cons_zero, List.set_cons_succ]
    refine wpAnyH_take (i := 18) (v := ?v18c) rfl (by kernel_rfl) (by kernel_rfl) (by kernel_rfl) (fun _ _ _ h => h) (Or.inl ⟨by rfl, ?y18c⟩) (by assumption) ?r18c
    case y18c => intro w hSw; (try dsimp only at hSw); go_simp; first | done | with_reducible rfl
    case' r18c => try simp only [Act.put, List.setIfInBounds_toArray, List.set_cons_zero, List.set_cons_succ]
    refine wpAnyH_ready (rs := [19]) (by kernel_rfl) (by simp) ?_
    refine AllReadyH.cons rfl (fun K hK => ?_) AllReadyH.nil
    go_simp
    refine hK.out _ _ ?hS (fun hHeld' => ?_)
    case hS => (repeat (any_goals (first | with_reducible exact S3 | with_reducible exact S2 | with_reducible exact hHeld | with_reducible exact Below.refl _ _ | with_reducible refine Below.drew ?_ | with_reducible refine Below.setCell ?_ ?_ _ | with_reducible refine Below.alloc ?_ ?_ _ | omega | (simp [size_alloc, size_drew]; done) | (simp [size_alloc, size_drew]; omega))))
    clear hK K hHeld
    have hHeld := hHeld'
    clear hHeld'
    try simp only [Act.put, List.setIfInBounds_toArray, List.set_cons_zero, List.set_cons_succ]
    refine wpAnyH_done (by kernel_rfl) ?_ _
    go_wp2
    refine bodyPost_ret (v := partV true (f1 ||| f2) (l1 ||| l2)) (res_part (b := A + 1 + 1) Try.results51 rfl (by simp only [blk_set, Z3.out]; simp [setObj_cells])) rfl ⟨rfl, ?_⟩
    rw [HA.out]
    exact ((((((((((BK.out.trans (S3.mono (by omega))).setCell (by simp; omega) _).setCell (by simp; omega) _).setCell (by simp; omega) _).setCell (by simp; omega) _).setCell (by simp; omega) _).setCell (by simp; omega) _).setCell (by simp; omega) _).setCell (by simp; omega) _).setCell (by simp; omega) _)

theorem either_any (e1 e2 : Bool) (f1 l1 f2 l2 : Nat) (w : World) :
    Calls Try.prog 51 #[partV e1 f1 l1, partV e2 f2 l2] w fun x w' => x = .returned (partV (e1 || e2) (f1 ||| f2) (l1 ||| l2)) ∧ Below w.heap.size w w' := by
  cases e1
  · exact either_false f1 l1 f2 l2 e2 w
  · exact either_true f1 l1 f2 l2 e2 w
end Go.Proofs.Ytbjdkbcfpmeneaa
