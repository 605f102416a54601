/- What is proved here: what Matches answers: whether the text is one of the part's. -/
import Derived.Test.YtbjdkbcfpmeneaaRows
import Derived.Test.YtbjdkbcfpmeneaaM09
namespace Go.Proofs.Ytbjdkbcfpmeneaa
set_option linter.unusedVariables false
set_option linter.unusedSimpArgs false
open Go.RowKit

/- A text as a list of numbers. -/
def tx (t : ByteArray) : List Nat := t.data.toList.map UInt8.toNat
theorem tx_len (t : ByteArray) : (tx t).length = t.size := by simp [tx]
theorem tx_drop (t : ByteArray) (k : Nat) (hk : k < t.size) : (tx t).drop k = gt t k :: (tx t).drop (k + 1) := by
  rw [List.drop_eq_getElem_cons (by rw [tx_len]; exact hk)]
  congr 1
  have h1 : k < t.data.toList.length := by simpa using hk
  have h2 : k < t.data.size := hk
  simp only [tx, List.getElem_map, gt, Array.getElem?_eq_getElem h2, Option.getD_some, Array.getElem_toList]

theorem takN_lt (bs : List Nat) (c : Nat) : ∀ k, takN bs c k < 2 ^ k := by
  intro k
  apply Nat.lt_pow_two_of_testBit
  intro i hi
  cases h : (takN bs c k).testBit i with
  | false => rfl
  | true => have := (takN_bit bs c i k).1 h; omega

set_option maxRecDepth 100000 in
set_option maxHeartbeats 4000000 in
theorem matches_code (p : Nat) (e : Bool) (f l : Nat) (t : ByteArray) (bs fs : List Nat) (vb vf : Value) (w : World) (h : PosAt w p bs fs vb vf) (hn : bs.length ≤ 200) (ht : t.size ≤ 100000) :
    Calls Try.prog 28 #[.pointer (some ⟨p, 0, none⟩), partV e f l, .string t] w fun x w' => x = .returned (.bool (simul bs fs l f e (tx t))) ∧ Below w.heap.size w w' := by
  have HP := hide h
  have hp := lt_of_block h.blk
  clear h
  go_enter Try.func28, Try.ntmps28
  go_upto_region 1 with fail
  have kW : Kp [] w (w.alloc (partO e f l)) := (Kp.refl _ w).alloc _
  have bE : (w.alloc (partO e f l)).heap[w.heap.size]? = some (partO e f l) := by rw [blk_alloc, if_pos rfl]
  generalize w.alloc (partO e f l) = W at *
  obtain ⟨⟨zc0, zc1, zc2, zc3, zc4, zc5, zc6, zc7, zc8⟩, _⟩ := nine bE
  have lE := lt_of_block bE
  have KW := hide kW
  have BE := hide bE
  clear kW bE
  go_region
  have kW2 : Kp [] w (W.alloc (setO f)).drew := (KW.out.alloc _).drew
  have bE2 : (W.alloc (setO f)).drew.heap[w.heap.size]? = some (partO e f l) := by rw [blk_drew, blk_alloc, if_neg (Nat.ne_of_lt lE)]; exact BE.out
  have bO2 : (W.alloc (setO f)).drew.heap[W.heap.size]? = some (setO f) := by rw [blk_drew, blk_alloc, if_pos rfl]
  generalize (W.alloc (setO f)).drew = W2 at *
  generalize W.heap.size = Oq at *
  generalize hE : w.heap.size = E at *
  have HE := hide hE
  have KW2 := hide kW2
  have BE2 := hide bE2
  have BO2 := hide bO2
  have hEO : E ≠ Oq := Nat.ne_of_lt lE
  have HOQ : Hid (w.heap.size ≤ Oq) := by show _ ≤ _; omega
  clear kW2 bE2 bO2 zc0 zc1 zc2 zc3 zc4 zc5 zc6 zc7 zc8 KW BE hE
  go_wp2_with fail
  go_loopw [17, 8] (fun i d w' => ∃ (k O : Nat) (d0 : Bool), k ≤ t.size ∧ i = .int .i64 k ∧ d = .bool d0 ∧ Kp [] w w' ∧ w'.heap[E]? = some (partO e f l) ∧ w'.heap[Oq]? = some (setO O) ∧ simul bs fs l f e (tx t) = simul bs fs l O d0 ((tx t).drop k))
    (fun i _ _ => t.size - (intOf i).toNat)
  case atStart => exact ⟨0, f, e, by omega, rfl, rfl, KW2.out, BE2.out, BO2.out, rfl⟩
  case round =>
    obtain ⟨k, O, d0, hk, rfl, rfl, kp, be, bo, hsim⟩ := hrel
    have KP := hide kp
    have BE := hide be
    have BO := hide bo
    have P := hide (HP.out.kp kp (by simp))
    have lO := lt_of_block bo
    have lE2 := lt_of_block be
    clear kp
    by_cases hlt : k < t.size
    · have hk' : (k : Int) < t.size := by omega
      have HLT := hide hlt
      have hg := gt_at t k hlt
      rw [tx_drop t k hlt, simul] at hsim
      have hc : gt t k < 256 := gt_lt t k
      have hit256 : O &&& takN bs (gt t k) bs.length < 2 ^ 256 := Nat.lt_of_le_of_lt Nat.and_le_right (Nat.lt_trans (takN_lt bs (gt t k) bs.length) (Nat.pow_lt_pow_right (by decide) (by omega)))
      have hcom : ∀ w', Calls Try.prog 45 #[setV O, setV (takN bs (gt t k) bs.length)] w' fun e w'' => e = .returned (setV (O &&& takN bs (gt t k) bs.length)) ∧ Below w'.heap.size w' w'' := fun w' => common_any O _ w'
      have htak : ∀ w', PosAt w' p bs fs vb vf → Calls Try.prog 46 #[.pointer (some ⟨p, 0, none⟩), .int .u8 (t[k].toNat : Int)] w' fun x w'' => x = .returned (setV (takN bs (gt t k) bs.length)) ∧ Below w'.heap.size w' w'' := fun w' h' => by
        have := taking_code p (gt t k) bs fs vb vf w' h' hn hc
        rw [hg] at this ⊢; exact this
      have HT := hide htak
      generalize takN bs (gt t k) bs.length = T at *
      have HC := hide hcom
      generalize O &&& T = hit at *
      have HSIM := hide hsim
      clear hsim hcom htak hg hc
      have hcO : ∀ w' : World, w'.heap[Oq]? = some (setO O) → w'.cell? ⟨Oq, 0, none⟩ = some (.int .u64 (wd O 0)) ∧ w'.cell? ⟨Oq, 1, none⟩ = some (.int .u64 (wd O 1)) ∧ w'.cell? ⟨Oq, 2, none⟩ = some (.int .u64 (wd O 2)) ∧ w'.cell? ⟨Oq, 3, none⟩ = some (.int .u64 (wd O 3)) := fun w' h' => by
        obtain ⟨a, b, c, d, _⟩ := four h'; exact ⟨a, b, c, d⟩
      have hd0 : wr.drew.heap[Oq]? = some (setO O) := bo
      have ld0 : Oq < wr.drew.heap.size := lO
      clear be bo
      go_upto_region 5 with fail
      go_region_held3 (fun w' : World => w'.heap[Oq]? = some (setO O))
        (first | with_reducible exact R3 | with_reducible exact R2 | with_reducible exact hd0 | (simp only [blk_set, if_neg (Nat.ne_of_lt l2)]; with_reducible exact R3) | (simp only [blk_set, if_neg (Nat.ne_of_lt lO)]; with_reducible exact R3) | (rw [blk_drew, blk_alloc, if_neg (Nat.ne_of_lt lO)]; with_reducible exact BO.out) | (rw [blk_alloc, if_neg (Nat.ne_of_lt (by first | with_reducible exact l3 | with_reducible exact l2 | with_reducible exact ld0))]; first | with_reducible exact R3 | with_reducible exact R2 | with_reducible exact hd0))
        (first | (go_at_call 46; refine (HT.out _ (P.out.kp (xs := []) ?hk (by simp))).mono ?_; (case hk => first | with_reducible exact (Kp.refl [] wr).drew | exact ((Kp.refl [] wr).alloc _).drew); rintro _ w2 ⟨rfl, h2⟩; have k2 : Kp [] wr w2 := (by first | exact ((Kp.refl [] wr).drew).below h2 | exact (((Kp.refl [] wr).alloc _).drew).below h2); have R2 := bkeep h2 (by first | with_reducible exact hd0 | (rw [blk_drew, blk_alloc, if_neg (Nat.ne_of_lt lO)]; exact BO.out)); have l2 := lt_of_block R2; (first | (refine (fun (H2 : w2.heap[wr.heap.size]? = some zeroSet) => ?_) ?hx; (case hx => (refine bkeep h2 ?_; rw [blk_drew, blk_alloc, if_pos rfl]; done))) | skip)) | (go_at_call 45; refine (HC.out _).mono ?_; rintro _ w3 ⟨rfl, h3⟩; have k3 : Kp [] wr w3 := (by first | exact k2.below h3 | exact (k2.alloc _).below h3); have R3 := bkeep h3 (by first | with_reducible exact R2 | (rw [blk_alloc, if_neg (Nat.ne_of_lt l2)]; exact R2)); have l3 := lt_of_block R3; (first | (have H3 := bkeep h3 (by exact H2); obtain ⟨hc0, hc1, hc2, hc3, hf0, hf1, hf2, hf3⟩ := four H3; have HH3 := hide H3; clear H2 H3) | (refine (fun (H3 : w3.heap[w2.heap.size]? = some zeroSet) => ?_) ?hx; (case hx => (refine bkeep h3 ?_; rw [blk_alloc, if_pos rfl]; done)); obtain ⟨hc0, hc1, hc2, hc3, hf0, hf1, hf2, hf3⟩ := four H3; have HH3 := hide H3; clear H3) | skip)))
      all_goals
        skip
        try clear hc0 hc1 hc2 hc3 hf0 hf1 hf2 hf3
        first | (have bh0 : w3.heap[w2.heap.size]? = some zeroSet := HH3.out; have k6 : Kp [] wr ((((w3.setCell ⟨w2.heap.size, 0, none⟩ (.int .u64 (wd hit 0))).setCell ⟨w2.heap.size, 1, none⟩ (.int .u64 (wd hit 1))).setCell ⟨w2.heap.size, 2, none⟩ (.int .u64 (wd hit 2))).setCell ⟨w2.heap.size, 3, none⟩ (.int .u64 (wd hit 3))) := k3.set4 (.inr k2.size) _ _ _ _; have bh : ((((w3.setCell ⟨w2.heap.size, 0, none⟩ (.int .u64 (wd hit 0))).setCell ⟨w2.heap.size, 1, none⟩ (.int .u64 (wd hit 1))).setCell ⟨w2.heap.size, 2, none⟩ (.int .u64 (wd hit 2))).setCell ⟨w2.heap.size, 3, none⟩ (.int .u64 (wd hit 3))).heap[w2.heap.size]? = some (setO hit) := (by simp only [blk_set, bh0]; simp [setObj_cells]); have hB : wr.heap.size ≤ w2.heap.size := k2.size; generalize ((((w3.setCell ⟨w2.heap.size, 0, none⟩ (.int .u64 (wd hit 0))).setCell ⟨w2.heap.size, 1, none⟩ (.int .u64 (wd hit 1))).setCell ⟨w2.heap.size, 2, none⟩ (.int .u64 (wd hit 2))).setCell ⟨w2.heap.size, 3, none⟩ (.int .u64 (wd hit 3))) = W6 at *; clear bh0 HH3; generalize w2.heap.size = B at *) | (have bh0 : w3.heap[wr.heap.size]? = some zeroSet := HH3.out; have k6 : Kp [] wr ((((w3.setCell ⟨wr.heap.size, 0, none⟩ (.int .u64 (wd hit 0))).setCell ⟨wr.heap.size, 1, none⟩ (.int .u64 (wd hit 1))).setCell ⟨wr.heap.size, 2, none⟩ (.int .u64 (wd hit 2))).setCell ⟨wr.heap.size, 3, none⟩ (.int .u64 (wd hit 3))) := k3.set4 (.inr (Nat.le_refl _)) _ _ _ _; have bh : ((((w3.setCell ⟨wr.heap.size, 0, none⟩ (.int .u64 (wd hit 0))).setCell ⟨wr.heap.size, 1, none⟩ (.int .u64 (wd hit 1))).setCell ⟨wr.heap.size, 2, none⟩ (.int .u64 (wd hit 2))).setCell ⟨wr.heap.size, 3, none⟩ (.int .u64 (wd hit 3))).heap[wr.heap.size]? = some (setO hit) := (by simp only [blk_set, bh0]; simp [setObj_cells]); have hB : wr.heap.size ≤ wr.heap.size := (Nat.le_refl _); generalize ((((w3.setCell ⟨wr.heap.size, 0, none⟩ (.int .u64 (wd hit 0))).setCell ⟨wr.heap.size, 1, none⟩ (.int .u64 (wd hit 1))).setCell ⟨wr.heap.size, 2, none⟩ (.int .u64 (wd hit 2))).setCell ⟨wr.heap.size, 3, none⟩ (.int .u64 (wd hit 3))) = W6 at *; clear bh0 HH3; generalize wr.heap.size = B at *) | (have k6 : Kp [] wr (w3.alloc (setO hit)) := k3.alloc _; have bh : (w3.alloc (setO hit)).heap[w3.heap.size]? = some (setO hit) := (by rw [blk_alloc, if_pos rfl]); have hB : wr.heap.size ≤ w3.heap.size := k3.size; generalize w3.alloc (setO hit) = W6 at *; generalize w3.heap.size = B at *)
        have K6 := hide (KP.out.trans k6 (by simp))
        have be6 := k6.keep BE.out (by simp)
        have bo6 := k6.keep BO.out (by simp)
        have P6 := hide (HP.out.kp K6.out (by simp))
        have hBE : B ≠ E := by omega
        have hBO : B ≠ Oq := by omega
        have lB := lt_of_block bh
        obtain ⟨hc0, hc1, hc2, hc3, _⟩ := four bh
        have BH6 := hide bh
        have BE6 := hide be6
        have BO6 := hide bo6
        have qq := fun w => run_eq_set0 hit w hit256
        clear k6 bh be6 bo6 R2 R3 hd0 ld0 hcO k2 k3 h2 h3 l2 l3 lO lE2 hB
        by_cases h0 : hit = 0
        · have q' : ∀ w, (Op.equalIn 10000 62 (setV hit) (.agg #[.int .u64 0, .int .u64 0, .int .u64 0, .int .u64 0])).run Try.prog w = .ok true w := fun w => by rw [qq w, h0]; rfl
          have H0 := hide h0
          clear qq h0
          go_wp2
          go_ret
          exact ⟨by rw [HSIM.out, if_pos H0.out]; rfl, K6.out.toBelow⟩
        · have q' : ∀ w, (Op.equalIn 10000 62 (setV hit) (.agg #[.int .u64 0, .int .u64 0, .int .u64 0, .int .u64 0])).run Try.prog w = .ok false w := fun w => by rw [qq w, beq_eq_false_iff_ne.2 h0]
          have H0 := hide h0
          clear qq h0
          go_upto_region 8 with fail
          have hcE : ∀ w' : World, w'.heap[E]? = some (partO e f l) ∧ w'.heap[B]? = some (setO hit) → w'.cell? ⟨E, 5, none⟩ = some (.int .u64 (wd l 0)) ∧ w'.cell? ⟨E, 6, none⟩ = some (.int .u64 (wd l 1)) ∧ w'.cell? ⟨E, 7, none⟩ = some (.int .u64 (wd l 2)) ∧ w'.cell? ⟨E, 8, none⟩ = some (.int .u64 (wd l 3)) ∧
              w'.cell? ⟨B, 0, none⟩ = some (.int .u64 (wd hit 0)) ∧ w'.cell? ⟨B, 1, none⟩ = some (.int .u64 (wd hit 1)) ∧ w'.cell? ⟨B, 2, none⟩ = some (.int .u64 (wd hit 2)) ∧ w'.cell? ⟨B, 3, none⟩ = some (.int .u64 (wd hit 3)) := fun w' h' => by
            obtain ⟨⟨_, _, _, _, _, y5, y6, y7, y8⟩, _⟩ := nine h'.1
            obtain ⟨a, b, c, d, _⟩ := four h'.2
            exact ⟨y5, y6, y7, y8, a, b, c, d⟩
          have hd6 : W6.drew.heap[E]? = some (partO e f l) ∧ W6.drew.heap[B]? = some (setO hit) := ⟨BE6.out, BH6.out⟩
          clear hc0 hc1 hc2 hc3
          go_region_held3 (fun w' : World => w'.heap[E]? = some (partO e f l) ∧ w'.heap[B]? = some (setO hit))
            (first | with_reducible exact R8 | with_reducible exact R7 | with_reducible exact hd6 | (simp only [blk_set, if_neg hEO, if_neg hBO]; with_reducible exact R8))
            (first | (go_at_call 47; refine (behind_code p hit bs fs vb vf _ (by exact P6.out.kp ((Kp.refl [] W6).drew) (by simp)) (by rw [P6.out.len]; exact hn)).mono ?_; rintro _ w7 ⟨rfl, h7⟩; have R7 : w7.heap[E]? = some (partO e f l) ∧ w7.heap[B]? = some (setO hit) := ⟨bkeep h7 (by exact BE6.out), bkeep h7 (by exact BH6.out)⟩; have O7 : w7.heap[Oq]? = some (setO O) := bkeep h7 (by exact BO6.out); have K7 := hide (K6.out.drew.below h7); clear h7) | (go_at_call 48; refine (meets_any hit l _ hit256).mono ?_; rintro _ w8 ⟨rfl, h8⟩; have R8 : w8.heap[E]? = some (partO e f l) ∧ w8.heap[B]? = some (setO hit) := ⟨bkeep h8 R7.1, bkeep h8 R7.2⟩; have O8 : w8.heap[Oq]? = some (setO O) := bkeep h8 O7; have K8 := hide (K7.out.below h8); obtain ⟨oc0, oc1, oc2, oc3, of0, of1, of2, of3⟩ := four O8; have HO8 := hide O8; clear O8 h8))
          all_goals
            go_wp2
            refine ⟨⟨k + 1, behN fs hit fs.length, hit &&& l != 0, HLT.out, by go_num, rfl, K8.out.set4 (.inr HOQ.out) _ _ _ _, ?_, ?_, ?_⟩, by have := HLT.out; simp [intOf]; omega⟩
            · simp only [blk_set, if_neg hEO]; exact R8.1
            · simp only [blk_set, HO8.out]; simp [setObj_cells]
            · rw [HSIM.out, if_neg H0.out]
    · have hkN : k = t.size := by omega
      subst hkN
      have hd : simul bs fs l f e (tx t) = d0 := by rw [hsim, List.drop_eq_nil_of_le (by rw [tx_len]; exact Nat.le_refl _), simul]
      have HD := hide hd
      clear hsim hd be bo
      go_wp2
      go_ret
      exact ⟨by rw [HD.out]; rfl, KP.out.toBelow⟩
end Go.Proofs.Ytbjdkbcfpmeneaa
