/- What is proved here: what chain and repeat do. -/
import Derived.Test.YtbjdkbcfpmeneaaGreatRows
import Derived.Test.YtbjdkbcfpmeneaaGreatPos2
import Derived.Test.YtbjdkbcfpmeneaaGreatLaws
import Derived.Deep.Cut
namespace Go.Proofs.YtbjdkbcfpmeneaaGreat
set_option linter.unusedVariables false
set_option linter.unusedSimpArgs false
open Go.RowKit

set_option maxRecDepth 100000 in
set_option maxHeartbeats 2000000 in
theorem chain_code (p : Nat) (e1 e2 : Bool) (f1 l1 f2 l2 : Nat) (bs fs : List Nat) (vb vf : Value) (w : World) (h : PosAt w p bs fs vb vf) (hn : fs.length ≤ 200) :
    Calls Tryz.prog 101 #[.pointer (some ⟨p, 0, none⟩), partV e1 f1 l1, partV e2 f2 l2] w fun x w' =>
      x = .returned (partV (e1 && e2) (if e1 then f1 ||| f2 else f1) (if e2 then l1 ||| l2 else l2)) ∧ PosAt w' p bs (linkL l1 f2 fs) vb vf ∧ Kp (foot p vb vf) w w' := by
  have hlt := h.lt
  have k0 : Kp (foot p vb vf) w (((w.alloc (partO e1 f1 l1)).alloc (partO e2 f2 l2)).alloc zeroPart) := (((Kp.refl _ _).alloc _).alloc _).alloc _
  have P0 : PosAt (((w.alloc (partO e1 f1 l1)).alloc (partO e2 f2 l2)).alloc zeroPart) p bs fs vb vf := h.kp ((((Kp.refl [] _).alloc _).alloc _).alloc _) (by simp)
  have bA : (((w.alloc (partO e1 f1 l1)).alloc (partO e2 f2 l2)).alloc zeroPart).heap[w.heap.size]? = some (partO e1 f1 l1) := by simp only [blk_alloc, size_alloc]; rw [if_neg (by omega), if_neg (by omega), if_true]
  have bB : (((w.alloc (partO e1 f1 l1)).alloc (partO e2 f2 l2)).alloc zeroPart).heap[w.heap.size + 1]? = some (partO e2 f2 l2) := by simp only [blk_alloc, size_alloc]; rw [if_neg (by omega), if_true]
  have bZ : (((w.alloc (partO e1 f1 l1)).alloc (partO e2 f2 l2)).alloc zeroPart).heap[w.heap.size + 1 + 1]? = some zeroPart := by simp only [blk_alloc, size_alloc]; rw [if_true]
  have K0 := hide k0
  have PP := hide P0
  have BA := hide bA
  have BB := hide bB
  have BZ := hide bZ
  have HLT := hide hlt
  have nf : ∀ k, w.heap.size ≤ k → k ∉ foot p vb vf := fun k hk hm => by have := HLT.out k hm; omega
  have NF := hide nf
  clear h hlt k0 P0 bA bB bZ nf
  go_enter Tryz.func101, Tryz.ntmps101
  go_wp2_with fail
  refine (link_code p l1 f2 bs fs vb vf _ (by exact PP.out) hn).mono ?_
  rintro _ w1 ⟨rfl, P1, k1⟩
  have bA1 := k1.keep BA.out (NF.out _ (by omega))
  have bB1 := k1.keep BB.out (NF.out _ (by omega))
  have bZ1 := k1.keep BZ.out (NF.out _ (by omega))
  have K1 := hide (K0.out.trans k1 (fun y hy => .inl hy))
  have P1H := hide P1
  obtain ⟨⟨a0, a1, a2, a3, a4, a5, a6, a7, a8⟩, _⟩ := nine bA1
  obtain ⟨⟨b0, b1, b2, b3, b4, b5, b6, b7, b8⟩, _⟩ := nine bB1
  have BA1 := hide bA1
  have BB1 := hide bB1
  have BZ1 := hide bZ1
  have lZ1 := lt_of_block bZ1
  have lB1 := lt_of_block bB1
  have lA1 := lt_of_block bA1
  clear bA1 bB1 bZ1 k1 P1
  cases e1 <;> cases e2
  · go_upto_region 7 with fail
    apply wp_region_lit
    refine load9 rfl _ rfl (b := w1.heap.size) (by rw [blk_alloc, if_pos rfl]) rfl ?_
    refine store9 rfl _ _ rfl (b := w.heap.size + 1 + 1) (by rw [blk_alloc, if_neg (Nat.ne_of_lt lZ1)]; exact BZ1.out) rfl rfl (by simp [Value.oneCell']) ?_
    intro w9 z9 k9 s9
    go_wp2
    refine bodyPost_ret (v := partV false f1 l2) (res_part (b := w.heap.size + 1 + 1) Tryz.results101 rfl z9) rfl ⟨rfl, ?_, ?_⟩
    · exact P1H.out.kp (((Kp.refl [w1.heap.size, w.heap.size + 1 + 1] w1).alloc _).trans k9 (by simp)) (by intro k hk; simp at hk; rcases hk with rfl | rfl <;> exact NF.out _ (by omega))
    · exact ((K1.out.alloc _).trans k9 (by simp; omega))
  · go_wp2_with fail
    refine (union2' l1 l2 _ _ (by simp only [blk_alloc, size_alloc]; rw [if_true])).mono ?_
    rintro _ w2 ⟨rfl, h2⟩
    have wh2 : w2.heap[w1.heap.size]? = some (partO false f1 l2) := bkeep h2 (by simp only [blk_alloc, size_alloc]; rw [if_neg (by omega), if_true])
    have z2 : w2.heap[w.heap.size + 1 + 1]? = some zeroPart := bkeep h2 (by simp only [blk_alloc, size_alloc]; rw [if_neg (by omega), if_neg (by omega)]; exact BZ1.out)
    have k2 : ∀ xs, Kp xs w1 w2 := fun xs => (((Kp.refl _ _).alloc _).alloc _).below h2
    have W2 := hide wh2
    have Z2 := hide z2
    have K2 := hide k2
    clear wh2 z2 k2 h2
    go_upto_region 7 with (refine storeLast (by rfl) _ _ (by rfl) (b := w1.heap.size) (by exact W2.out) (by rfl) (by rfl) (by simp [Value.oneCell']) ?_; intro w3 wh3 k3 s3; have W3 := hide wh3; have K3 := hide k3; clear wh3 k3)
    apply wp_region_lit
    refine load9 rfl _ rfl (b := w1.heap.size) W3.out rfl ?_
    refine store9 rfl _ _ rfl (b := w.heap.size + 1 + 1) (K3.out.keep Z2.out (by simp; omega)) rfl rfl (by simp [Value.oneCell']) ?_
    intro w9 z9 k9 s9
    go_wp2
    refine bodyPost_ret (v := partV false f1 (l1 ||| l2)) (res_part (b := w.heap.size + 1 + 1) Tryz.results101 rfl z9) rfl ⟨rfl, ?_, ?_⟩
    · exact P1H.out.kp (((K2.out [w1.heap.size, w.heap.size + 1 + 1]).trans K3.out (by simp)).trans k9 (by simp)) (by intro k hk; simp at hk; rcases hk with rfl | rfl <;> exact NF.out _ (by omega))
    · exact (((K1.out.trans (K2.out []) (by simp)).trans K3.out (by simp; omega)).trans k9 (by simp; omega))
  · go_wp2_with fail
    refine (union2' f1 f2 _ _ (by simp only [blk_alloc, size_alloc]; rw [if_true])).mono ?_
    rintro _ w2 ⟨rfl, h2⟩
    have wh2 : w2.heap[w1.heap.size]? = some (partO false f1 l2) := bkeep h2 (by simp only [blk_alloc, size_alloc]; rw [if_neg (by omega), if_true])
    have bB2 : w2.heap[w.heap.size + 1]? = some (partO false f2 l2) := bkeep h2 (by simp only [blk_alloc, size_alloc]; rw [if_neg (by omega), if_neg (by omega)]; exact BB1.out)
    have z2 : w2.heap[w.heap.size + 1 + 1]? = some zeroPart := bkeep h2 (by simp only [blk_alloc, size_alloc]; rw [if_neg (by omega), if_neg (by omega)]; exact BZ1.out)
    have k2 : ∀ xs, Kp xs w1 w2 := fun xs => (((Kp.refl _ _).alloc _).alloc _).below h2
    have W2 := hide wh2
    have Z2 := hide z2
    have B2 := hide bB2
    have K2 := hide k2
    clear wh2 z2 k2 h2 bB2
    go_upto_region 7 with (refine storeFirst (by rfl) _ _ (by rfl) (b := w1.heap.size) (by exact W2.out) (by rfl) (by rfl) (by simp [Value.oneCell']) ?_; intro w3 wh3 k3 s3; obtain ⟨⟨x0, _⟩, _⟩ := nine (k3.keep B2.out (by simp; omega)); have W3 := hide wh3; have K3 := hide k3; clear wh3 k3)
    apply wp_region_lit
    refine load9 rfl _ rfl (b := w1.heap.size) W3.out rfl ?_
    refine store9 rfl _ _ rfl (b := w.heap.size + 1 + 1) (K3.out.keep Z2.out (by simp; omega)) rfl rfl (by simp [Value.oneCell']) ?_
    intro w9 z9 k9 s9
    go_wp2
    refine bodyPost_ret (v := partV false (f1 ||| f2) l2) (res_part (b := w.heap.size + 1 + 1) Tryz.results101 rfl z9) rfl ⟨rfl, ?_, ?_⟩
    · exact P1H.out.kp (((K2.out [w1.heap.size, w.heap.size + 1 + 1]).trans K3.out (by simp)).trans k9 (by simp)) (by intro k hk; simp at hk; rcases hk with rfl | rfl <;> exact NF.out _ (by omega))
    · exact (((K1.out.trans (K2.out []) (by simp)).trans K3.out (by simp; omega)).trans k9 (by simp; omega))
  · go_wp2_with fail
    refine (union2' f1 f2 _ _ (by simp only [blk_alloc, size_alloc]; rw [if_true])).mono ?_
    rintro _ w2 ⟨rfl, h2⟩
    have wh2 : w2.heap[w1.heap.size]? = some (partO true f1 l2) := bkeep h2 (by simp only [blk_alloc, size_alloc]; rw [if_neg (by omega), if_true])
    have bA2 : w2.heap[w.heap.size]? = some (partO true f1 l1) := bkeep h2 (by simp only [blk_alloc, size_alloc]; rw [if_neg (by omega), if_neg (by omega)]; exact BA1.out)
    have bB2 : w2.heap[w.heap.size + 1]? = some (partO true f2 l2) := bkeep h2 (by simp only [blk_alloc, size_alloc]; rw [if_neg (by omega), if_neg (by omega)]; exact BB1.out)
    have z2 : w2.heap[w.heap.size + 1 + 1]? = some zeroPart := bkeep h2 (by simp only [blk_alloc, size_alloc]; rw [if_neg (by omega), if_neg (by omega)]; exact BZ1.out)
    have k2 : ∀ xs, Kp xs w1 w2 := fun xs => (((Kp.refl _ _).alloc _).alloc _).below h2
    have W2 := hide wh2
    have Z2 := hide z2
    have A2 := hide bA2
    have B2 := hide bB2
    have K2 := hide k2
    clear wh2 z2 k2 h2 bA2 bB2 a0 a1 a2 a3 a4 a5 a6 a7 a8 b0 b1 b2 b3 b4 b5 b6 b7 b8
    go_upto_region 6 with (refine storeFirst (by rfl) _ _ (by rfl) (b := w1.heap.size) (by exact W2.out) (by rfl) (by rfl) (by simp [Value.oneCell']) ?_; intro w3 wh3 k3 s3; obtain ⟨⟨a0, a1, a2, a3, a4, a5, a6, a7, a8⟩, _⟩ := nine (k3.keep A2.out (by simp; omega)); obtain ⟨⟨b0, b1, b2, b3, b4, b5, b6, b7, b8⟩, _⟩ := nine (k3.keep B2.out (by simp; omega)); have W3 := hide wh3; have K3 := hide k3; clear wh3 k3)
    have Z3 := hide (K3.out.keep Z2.out (by simp; omega))
    have lw3 := lt_of_block W3.out
    have lz3 := lt_of_block Z3.out
    go_wp2_with fail
    refine (union2' l1 l2 _ _ (by rw [blk_alloc, if_pos s3.symm])).mono ?_
    rintro _ w4 ⟨rfl, h4⟩
    have W4 := hide (bkeep h4 (b := w1.heap.size) (by rw [blk_alloc, if_neg (Nat.ne_of_lt lw3)]; exact W3.out))
    have Z4 := hide (bkeep h4 (b := w.heap.size + 1 + 1) (by rw [blk_alloc, if_neg (Nat.ne_of_lt lz3)]; exact Z3.out))
    have K4 : Hid (∀ xs, Kp xs w3 w4) := fun xs => ((Kp.refl _ _).alloc _).below h4
    clear h4
    go_upto_region 7 with (refine storeLast (by rfl) _ _ (by rfl) (b := w1.heap.size) (by exact W4.out) (by rfl) (by rfl) (by simp [Value.oneCell']) ?_; intro w5 wh5 k5 s5; have W5 := hide wh5; have K5 := hide k5; clear wh5 k5)
    apply wp_region_lit
    refine load9 rfl _ rfl (b := w1.heap.size) W5.out rfl ?_
    refine store9 rfl _ _ rfl (b := w.heap.size + 1 + 1) (K5.out.keep Z4.out (by simp; omega)) rfl rfl (by simp [Value.oneCell']) ?_
    intro w9 z9 k9 s9
    go_wp2
    refine bodyPost_ret (v := partV true (f1 ||| f2) (l1 ||| l2)) (res_part (b := w.heap.size + 1 + 1) Tryz.results101 rfl z9) rfl ⟨rfl, ?_, ?_⟩
    · exact P1H.out.kp (((((K2.out [w1.heap.size, w.heap.size + 1 + 1]).trans K3.out (by simp)).trans (K4.out []) (by simp)).trans K5.out (by simp)).trans k9 (by simp)) (by intro k hk; simp at hk; rcases hk with rfl | rfl <;> exact NF.out _ (by omega))
    · exact (((((K1.out.trans (K2.out []) (by simp)).trans K3.out (by simp; omega)).trans (K4.out []) (by simp)).trans K5.out (by simp; omega)).trans k9 (by simp; omega))
end Go.Proofs.YtbjdkbcfpmeneaaGreat
