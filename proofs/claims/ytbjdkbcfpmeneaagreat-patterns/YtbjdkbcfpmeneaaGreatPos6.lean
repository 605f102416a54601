/- What is proved here: what repeat does. -/
import Derived.Test.YtbjdkbcfpmeneaaGreatRows
import Derived.Test.YtbjdkbcfpmeneaaGreatPos2
import Derived.Test.YtbjdkbcfpmeneaaGreatLaws
import Derived.Deep.Cut
namespace Go.Proofs.YtbjdkbcfpmeneaaGreat
set_option linter.unusedVariables false
set_option linter.unusedSimpArgs false
open Go.RowKit

set_option maxRecDepth 100000 in
set_option maxHeartbeats 2000000 in
theorem repeat_opt (p : Nat) (e : Bool) (f l : Nat) (bs fs : List Nat) (vb vf : Value) (w : World) (h : PosAt w p bs fs vb vf) :
    Calls Tryz.prog 115 #[.pointer (some ⟨p, 0, none⟩), partV e f l, .int .u8 63] w fun x w' => x = .returned (partV true f l) ∧ PosAt w' p bs fs vb vf ∧ Kp (foot p vb vf) w w' := by
  have HP := hide h
  have nf : ∀ k, w.heap.size ≤ k → k ∉ foot p vb vf := fun k hk hm => by have := HP.out.lt k hm; omega
  have NF := hide nf
  clear h nf
  go_enter Tryz.func115, Tryz.ntmps115
  go_upto_region 5 with fail
  apply wp_region_lit
  refine load9 rfl _ rfl (b := w.heap.size) (x0 := .bool true) (x1 := .int .u64 (wd f 0)) (x2 := .int .u64 (wd f 1)) (x3 := .int .u64 (wd f 2)) (x4 := .int .u64 (wd f 3)) (x5 := .int .u64 (wd l 0)) (x6 := .int .u64 (wd l 1)) (x7 := .int .u64 (wd l 2)) (x8 := .int .u64 (wd l 3)) (by simp only [blk_alloc, size_alloc]; rw [if_neg (by omega), if_true]) rfl ?_
  refine store9 rfl _ _ rfl (b := w.heap.size + 1) (x0 := .bool false) (x1 := .int .u64 0) (x2 := .int .u64 0) (x3 := .int .u64 0) (x4 := .int .u64 0) (x5 := .int .u64 0) (x6 := .int .u64 0) (x7 := .int .u64 0) (x8 := .int .u64 0) (by simp only [blk_alloc, size_alloc]; rw [if_true]) rfl rfl (by simp [Value.oneCell']) ?_
  intro w9 z9 k9 s9
  go_wp2
  refine bodyPost_ret (v := partV true f l) (res_part (b := w.heap.size + 1) Tryz.results115 rfl z9) rfl ⟨rfl, ?_, ?_⟩
  · exact HP.out.kp ((((Kp.refl [w.heap.size + 1] w).alloc _).alloc _).trans k9 (by simp)) (by intro k hk; simp at hk; subst hk; exact NF.out _ (by omega))
  · exact ((((Kp.refl _ w).alloc _).alloc _).trans k9 (by simp))

set_option maxRecDepth 100000 in
set_option maxHeartbeats 2000000 in
theorem repeat_plus (p : Nat) (e : Bool) (f l : Nat) (bs fs : List Nat) (vb vf : Value) (w : World) (h : PosAt w p bs fs vb vf) (hn : fs.length ≤ 200) :
    Calls Tryz.prog 115 #[.pointer (some ⟨p, 0, none⟩), partV e f l, .int .u8 43] w fun x w' => x = .returned (partV e f l) ∧ PosAt w' p bs (linkL l f fs) vb vf ∧ Kp (foot p vb vf) w w' := by
  have HP := hide h
  have nf : ∀ k, w.heap.size ≤ k → k ∉ foot p vb vf := fun k hk hm => by have := HP.out.lt k hm; omega
  have NF := hide nf
  have PP : Hid (PosAt ((w.alloc (partO e f l)).alloc zeroPart) p bs fs vb vf) := HP.out.kp (((Kp.refl [] _).alloc _).alloc _) (by simp)
  have BA : Hid (((w.alloc (partO e f l)).alloc zeroPart).heap[w.heap.size]? = some (partO e f l)) := by show _ = _; simp only [blk_alloc, size_alloc]; rw [if_neg (by omega), if_true]
  have BZ : Hid (((w.alloc (partO e f l)).alloc zeroPart).heap[w.heap.size + 1]? = some zeroPart) := by show _ = _; simp only [blk_alloc, size_alloc]; rw [if_true]
  clear h nf
  go_enter Tryz.func115, Tryz.ntmps115
  go_wp2_with fail
  refine (link_code p l f bs fs vb vf _ (by exact PP.out) hn).mono ?_
  rintro _ w1 ⟨rfl, P1, k1⟩
  have P1H := hide P1
  have A1 := hide (k1.keep BA.out (NF.out _ (by omega)))
  have Z1 := hide (k1.keep BZ.out (NF.out _ (by omega)))
  have K1 := hide ((((Kp.refl (foot p vb vf) w).alloc (partO e f l)).alloc zeroPart).trans k1 (fun y hy => .inl hy))
  clear P1 k1
  go_upto_region 5 with fail
  apply wp_region_lit
  refine load9 rfl _ rfl (b := w.heap.size) A1.out rfl ?_
  refine store9 rfl _ _ rfl (b := w.heap.size + 1) Z1.out rfl rfl (by simp [Value.oneCell']) ?_
  intro w9 z9 k9 s9
  go_wp2
  refine bodyPost_ret (v := partV e f l) (res_part (b := w.heap.size + 1) Tryz.results115 rfl z9) rfl ⟨rfl, ?_, ?_⟩
  · exact P1H.out.kp k9 (by intro k hk; simp at hk; subst hk; exact NF.out _ (by omega))
  · exact K1.out.trans k9 (by simp)

set_option maxRecDepth 100000 in
set_option maxHeartbeats 2000000 in
theorem repeat_star (p : Nat) (e : Bool) (f l : Nat) (bs fs : List Nat) (vb vf : Value) (w : World) (h : PosAt w p bs fs vb vf) (hn : fs.length ≤ 200) :
    Calls Tryz.prog 115 #[.pointer (some ⟨p, 0, none⟩), partV e f l, .int .u8 42] w fun x w' => x = .returned (partV true f l) ∧ PosAt w' p bs (linkL l f fs) vb vf ∧ Kp (foot p vb vf) w w' := by
  have HP := hide h
  have nf : ∀ k, w.heap.size ≤ k → k ∉ foot p vb vf := fun k hk hm => by have := HP.out.lt k hm; omega
  have NF := hide nf
  have PP : Hid (PosAt ((w.alloc (partO e f l)).alloc zeroPart) p bs fs vb vf) := HP.out.kp (((Kp.refl [] _).alloc _).alloc _) (by simp)
  have BA : Hid (((w.alloc (partO e f l)).alloc zeroPart).heap[w.heap.size]? = some (partO e f l)) := by show _ = _; simp only [blk_alloc, size_alloc]; rw [if_neg (by omega), if_true]
  have BZ : Hid (((w.alloc (partO e f l)).alloc zeroPart).heap[w.heap.size + 1]? = some zeroPart) := by show _ = _; simp only [blk_alloc, size_alloc]; rw [if_true]
  clear h nf
  go_enter Tryz.func115, Tryz.ntmps115
  go_wp2_with fail
  refine (link_code p l f bs fs vb vf _ (by exact PP.out) hn).mono ?_
  rintro _ w1 ⟨rfl, P1, k1⟩
  have P1H := hide P1
  have a1 := k1.keep BA.out (NF.out _ (by omega))
  have A1 := hide a1
  have Z1 := hide (k1.keep BZ.out (NF.out _ (by omega)))
  have K1 := hide ((((Kp.refl (foot p vb vf) w).alloc (partO e f l)).alloc zeroPart).trans k1 (fun y hy => .inl hy))
  obtain ⟨⟨c0, _⟩, f0, _⟩ := nine a1
  clear P1 k1 a1
  go_upto_region 5 with fail
  apply wp_region_lit
  refine load9 rfl _ rfl (b := w.heap.size) (x0 := .bool true) (x1 := .int .u64 (wd f 0)) (x2 := .int .u64 (wd f 1)) (x3 := .int .u64 (wd f 2)) (x4 := .int .u64 (wd f 3)) (x5 := .int .u64 (wd l 0)) (x6 := .int .u64 (wd l 1)) (x7 := .int .u64 (wd l 2)) (x8 := .int .u64 (wd l 3)) (by rw [blk_set, if_pos rfl, A1.out]; rfl) rfl ?_
  refine store9 rfl _ _ rfl (b := w.heap.size + 1) (x0 := .bool false) (x1 := .int .u64 0) (x2 := .int .u64 0) (x3 := .int .u64 0) (x4 := .int .u64 0) (x5 := .int .u64 0) (x6 := .int .u64 0) (x7 := .int .u64 0) (x8 := .int .u64 0) (by rw [blk_set, if_neg (by omega)]; exact Z1.out) rfl rfl (by simp [Value.oneCell']) ?_
  intro w9 z9 k9 s9
  go_wp2
  refine bodyPost_ret (v := partV true f l) (res_part (b := w.heap.size + 1) Tryz.results115 rfl z9) rfl ⟨rfl, ?_, ?_⟩
  · exact P1H.out.kp (((Kp.refl [w.heap.size, w.heap.size + 1] w1).set (by simp) _ _).trans k9 (by simp)) (by intro k hk; simp at hk; rcases hk with rfl | rfl <;> exact NF.out _ (by omega))
  · exact (K1.out.set (.inr (Nat.le_refl _)) _ _).trans k9 (by simp)
end Go.Proofs.YtbjdkbcfpmeneaaGreat
