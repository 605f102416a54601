/- What is proved here: what atom of the document's reader does, but for a bracket. -/
import Derived.Test.YtbjdkbcfpmeneaaGreatRows
import Derived.Test.YtbjdkbcfpmeneaaGreatRef5
import Derived.Test.YtbjdkbcfpmeneaaGreatRef6
namespace Go.Proofs.YtbjdkbcfpmeneaaGreat
set_option linter.unusedVariables false
set_option linter.unusedSimpArgs false
open Go.RowKit

set_option maxRecDepth 100000 in
set_option maxHeartbeats 1000000 in
theorem ratom_set (s : ByteArray) (i r : Nat) (nv : Value) (ns : List ND) (Ls : List Lang) (w : World) (h : RSt w s i 0 0 r nv ns) (t : TrOk w ns Ls) (hi : i < s.size) (hs : s.size ≤ 16) (hn : ns.length ≤ 900) (hg : gt s i = 91) (hz : Nz s) (acc : Lang) (RR : PR Lang) (hR : RR = if (pSet s (i + 1)).err ≠ 0 then ⟨(pSet s (i + 1)).err, (pSet s (i + 1)).pl, (pSet s (i + 1)).j, acc⟩ else good (pSet s (i + 1)).j (lSet (pSet s (i + 1)).v)) :
    Calls Tryz.prog 50 #[.pointer (some ⟨r, 0, none⟩)] w (RRP (RR) 0 s i r nv ns Ls w) := by
  have HS := hide h
  have HT := hide t
  have H := hide h.rd
  have hr := lt_of_block h.rd
  have hw1 := wrap1 i (by omega)
  have hw2 := wrap1 (i + 1) (by omega)
  have hg1 := gt_lt s i
  have hg2 := gt_lt s (i + 1)
  obtain ⟨c0, c1, c2, c3, c4, c5, f0, f1, f2, f3, f4, f5⟩ := six h.rd
  have HR := hide hR
  clear hR
  clear h t
  go_enter Tryz.func50, Tryz.ntmps50
  go_wp2_with fail
  refine (rnext_any s i r 0 0 nv _ (by exact H.out)).mono ?_
  rw [hg]
  rintro _ w1 ⟨rfl, n1, rfl⟩
  have SA : RSt ((w.drewN n1).setCell ⟨r, 1, none⟩ (.int .i64 (i + 1 : Nat))) s (i + 1 : Nat) 0 0 r nv ns := RSt.seti (HS.out.kp ((Kp.refl [] w).drewN n1) (by simp)) _
  have KA : Kp [r] w ((w.drewN n1).setCell ⟨r, 1, none⟩ (.int .i64 (i + 1 : Nat))) := ((Kp.refl _ _).drewN n1).set (.inl (by simp)) _ _
  have SAH := hide SA
  have KAH := hide KA
  clear SA KA
  clear hg
  go_wp2_with fail
  refine (rset_code s (i + 1) r nv _ (by exact SAH.out.rd) hz (by omega) hs).mono ?_
  rintro _ w2 ⟨rfl, iv, l, hl, b2, rd2, k2, ok2⟩
  have sh := pSet_shape s (i + 1) hz
  generalize pSet s (i + 1) = R at *
  have S2 := hide (SAH.out.kr (by exact k2) rd2)
  have K2 : Hid (Kp [r] w w2) := KAH.out.trans (by exact k2) (by simp)
  simp only [size_set, World.heap_drewN] at b2
  have B2 := hide b2
  have OK2 := hide ok2
  have SH := hide sh
  clear b2 k2 rd2 ok2 sh
  go_wp2_with fail
  refine (radd_bytes s iv R.err R.pl r nv ns Ls _ _ _ (by exact S2.out) (by omega) (by exact B2.out)).mono ?_
  rintro _ w3 ⟨rfl, nv', s3, k3, fr3, t3⟩
  have T3 : Hid (∀ q, l = bitsL q → TrOk w3 _ (Ls ++ [lSet q])) := fun q hq => t3 q hq (HT.out.keep K2.out HS.out.farR)
  have S3 := hide s3
  have K3 : Hid (Kp (rfoot r nv) w w3) := K2.out.ofR.trans k3 (fun y hy => .inl hy)
  have F3 : Hid (∀ g ∈ rfoot r nv', g ∈ rfoot r nv ∨ w.heap.size ≤ g) := fun g hg => by rcases fr3 g hg with e | e; exact .inl e; exact .inr (by have := K2.out.size; omega)
  clear s3 k3 fr3 t3
  go_wp2
  go_ret
  rcases SH.out with ⟨a1, a2, a3, a4⟩ | ⟨a1, a2⟩
  · rw [HR.out, if_neg (by simp [a1])]
    obtain ⟨e1, e2⟩ := OK2.out a1
    have S4 := S3.out
    rw [a1, a2, e1] at S4
    exact ⟨ns.length, _, nv', _, rfl, S4, K3.out, F3.out, by simp [good] <;> omega, fun _ => ⟨rfl, [lSet R.v], _, rfl, Fresh.bytes _ _, T3.out R.v e2, by simp, getD_last Ls _ _ HT.out.len⟩⟩
  · rw [HR.out, if_pos a1]
    exact ⟨ns.length, _, nv', _, rfl, S3.out, K3.out, F3.out, by simp <;> omega, fun e => absurd e a1⟩

def dotL : Nat → List Bool
  | 0 => fl 256
  | k + 1 => (dotL k).set k (k != 10)
theorem dotL_len : ∀ k, (dotL k).length = 256
  | 0 => fl_len _
  | k + 1 => by rw [dotL, List.length_set]; exact dotL_len k
theorem dotL_get : ∀ k q, k ≤ 256 → q < k → (dotL k).getD q false = (q != 10) := by
  intro k
  induction k with
  | zero => intro q _ h; omega
  | succ k ih =>
    intro q hk hq
    rw [dotL]
    by_cases h : q = k
    · subst h; rw [List.getD_eq_getElem?_getD, List.getElem?_set_self (by rw [dotL_len]; omega), Option.getD_some]
    · rw [List.getD_eq_getElem?_getD, List.getElem?_set_ne (fun e => h e.symm), ← List.getD_eq_getElem?_getD, ih q (by omega) (by omega)]
theorem dotL_all : dotL 256 = bitsL (comp (1 <<< 10)) := by
  apply List.ext_getElem
  · rw [dotL_len, bitsL_len]
  · intro i h1 h2
    have hi : i < 256 := by rw [dotL_len] at h1; exact h1
    have g1 := dotL_get 256 i (Nat.le_refl _) hi
    have g2 := bitsL_get (comp (1 <<< 10)) i hi
    rw [List.getD_eq_getElem?_getD, List.getElem?_eq_getElem h1, Option.getD_some] at g1
    rw [List.getD_eq_getElem?_getD, List.getElem?_eq_getElem h2, Option.getD_some] at g2
    rw [g1, g2, comp_bit, Nat.one_shiftLeft, Nat.testBit_two_pow]
    simp only [hi, decide_true, Bool.true_and]
    by_cases e : i = 10
    · subst e; rfl
    · have : (i != 10) = true := by simp [e]
      rw [this]; simp; omega

set_option maxRecDepth 100000 in
set_option maxHeartbeats 1000000 in
theorem ratom_dot (s : ByteArray) (i r : Nat) (nv : Value) (ns : List ND) (Ls : List Lang) (w : World) (h : RSt w s i 0 0 r nv ns) (t : TrOk w ns Ls) (hi : i < s.size) (hs : s.size ≤ 16) (hn : ns.length ≤ 900) (hg : gt s i = 46) :
    Calls Tryz.prog 50 #[.pointer (some ⟨r, 0, none⟩)] w (RRP (good (i + 1) (lSet (comp (1 <<< 10)))) 0 s i r nv ns Ls w) := by
  have HS := hide h
  have HT := hide t
  have H := hide h.rd
  have hr := lt_of_block h.rd
  have hw1 := wrap1 i (by omega)
  have hw2 := wrap1 (i + 1) (by omega)
  have hg1 := gt_lt s i
  have hg2 := gt_lt s (i + 1)
  obtain ⟨c0, c1, c2, c3, c4, c5, f0, f1, f2, f3, f4, f5⟩ := six h.rd
  have hm := run_make_256
  clear h t
  go_enter Tryz.func50, Tryz.ntmps50
  go_wp2_with fail
  refine (rnext_any s i r 0 0 nv _ (by exact H.out)).mono ?_
  rw [hg]
  rintro _ w1 ⟨rfl, n1, rfl⟩
  have SA : RSt ((w.drewN n1).setCell ⟨r, 1, none⟩ (.int .i64 (i + 1 : Nat))) s (i + 1 : Nat) 0 0 r nv ns := RSt.seti (HS.out.kp ((Kp.refl [] w).drewN n1) (by simp)) _
  have KA : Kp [r] w ((w.drewN n1).setCell ⟨r, 1, none⟩ (.int .i64 (i + 1 : Nat))) := ((Kp.refl _ _).drewN n1).set (.inl (by simp)) _ _
  have SAH := hide SA
  have KAH := hide KA
  clear SA KA
  clear hg
  go_upto_region 17 with fail
  have bW : (((w.drewN n1).setCell ⟨r, 1, none⟩ (.int .i64 (i + 1 : Nat))).alloc (boolsO (fl 256))).heap[w.heap.size]? = some (boolsO (fl 256)) := by rw [blk_alloc, size_set, World.heap_drewN, if_pos rfl]
  have SW := SAH.out.kp ((Kp.refl [] _).alloc (boolsO (fl 256))) (by simp)
  have KW : Kp [r] w (((w.drewN n1).setCell ⟨r, 1, none⟩ (.int .i64 (i + 1 : Nat))).alloc (boolsO (fl 256))) := KAH.out.alloc _
  have BWH := hide bW
  have SWH := hide SW
  have KWH := hide KW
  clear bW SW KW SAH KAH hm c0 c1 c2 c3 c4 c5 f0 f1 f2 f3 f4 f5
  go_wp2_with fail
  go_loopw [7] (fun c w' => ∃ k : Nat, k ≤ 256 ∧ c = .int .i64 k ∧ w'.heap[w.heap.size]? = some (boolsO (dotL k)) ∧ RSt w' s (i + 1 : Nat) 0 0 r nv ns ∧ Kp [r] w w') (fun c _ => 256 - (intOf c).toNat)
  case atStart => exact ⟨0, by omega, rfl, BWH.out, SWH.out, KWH.out⟩
  case round =>
    obtain ⟨k, hk, rfl, bk, sk, kk⟩ := hrel
    have SK := hide sk
    have BK := hide bk
    have KK2 := hide kk
    clear sk kk
    by_cases hlt : k < 256
    · have ck := bcell bk k (by rw [dotL_len]; exact hlt)
      have fk := bfroz bk k
      have hlt' : (k : Int) < 256 := by omega
      have hd : ((k : Int) != 10) = (k != 10) := by rw [Bool.eq_iff_iff]; simp; omega
      clear bk
      go_wp2
      refine ⟨⟨k + 1, by omega, by go_num, ?_, SK.out.kp ((Kp.refl [w.heap.size] _).set (.inl (by simp)) _ _) (by intro g hg hm; simp at hg; subst hg; have := HS.out.lt _ hm; omega), KK2.out.set (.inr (Nat.le_refl _)) _ _⟩, by simp [intOf]; omega⟩
      rw [bset BK.out k, dotL]
    · have hkE : k = 256 := by omega
      subst hkE
      rw [dotL_all] at bk
      have S2 := SK
      have K2 := KK2
      have b2 := bk
      have k2 := trivial
      have B2 := hide bk
      clear hlt BK bk
      clear b2 k2
      go_wp2_with fail
      refine (radd_bytes s (i + 1 : Nat) 0 0 r nv ns Ls _ _ _ (by exact S2.out) (by omega) (by exact B2.out)).mono ?_
      rintro _ w3 ⟨rfl, nv', s3, k3, fr3, t3⟩
      have T3 := hide (t3 (comp (1 <<< 10)) rfl (HT.out.keep K2.out HS.out.farR))
      have S3 := hide s3
      have K3 : Hid (Kp (rfoot r nv) w w3) := K2.out.ofR.trans k3 (fun y hy => .inl hy)
      have F3 : Hid (∀ g ∈ rfoot r nv', g ∈ rfoot r nv ∨ w.heap.size ≤ g) := fun g hg => by rcases fr3 g hg with e | e; exact .inl e; exact .inr (by have := K2.out.size; omega)
      clear s3 k3 fr3 t3
      go_wp2
      go_ret
      exact ⟨ns.length, _, nv', _, rfl, S3.out, K3.out, F3.out, by simp [good] <;> omega, fun _ => ⟨rfl, [lSet (comp (1 <<< 10))], _, rfl, Fresh.bytes _ _, T3.out, by simp, getD_last Ls _ _ HT.out.len⟩⟩
end Go.Proofs.YtbjdkbcfpmeneaaGreat
