/- What is proved here: what atom of the document's reader does at a bracket. -/
import Derived.Test.YtbjdkbcfpmeneaaGreatRows
import Derived.Test.YtbjdkbcfpmeneaaGreatRef6
namespace Go.Proofs.YtbjdkbcfpmeneaaGreat
set_option linter.unusedVariables false
set_option linter.unusedSimpArgs false
open Go.RowKit

set_option maxRecDepth 100000 in
set_option maxHeartbeats 1000000 in
theorem ratom_paren (s : ByteArray) (i r : Nat) (nv : Value) (ns : List ND) (Ls : List Lang) (A : PR Lang) (acc : Lang) (w : World) (h : RSt w s i 0 0 r nv ns) (t : TrOk w ns Ls) (hi : i < s.size) (hs : s.size ≤ 16) (hg : gt s i = 40)
    (halt : ∀ w', RSt w' s (i + 1 : Nat) 0 0 r nv ns → TrOk w' ns Ls → Calls Tryz.prog 21 #[.pointer (some ⟨r, 0, none⟩)] w' (RRP A 2 s (i + 1) r nv ns Ls w'))
    (hsh : (A.err = 0 ∧ A.pl = 0 ∧ i + 1 ≤ A.j ∧ A.j ≤ s.size) ∨ (A.err ≠ 0 ∧ A.j = s.size)) (R : PR Lang) (hR : R = if A.err ≠ 0 then A else if gt s A.j = 0 then bad s 4 s.size acc else good (A.j + 1) A.v) :
    Calls Tryz.prog 50 #[.pointer (some ⟨r, 0, none⟩)] w (RRP R 0 s i r nv ns Ls w) := by
  have HR := hide hR
  clear hR
  have HS := hide h
  have HT := hide t
  have H := hide h.rd
  have hr := lt_of_block h.rd
  have hw1 := wrap1 i (by omega)
  have HAL := hide halt
  have SH := hide hsh
  obtain ⟨c0, c1, c2, c3, c4, c5, f0, f1, f2, f3, f4, f5⟩ := six h.rd
  clear h t halt hsh
  go_enter Tryz.func50, Tryz.ntmps50
  go_wp2_with fail
  refine (rnext_any s i r 0 0 nv _ (by exact H.out)).mono ?_
  rw [hg]
  rintro _ w1 ⟨rfl, n1, rfl⟩
  have SAH : Hid (RSt ((w.drewN n1).setCell ⟨r, 1, none⟩ (.int .i64 (i + 1 : Nat))) s (i + 1 : Nat) 0 0 r nv ns) := RSt.seti (HS.out.kp ((Kp.refl [] w).drewN n1) (by simp)) _
  have KAH : Hid (Kp [r] w ((w.drewN n1).setCell ⟨r, 1, none⟩ (.int .i64 (i + 1 : Nat)))) := ((Kp.refl _ _).drewN n1).set (.inl (by simp)) _ _
  have TAH : Hid (TrOk ((w.drewN n1).setCell ⟨r, 1, none⟩ (.int .i64 (i + 1 : Nat))) ns Ls) := HT.out.keep KAH.out HS.out.farR
  clear hg
  go_wp2_with fail
  refine (HAL.out _ (by exact SAH.out) (by exact TAH.out)).mono ?_
  rintro _ w2 ⟨k, iv, nv2, ns2, rfl, s2, k2, fr2, len2, ok2⟩
  have K2 : Hid (Kp (rfoot r nv) w w2) := KAH.out.ofR.trans (by exact k2) (fun y hy => .inl hy)
  have FR2 : Hid (∀ g ∈ rfoot r nv2, g ∈ rfoot r nv ∨ w.heap.size ≤ g) := fun g hg => by
    rcases fr2 g hg with e | e
    · exact .inl e
    · right; rw [size_set, World.heap_drewN] at e; exact e
  have S2 := hide s2
  have OK2 := hide ok2
  have LEN2 := hide len2
  obtain ⟨d0, d1, d2, d3, d4, d5, e0, e1, e2, e3, e4, e5⟩ := six s2.rd
  clear s2 k2 fr2 ok2 len2 SAH KAH TAH c0 c1 c2 c3 c4 c5 f0 f1 f2 f3 f4 f5
  rcases SH.out with ⟨a1, a2, a3, a4⟩ | ⟨a1, a2⟩
  · obtain ⟨hiv, Lm, more, hmo, hfr, tr, hk, hv⟩ := OK2.out a1
    rw [size_set, World.heap_drewN] at hfr
    have HMO := hide hmo
    have HFR := hide hfr
    have S2' := S2.out
    rw [a1, a2, hiv] at S2'
    rw [a1] at d2
    rw [hiv] at d1
    have S3 := hide S2'
    have TR := hide tr
    have HK := hide hk
    have HV := hide hv
    have hwj := wrap1 A.j (by omega)
    clear S2' tr hk hv hiv hmo hfr
    go_wp2_with fail
    refine (rnext_any s A.j r 0 0 nv2 _ (by exact S3.out.rd)).mono ?_
    rintro _ w3 ⟨rfl, n3, rfl⟩
    by_cases g0 : gt s A.j = 0
    · rw [g0]
      have HRK : Hid (R = bad s 4 s.size acc) := by show _ = _; rw [HR.out, if_neg (by simp [a1]), if_pos g0]
      clear g0
      go_wp2_with fail
      refine (rfail_first s A.j r 0 0 4 s.size nv2 _ (by exact S3.out.rd)).mono ?_
      rintro _ w4 ⟨rfl, h4, k4⟩
      have S4 := hide (S3.out.kr (w' := w4) (by exact k4.ofDrewN) h4)
      have K4 : Hid (Kp (rfoot r nv) w w4) := K2.out.trans k4.ofDrewN (by intro y hy; simp at hy; subst hy; exact .inl (rfoot_self _ _))
      obtain ⟨d0, d1, d2, d3, d4, d5, e0, e1, e2, e3, e4, e5⟩ := six h4
      clear h4 k4
      go_wp2
      go_ret
      rw [HRK.out]
      exact ⟨k, _, nv2, ns2, rfl, S4.out.seti _, K4.out.set (.inl (rfoot_self _ _)) _ _, FR2.out, by have := LEN2.out; simp only [bad]; omega, fun e => absurd e (by simp [bad])⟩
    · have HRK : Hid (R = good (A.j + 1) A.v) := by show _ = _; rw [HR.out, if_neg (by simp [a1]), if_neg g0]
      have q0 : ((gt s A.j : Int) == 0) = false := by simp; omega
      clear g0
      go_wp2
      go_ret
      rw [HRK.out]
      exact ⟨k, _, nv2, ns2, rfl, RSt.seti (S3.out.kp ((Kp.refl [] w2).drewN n3) (by simp)) (A.j + 1 : Nat), (K2.out.drewN n3).set (.inl (rfoot_self _ _)) _ _, FR2.out, by have := LEN2.out; simp only [good]; omega, fun _ => ⟨rfl, Lm, more, HMO.out, HFR.out, TrOk.seti (TR.out.keep ((Kp.refl [] w2).drewN n3) (Far.nil _)) (S3.out.kp ((Kp.refl [] w2).drewN n3) (by simp)) _, HK.out, HV.out⟩⟩
  · have HRK : Hid (R = A) := by show _ = _; rw [HR.out, if_pos a1]
    have q0 : (A.err == 0) = false := by simp [a1]
    have HE := hide a1
    clear a1
    go_wp2
    go_ret
    rw [HRK.out]
    exact ⟨k, _, nv2, ns2, rfl, S2.out.seti _, K2.out.set (.inl (rfoot_self _ _)) _ _, FR2.out, by have := LEN2.out; omega, fun e => absurd e HE.out⟩
end Go.Proofs.YtbjdkbcfpmeneaaGreat
