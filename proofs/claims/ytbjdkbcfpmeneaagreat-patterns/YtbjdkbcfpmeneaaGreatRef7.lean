/- What is proved here: what atom of the document's reader does, but for a bracket. -/
import Derived.Test.YtbjdkbcfpmeneaaGreatRows
import Derived.Test.YtbjdkbcfpmeneaaGreatRef4
import Derived.Test.YtbjdkbcfpmeneaaGreatRef6
namespace Go.Proofs.YtbjdkbcfpmeneaaGreat
set_option linter.unusedVariables false
set_option linter.unusedSimpArgs false
open Go.RowKit

set_option maxRecDepth 100000 in
set_option maxHeartbeats 1000000 in
theorem ratom_byte (s : ByteArray) (i r : Nat) (nv : Value) (ns : List ND) (Ls : List Lang) (w : World) (h : RSt w s i 0 0 r nv ns) (t : TrOk w ns Ls) (hi : i < s.size) (hs : s.size ≤ 16) (hn : ns.length ≤ 900) (h1 : gt s i ≠ 40) (h2 : gt s i ≠ 91) (h3 : gt s i ≠ 46) (h4 : gt s i ≠ 92) (h5 : gt s i ≠ 42) (h6 : gt s i ≠ 43) (h7 : gt s i ≠ 63) (h8 : gt s i ≠ 93) :
    Calls Tryz.prog 50 #[.pointer (some ⟨r, 0, none⟩)] w (RRP (good (i + 1) (lSet (1 <<< gt s i))) 0 s i r nv ns Ls w) := by
  have HS := hide h
  have HT := hide t
  have H := hide h.rd
  have hr := lt_of_block h.rd
  have hw1 := wrap1 i (by omega)
  have hw2 := wrap1 (i + 1) (by omega)
  have hg1 := gt_lt s i
  have hg2 := gt_lt s (i + 1)
  obtain ⟨c0, c1, c2, c3, c4, c5, f0, f1, f2, f3, f4, f5⟩ := six h.rd
  have q40 : ((gt s i : Int) == 40) = false := by simp; omega
  have q91 : ((gt s i : Int) == 91) = false := by simp; omega
  have q46 : ((gt s i : Int) == 46) = false := by simp; omega
  have q42 : ((gt s i : Int) == 42) = false := by simp; omega
  have q43 : ((gt s i : Int) == 43) = false := by simp; omega
  have q63 : ((gt s i : Int) == 63) = false := by simp; omega
  have q93 : ((gt s i : Int) == 93) = false := by simp; omega
  have q92 : ((gt s i : Int) == 92) = false := by simp; omega
  clear h t
  go_enter Tryz.func50, Tryz.ntmps50
  go_wp2_with fail
  refine (rnext_any s i r 0 0 nv _ (by exact H.out)).mono ?_
  rintro _ w1 ⟨rfl, n1, rfl⟩
  have SA : RSt ((w.drewN n1).setCell ⟨r, 1, none⟩ (.int .i64 (i + 1 : Nat))) s (i + 1 : Nat) 0 0 r nv ns := RSt.seti (HS.out.kp ((Kp.refl [] w).drewN n1) (by simp)) _
  have KA : Kp [r] w ((w.drewN n1).setCell ⟨r, 1, none⟩ (.int .i64 (i + 1 : Nat))) := ((Kp.refl _ _).drewN n1).set (.inl (by simp)) _ _
  have SAH := hide SA
  have KAH := hide KA
  clear SA KA
  go_wp2_with fail
  refine (single_any (gt s i) _ hg1).mono ?_
  rintro _ w2 ⟨rfl, b2, k2⟩
  have S2 := hide (SAH.out.kp (by exact k2) (by simp))
  have K2 : Hid (Kp [r] w w2) := KAH.out.trans (by exact k2) (by simp)
  simp only [size_set, World.heap_drewN] at b2
  have B2 := hide b2
  clear b2 k2
  go_wp2_with fail
  refine (radd_bytes s (i + 1 : Nat) 0 0 r nv ns Ls _ _ _ (by exact S2.out) (by omega) (by exact B2.out)).mono ?_
  rintro _ w3 ⟨rfl, nv', s3, k3, fr3, t3⟩
  have T3 := hide (t3 (1 <<< gt s i) rfl (HT.out.keep K2.out HS.out.farR))
  have S3 := hide s3
  have K3 : Hid (Kp (rfoot r nv) w w3) := K2.out.ofR.trans k3 (fun y hy => .inl hy)
  have F3 : Hid (∀ g ∈ rfoot r nv', g ∈ rfoot r nv ∨ w.heap.size ≤ g) := fun g hg => by rcases fr3 g hg with e | e; exact .inl e; exact .inr (by have := K2.out.size; omega)
  clear s3 k3 fr3 t3
  go_wp2
  go_ret
  exact ⟨ns.length, _, nv', _, rfl, S3.out, K3.out, F3.out, by simp [good] <;> omega, fun _ => ⟨rfl, [lSet (1 <<< gt s i)], _, rfl, Fresh.bytes _ _, T3.out, by simp, getD_last Ls _ _ HT.out.len⟩⟩

set_option maxRecDepth 100000 in
set_option maxHeartbeats 1000000 in
theorem ratom_esc (s : ByteArray) (i r : Nat) (nv : Value) (ns : List ND) (Ls : List Lang) (w : World) (h : RSt w s i 0 0 r nv ns) (t : TrOk w ns Ls) (hi : i < s.size) (hs : s.size ≤ 16) (hn : ns.length ≤ 900) (hg : gt s i = 92) (hg3 : gt s (i + 1) ≠ 0) :
    Calls Tryz.prog 50 #[.pointer (some ⟨r, 0, none⟩)] w (RRP (good (i + 2) (lSet (1 <<< gt s (i + 1)))) 0 s i r nv ns Ls w) := by
  have HS := hide h
  have HT := hide t
  have H := hide h.rd
  have hr := lt_of_block h.rd
  have hw1 := wrap1 i (by omega)
  have hw2 := wrap1 (i + 1) (by omega)
  have hg1 := gt_lt s i
  have hg2 := gt_lt s (i + 1)
  obtain ⟨c0, c1, c2, c3, c4, c5, f0, f1, f2, f3, f4, f5⟩ := six h.rd
  have q0 : ((gt s (i + 1) : Int) == 0) = false := by simp; omega
  clear h t
  go_enter Tryz.func50, Tryz.ntmps50
  go_wp2_with fail
  refine (rnext_any s i r 0 0 nv _ (by exact H.out)).mono ?_
  rw [hg]
  rintro _ w1 ⟨rfl, n1, rfl⟩
  have SA : RSt ((w.drewN n1).setCell ⟨r, 1, none⟩ (.int .i64 (i + 1 : Nat))) s (i + 1 : Nat) 0 0 r nv ns := RSt.seti (HS.out.kp ((Kp.refl [] w).drewN n1) (by simp)) _
  have KA : Kp [r] w ((w.drewN n1).setCell ⟨r, 1, none⟩ (.int .i64 (i + 1 : Nat))) := ((Kp.refl _ _).drewN n1).set (.inl (by simp)) _ _
  have SAH := hide SA
  have KAH := hide KA
  clear SA KA
  go_wp2_with fail
  refine (rnext_any s (i + 1) r 0 0 nv _ (by exact SAH.out.rd)).mono ?_
  rintro _ wb ⟨rfl, nb, rfl⟩
  have SB : RSt ((((w.drewN n1).setCell ⟨r, 1, none⟩ (.int .i64 (i + 1 : Nat))).drewN nb).setCell ⟨r, 1, none⟩ (.int .i64 (i + 1 + 1 : Nat))) s (i + 1 + 1 : Nat) 0 0 r nv ns := RSt.seti (SAH.out.kp ((Kp.refl [] _).drewN nb) (by simp)) _
  have KB : Kp [r] w ((((w.drewN n1).setCell ⟨r, 1, none⟩ (.int .i64 (i + 1 : Nat))).drewN nb).setCell ⟨r, 1, none⟩ (.int .i64 (i + 1 + 1 : Nat))) := (KAH.out.drewN nb).set (.inl (by simp)) _ _
  have SBH := hide SB
  have KBH := hide KB
  clear SB KB hg
  go_wp2_with fail
  refine (single_any (gt s (i + 1)) _ hg2).mono ?_
  rintro _ w2 ⟨rfl, b2, k2⟩
  have S2 := hide (SBH.out.kp (by exact k2) (by simp))
  have K2 : Hid (Kp [r] w w2) := KBH.out.trans (by exact k2) (by simp)
  simp only [size_set, World.heap_drewN] at b2
  have B2 := hide b2
  clear b2 k2
  go_wp2_with fail
  refine (radd_bytes s (i + 1 + 1 : Nat) 0 0 r nv ns Ls _ _ _ (by exact S2.out) (by omega) (by exact B2.out)).mono ?_
  rintro _ w3 ⟨rfl, nv', s3, k3, fr3, t3⟩
  have T3 := hide (t3 (1 <<< gt s (i + 1)) rfl (HT.out.keep K2.out HS.out.farR))
  have S3 := hide s3
  have K3 : Hid (Kp (rfoot r nv) w w3) := K2.out.ofR.trans k3 (fun y hy => .inl hy)
  have F3 : Hid (∀ g ∈ rfoot r nv', g ∈ rfoot r nv ∨ w.heap.size ≤ g) := fun g hg => by rcases fr3 g hg with e | e; exact .inl e; exact .inr (by have := K2.out.size; omega)
  clear s3 k3 fr3 t3
  go_wp2
  go_ret
  exact ⟨ns.length, _, nv', _, rfl, S3.out, K3.out, F3.out, by simp [good] <;> omega, fun _ => ⟨rfl, [lSet (1 <<< gt s (i + 1))], _, rfl, Fresh.bytes _ _, T3.out, by simp, getD_last Ls _ _ HT.out.len⟩⟩

set_option maxRecDepth 100000 in
set_option maxHeartbeats 1000000 in
theorem ratom_escEnd (s : ByteArray) (i r : Nat) (nv : Value) (ns : List ND) (Ls : List Lang) (w : World) (h : RSt w s i 0 0 r nv ns) (t : TrOk w ns Ls) (hi : i < s.size) (hs : s.size ≤ 16) (hn : ns.length ≤ 900) (hg : gt s i = 92) (hg3 : gt s (i + 1) = 0) (acc : Lang) :
    Calls Tryz.prog 50 #[.pointer (some ⟨r, 0, none⟩)] w (RRP (bad s 4 s.size acc) 0 s i r nv ns Ls w) := by
  have HS := hide h
  have HT := hide t
  have H := hide h.rd
  have hr := lt_of_block h.rd
  have hw1 := wrap1 i (by omega)
  have hw2 := wrap1 (i + 1) (by omega)
  have hg1 := gt_lt s i
  have hg2 := gt_lt s (i + 1)
  obtain ⟨c0, c1, c2, c3, c4, c5, f0, f1, f2, f3, f4, f5⟩ := six h.rd
  clear h t
  go_enter Tryz.func50, Tryz.ntmps50
  go_wp2_with fail
  refine (rnext_any s i r 0 0 nv _ (by exact H.out)).mono ?_
  rw [hg]
  rintro _ w1 ⟨rfl, n1, rfl⟩
  have SA : RSt ((w.drewN n1).setCell ⟨r, 1, none⟩ (.int .i64 (i + 1 : Nat))) s (i + 1 : Nat) 0 0 r nv ns := RSt.seti (HS.out.kp ((Kp.refl [] w).drewN n1) (by simp)) _
  have KA : Kp [r] w ((w.drewN n1).setCell ⟨r, 1, none⟩ (.int .i64 (i + 1 : Nat))) := ((Kp.refl _ _).drewN n1).set (.inl (by simp)) _ _
  have SAH := hide SA
  have KAH := hide KA
  clear SA KA
  go_wp2_with fail
  refine (rnext_any s (i + 1) r 0 0 nv _ (by exact SAH.out.rd)).mono ?_
  rw [hg3]
  rintro _ wb ⟨rfl, nb, rfl⟩
  clear hg hg3
  go_wp2_with fail
  refine (rfail_first s (i + 1 : Nat) r 0 0 4 s.size nv _ (by exact SAH.out.rd)).mono ?_
  rintro _ wc ⟨rfl, hc, kc⟩
  have SC := SAH.out.kr (w' := wc) (by exact kc.ofDrewN) hc
  have KC : Kp [r] w wc := KAH.out.trans kc.ofDrewN (by simp)
  obtain ⟨d0, d1, d2, d3, d4, d5, e0, e1, e2, e3, e4, e5⟩ := six hc
  have SBH : Hid (RSt (wc.setCell ⟨r, 1, none⟩ (.int .i64 (i + 1 + 1 : Nat))) s (i + 1 + 1 : Nat) 4 s.size r nv ns) := SC.seti _
  have KBH : Hid (Kp [r] w (wc.setCell ⟨r, 1, none⟩ (.int .i64 (i + 1 + 1 : Nat)))) := KC.set (.inl (by simp)) _ _
  clear SC KC hc kc
  go_wp2_with fail
  refine (single_any 0 _ (by decide)).mono ?_
  rintro _ w2 ⟨rfl, b2, k2⟩
  have S2 := hide (SBH.out.kp (by exact k2) (by simp))
  have K2 : Hid (Kp [r] w w2) := KBH.out.trans (by exact k2) (by simp)
  simp only [size_set, World.heap_drewN] at b2
  have B2 := hide b2
  clear b2 k2
  go_wp2_with fail
  refine (radd_bytes s (i + 1 + 1 : Nat) 4 s.size r nv ns Ls _ _ _ (by exact S2.out) (by omega) (by exact B2.out)).mono ?_
  rintro _ w3 ⟨rfl, nv', s3, k3, fr3, t3⟩
  have S3 := hide s3
  have K3 : Hid (Kp (rfoot r nv) w w3) := K2.out.ofR.trans k3 (fun y hy => .inl hy)
  have F3 : Hid (∀ g ∈ rfoot r nv', g ∈ rfoot r nv ∨ w.heap.size ≤ g) := fun g hg => by rcases fr3 g hg with e | e; exact .inl e; exact .inr (by have := K2.out.size; omega)
  clear s3 k3 fr3 t3
  go_wp2
  go_ret
  exact ⟨ns.length, _, nv', _, rfl, S3.out, K3.out, F3.out, by simp [bad] <;> omega, fun e => absurd e (by simp [bad])⟩

set_option maxRecDepth 100000 in
set_option maxHeartbeats 1000000 in
theorem ratom_bad (s : ByteArray) (i r : Nat) (nv : Value) (ns : List ND) (Ls : List Lang) (w : World) (h : RSt w s i 0 0 r nv ns) (t : TrOk w ns Ls) (hi : i < s.size) (hs : s.size ≤ 16) (hn : ns.length ≤ 900) (hg : gt s i = 42 ∨ gt s i = 43 ∨ gt s i = 63 ∨ gt s i = 93) (acc : Lang) :
    Calls Tryz.prog 50 #[.pointer (some ⟨r, 0, none⟩)] w (RRP (bad s 5 i acc) 0 s i r nv ns Ls w) := by
  have HS := hide h
  have HT := hide t
  have H := hide h.rd
  have hr := lt_of_block h.rd
  have hw1 := wrap1 i (by omega)
  have hw2 := wrap1 (i + 1) (by omega)
  have hg1 := gt_lt s i
  have hg2 := gt_lt s (i + 1)
  obtain ⟨c0, c1, c2, c3, c4, c5, f0, f1, f2, f3, f4, f5⟩ := six h.rd
  clear h t
  go_enter Tryz.func50, Tryz.ntmps50
  go_wp2_with fail
  refine (rnext_any s i r 0 0 nv _ (by exact H.out)).mono ?_
  rintro _ w1 ⟨rfl, n1, rfl⟩
  rcases hg with hg | hg | hg | hg
  all_goals
    rw [hg]
    clear hg hg1
    go_wp2_with fail
    refine (rfail_first s i r 0 0 5 i nv _ (by exact H.out)).mono ?_
    rintro _ wc ⟨rfl, hc, kc⟩
    have SC := hide (HS.out.kr (w' := wc) (by exact kc.ofDrewN) hc)
    have K2 : Hid (Kp [r] w wc) := kc.ofDrewN
    clear hc kc
    go_wp2_with fail
    refine (radd_code s i 5 i r nv ns ⟨99, .slice none 0 0, .slice none 0 0⟩ _ (by exact SC.out) (by omega) rfl rfl).mono ?_
    rintro _ w3 ⟨rfl, nv', s3, k3, fr3⟩
    have S3 := hide s3
    have K3 : Hid (Kp (rfoot r nv) w w3) := K2.out.ofR.trans k3 (fun y hy => .inl hy)
    have F3 : Hid (∀ g ∈ rfoot r nv', g ∈ rfoot r nv ∨ w.heap.size ≤ g) := fun g hg => by rcases fr3 g hg with e | e; exact .inl e; exact .inr (by have := K2.out.size; omega)
    clear s3 k3 fr3
    go_wp2
    go_ret
    exact ⟨ns.length, _, nv', _, rfl, S3.out, K3.out, F3.out, by simp [bad] <;> omega, fun e => absurd e (by simp [bad])⟩
end Go.Proofs.YtbjdkbcfpmeneaaGreat
