/- What is proved here: what the reader's method atom does at an opening bracket, if alt does what it should. -/
import Derived.Test.YtbjdkbcfpmeneaaGreatRows
import Derived.Test.YtbjdkbcfpmeneaaGreatAlt
namespace Go.Proofs.YtbjdkbcfpmeneaaGreat
set_option linter.unusedVariables false
set_option linter.unusedSimpArgs false
open Go.RowKit

set_option maxRecDepth 100000 in
set_option maxHeartbeats 2000000 in
theorem atom_paren (s : ByteArray) (i p r : Nat) (bs fs : List Nat) (vb vf : Value) (w : World) (acc : Lang) (B R : PR Lang) (h : St w s i 0 0 p r bs fs vb vf) (hi : i < s.size) (hs : s.size ≤ 16) (hz : Nz s) (hc : gt s i = 40)
    (halt : ∀ w', St w' s (i + 1) 0 0 p r bs fs vb vf → Calls Tryz.prog 47 #[.pointer (some ⟨r, 0, none⟩)] w' (RPost B s (i + 1) p r bs fs vb vf w'))
    (hB : (B.err = 0 ∧ B.pl = 0 ∧ i + 1 ≤ B.j ∧ B.j ≤ s.size ∧ (gt s B.j = 0 ∨ gt s B.j = 41)) ∨ (B.err ≠ 0 ∧ B.j = s.size))
    (hR : R = if B.err ≠ 0 then B else if gt s B.j = 0 then bad s 4 s.size acc else good (B.j + 1) B.v) :
    Calls Tryz.prog 114 #[.pointer (some ⟨r, 0, none⟩)] w (RPost R s i p r bs fs vb vf w) := by
  have q1 : ((gt s i : Int) == 40) = true := by simp; omega
  have HS := hide h
  have HAL := hide halt
  have HB := hide hB
  have HR := hide hR
  have HZ := hide hz
  have hr := lt_of_block h.rd
  have hrne : r ≠ w.heap.size := by omega
  have rd0 : (w.alloc zeroPart).heap[r]? = some (rdO s i 0 0 p) := by rw [blk_alloc, if_neg hrne]; exact h.rd
  have c1 : w.cell? ⟨r, 1, none⟩ = some (.int .i64 i) := by rw [cell_of_block h.rd]; rfl
  have RD0 := hide rd0
  have Z0 : Hid ((w.alloc zeroPart).heap[w.heap.size]? = some zeroPart) := by show _ = _; rw [blk_alloc, if_pos rfl]
  have nf : ∀ k, w.heap.size ≤ k → k ∉ foot p vb vf := fun k hk hm => by have := HS.out.ps.lt k hm; omega
  have NF := hide nf
  clear h rd0 nf hc halt hB hR hz
  go_enter Tryz.func114, Tryz.ntmps114
  go_wp2_with fail
  refine (next_yes s i p r 0 0 _ (by exact RD0.out) hi hs).mono ?_
  rintro _ w1 ⟨rfl, rd1, k1⟩
  have Z1 := hide (k1.keep Z0.out (by simp; omega))
  have S1 : Hid (St w1 s (i + 1) 0 0 p r bs fs vb vf) := ⟨rd1, HS.out.ps.kp (((Kp.refl [r] w).alloc _).trans k1 (by simp)) (by intro k hk; simp at hk; subst hk; exact HS.out.ap), HS.out.ap⟩
  have K1 := hide (((Kp.refl (r :: foot p vb vf) w).alloc zeroPart).trans k1 (by simp))
  clear rd1 k1
  go_wp2_with fail
  refine Calls.mono (HAL.out _ (by exact S1.out)) ?_
  rintro _ w2 ⟨e, f, l, bs2, fs2, vb2, vf2, rfl, st2, k2, fr2, hl2, hp2⟩
  have hZn : w.heap.size ∉ r :: foot p vb vf := by
    intro hm; simp at hm; rcases hm with e | e
    · omega
    · exact NF.out _ (Nat.le_refl _) e
  have l1 := lt_of_block Z1.out
  have z2 := k2.keep Z1.out hZn
  have lz2 := lt_of_block z2
  have lr2 := lt_of_block st2.rd
  have Z2 := hide z2
  have ST2 := hide st2
  have K2 := hide (K1.out.trans k2 (fun y hy => .inl hy))
  have FR2 : Hid (∀ g ∈ foot p vb2 vf2, g ∈ foot p vb vf ∨ w.heap.size ≤ g) := fun g hg => by rcases fr2 g hg with e | e; exact .inl e; right; omega
  have FZ2 : Hid (w.heap.size ∉ foot p vb2 vf2) := fun hm => by rcases fr2 _ hm with e | e; exact NF.out _ (Nat.le_refl _) e; omega
  have HL2 := hide hl2
  have HP2 := hide hp2
  have RA : Hid ((w2.alloc (partO e f l)).heap[r]? = some (rdO s B.j B.err B.pl p)) := by show _ = _; rw [blk_alloc, if_neg (Nat.ne_of_lt lr2)]; exact ST2.out.rd
  have ZA : Hid ((w2.alloc (partO e f l)).heap[w.heap.size]? = some zeroPart) := by show _ = _; rw [blk_alloc, if_neg (Nat.ne_of_lt lz2)]; exact Z2.out
  have TA : Hid ((w2.alloc (partO e f l)).heap[w2.heap.size]? = some (partO e f l)) := by show _ = _; rw [blk_alloc, if_pos rfl]
  have hrZ : r ∉ [w.heap.size] := by simp; omega
  clear st2 k2 fr2 hl2 hp2 z2
  go_wp2_with fail
  rcases HB.out with ⟨b1, b2, b3, b4, b5⟩ | ⟨b1, b2⟩
  · rcases b5 with g | g
    · have hjs : B.j = s.size := by have := (HZ.out B.j).1 g; omega
      have HRX : Hid (R = bad s 4 s.size acc) := by show R = _; rw [HR.out, if_neg (by simp [b1]), if_pos g]
      have HJS := hide hjs
      have HB1 := hide b1
      have HB2 := hide b2
      clear b1 b2 g hjs
      refine (shut_end s p r 0 41 _ (by rw [← HJS.out]; have := RA.out; rw [HB1.out, HB2.out] at this; exact this)).mono ?_
      rintro _ w3 ⟨rfl, rd3, k3⟩
      have R3 := hide rd3
      have T3 := hide (k3.keep TA.out (by simp; omega))
      have Z3 := hide (k3.keep ZA.out (by simp; omega))
      have K3 := hide ((K2.out.alloc (partO e f l)).trans k3 (by simp))
      have P3 := hide ((ST2.out.ps.kp ((Kp.refl [] w2).alloc (partO e f l)) (by simp)).kp k3 (by intro k hk; simp at hk; subst hk; exact ST2.out.ap))
      clear rd3 k3
      go_upto_region 8 with fail
      apply wp_region_lit
      refine load9 rfl _ rfl (b := w2.heap.size) (by exact T3.out) rfl ?_
      refine store9 rfl _ _ rfl (b := w.heap.size) (by exact Z3.out) rfl rfl (by simp [Value.oneCell']) ?_
      intro w9 z9 k9 s9
      go_wp2
      refine bodyPost_ret (v := partV e f l) (res_part (b := w.heap.size) Tryz.results114 rfl z9) rfl ?_
      refine ⟨e, f, l, bs2, fs2, vb2, vf2, rfl, ⟨k9.keep (by rw [HRX.out]; exact R3.out) hrZ, P3.out.kp k9 (by intro k hk; simp at hk; subst hk; exact FZ2.out), ST2.out.ap⟩, K3.out.trans k9 (by simp), FR2.out, ?_, fun hh => absurd hh (by rw [HRX.out]; simp [bad])⟩
      rw [HRX.out]; have := HL2.out; simp [bad]; omega
    · have hlt : B.j < s.size := by have := (HZ.out B.j).2; omega
      have HRX : Hid (R = good (B.j + 1) B.v) := by show R = _; rw [HR.out, if_neg (by simp [b1]), if_neg (by omega)]
      have hgi : (gt s B.j : Int) = 41 := by omega
      have HGI := hide hgi
      have HB1 := hide b1
      have HB2 := hide b2
      clear b1 b2 g hgi
      refine (shut_yes s B.j p r 0 0 41 _ (by have := RA.out; rw [HB1.out, HB2.out] at this; exact this) hlt hs HGI.out).mono ?_
      rintro _ w3 ⟨rfl, rd3, k3⟩
      have R3 := hide rd3
      have T3 := hide (k3.keep TA.out (by simp; omega))
      have Z3 := hide (k3.keep ZA.out (by simp; omega))
      have K3 := hide ((K2.out.alloc (partO e f l)).trans k3 (by simp))
      have P3 := hide ((ST2.out.ps.kp ((Kp.refl [] w2).alloc (partO e f l)) (by simp)).kp k3 (by intro k hk; simp at hk; subst hk; exact ST2.out.ap))
      clear rd3 k3
      go_upto_region 8 with fail
      apply wp_region_lit
      refine load9 rfl _ rfl (b := w2.heap.size) (by exact T3.out) rfl ?_
      refine store9 rfl _ _ rfl (b := w.heap.size) (by exact Z3.out) rfl rfl (by simp [Value.oneCell']) ?_
      intro w9 z9 k9 s9
      go_wp2
      refine bodyPost_ret (v := partV e f l) (res_part (b := w.heap.size) Tryz.results114 rfl z9) rfl ?_
      refine ⟨e, f, l, bs2, fs2, vb2, vf2, rfl, ⟨k9.keep (by rw [HRX.out]; exact R3.out) hrZ, P3.out.kp k9 (by intro k hk; simp at hk; subst hk; exact FZ2.out), ST2.out.ap⟩, K3.out.trans k9 (by simp), FR2.out, ?_, fun _ => by rw [HRX.out]; exact HP2.out HB1.out⟩
      rw [HRX.out]; have := HL2.out; simp [good]; omega
  · have HRX : Hid (R = B) := by show R = _; rw [HR.out, if_pos b1]
    have HB1 := hide b1
    have HB2 := hide b2
    clear b1 b2
    refine (shut_bad s p r B.err B.pl 41 _ (by rw [← HB2.out]; exact RA.out) HB1.out).mono ?_
    rintro _ w3 ⟨rfl, rd3, k3⟩
    have R3 := hide rd3
    have T3 := hide (k3.keep TA.out (by simp; omega))
    have Z3 := hide (k3.keep ZA.out (by simp; omega))
    have K3 := hide ((K2.out.alloc (partO e f l)).trans k3 (by simp))
    have P3 := hide ((ST2.out.ps.kp ((Kp.refl [] w2).alloc (partO e f l)) (by simp)).kp k3 (by intro k hk; simp at hk; subst hk; exact ST2.out.ap))
    clear rd3 k3
    go_upto_region 8 with fail
    apply wp_region_lit
    refine load9 rfl _ rfl (b := w2.heap.size) (by exact T3.out) rfl ?_
    refine store9 rfl _ _ rfl (b := w.heap.size) (by exact Z3.out) rfl rfl (by simp [Value.oneCell']) ?_
    intro w9 z9 k9 s9
    go_wp2
    refine bodyPost_ret (v := partV e f l) (res_part (b := w.heap.size) Tryz.results114 rfl z9) rfl ?_
    refine ⟨e, f, l, bs2, fs2, vb2, vf2, rfl, ⟨k9.keep (by rw [HRX.out, HB2.out]; exact R3.out) hrZ, P3.out.kp k9 (by intro k hk; simp at hk; subst hk; exact FZ2.out), ST2.out.ap⟩, K3.out.trans k9 (by simp), FR2.out, ?_, fun hh => absurd (by rw [HRX.out] at hh; exact hh) HB1.out⟩
    rw [HRX.out]; have := HL2.out; omega
end Go.Proofs.YtbjdkbcfpmeneaaGreat
