/- What is proved here: what the reader's method atom does at a dot. -/
import Derived.Test.YtbjdkbcfpmeneaaGreatRows
import Derived.Test.YtbjdkbcfpmeneaaGreatAtom1
namespace Go.Proofs.YtbjdkbcfpmeneaaGreat
set_option linter.unusedVariables false
set_option linter.unusedSimpArgs false
open Go.RowKit

set_option maxRecDepth 100000 in
set_option maxHeartbeats 800000 in
theorem atom_dot (s : ByteArray) (i p r : Nat) (bs fs : List Nat) (vb vf : Value) (w : World) (h : St w s i 0 0 p r bs fs vb vf) (hi : i < s.size) (hs : s.size ≤ 16) (hn : bs.length < 200)
    (hc : gt s i = 46) :
    Calls Tryz.prog 114 #[.pointer (some ⟨r, 0, none⟩)] w (RPost (good (i + 1) (lSet (comp (1 <<< 10)))) s i p r bs fs vb vf w) := by
  have q1 : ((gt s i : Int) == 40) = false := by simp; omega
  have q2 : ((gt s i : Int) == 91) = false := by simp; omega
  have q3 : ((gt s i : Int) == 46) = true := by simp; omega
  have HS := hide h
  have hr := lt_of_block h.rd
  have hrne : r ≠ w.heap.size := by omega
  have rd0 : (w.alloc zeroPart).heap[r]? = some (rdO s i 0 0 p) := by rw [blk_alloc, if_neg hrne]; exact h.rd
  have c1 : w.cell? ⟨r, 1, none⟩ = some (.int .i64 i) := by rw [cell_of_block h.rd]; rfl
  have RD0 := hide rd0
  have Z0 : Hid ((w.alloc zeroPart).heap[w.heap.size]? = some zeroPart) := by show _ = _; rw [blk_alloc, if_pos rfl]
  have nf : ∀ k, w.heap.size ≤ k → k ∉ foot p vb vf := fun k hk hm => by have := HS.out.ps.lt k hm; omega
  have NF := hide nf
  clear h rd0 nf hc
  go_enter Tryz.func114, Tryz.ntmps114
  go_wp2_with fail
  refine (next_yes s i p r 0 0 _ (by exact RD0.out) hi hs).mono ?_
  rintro _ w1 ⟨rfl, rd1, k1⟩
  have RD1 := hide rd1
  have c2 : w1.cell? ⟨r, 2, none⟩ = some (.pointer (some ⟨p, 0, none⟩)) := by rw [cell_of_block rd1]; rfl
  have Z1 := hide (k1.keep Z0.out (by simp; omega))
  have P1 : Hid (PosAt w1 p bs fs vb vf) := HS.out.ps.kp (((Kp.refl [r] w).alloc _).trans k1 (by simp)) (by intro k hk; simp at hk; subst hk; exact HS.out.ap)
  have K1 := hide (((Kp.refl (r :: foot p vb vf) w).alloc zeroPart).trans k1 (by simp))
  have lr1 := lt_of_block rd1
  clear rd1 k1
  go_upto_region 12 with fail
  have hc2 : ∀ w' : World, w'.heap[r]? = some (rdO s (i + 1) 0 0 p) → w'.cell? ⟨r, 2, none⟩ = some (.pointer (some ⟨p, 0, none⟩)) := fun w' h' => by rw [cell_of_block h']; rfl
  have R1d : w1.drew.heap[r]? = some (rdO s (i + 1) 0 0 p) := RD1.out
  have Z1d : Hid (w1.drew.heap[w.heap.size]? = some zeroPart) := Z1.out
  have P1d : Hid (PosAt w1.drew p bs fs vb vf) := P1.out.kp ((Kp.refl [] w1).drew) (by simp)
  have K1d := hide K1.out.drew
  clear c2
  go_region_held3 (fun w' : World => w'.heap[r]? = some (rdO s (i + 1) 0 0 p))
    (first | with_reducible exact R3 | with_reducible exact R2b | with_reducible exact R2 | with_reducible exact R1d | (simp only [blk_set, if_neg hrne]; with_reducible exact R3))
    (first | (go_at_call 53; refine (one_any 10 _ (by decide)).mono ?_; rintro _ w2 ⟨rfl, b2⟩; have R2 := bkeep b2 R1d; have Z2 := hide (bkeep b2 Z1d.out); have P2 := hide (P1d.out.kp ((Kp.refl [] _).below b2) (by simp)); have K2 := hide (K1d.out.below b2); clear b2) | (go_at_call 121; refine (others_any (1 <<< 10) _).mono ?_; rintro _ w2b ⟨rfl, b3⟩; have R2b := bkeep b3 R2; have Z2b := hide (bkeep b3 Z2.out); have P2b := hide (P2.out.kp ((Kp.refl [] _).below b3) (by simp)); have K2b := hide (K2.out.below b3); clear b3) | (go_at_call 119; refine (add_code p (comp (1 <<< 10)) bs fs vb vf _ (by exact P2b.out) hn).mono ?_; rintro _ w3 ⟨rfl, vb', vf', P3, k3, fr3⟩; have R3 := k3.keep R2b HS.out.ap; have z3 := k3.keep Z2b.out (NF.out _ (Nat.le_refl _)); obtain ⟨⟨zc0, zc1, zc2, zc3, zc4, zc5, zc6, zc7, zc8⟩, zf0, zf1, zf2, zf3, zf4, zf5, zf6, zf7, zf8⟩ := nine z3; have Z3 := hide z3; have P3H := hide P3; have K3 := hide (K2b.out.trans k3 (fun y hy => .inl (by simp [hy]))); have FR := hide fr3; have l2 := lt_of_block Z2b.out; have l3 := lt_of_block z3; have FR1 : Hid (∀ g ∈ foot p vb' vf', g ∈ foot p vb vf ∨ w.heap.size ≤ g) := (fun g hg => by rcases fr3 g hg with e | e; exact .inl e; right; omega); clear z3 P3 fr3))
  go_wp2
  refine bodyPost_ret (v := partV false (1 <<< bs.length) (1 <<< bs.length)) (res_part (b := w.heap.size) Tryz.results114 rfl (by simp only [blk_set, Z3.out]; simp [setObj_cells])) rfl ?_
  refine ⟨false, 1 <<< bs.length, 1 <<< bs.length, bs ++ [comp (1 <<< 10)], fs ++ [0], vb', vf', rfl, ⟨?_, ?_, ?_⟩, ?_, FR1.out, ?_, fun _ => ⟨?_, ?_, ?_, ?_⟩⟩
  · simp only [blk_set, if_neg hrne]; exact R3
  · exact P3H.out.kp ((Kp.refl [w.heap.size] w3).set9 (by simp) _ _ _ _ _ _ _ _ _) (by intro k hk; simp at hk; subst hk; exact fun hm => by rcases FR.out _ hm with e | e; exact NF.out _ (Nat.le_refl _) e; omega)
  · intro hm; rcases FR1.out _ hm with e | e
    · exact HS.out.ap e
    · omega
  · exact K3.out.set9 (.inr (Nat.le_refl _)) _ _ _ _ _ _ _ _ _
  · simp [good]
  · simp
  · simp
  · rw [← HS.out.ps.len]; simp
  · exact one_part bs fs (comp (1 <<< 10)) HS.out.ps.len

/- What is proved here: what the reader's method atom does at a sign that cannot stand there. -/

set_option maxRecDepth 100000 in
set_option maxHeartbeats 800000 in
theorem atom_bad (s : ByteArray) (i p r : Nat) (bs fs : List Nat) (vb vf : Value) (w : World) (h : St w s i 0 0 p r bs fs vb vf) (hi : i < s.size) (hs : s.size ≤ 16) 
    (acc : Lang) (hc : gt s i = 42 ∨ gt s i = 43 ∨ gt s i = 63 ∨ gt s i = 93) :
    Calls Tryz.prog 114 #[.pointer (some ⟨r, 0, none⟩)] w (RPost (bad s 5 i acc) s i p r bs fs vb vf w) := by
  have HS := hide h
  have hr := lt_of_block h.rd
  have hrne : r ≠ w.heap.size := by omega
  have rd0 : (w.alloc zeroPart).heap[r]? = some (rdO s i 0 0 p) := by rw [blk_alloc, if_neg hrne]; exact h.rd
  have c1 : w.cell? ⟨r, 1, none⟩ = some (.int .i64 i) := by rw [cell_of_block h.rd]; rfl
  have RD0 := hide rd0
  have Z0 : Hid ((w.alloc zeroPart).heap[w.heap.size]? = some zeroPart) := by show _ = _; rw [blk_alloc, if_pos rfl]
  have nf : ∀ k, w.heap.size ≤ k → k ∉ foot p vb vf := fun k hk hm => by have := HS.out.ps.lt k hm; omega
  have NF := hide nf
  clear h rd0 nf
  go_enter Tryz.func114, Tryz.ntmps114
  go_wp2_with fail
  refine (next_yes s i p r 0 0 _ (by exact RD0.out) hi hs).mono ?_
  rintro _ w1 ⟨rfl, rd1, k1⟩
  have RD1 := hide rd1
  have Z1 := hide (k1.keep Z0.out (by simp; omega))
  have P1 : Hid (PosAt w1 p bs fs vb vf) := HS.out.ps.kp (((Kp.refl [r] w).alloc _).trans k1 (by simp)) (by intro k hk; simp at hk; subst hk; exact HS.out.ap)
  have K1 := hide (((Kp.refl (r :: foot p vb vf) w).alloc zeroPart).trans k1 (by simp))
  clear rd1 k1
  generalize gt s i = c at *
  rcases hc with rfl | rfl | rfl | rfl
  all_goals
    go_wp2_with fail
    refine (fail_first s (i + 1) p r 0 5 i _ (by exact RD1.out)).mono ?_
    rintro _ w2 ⟨rfl, rd2, k2⟩
    have R2 := hide rd2
    have Z2 := hide (k2.keep Z1.out (by simp; omega))
    have P2 := hide (P1.out.kp k2 (by intro k hk; simp at hk; subst hk; exact HS.out.ap))
    have K2 := hide (K1.out.trans k2 (by simp))
    clear rd2 k2
    go_wp2_with fail
    refine (nothing_any _).mono ?_
    rintro _ w3 ⟨rfl, b3⟩
    have R3 := bkeep b3 R2.out
    have z3 := bkeep b3 Z2.out
    have P3 := P2.out.kp ((Kp.refl [] _).below b3) (by simp)
    have K3 := hide (K2.out.below b3)
    obtain ⟨⟨zc0, zc1, zc2, zc3, zc4, zc5, zc6, zc7, zc8⟩, zf0, zf1, zf2, zf3, zf4, zf5, zf6, zf7, zf8⟩ := nine z3
    have Z3 := hide z3
    have R3H := hide R3
    have P3H := hide P3
    clear b3 z3 R3 P3
    go_wp2
    refine bodyPost_ret (v := partV true 0 0) (res_part (b := w.heap.size) Tryz.results114 rfl (by simp only [blk_set, Z3.out]; simp [setObj_cells])) rfl ?_
    refine ⟨true, 0, 0, bs, fs, vb, vf, rfl, ⟨?_, ?_, HS.out.ap⟩, ?_, fun g hg => .inl hg, by simp [bad], fun hh => absurd hh (by simp [bad])⟩
    · simp only [blk_set, if_neg hrne]; exact R3H.out
    · exact P3H.out.kp ((Kp.refl [w.heap.size] w3).set9 (by simp) _ _ _ _ _ _ _ _ _) (by intro k hk; simp at hk; subst hk; exact NF.out _ (Nat.le_refl _))
    · exact K3.out.set9 (.inr (Nat.le_refl _)) _ _ _ _ _ _ _ _ _
end Go.Proofs.YtbjdkbcfpmeneaaGreat
