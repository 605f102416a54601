/- What is proved here: what the reader's method atom does behind a backslash. -/
import Derived.Test.YtbjdkbcfpmeneaaRows
import Derived.Test.YtbjdkbcfpmeneaaM30
import Derived.Test.YtbjdkbcfpmeneaaM33
import Derived.Test.YtbjdkbcfpmeneaaM31
namespace Go.Proofs.Ytbjdkbcfpmeneaa
set_option linter.unusedVariables false
set_option linter.unusedSimpArgs false
open Go.RowKit

set_option maxRecDepth 100000 in
set_option maxHeartbeats 800000 in
theorem atom_esc (s : ByteArray) (i p r : Nat) (bs fs : List Nat) (vb vf : Value) (w : World) (h : St w s i 0 0 p r bs fs vb vf) (hi : i < s.size) (hs : s.size ≤ 16) (hn : bs.length < 200)
    (hc : gt s i = 92) (hi1 : i + 1 < s.size) :
    Calls Try.prog 87 #[.pointer (some ⟨r, 0, none⟩)] w (RPost (good (i + 2) (lSet (1 <<< gt s (i + 1)))) s i p r bs fs vb vf w) := by
  have q1 : ((gt s i : Int) == 40) = false := by simp; omega
  have q2 : ((gt s i : Int) == 91) = false := by simp; omega
  have q3 : ((gt s i : Int) == 46) = false := by simp; omega
  have q4 : ((gt s i : Int) == 92) = true := by simp; omega
  have HS := hide h
  have hr := lt_of_block h.rd
  have hrne : r ≠ w.heap.size := by omega
  have rd0 : (w.alloc zeroPart).heap[r]? = some (rdO s i 0 0 p) := by rw [blk_alloc, if_neg hrne]; exact h.rd
  have c1 : w.cell? ⟨r, 1, none⟩ = some (.int .i64 i) := by rw [cell_of_block h.rd]; rfl
  have RD0 := hide rd0
  have Z0 : Hid ((w.alloc zeroPart).heap[w.heap.size]? = some zeroPart) := by show _ = _; rw [blk_alloc, if_pos rfl]
  have nf : ∀ k, w.heap.size ≤ k → k ∉ foot p vb vf := fun k hk hm => by have := HS.out.ps.lt k hm; omega
  have NF := hide nf
  clear h rd0 nf hc
  go_enter Try.func87, Try.ntmps87
  go_wp2_with fail
  refine (next_yes s i p r 0 0 _ (by exact RD0.out) hi hs).mono ?_
  rintro _ w1 ⟨rfl, rd1, k1⟩
  have RD1 := hide rd1
  have c2 : w1.cell? ⟨r, 2, none⟩ = some (.pointer (some ⟨p, 0, none⟩)) := by rw [cell_of_block rd1]; rfl
  have Z1 := hide (k1.keep Z0.out (by simp; omega))
  have P1 : Hid (PosAt w1 p bs fs vb vf) := HS.out.ps.kp (((Kp.refl [r] w).alloc _).trans k1 (by simp)) (by intro k hk; simp at hk; subst hk; exact HS.out.ap)
  have K1 := hide (((Kp.refl (r :: foot p vb vf) w).alloc zeroPart).trans k1 (by simp))
  have lr1 := lt_of_block rd1
  clear rd1 k1
  go_upto_region 14 with fail
  have R1d : w1.drew.heap[r]? = some (rdO s (i + 1) 0 0 p) := RD1.out
  have C1d : w1.drew.cell? ⟨r, 2, none⟩ = some (.pointer (some ⟨p, 0, none⟩)) := by rw [cell_of_block R1d]; rfl
  have Z1d : Hid (w1.drew.heap[w.heap.size]? = some zeroPart) := Z1.out
  have P1d : Hid (PosAt w1.drew p bs fs vb vf) := P1.out.kp ((Kp.refl [] w1).drew) (by simp)
  have K1d := hide K1.out.drew
  have R1H := hide R1d
  have hZr : w.heap.size ∉ [r] := by simp; omega
  clear c2 R1d
  go_region_held3 (fun w' : World => w'.cell? ⟨r, 2, none⟩ = some (.pointer (some ⟨p, 0, none⟩)))
    (first | with_reducible exact C4 | with_reducible exact C3 | with_reducible exact C2 | with_reducible exact C1d | (rw [cell_of_block (R5 _ _ _ _ _ _ _ _ _)]; rfl))
    (first | (go_at_call 89; refine (next_yes s (i + 1) p r 0 0 _ (by exact R1H.out) hi1 hs).mono ?_; rintro _ w2 ⟨rfl, rd2, k2⟩; have C2 : w2.cell? ⟨r, 2, none⟩ = some (.pointer (some ⟨p, 0, none⟩)) := (by rw [cell_of_block rd2]; rfl); have R2 := hide rd2; have Z2 := hide (k2.keep Z1d.out hZr); have P2 := hide (P1d.out.kp k2 (by intro k hk; simp at hk; subst hk; exact HS.out.ap)); have K2 := hide (K1d.out.trans k2 (by simp)); clear rd2 k2) | (go_at_call 73; refine (one_any (gt s (i + 1)) _ (gt_lt s (i + 1))).mono ?_; rintro _ w3 ⟨rfl, b3⟩; have r3 := bkeep b3 R2.out; have C3 : w3.cell? ⟨r, 2, none⟩ = some (.pointer (some ⟨p, 0, none⟩)) := (by rw [cell_of_block r3]; rfl); have R3 := hide r3; have Z3 := hide (bkeep b3 Z2.out); have P3 := hide (P2.out.kp ((Kp.refl [] _).below b3) (by simp)); have K3 := hide (K2.out.below b3); clear b3 r3) | (go_at_call 92; refine (add_code p (1 <<< gt s (i + 1)) bs fs vb vf _ (by exact P3.out) hn).mono ?_; rintro _ w4 ⟨rfl, vb', vf', P4, k4, fr4⟩; have R4 := k4.keep R3.out HS.out.ap; have C4 : w4.cell? ⟨r, 2, none⟩ = some (.pointer (some ⟨p, 0, none⟩)) := (by rw [cell_of_block R4]; rfl); have z4 := k4.keep Z3.out (NF.out _ (Nat.le_refl _)); obtain ⟨⟨zc0, zc1, zc2, zc3, zc4, zc5, zc6, zc7, zc8⟩, zf0, zf1, zf2, zf3, zf4, zf5, zf6, zf7, zf8⟩ := nine z4; have R5 : ∀ v0 v1 v2 v3 v4 v5 v6 v7 v8 : Value, (((((((((w4.setCell ⟨w.heap.size, 0, none⟩ v0).setCell ⟨w.heap.size, 1, none⟩ v1).setCell ⟨w.heap.size, 2, none⟩ v2).setCell ⟨w.heap.size, 3, none⟩ v3).setCell ⟨w.heap.size, 4, none⟩ v4).setCell ⟨w.heap.size, 5, none⟩ v5).setCell ⟨w.heap.size, 6, none⟩ v6).setCell ⟨w.heap.size, 7, none⟩ v7).setCell ⟨w.heap.size, 8, none⟩ v8).heap[r]? = some (rdO s (i + 2) 0 0 p) := (fun _ _ _ _ _ _ _ _ _ => by simp only [blk_set, if_neg hrne]; exact R4); have Z4 := hide z4; have P4H := hide P4; have K4 := hide (K3.out.trans k4 (fun y hy => .inl (by simp [hy]))); have FR := hide fr4; have l3 := lt_of_block Z3.out; have FR1 : Hid (∀ g ∈ foot p vb' vf', g ∈ foot p vb vf ∨ w.heap.size ≤ g) := (fun g hg => by rcases fr4 g hg with e | e; exact .inl e; right; omega); clear z4 P4 fr4 R4))
  go_wp2
  refine bodyPost_ret (v := partV false (1 <<< bs.length) (1 <<< bs.length)) (res_part (b := w.heap.size) Try.results87 rfl (by simp only [blk_set, Z4.out]; simp [setObj_cells])) rfl ?_
  refine ⟨false, 1 <<< bs.length, 1 <<< bs.length, bs ++ [1 <<< gt s (i + 1)], fs ++ [0], vb', vf', rfl, ⟨?_, ?_, ?_⟩, ?_, FR1.out, ?_, fun _ => ⟨?_, ?_, ?_, ?_⟩⟩
  · exact R5 _ _ _ _ _ _ _ _ _
  · exact P4H.out.kp ((Kp.refl [w.heap.size] w4).set9 (by simp) _ _ _ _ _ _ _ _ _) (by intro k hk; simp at hk; subst hk; exact fun hm => by rcases FR.out _ hm with e | e; exact NF.out _ (Nat.le_refl _) e; omega)
  · intro hm; rcases FR1.out _ hm with e | e
    · exact HS.out.ap e
    · omega
  · exact K4.out.set9 (.inr (Nat.le_refl _)) _ _ _ _ _ _ _ _ _
  · simp [good]
  · simp
  · simp
  · rw [← HS.out.ps.len]; simp
  · exact one_part bs fs (1 <<< gt s (i + 1)) HS.out.ps.len

set_option maxRecDepth 100000 in
set_option maxHeartbeats 800000 in
theorem atom_escEnd (s : ByteArray) (i p r : Nat) (bs fs : List Nat) (vb vf : Value) (w : World) (h : St w s i 0 0 p r bs fs vb vf) (hi : i < s.size) (hs : s.size ≤ 16) (hn : bs.length < 200)
    (acc : Lang) (hc : gt s i = 92) (hi1 : i + 1 = s.size) :
    Calls Try.prog 87 #[.pointer (some ⟨r, 0, none⟩)] w (RPost (bad s 4 s.size acc) s i p r bs fs vb vf w) := by
  have q1 : ((gt s i : Int) == 40) = false := by simp; omega
  have q2 : ((gt s i : Int) == 91) = false := by simp; omega
  have q3 : ((gt s i : Int) == 46) = false := by simp; omega
  have q4 : ((gt s i : Int) == 92) = true := by simp; omega
  have HE := hide hi1
  have HS := hide h
  have hr := lt_of_block h.rd
  have hrne : r ≠ w.heap.size := by omega
  have rd0 : (w.alloc zeroPart).heap[r]? = some (rdO s i 0 0 p) := by rw [blk_alloc, if_neg hrne]; exact h.rd
  have c1 : w.cell? ⟨r, 1, none⟩ = some (.int .i64 i) := by rw [cell_of_block h.rd]; rfl
  have RD0 := hide rd0
  have Z0 : Hid ((w.alloc zeroPart).heap[w.heap.size]? = some zeroPart) := by show _ = _; rw [blk_alloc, if_pos rfl]
  have nf : ∀ k, w.heap.size ≤ k → k ∉ foot p vb vf := fun k hk hm => by have := HS.out.ps.lt k hm; omega
  have NF := hide nf
  clear h rd0 nf hc hi1
  go_enter Try.func87, Try.ntmps87
  go_wp2_with fail
  refine (next_yes s i p r 0 0 _ (by exact RD0.out) hi hs).mono ?_
  rintro _ w1 ⟨rfl, rd1, k1⟩
  have RD1 := hide rd1
  have c2 : w1.cell? ⟨r, 2, none⟩ = some (.pointer (some ⟨p, 0, none⟩)) := by rw [cell_of_block rd1]; rfl
  have Z1 := hide (k1.keep Z0.out (by simp; omega))
  have P1 : Hid (PosAt w1 p bs fs vb vf) := HS.out.ps.kp (((Kp.refl [r] w).alloc _).trans k1 (by simp)) (by intro k hk; simp at hk; subst hk; exact HS.out.ap)
  have K1 := hide (((Kp.refl (r :: foot p vb vf) w).alloc zeroPart).trans k1 (by simp))
  have lr1 := lt_of_block rd1
  clear rd1 k1
  go_upto_region 14 with fail
  have R1d : w1.drew.heap[r]? = some (rdO s (i + 1) 0 0 p) := RD1.out
  have C1d : w1.drew.cell? ⟨r, 2, none⟩ = some (.pointer (some ⟨p, 0, none⟩)) := by rw [cell_of_block R1d]; rfl
  have Z1d : Hid (w1.drew.heap[w.heap.size]? = some zeroPart) := Z1.out
  have P1d : Hid (PosAt w1.drew p bs fs vb vf) := P1.out.kp ((Kp.refl [] w1).drew) (by simp)
  have K1d := hide K1.out.drew
  have R1H := hide R1d
  have hZr : w.heap.size ∉ [r] := by simp; omega
  clear c2 R1d
  go_region_held3 (fun w' : World => w'.cell? ⟨r, 2, none⟩ = some (.pointer (some ⟨p, 0, none⟩)))
    (first | with_reducible exact C4 | with_reducible exact C3 | with_reducible exact C2 | with_reducible exact C1d | (rw [cell_of_block (R5 _ _ _ _ _ _ _ _ _)]; rfl))
    (first | (go_at_call 89; refine (next_end s p r 0 _ (by rw [← HE.out]; exact R1H.out)).mono ?_; rintro _ w2 ⟨rfl, rd2, k2⟩; have C2 : w2.cell? ⟨r, 2, none⟩ = some (.pointer (some ⟨p, 0, none⟩)) := (by rw [cell_of_block rd2]; rfl); have R2 := hide rd2; have Z2 := hide (k2.keep Z1d.out hZr); have P2 := hide (P1d.out.kp k2 (by intro k hk; simp at hk; subst hk; exact HS.out.ap)); have K2 := hide (K1d.out.trans k2 (by simp)); clear rd2 k2) | (go_at_call 73; refine (one_any 0 _ (by decide)).mono ?_; rintro _ w3 ⟨rfl, b3⟩; have r3 := bkeep b3 R2.out; have C3 : w3.cell? ⟨r, 2, none⟩ = some (.pointer (some ⟨p, 0, none⟩)) := (by rw [cell_of_block r3]; rfl); have R3 := hide r3; have Z3 := hide (bkeep b3 Z2.out); have P3 := hide (P2.out.kp ((Kp.refl [] _).below b3) (by simp)); have K3 := hide (K2.out.below b3); clear b3 r3) | (go_at_call 92; refine (add_code p (1 <<< 0) bs fs vb vf _ (by exact P3.out) hn).mono ?_; rintro _ w4 ⟨rfl, vb', vf', P4, k4, fr4⟩; have R4 := k4.keep R3.out HS.out.ap; have C4 : w4.cell? ⟨r, 2, none⟩ = some (.pointer (some ⟨p, 0, none⟩)) := (by rw [cell_of_block R4]; rfl); have z4 := k4.keep Z3.out (NF.out _ (Nat.le_refl _)); obtain ⟨⟨zc0, zc1, zc2, zc3, zc4, zc5, zc6, zc7, zc8⟩, zf0, zf1, zf2, zf3, zf4, zf5, zf6, zf7, zf8⟩ := nine z4; have R5 : ∀ v0 v1 v2 v3 v4 v5 v6 v7 v8 : Value, (((((((((w4.setCell ⟨w.heap.size, 0, none⟩ v0).setCell ⟨w.heap.size, 1, none⟩ v1).setCell ⟨w.heap.size, 2, none⟩ v2).setCell ⟨w.heap.size, 3, none⟩ v3).setCell ⟨w.heap.size, 4, none⟩ v4).setCell ⟨w.heap.size, 5, none⟩ v5).setCell ⟨w.heap.size, 6, none⟩ v6).setCell ⟨w.heap.size, 7, none⟩ v7).setCell ⟨w.heap.size, 8, none⟩ v8).heap[r]? = some (rdO s s.size 4 s.size p) := (fun _ _ _ _ _ _ _ _ _ => by simp only [blk_set, if_neg hrne]; exact R4); have Z4 := hide z4; have P4H := hide P4; have K4 := hide (K3.out.trans k4 (fun y hy => .inl (by simp [hy]))); have FR := hide fr4; have l3 := lt_of_block Z3.out; have FR1 : Hid (∀ g ∈ foot p vb' vf', g ∈ foot p vb vf ∨ w.heap.size ≤ g) := (fun g hg => by rcases fr4 g hg with e | e; exact .inl e; right; omega); clear z4 P4 fr4 R4))
  go_wp2
  refine bodyPost_ret (v := partV false (1 <<< bs.length) (1 <<< bs.length)) (res_part (b := w.heap.size) Try.results87 rfl (by simp only [blk_set, Z4.out]; simp [setObj_cells])) rfl ?_
  refine ⟨false, 1 <<< bs.length, 1 <<< bs.length, bs ++ [1 <<< 0], fs ++ [0], vb', vf', rfl, ⟨?_, ?_, ?_⟩, ?_, FR1.out, ?_, fun hh => absurd hh (by simp [bad])⟩
  · exact R5 _ _ _ _ _ _ _ _ _
  · exact P4H.out.kp ((Kp.refl [w.heap.size] w4).set9 (by simp) _ _ _ _ _ _ _ _ _) (by intro k hk; simp at hk; subst hk; exact fun hm => by rcases FR.out _ hm with e | e; exact NF.out _ (Nat.le_refl _) e; omega)
  · intro hm; rcases FR1.out _ hm with e | e
    · exact HS.out.ap e
    · omega
  · exact K4.out.set9 (.inr (Nat.le_refl _)) _ _ _ _ _ _ _ _ _
  · have := HE.out; simp [bad]; omega
end Go.Proofs.Ytbjdkbcfpmeneaa

/- What is proved here: the reader's methods atom, rep, cat and alt do what the document's reading says, at every place of a text of up to 16 bytes, none of them 0; if either does what it should. -/
namespace Go.Proofs.Ytbjdkbcfpmeneaa
set_option linter.unusedVariables false
set_option linter.unusedSimpArgs false
open Go.RowKit

/- A reading that goes well stops where nothing more can be read. -/
theorem pp_stop (s : ByteArray) (hz : Nz s) : ∀ n, (∀ acc i, i ≤ s.size → (gt s i = 0 ∨ gt s i = 124 ∨ gt s i = 41) → (pp s n 0 acc i).err = 0 → gt s (pp s n 0 acc i).j = 0 ∨ gt s (pp s n 0 acc i).j = 41) ∧
    (∀ acc i, i ≤ s.size → (pp s n 1 acc i).err = 0 → gt s (pp s n 1 acc i).j = 0 ∨ gt s (pp s n 1 acc i).j = 124 ∨ gt s (pp s n 1 acc i).j = 41) := by
  intro n
  induction n with
  | zero => exact ⟨fun acc i _ _ h => by simp [pp, bad] at h, fun acc i _ h => by simp [pp, bad] at h⟩
  | succ n ih =>
    obtain ⟨ih0, ih1⟩ := ih
    refine ⟨fun acc i hi hg h => ?_, fun acc i hi h => ?_⟩
    · rw [pp_alt] at h ⊢
      by_cases g : gt s i = 124
      · rw [if_pos g] at h ⊢
        have hl : i + 1 ≤ s.size := by have := hz i; omega
        have hA := (pp_shape s hz n).2.1 lEps (i + 1) hl
        have sA := ih1 lEps (i + 1) hl
        generalize pp s n 1 lEps (i + 1) = A at *
        rcases hA with ⟨a1, a2, a3, _, a5⟩ | ⟨a1, a2⟩
        · rw [if_neg (by simp [a1])] at h ⊢
          exact ih0 _ _ a5 (sA a1) h
        · rw [if_pos a1] at h; exact absurd h a1
      · rw [if_neg g]
        rcases hg with e | e | e
        · exact .inl e
        · exact absurd e g
        · exact .inr e
    · rw [pp_cat] at h ⊢
      by_cases g : gt s i = 0 ∨ gt s i = 124 ∨ gt s i = 41
      · rw [if_pos g]; exact g
      · rw [if_neg g] at h ⊢
        have hl : i < s.size := by have := hz i; omega
        have hA := (pp_shape s hz n).2.2 lEps i hl
        generalize pp s n 2 lEps i = A at *
        rcases hA with ⟨a1, a2, a3, _, a5⟩ | ⟨a1, a2⟩
        · rw [if_neg (by simp [a1])] at h ⊢
          exact ih1 _ _ (pReps_shape s hz 20 A.v A.j a5).2.2.2 h
        · rw [if_pos a1] at h; exact absurd h a1

theorem aR_shape (s : ByteArray) (hz : Nz s) (n i : Nat) (hi : i ≤ s.size) : ((aR s n i).err = 0 ∧ (aR s n i).pl = 0 ∧ i ≤ (aR s n i).j ∧ (aR s n i).j ≤ s.size ∧ (gt s (aR s n i).j = 0 ∨ gt s (aR s n i).j = 41)) ∨ ((aR s n i).err ≠ 0 ∧ (aR s n i).j = s.size) := by
  unfold aR
  have hA := (pp_shape s hz n).2.1 lEps i hi
  have sA := (pp_stop s hz n).2 lEps i hi
  generalize pp s n 1 lEps i = A at *
  rcases hA with ⟨a1, a2, a3, _, a5⟩ | ⟨a1, a2⟩
  · rw [if_neg (by simp [a1])]
    rcases (pp_shape s hz n).1 A.v A.j a5 with ⟨b1, b2, b3, _, b5⟩ | b
    · exact .inl ⟨b1, b2, by omega, b5, (pp_stop s hz n).1 A.v A.j a5 (sA a1) b1⟩
    · exact .inr b
  · rw [if_pos a1]; exact .inr ⟨a1, a2⟩

theorem atom_aR (s : ByteArray) (n i : Nat) (acc : Lang) (hg : gt s i = 40) : pp s (n + 1) 2 acc i = if (aR s n (i + 1)).err ≠ 0 then aR s n (i + 1) else if gt s (aR s n (i + 1)).j = 0 then bad s 4 s.size acc else good ((aR s n (i + 1)).j + 1) (aR s n (i + 1)).v := by
  rw [pp_atom, if_pos hg]
  unfold aR
  by_cases h : (pp s n 1 lEps (i + 1)).err ≠ 0
  · rw [if_pos h, if_pos h, if_pos h]
  · rw [if_neg h, if_neg h]

theorem rR_eq (s : ByteArray) (m j : Nat) : rR s m j = if (pp s m 2 lEps j).err ≠ 0 then pp s m 2 lEps j else pReps s 20 (pp s m 2 lEps j).v (pp s m 2 lEps j).j := rfl

/- The four methods, by induction on the fuel of the document's reading. -/
theorem all_code (heither : ∀ (e1 e2 : Bool) (f1 l1 f2 l2 : Nat) (w : World), Calls Try.prog 51 #[partV e1 f1 l1, partV e2 f2 l2] w fun x w' => x = .returned (partV (e1 || e2) (f1 ||| f2) (l1 ||| l2)) ∧ Below w.heap.size w w')
    (s : ByteArray) (hz : Nz s) (hs : s.size ≤ 16) (p r b0 : Nat) (hb0 : b0 ≤ 100) : ∀ n,
    (∀ (i : Nat) (bs fs : List Nat) (vb vf : Value) (w : World), St w s i 0 0 p r bs fs vb vf → bs.length ≤ b0 + i → i < s.size → 2 * (s.size - i) + 1 ≤ n → gt s i ≠ 124 → gt s i ≠ 41 → Calls Try.prog 87 #[.pointer (some ⟨r, 0, none⟩)] w (RPost (pp s n 2 lEps i) s i p r bs fs vb vf w)) ∧
    (∀ (i : Nat) (bs fs : List Nat) (vb vf : Value) (w : World), St w s i 0 0 p r bs fs vb vf → bs.length ≤ b0 + i → i ≤ s.size → 2 * (s.size - i) + 2 ≤ n → Calls Try.prog 49 #[.pointer (some ⟨r, 0, none⟩)] w (RPost (pp s n 1 lEps i) s i p r bs fs vb vf w)) := by
  intro n
  induction n using Nat.strongRecOn with
  | ind n ih =>
    refine ⟨fun i bs fs vb vf w h hb hi hf h1 h2 => ?_, fun i bs fs vb vf w h hb hi hf => ?_⟩
    · obtain ⟨k, rfl⟩ : ∃ k, n = k + 1 := ⟨n - 1, by omega⟩
      have h0 : gt s i ≠ 0 := fun e => by have := (hz i).1 e; omega
      by_cases g1 : gt s i = 40
      · refine atom_paren s i p r bs fs vb vf w lEps (aR s k (i + 1)) _ h hi hs hz g1 ?_ (aR_shape s hz k (i + 1) hi) (atom_aR s k i lEps g1)
        intro w' h'
        exact alt_code s k (i + 1) p r bs fs vb vf w' _ rfl h' hz hs (by omega) hi (by omega) heither
          (fun m hm j bs' fs' vb' vf' w'' hj hfu _ hij hl h'' => (ih m (by omega)).2 j bs' fs' vb' vf' w'' h'' (by omega) hj hfu)
      · by_cases g2 : gt s i = 91
        · refine atom_set s i p r bs fs vb vf w h hi hs (by omega) _ ?_ g2 hz
          rw [pp_atom, if_neg g1, if_pos g2]
          rcases pSet_shape s (i + 1) hz with ⟨a1, a2, _⟩ | ⟨a1, _⟩
          · rw [if_neg (by simp [a1])]; exact ⟨rfl, a1.symm, a2.symm, fun _ => rfl⟩
          · rw [if_pos a1]; exact ⟨rfl, rfl, rfl, fun e => absurd e a1⟩
        · by_cases g3 : gt s i = 46
          · rw [pp_atom, if_neg g1, if_neg g2, if_pos g3]; exact atom_dot s i p r bs fs vb vf w h hi hs (by omega) g3
          · by_cases g4 : gt s i = 92
            · rw [pp_atom, if_neg g1, if_neg g2, if_neg g3, if_pos g4]
              by_cases g5 : gt s (i + 1) = 0
              · rw [if_pos g5]; exact atom_escEnd s i p r bs fs vb vf w h hi hs (by omega) lEps g4 (by have := (hz (i + 1)).1 g5; omega)
              · rw [if_neg g5]; exact atom_esc s i p r bs fs vb vf w h hi hs (by omega) g4 (by have := (hz (i + 1)).2; omega)
            · rw [pp_atom, if_neg g1, if_neg g2, if_neg g3, if_neg g4]
              by_cases g5 : gt s i = 42 ∨ gt s i = 43 ∨ gt s i = 63 ∨ gt s i = 93
              · rw [if_pos g5]; exact atom_bad s i p r bs fs vb vf w h hi hs lEps g5
              · rw [if_neg g5]; exact atom_byte s i p r bs fs vb vf w h hi hs (by omega) g1 g2 g3 g4 h2 (by omega) h1 (by omega) (by omega) (by omega)
    · refine cat_code s n i p r bs fs vb vf w _ rfl h hz hs (by omega) hi hf ?_
      intro m hm j bs' fs' vb' vf' w' hj hfu g1 g2 hl hij hl2 h'
      refine rep_code s j p r bs' fs' vb' vf' w' (pp s m 2 lEps j) _ h' hz hs hl ?_ ?_ (rR_eq s m j)
      · intro w'' h''
        exact (ih m hm).1 j bs' fs' vb' vf' w'' h'' (by omega) hj hfu g1 g2
      · rcases (pp_shape s hz m).2.2 lEps j hj with ⟨a1, a2, a3, _, a5⟩ | a
        · exact .inl ⟨a1, a2, a3, a5⟩
        · exact .inr a

/- What is said here: how the document reads a whole pattern: its length, its bytes, then the grammar. No program is named. -/

/- The first byte from place i on that may not be in a pattern. -/
def fb (s : ByteArray) : Nat → Nat → Option Nat
  | 0, _ => none
  | n + 1, i => if gt s i < 32 ∨ 126 < gt s i then some i else fb s n (i + 1)

theorem fb_none (s : ByteArray) : ∀ n i, fb s n i = none → ∀ j, i ≤ j → j < i + n → 32 ≤ gt s j ∧ gt s j ≤ 126 := by
  intro n
  induction n with
  | zero => intro i _ j h1 h2; omega
  | succ n ih =>
    intro i h j h1 h2
    rw [fb] at h
    split at h
    · cases h
    · rename_i hb
      by_cases e : j = i
      · subst e; omega
      · exact ih (i + 1) h j (by omega) (by omega)

theorem gt_out (s : ByteArray) (j : Nat) (h : s.size ≤ j) : gt s j = 0 := by
  unfold gt
  have : s.data.size ≤ j := h
  rw [Array.getElem?_eq_none this]; rfl
theorem nz_of_fb (s : ByteArray) (h : fb s s.size 0 = none) : Nz s := fun j => by
  constructor
  · intro e
    rcases Nat.lt_or_ge j s.size with hj | hj
    · have := fb_none s _ _ h j (by omega) (by omega); omega
    · exact hj
  · exact gt_out s j

def readW (s : ByteArray) : PR Lang :=
  if 16 < s.size then ⟨2, 0, 0, lEps⟩
  else match fb s s.size 0 with
    | some k => ⟨3, k, 0, lEps⟩
    | none => if (aR s 40 0).err ≠ 0 then aR s 40 0 else if (aR s 40 0).j = s.size then aR s 40 0 else ⟨5, (aR s 40 0).j, 0, lEps⟩
theorem readW_byte (s : ByteArray) (h : s.size ≤ 16) (k : Nat) (hf : fb s s.size 0 = some k) : readW s = ⟨3, k, 0, lEps⟩ := by
  unfold readW; rw [if_neg (by omega), hf]
theorem readW_none (s : ByteArray) (h : s.size ≤ 16) (hf : fb s s.size 0 = none) :
    readW s = if (aR s 40 0).err ≠ 0 then aR s 40 0 else if (aR s 40 0).j = s.size then aR s 40 0 else ⟨5, (aR s 40 0).j, 0, lEps⟩ := by
  unfold readW; rw [if_neg (by omega), hf]
end Go.Proofs.Ytbjdkbcfpmeneaa
