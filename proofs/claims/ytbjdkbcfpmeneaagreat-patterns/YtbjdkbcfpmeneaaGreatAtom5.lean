/- What is proved here: what the reader's method atom does at a set. -/
import Derived.Test.YtbjdkbcfpmeneaaGreatRows
import Derived.Test.YtbjdkbcfpmeneaaGreatAtom1
namespace Go.Proofs.YtbjdkbcfpmeneaaGreat
set_option linter.unusedVariables false
set_option linter.unusedSimpArgs false
open Go.RowKit

theorem pItems_shape (s : ByteArray) (hz : Nz s) : ∀ (n acc i : Nat), ((pItems s n acc i).err = 0 ∧ (pItems s n acc i).pl = 0 ∧ i < (pItems s n acc i).j ∧ (pItems s n acc i).j ≤ s.size) ∨ ((pItems s n acc i).err ≠ 0 ∧ (pItems s n acc i).j = s.size) := by
  intro n
  induction n with
  | zero => intro acc i; right; simp [pItems, bad]
  | succ n ih =>
    intro acc i
    have hA := pItem_shape s i hz
    rw [pItems_succ]
    generalize pItem s i = A at *
    rcases hA with ⟨a1, a2, a3, a4, a5⟩ | ⟨a1, a2⟩
    · rw [if_neg (by simp [a1]), pAfter]
      have h0 := hz A.j
      by_cases g0 : gt s A.j = 0
      · rw [if_pos g0]; right; simp [bad]
      · rw [if_neg g0]
        by_cases g1 : gt s A.j = 93
        · rw [if_pos g1]; left; exact ⟨rfl, rfl, by simp only [good]; omega, by simp only [good]; omega⟩
        · rw [if_neg g1]
          rcases ih (acc ||| A.v) A.j with h | h
          · left; exact ⟨h.1, h.2.1, by omega, h.2.2.2⟩
          · right; exact h
    · rw [if_pos a1]; right; exact ⟨a1, a2⟩
theorem pSet_shape (s : ByteArray) (i : Nat) (hz : Nz s) : ((pSet s i).err = 0 ∧ (pSet s i).pl = 0 ∧ i < (pSet s i).j ∧ (pSet s i).j ≤ s.size) ∨ ((pSet s i).err ≠ 0 ∧ (pSet s i).j = s.size) := by
  by_cases hg : gt s i = 94
  · rw [pSet, if_pos hg]
    have h := pItems_shape s hz 20 0 (i + 1)
    show (((if (pItems s 20 0 (i + 1)).err ≠ 0 then pItems s 20 0 (i + 1) else good (pItems s 20 0 (i + 1)).j (comp (pItems s 20 0 (i + 1)).v)) : PR Nat).err = 0 ∧ ((if (pItems s 20 0 (i + 1)).err ≠ 0 then pItems s 20 0 (i + 1) else good (pItems s 20 0 (i + 1)).j (comp (pItems s 20 0 (i + 1)).v)) : PR Nat).pl = 0 ∧ i < ((if (pItems s 20 0 (i + 1)).err ≠ 0 then pItems s 20 0 (i + 1) else good (pItems s 20 0 (i + 1)).j (comp (pItems s 20 0 (i + 1)).v)) : PR Nat).j ∧ ((if (pItems s 20 0 (i + 1)).err ≠ 0 then pItems s 20 0 (i + 1) else good (pItems s 20 0 (i + 1)).j (comp (pItems s 20 0 (i + 1)).v)) : PR Nat).j ≤ s.size) ∨ _
    generalize pItems s 20 0 (i + 1) = A at *
    rcases h with h | h
    · rw [if_neg (by simp [h.1])]; left; exact ⟨rfl, rfl, by simp [good]; omega, by simp [good]; exact h.2.2.2⟩
    · rw [if_pos h.1]; right; exact h
  · rw [pSet, if_neg hg]; exact pItems_shape s hz 20 0 i

set_option maxRecDepth 100000 in
set_option maxHeartbeats 800000 in
theorem atom_set (s : ByteArray) (i p r : Nat) (bs fs : List Nat) (vb vf : Value) (w : World) (h : St w s i 0 0 p r bs fs vb vf) (hi : i < s.size) (hs : s.size ≤ 16) (hn : bs.length < 200)
    (R : PR Lang) (hR : R.j = (pSet s (i + 1)).j ∧ R.err = (pSet s (i + 1)).err ∧ R.pl = (pSet s (i + 1)).pl ∧ (R.err = 0 → R.v = lSet (pSet s (i + 1)).v)) (hc : gt s i = 91) (hz : Nz s) :
    Calls Tryz.prog 114 #[.pointer (some ⟨r, 0, none⟩)] w (RPost R s i p r bs fs vb vf w) := by
  have q1 : ((gt s i : Int) == 40) = false := by simp; omega
  have q2 : ((gt s i : Int) == 91) = true := by simp; omega
  have HZ := hide hz
  have HR := hide hR
  have HS := hide h
  have hr := lt_of_block h.rd
  have hrne : r ≠ w.heap.size := by omega
  have rd0 : (w.alloc zeroPart).heap[r]? = some (rdO s i 0 0 p) := by rw [blk_alloc, if_neg hrne]; exact h.rd
  have c1 : w.cell? ⟨r, 1, none⟩ = some (.int .i64 i) := by rw [cell_of_block h.rd]; rfl
  have RD0 := hide rd0
  have Z0 : Hid ((w.alloc zeroPart).heap[w.heap.size]? = some zeroPart) := by show _ = _; rw [blk_alloc, if_pos rfl]
  have nf : ∀ k, w.heap.size ≤ k → k ∉ foot p vb vf := fun k hk hm => by have := HS.out.ps.lt k hm; omega
  have NF := hide nf
  clear h rd0 nf hc hz hR
  go_enter Tryz.func114, Tryz.ntmps114
  go_wp2_with fail
  refine (next_yes s i p r 0 0 _ (by exact RD0.out) hi hs).mono ?_
  rintro _ w1 ⟨rfl, rd1, k1⟩
  have RD1 := hide rd1
  have c2 : w1.cell? ⟨r, 2, none⟩ = some (.pointer (some ⟨p, 0, none⟩)) := by rw [cell_of_block rd1]; rfl
  have Z1 := hide (k1.keep Z0.out (by simp; omega))
  have P1 : Hid (PosAt w1 p bs fs vb vf) := HS.out.ps.kp (((Kp.refl [r] w).alloc _).trans k1 (by simp)) (by intro k hk; simp at hk; subst hk; exact HS.out.ap)
  have K1 := hide (((Kp.refl (r :: foot p vb vf) w).alloc zeroPart).trans k1 (by simp))
  have lr1 := lt_of_block rd1
  clear rd1 k1
  go_upto_region 10 with fail
  have R1d : w1.drew.heap[r]? = some (rdO s (i + 1) 0 0 p) := RD1.out
  have C1d : w1.drew.cell? ⟨r, 2, none⟩ = some (.pointer (some ⟨p, 0, none⟩)) := by rw [cell_of_block R1d]; rfl
  have Z1d : Hid (w1.drew.heap[w.heap.size]? = some zeroPart) := Z1.out
  have P1d : Hid (PosAt w1.drew p bs fs vb vf) := P1.out.kp ((Kp.refl [] w1).drew) (by simp)
  have K1d := hide K1.out.drew
  have R1H := hide R1d
  have hZr : w.heap.size ∉ [r] := by simp; omega
  clear c2 R1d
  go_region_held3 (fun w' : World => w'.cell? ⟨r, 2, none⟩ = some (.pointer (some ⟨p, 0, none⟩)))
    (first | with_reducible exact C4 | with_reducible exact C3 | with_reducible exact C2 | with_reducible exact C1d | (rw [cell_of_block (R5 _ _ _ _ _ _ _ _ _)]; rfl))
    (first | (go_at_call 120; refine (set_code s (i + 1) p r _ (by exact R1H.out) HZ.out hi hs).mono ?_; rintro _ w2 ⟨⟨v, rfl, hv⟩, rd2, k2⟩; have HV := hide hv; have C2 : w2.cell? ⟨r, 2, none⟩ = some (.pointer (some ⟨p, 0, none⟩)) := (by rw [cell_of_block rd2]; rfl); have R2 := hide rd2; have Z2 := hide (k2.keep Z1d.out hZr); have P2 := hide (P1d.out.kp k2 (by intro k hk; simp at hk; subst hk; exact HS.out.ap)); have K2 := hide (K1d.out.trans k2 (by simp)); clear rd2 k2 hv) | (go_at_call 119; refine (add_code p v bs fs vb vf _ (by exact P2.out) hn).mono ?_; rintro _ w4 ⟨rfl, vb', vf', P4, k4, fr4⟩; have R4 := k4.keep R2.out HS.out.ap; have C4 : w4.cell? ⟨r, 2, none⟩ = some (.pointer (some ⟨p, 0, none⟩)) := (by rw [cell_of_block R4]; rfl); have z4 := k4.keep Z2.out (NF.out _ (Nat.le_refl _)); obtain ⟨⟨zc0, zc1, zc2, zc3, zc4, zc5, zc6, zc7, zc8⟩, zf0, zf1, zf2, zf3, zf4, zf5, zf6, zf7, zf8⟩ := nine z4; have R5 : ∀ v0 v1 v2 v3 v4 v5 v6 v7 v8 : Value, (((((((((w4.setCell ⟨w.heap.size, 0, none⟩ v0).setCell ⟨w.heap.size, 1, none⟩ v1).setCell ⟨w.heap.size, 2, none⟩ v2).setCell ⟨w.heap.size, 3, none⟩ v3).setCell ⟨w.heap.size, 4, none⟩ v4).setCell ⟨w.heap.size, 5, none⟩ v5).setCell ⟨w.heap.size, 6, none⟩ v6).setCell ⟨w.heap.size, 7, none⟩ v7).setCell ⟨w.heap.size, 8, none⟩ v8).heap[r]? = some (rdO s (pSet s (i + 1)).j (pSet s (i + 1)).err (pSet s (i + 1)).pl p) := (fun _ _ _ _ _ _ _ _ _ => by simp only [blk_set, if_neg hrne]; exact R4); have Z4 := hide z4; have P4H := hide P4; have K4 := hide (K2.out.trans k4 (fun y hy => .inl (by simp [hy]))); have FR := hide fr4; have l3 := lt_of_block Z2.out; have FR1 : Hid (∀ g ∈ foot p vb' vf', g ∈ foot p vb vf ∨ w.heap.size ≤ g) := (fun g hg => by rcases fr4 g hg with e | e; exact .inl e; right; omega); clear z4 P4 fr4 R4))
  go_wp2
  refine bodyPost_ret (v := partV false (1 <<< bs.length) (1 <<< bs.length)) (res_part (b := w.heap.size) Tryz.results114 rfl (by simp only [blk_set, Z4.out]; simp [setObj_cells])) rfl ?_
  refine ⟨false, 1 <<< bs.length, 1 <<< bs.length, bs ++ [v], fs ++ [0], vb', vf', rfl, ⟨?_, ?_, ?_⟩, ?_, FR1.out, ?_, fun hh => ⟨?_, ?_, ?_, ?_⟩⟩
  · rw [HR.out.1, HR.out.2.1, HR.out.2.2.1]; exact R5 _ _ _ _ _ _ _ _ _
  · exact P4H.out.kp ((Kp.refl [w.heap.size] w4).set9 (by simp) _ _ _ _ _ _ _ _ _) (by intro k hk; simp at hk; subst hk; exact fun hm => by rcases FR.out _ hm with e | e; exact NF.out _ (Nat.le_refl _) e; omega)
  · intro hm; rcases FR1.out _ hm with e | e
    · exact HS.out.ap e
    · omega
  · exact K4.out.set9 (.inr (Nat.le_refl _)) _ _ _ _ _ _ _ _ _
  · have hh := pSet_shape s (i + 1) HZ.out
    rw [HR.out.1]
    simp only [List.length_append, List.length_cons, List.length_nil]
    rcases hh with hh | hh <;> omega
  · simp
  · simp
  · rw [← HS.out.ps.len]; simp
  · have e := HV.out (by rw [← HR.out.2.1]; exact hh)
    rw [HR.out.2.2.2 hh, ← e]
    exact one_part bs fs v HS.out.ps.len
end Go.Proofs.YtbjdkbcfpmeneaaGreat
