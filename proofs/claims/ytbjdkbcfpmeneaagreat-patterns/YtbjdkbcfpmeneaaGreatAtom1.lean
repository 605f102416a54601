/- What is proved here: what the reader's method atom does at a plain byte. -/
import Derived.Test.YtbjdkbcfpmeneaaGreatRows
import Derived.Test.YtbjdkbcfpmeneaaGreatPos5
import Derived.Test.YtbjdkbcfpmeneaaGreatPos6
import Derived.Test.YtbjdkbcfpmeneaaGreatSpec2
namespace Go.Proofs.YtbjdkbcfpmeneaaGreat
set_option linter.unusedVariables false
set_option linter.unusedSimpArgs false
open Go.RowKit

/- The state of a reading: the reader in block r, the positions in block p, nothing shared. -/
structure St (w : World) (s : ByteArray) (i : Nat) (e pl : Int) (p r : Nat) (bs fs : List Nat) (vb vf : Value) : Prop where
  rd : w.heap[r]? = some (rdO s i e pl p)
  ps : PosAt w p bs fs vb vf
  ap : r ∉ foot p vb vf

/- What a reading from place i on leaves behind. -/
def RPost (R : PR Lang) (s : ByteArray) (i p r : Nat) (bs fs : List Nat) (vb vf : Value) (w : World) (x : Ending) (w' : World) : Prop :=
  ∃ (e : Bool) (f l : Nat) (bs' fs' : List Nat) (vb' vf' : Value), x = .returned (partV e f l) ∧ St w' s R.j R.err R.pl p r bs' fs' vb' vf' ∧ Kp (r :: foot p vb vf) w w' ∧ (∀ g ∈ foot p vb' vf', g ∈ foot p vb vf ∨ w.heap.size ≤ g) ∧
    bs'.length ≤ bs.length + (R.j - i) ∧
    (R.err = 0 → bs.length ≤ bs'.length ∧ bs'.take bs.length = bs ∧ fs'.take bs.length = fs ∧ Part (fun q => bs'.getD q 0) (fun q => fs'.getD q 0) bs.length bs'.length e f l R.v)

theorem one_part (bs fs : List Nat) (v : Nat) (hl : fs.length = bs.length) : Part (fun q => (bs ++ [v]).getD q 0) (fun q => (fs ++ [0]).getD q 0) bs.length (bs ++ [v]).length false (1 <<< bs.length) (1 <<< bs.length) (lSet v) := by
  have h := Part.single (fun q => (bs ++ [v]).getD q 0) (fun q => (fs ++ [0]).getD q 0) bs.length (by simp [← hl])
  simpa using h

set_option maxRecDepth 100000 in
set_option maxHeartbeats 800000 in
theorem atom_byte (s : ByteArray) (i p r : Nat) (bs fs : List Nat) (vb vf : Value) (w : World) (h : St w s i 0 0 p r bs fs vb vf) (hi : i < s.size) (hs : s.size ≤ 16) (hn : bs.length < 200)
    (h1 : gt s i ≠ 40) (h2 : gt s i ≠ 91) (h3 : gt s i ≠ 46) (h4 : gt s i ≠ 92) (h5 : gt s i ≠ 41) (h6 : gt s i ≠ 93) (h7 : gt s i ≠ 124) (h8 : gt s i ≠ 42) (h9 : gt s i ≠ 43) (h10 : gt s i ≠ 63) :
    Calls Tryz.prog 114 #[.pointer (some ⟨r, 0, none⟩)] w (RPost (good (i + 1) (lSet (1 <<< gt s i))) s i p r bs fs vb vf w) := by
  have q1 : ((gt s i : Int) == 40) = false := by simp; omega
  have q2 : ((gt s i : Int) == 91) = false := by simp; omega
  have q3 : ((gt s i : Int) == 46) = false := by simp; omega
  have q4 : ((gt s i : Int) == 92) = false := by simp; omega
  have q5 : ((gt s i : Int) == 41) = false := by simp; omega
  have q6 : ((gt s i : Int) == 93) = false := by simp; omega
  have q7 : ((gt s i : Int) == 124) = false := by simp; omega
  have q8 : ((gt s i : Int) == 42) = false := by simp; omega
  have q9 : ((gt s i : Int) == 43) = false := by simp; omega
  have q10 : ((gt s i : Int) == 63) = false := by simp; omega
  have HS := hide h
  have hr := lt_of_block h.rd
  have hrne : r ≠ w.heap.size := by omega
  have rd0 : (w.alloc zeroPart).heap[r]? = some (rdO s i 0 0 p) := by rw [blk_alloc, if_neg hrne]; exact h.rd
  have c1 : w.cell? ⟨r, 1, none⟩ = some (.int .i64 i) := by rw [cell_of_block h.rd]; rfl
  have RD0 := hide rd0
  have Z0 : Hid ((w.alloc zeroPart).heap[w.heap.size]? = some zeroPart) := by show _ = _; rw [blk_alloc, if_pos rfl]
  have nf : ∀ k, w.heap.size ≤ k → k ∉ foot p vb vf := fun k hk hm => by have := HS.out.ps.lt k hm; omega
  have NF := hide nf
  clear h rd0 nf h1 h2 h3 h4 h5 h6 h7 h8 h9 h10
  go_enter Tryz.func114, Tryz.ntmps114
  go_wp2_with fail
  refine (next_yes s i p r 0 0 _ (by exact RD0.out) hi hs).mono ?_
  rintro _ w1 ⟨rfl, rd1, k1⟩
  have RD1 := hide rd1
  have c2 : w1.cell? ⟨r, 2, none⟩ = some (.pointer (some ⟨p, 0, none⟩)) := by rw [cell_of_block rd1]; rfl
  have Z1 := hide (k1.keep Z0.out (by simp; omega))
  have P1 : Hid (PosAt w1 p bs fs vb vf) := HS.out.ps.kp (((Kp.refl [r] w).alloc _).trans k1 (by simp)) (by intro k hk; simp at hk; subst hk; exact HS.out.ap)
  have K1 := hide (((Kp.refl (r :: foot p vb vf) w).alloc zeroPart).trans k1 (by simp))
  have lr1 := lt_of_block rd1
  clear rd1 k1
  go_upto_region 4 with fail
  have hc2 : ∀ w' : World, w'.heap[r]? = some (rdO s (i + 1) 0 0 p) → w'.cell? ⟨r, 2, none⟩ = some (.pointer (some ⟨p, 0, none⟩)) := fun w' h' => by rw [cell_of_block h']; rfl
  have R1d : w1.drew.heap[r]? = some (rdO s (i + 1) 0 0 p) := RD1.out
  have Z1d : Hid (w1.drew.heap[w.heap.size]? = some zeroPart) := Z1.out
  have P1d : Hid (PosAt w1.drew p bs fs vb vf) := P1.out.kp ((Kp.refl [] w1).drew) (by simp)
  have K1d := hide K1.out.drew
  clear c2
  go_region_held3 (fun w' : World => w'.heap[r]? = some (rdO s (i + 1) 0 0 p))
    (first | with_reducible exact R3 | with_reducible exact R2 | with_reducible exact R1d | (simp only [blk_set, if_neg hrne]; with_reducible exact R3))
    (first | (go_at_call 53; refine (one_any (gt s i) _ (gt_lt s i)).mono ?_; rintro _ w2 ⟨rfl, b2⟩; have R2 := bkeep b2 R1d; have Z2 := hide (bkeep b2 Z1d.out); have P2 := hide (P1d.out.kp ((Kp.refl [] _).below b2) (by simp)); have K2 := hide (K1d.out.below b2); clear b2) | (go_at_call 119; refine (add_code p (1 <<< gt s i) bs fs vb vf _ (by exact P2.out) hn).mono ?_; rintro _ w3 ⟨rfl, vb', vf', P3, k3, fr3⟩; have R3 := k3.keep R2 HS.out.ap; have z3 := k3.keep Z2.out (NF.out _ (Nat.le_refl _)); obtain ⟨⟨zc0, zc1, zc2, zc3, zc4, zc5, zc6, zc7, zc8⟩, zf0, zf1, zf2, zf3, zf4, zf5, zf6, zf7, zf8⟩ := nine z3; have Z3 := hide z3; have P3H := hide P3; have K3 := hide (K2.out.trans k3 (fun y hy => .inl (by simp [hy]))); have FR := hide fr3; have l2 := lt_of_block Z2.out; have l3 := lt_of_block z3; have FR1 : Hid (∀ g ∈ foot p vb' vf', g ∈ foot p vb vf ∨ w.heap.size ≤ g) := (fun g hg => by rcases fr3 g hg with e | e; exact .inl e; right; omega); clear z3 P3 fr3))
  go_wp2
  refine bodyPost_ret (v := partV false (1 <<< bs.length) (1 <<< bs.length)) (res_part (b := w.heap.size) Tryz.results114 rfl (by simp only [blk_set, Z3.out]; simp [setObj_cells])) rfl ?_
  refine ⟨false, 1 <<< bs.length, 1 <<< bs.length, bs ++ [1 <<< gt s i], fs ++ [0], vb', vf', rfl, ⟨?_, ?_, ?_⟩, ?_, FR1.out, ?_, fun _ => ⟨?_, ?_, ?_, ?_⟩⟩
  · simp only [blk_set, if_neg hrne]; exact R3
  · exact P3H.out.kp ((Kp.refl [w.heap.size] w3).set9 (by simp) _ _ _ _ _ _ _ _ _) (by intro k hk; simp at hk; subst hk; exact fun hm => by rcases FR.out _ hm with e | e; exact NF.out _ (Nat.le_refl _) e; omega)
  · intro hm; rcases FR1.out _ hm with e | e
    · exact HS.out.ap e
    · omega
  · exact K3.out.set9 (.inr (Nat.le_refl _)) _ _ _ _ _ _ _ _ _
  · simp [good]
  · simp
  · simp
  · rw [← HS.out.ps.len]; simp
  · exact one_part bs fs (1 <<< gt s i) HS.out.ps.len
end Go.Proofs.YtbjdkbcfpmeneaaGreat
