/- What is proved here: what Right and Match answer, at every pattern (and every text of up to 100,000 bytes). -/
import Derived.Test.YtbjdkbcfpmeneaaGreatRows
import Derived.Test.YtbjdkbcfpmeneaaGreatPRead
import Derived.Test.YtbjdkbcfpmeneaaGreatMatch1
namespace Go.Proofs.YtbjdkbcfpmeneaaGreat
set_option linter.unusedVariables false
set_option linter.unusedSimpArgs false
open Go.RowKit

def noSlice : Value := .slice none 0 0
theorem ownBlock_no : (Value.slice none 0 0).ownBlock = none := rfl

theorem PosAt.empty {w : World} {p : Nat} (h : w.heap[p]? = some (.cells #[.slice none 0 0, .slice none 0 0] 100 (0, 0))) : PosAt w p [] [] (.slice none 0 0) (.slice none 0 0) :=
  ⟨h, ⟨rfl, .inl ⟨rfl, rfl⟩⟩, ⟨rfl, .inl ⟨rfl, rfl⟩⟩, rfl, by simp [Value.ownBlock], by simp [Value.ownBlock], by simp [Value.ownBlock]⟩

set_option maxRecDepth 100000 in
set_option maxHeartbeats 2000000 in
theorem read_code (s : ByteArray) (w : World) :
    Calls Tryz.prog 20 #[.string s] w fun x w' => ∃ (p : Nat) (e : Bool) (f l : Nat), x = .returned (.tuple #[.pointer (some ⟨p, 0, none⟩), partV e f l, .int .i64 (readW s).err, .int .i64 (readW s).pl]) ∧ Kp [] w w' ∧
      ((readW s).err = 0 → ∃ (bs fs : List Nat) (vb vf : Value), PosAt w' p bs fs vb vf ∧ bs.length ≤ 16 ∧ Part (fun q => bs.getD q 0) (fun q => fs.getD q 0) 0 bs.length e f l (readW s).v) := by
  go_enter Tryz.func20, Tryz.ntmps20
  go_upto_region 2 with fail
  have kW : Kp [] w ((w.alloc zeroPart).alloc (.cells #[.slice none 0 0, .slice none 0 0] 100)) := ((Kp.refl _ w).alloc _).alloc _
  have bZ : ((w.alloc zeroPart).alloc (.cells #[.slice none 0 0, .slice none 0 0] 100)).heap[w.heap.size]? = some zeroPart := by rw [blk_alloc, size_alloc, if_neg (by omega), blk_alloc, if_pos rfl]
  have bP : ((w.alloc zeroPart).alloc (.cells #[.slice none 0 0, .slice none 0 0] 100)).heap[w.heap.size + 1]? = some (.cells #[.slice none 0 0, .slice none 0 0] 100 (0, 0)) := by rw [blk_alloc, size_alloc, if_pos rfl]
  generalize (w.alloc zeroPart).alloc (.cells #[.slice none 0 0, .slice none 0 0] 100) = W at *
  have P0 := hide (PosAt.empty bP)
  have KW := hide kW
  have BZ := hide bZ
  clear kW bZ bP
  go_wp2_with fail
  refine (pread_code s (w.heap.size + 1) [] [] _ _ _ (by exact P0.out) (by simp)).mono ?_
  rintro _ w2 ⟨e, f, l, rfl, k2, _, ok2⟩
  have K2 : Hid (Kp [] w w2) := KW.out.trans k2 (by intro y hy; have := foot_mem.1 hy; simp [Value.ownBlock] at this; right; omega)
  have bz2 : w2.heap[w.heap.size]? = some zeroPart := k2.keep BZ.out (by intro hm; have := foot_mem.1 hm; simp [Value.ownBlock] at this)
  have OK2 := hide ok2
  have lz2 := lt_of_block bz2
  clear k2 ok2
  go_upto_region 3 with fail
  have k3 : Kp [] w2 (w2.alloc (partO e f l)) := (Kp.refl _ _).alloc _
  have bz3 : (w2.alloc (partO e f l)).heap[w.heap.size]? = some zeroPart := k3.keep bz2 (by simp)
  have bp3 : (w2.alloc (partO e f l)).heap[w2.heap.size]? = some (partO e f l) := by rw [blk_alloc, if_pos rfl]
  have hne : w.heap.size ≠ w2.heap.size := Nat.ne_of_lt lz2
  generalize w2.alloc (partO e f l) = W3 at *
  generalize w2.heap.size = P at *
  obtain ⟨⟨zc0, zc1, zc2, zc3, zc4, zc5, zc6, zc7, zc8⟩, zf0, zf1, zf2, zf3, zf4, zf5, zf6, zf7, zf8⟩ := nine bz3
  obtain ⟨⟨pc0, pc1, pc2, pc3, pc4, pc5, pc6, pc7, pc8⟩, _⟩ := nine bp3
  have BZ3 := hide bz3
  have K3 := hide k3
  clear bz2 bz3 bp3 k3
  go_region
  all_goals
    go_wp2
    have kE : Kp [w.heap.size] W3 ((((((((((W3.setCell ⟨w.heap.size, 0, none⟩ (.bool e)).setCell ⟨w.heap.size, 1, none⟩ (.int .u64 (wd f 0))).setCell ⟨w.heap.size, 2, none⟩ (.int .u64 (wd f 1))).setCell ⟨w.heap.size, 3, none⟩ (.int .u64 (wd f 2))).setCell ⟨w.heap.size, 4, none⟩ (.int .u64 (wd f 3))).setCell ⟨w.heap.size, 5, none⟩ (.int .u64 (wd l 0))).setCell ⟨w.heap.size, 6, none⟩ (.int .u64 (wd l 1))).setCell ⟨w.heap.size, 7, none⟩ (.int .u64 (wd l 2))).setCell ⟨w.heap.size, 8, none⟩ (.int .u64 (wd l 3))).drew) := ((Kp.refl _ _).set9 (.inl (by simp)) _ _ _ _ _ _ _ _ _).drew
    have e0 : ((((((((((W3.setCell ⟨w.heap.size, 0, none⟩ (.bool e)).setCell ⟨w.heap.size, 1, none⟩ (.int .u64 (wd f 0))).setCell ⟨w.heap.size, 2, none⟩ (.int .u64 (wd f 1))).setCell ⟨w.heap.size, 3, none⟩ (.int .u64 (wd f 2))).setCell ⟨w.heap.size, 4, none⟩ (.int .u64 (wd f 3))).setCell ⟨w.heap.size, 5, none⟩ (.int .u64 (wd l 0))).setCell ⟨w.heap.size, 6, none⟩ (.int .u64 (wd l 1))).setCell ⟨w.heap.size, 7, none⟩ (.int .u64 (wd l 2))).setCell ⟨w.heap.size, 8, none⟩ (.int .u64 (wd l 3))).drew).heap[w.heap.size]? = some (partO e f l) := by
      simp only [blk_drew, blk_set, BZ3.out]; simp [setObj_cells]
    obtain ⟨⟨x0, x1, x2, x3, x4, x5, x6, x7, x8⟩, _⟩ := nine e0
    refine bodyPost_ret (v := .tuple #[.pointer (some ⟨w.heap.size + 1, 0, none⟩), partV e f l, .int .i64 (readW s).err, .int .i64 (readW s).pl]) ?_ rfl ⟨w.heap.size + 1, e, f, l, rfl, (K2.out.trans K3.out (by simp)).trans kE (by simp), fun h0 => ?_⟩
    · simp [results, Tryz.results20, go_sem, x0, x1, x2, x3, x4, x5, x6, x7, x8]
    · obtain ⟨bs, fs, vb, vf, hp, hfr, h1, h2, h3, h4, h5⟩ := OK2.out h0
      refine ⟨bs, fs, vb, vf, (hp.kp K3.out (by simp)).kp kE (by intro k hk; simp at hk; subst hk; intro hm; rcases hfr _ hm with e | e; (have := foot_mem.1 e; simp [Value.ownBlock] at this); (have := KW.out.size; have := lt_of_block BZ.out; omega)), by simp at h2; omega, by simpa using h5⟩

set_option maxRecDepth 100000 in
set_option maxHeartbeats 1000000 in
theorem right_code (s : ByteArray) (w : World) :
    Calls Tryz.prog 10 #[.string s] w fun x w' => x = .returned (.tuple #[.int .i64 (readW s).err, .int .i64 (readW s).pl]) ∧ Below w.heap.size w w' := by
  go_enter Tryz.func10, Tryz.ntmps10
  go_wp2_with fail
  refine (read_code s _).mono ?_
  rintro _ w2 ⟨p, e, f, l, rfl, k2, _⟩
  have K2 := hide k2
  clear k2
  go_wp2
  refine bodyPost_ret (v := .tuple #[.int .i64 (readW s).err, .int .i64 (readW s).pl]) ?_ rfl ⟨rfl, (K2.out.alloc _).toBelow⟩
  simp [results, Tryz.results10, go_sem]

open Classical in
set_option maxRecDepth 100000 in
set_option maxHeartbeats 1000000 in
theorem match_code (s t : ByteArray) (w : World) (ht : t.size ≤ 100000) :
    Calls Tryz.prog 13 #[.string s, .string t] w fun x w' => x = .returned (.tuple #[.bool (decide ((readW s).err = 0 ∧ (readW s).v (tx t))), .int .i64 (readW s).err]) ∧ Below w.heap.size w w' := by
  go_enter Tryz.func13, Tryz.ntmps13
  go_wp2_with fail
  refine (read_code s _).mono ?_
  rintro _ w2 ⟨p, e, f, l, rfl, k2, ok2⟩
  have K2 := hide k2
  have OK2 := hide ok2
  clear k2 ok2
  by_cases h0 : (readW s).err = 0
  · obtain ⟨bs, fs, vb, vf, hp, hn, hL⟩ := OK2.out h0
    have hv := hL.simul (tx t)
    have H0 := hide h0
    have P2 := hide (hp.kp ((Kp.refl [] w2).alloc (partO e f l)) (by simp))
    have HV := hide hv
    have hq : ((readW s).err != 0) = false := by simp [h0]
    clear hp hL hv h0
    go_wp2_with fail
    refine (matches_code p e f l t bs fs vb vf _ (by exact P2.out) (by omega) ht).mono ?_
    rintro _ w3 ⟨rfl, h3⟩
    have K3 := hide ((K2.out.alloc (partO e f l)).below h3)
    clear h3
    go_wp2
    refine bodyPost_ret (v := .tuple #[.bool (simul bs fs l f e (tx t)), .int .i64 0]) ?_ rfl ⟨?_, K3.out.toBelow⟩
    · simp [results, Tryz.results13, go_sem]
    · rw [H0.out]
      have : simul bs fs l f e (tx t) = decide ((0 : Int) = 0 ∧ (readW s).v (tx t)) := by
        rw [Bool.eq_iff_iff, HV.out]; simp
      rw [this]
  · have hq : ((readW s).err != 0) = true := by simp [h0]
    have H0 := hide h0
    clear h0
    go_wp2
    refine bodyPost_ret (v := .tuple #[.bool false, .int .i64 (readW s).err]) ?_ rfl ⟨?_, (K2.out.alloc _).toBelow⟩
    · simp [results, Tryz.results13, go_sem]
    · rw [show decide ((readW s).err = 0 ∧ (readW s).v (tx t)) = false from by simp [H0.out]]
end Go.Proofs.YtbjdkbcfpmeneaaGreat
