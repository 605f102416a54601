/- What is proved here: what Right and Match answer, at every pattern (and every text of up to 100,000 bytes). -/
import Derived.Test.YtbjdkbcfpmeneaaRows
import Derived.Test.YtbjdkbcfpmeneaaM36
import Derived.Test.YtbjdkbcfpmeneaaM38
import Derived.Test.YtbjdkbcfpmeneaaM37
import Derived.Test.YtbjdkbcfpmeneaaM39
import Derived.Test.YtbjdkbcfpmeneaaM17
namespace Go.Proofs.Ytbjdkbcfpmeneaa
set_option linter.unusedVariables false
set_option linter.unusedSimpArgs false
open Go.RowKit

def noSlice : Value := .slice none 0 0
theorem ownBlock_no : (Value.slice none 0 0).ownBlock = none := rfl

theorem PosAt.empty {w : World} {p : Nat} (h : w.heap[p]? = some (.cells #[.slice none 0 0, .slice none 0 0] 70 (0, 0))) : PosAt w p [] [] (.slice none 0 0) (.slice none 0 0) :=
  ⟨h, ⟨rfl, .inl ⟨rfl, rfl⟩⟩, ⟨rfl, .inl ⟨rfl, rfl⟩⟩, rfl, by simp [Value.ownBlock], by simp [Value.ownBlock], by simp [Value.ownBlock]⟩

set_option maxRecDepth 100000 in
set_option maxHeartbeats 2000000 in
theorem read_code (s : ByteArray) (w : World) :
    Calls Try.prog 23 #[.string s] w fun x w' => ∃ (p : Nat) (e : Bool) (f l : Nat), x = .returned (.tuple #[.pointer (some ⟨p, 0, none⟩), partV e f l, .int .i64 (readW s).err, .int .i64 (readW s).pl]) ∧ Kp [] w w' ∧
      ((readW s).err = 0 → ∃ (bs fs : List Nat) (vb vf : Value), PosAt w' p bs fs vb vf ∧ bs.length ≤ 16 ∧ Part (fun q => bs.getD q 0) (fun q => fs.getD q 0) 0 bs.length e f l (readW s).v) := by
  go_enter Try.func23, Try.ntmps23
  go_upto_region 2 with fail
  have kW : Kp [] w ((w.alloc zeroPart).alloc (.cells #[.slice none 0 0, .slice none 0 0] 70)) := ((Kp.refl _ w).alloc _).alloc _
  have bZ : ((w.alloc zeroPart).alloc (.cells #[.slice none 0 0, .slice none 0 0] 70)).heap[w.heap.size]? = some zeroPart := by rw [blk_alloc, size_alloc, if_neg (by omega), blk_alloc, if_pos rfl]
  have bP : ((w.alloc zeroPart).alloc (.cells #[.slice none 0 0, .slice none 0 0] 70)).heap[w.heap.size + 1]? = some (.cells #[.slice none 0 0, .slice none 0 0] 70 (0, 0)) := by rw [blk_alloc, size_alloc, if_pos rfl]
  generalize (w.alloc zeroPart).alloc (.cells #[.slice none 0 0, .slice none 0 0] 70) = W at *
  have P0 := hide (PosAt.empty bP)
  have KW := hide kW
  have BZ := hide bZ
  clear kW bZ bP
  go_wp2_with fail
  refine (pread_code s (w.heap.size + 1) [] [] _ _ _ (by exact P0.out) (by simp)).mono ?_
  rintro _ w2 ⟨e, f, l, rfl, k2, _, ok2⟩
  have K2 : Hid (Kp [] w w2) := KW.out.trans k2 (by intro y hy; have := foot_mem.1 hy; simp [Value.ownBlock] at this; right; omega)
  have bz2 : w2.heap[w.heap.size]? = some zeroPart := k2.keep BZ.out (by intro hm; have := foot_mem.1 hm; simp [Value.ownBlock] at this)
  have OK2 := hide ok2
  have lz2 := lt_of_block bz2
  clear k2 ok2
  go_upto_region 3 with fail
  have k3 : Kp [] w2 (w2.alloc (partO e f l)) := (Kp.refl _ _).alloc _
  have bz3 : (w2.alloc (partO e f l)).heap[w.heap.size]? = some zeroPart := k3.keep bz2 (by simp)
  have bp3 : (w2.alloc (partO e f l)).heap[w2.heap.size]? = some (partO e f l) := by rw [blk_alloc, if_pos rfl]
  have hne : w.heap.size ≠ w2.heap.size := Nat.ne_of_lt lz2
  generalize w2.alloc (partO e f l) = W3 at *
  generalize w2.heap.size = P at *
  obtain ⟨⟨zc0, zc1, zc2, zc3, zc4, zc5, zc6, zc7, zc8⟩, zf0, zf1, zf2, zf3, zf4, zf5, zf6, zf7, zf8⟩ := nine bz3
  obtain ⟨⟨pc0, pc1, pc2, pc3, pc4, pc5, pc6, pc7, pc8⟩, _⟩ := nine bp3
  have BZ3 := hide bz3
  have K3 := hide k3
  clear bz2 bz3 bp3 k3
  go_region
  all_goals
    go_wp2
    have kE : Kp [w.heap.size] W3 ((((((((((W3.setCell ⟨w.heap.size, 0, none⟩ (.bool e)).setCell ⟨w.heap.size, 1, none⟩ (.int .u64 (wd f 0))).setCell ⟨w.heap.size, 2, none⟩ (.int .u64 (wd f 1))).setCell ⟨w.heap.size, 3, none⟩ (.int .u64 (wd f 2))).setCell ⟨w.heap.size, 4, none⟩ (.int .u64 (wd f 3))).setCell ⟨w.heap.size, 5, none⟩ (.int .u64 (wd l 0))).setCell ⟨w.heap.size, 6, none⟩ (.int .u64 (wd l 1))).setCell ⟨w.heap.size, 7, none⟩ (.int .u64 (wd l 2))).setCell ⟨w.heap.size, 8, none⟩ (.int .u64 (wd l 3))).drew) := ((Kp.refl _ _).set9 (.inl (by simp)) _ _ _ _ _ _ _ _ _).drew
    have e0 : ((((((((((W3.setCell ⟨w.heap.size, 0, none⟩ (.bool e)).setCell ⟨w.heap.size, 1, none⟩ (.int .u64 (wd f 0))).setCell ⟨w.heap.size, 2, none⟩ (.int .u64 (wd f 1))).setCell ⟨w.heap.size, 3, none⟩ (.int .u64 (wd f 2))).setCell ⟨w.heap.size, 4, none⟩ (.int .u64 (wd f 3))).setCell ⟨w.heap.size, 5, none⟩ (.int .u64 (wd l 0))).setCell ⟨w.heap.size, 6, none⟩ (.int .u64 (wd l 1))).setCell ⟨w.heap.size, 7, none⟩ (.int .u64 (wd l 2))).setCell ⟨w.heap.size, 8, none⟩ (.int .u64 (wd l 3))).drew).heap[w.heap.size]? = some (partO e f l) := by
      simp only [blk_drew, blk_set, BZ3.out]; simp [setObj_cells]
    obtain ⟨⟨x0, x1, x2, x3, x4, x5, x6, x7, x8⟩, _⟩ := nine e0
    refine bodyPost_ret (v := .tuple #[.pointer (some ⟨w.heap.size + 1, 0, none⟩), partV e f l, .int .i64 (readW s).err, .int .i64 (readW s).pl]) ?_ rfl ⟨w.heap.size + 1, e, f, l, rfl, (K2.out.trans K3.out (by simp)).trans kE (by simp), fun h0 => ?_⟩
    · simp [results, Try.results23, go_sem, x0, x1, x2, x3, x4, x5, x6, x7, x8]
    · obtain ⟨bs, fs, vb, vf, hp, hfr, h1, h2, h3, h4, h5⟩ := OK2.out h0
      refine ⟨bs, fs, vb, vf, (hp.kp K3.out (by simp)).kp kE (by intro k hk; simp at hk; subst hk; intro hm; rcases hfr _ hm with e | e; (have := foot_mem.1 e; simp [Value.ownBlock] at this); (have := KW.out.size; have := lt_of_block BZ.out; omega)), by simp at h2; omega, by simpa using h5⟩

set_option maxRecDepth 100000 in
set_option maxHeartbeats 1000000 in
theorem right_code (s : ByteArray) (w : World) :
    Calls Try.prog 15 #[.string s] w fun x w' => x = .returned (.tuple #[.int .i64 (readW s).err, .int .i64 (readW s).pl]) ∧ Below w.heap.size w w' := by
  go_enter Try.func15, Try.ntmps15
  go_wp2_with fail
  refine (read_code s _).mono ?_
  rintro _ w2 ⟨p, e, f, l, rfl, k2, _⟩
  have K2 := hide k2
  clear k2
  go_wp2
  refine bodyPost_ret (v := .tuple #[.int .i64 (readW s).err, .int .i64 (readW s).pl]) ?_ rfl ⟨rfl, (K2.out.alloc _).toBelow⟩
  simp [results, Try.results15, go_sem]

open Classical in
set_option maxRecDepth 100000 in
set_option maxHeartbeats 1000000 in
theorem match_code (s t : ByteArray) (w : World) (ht : t.size ≤ 100000) :
    Calls Try.prog 22 #[.string s, .string t] w fun x w' => x = .returned (.tuple #[.bool (decide ((readW s).err = 0 ∧ (readW s).v (tx t))), .int .i64 (readW s).err]) ∧ Below w.heap.size w w' := by
  go_enter Try.func22, Try.ntmps22
  go_wp2_with fail
  refine (read_code s _).mono ?_
  rintro _ w2 ⟨p, e, f, l, rfl, k2, ok2⟩
  have K2 := hide k2
  have OK2 := hide ok2
  clear k2 ok2
  by_cases h0 : (readW s).err = 0
  · obtain ⟨bs, fs, vb, vf, hp, hn, hL⟩ := OK2.out h0
    have hv := hL.simul (tx t)
    have H0 := hide h0
    have P2 := hide (hp.kp ((Kp.refl [] w2).alloc (partO e f l)) (by simp))
    have HV := hide hv
    have hq : ((readW s).err != 0) = false := by simp [h0]
    clear hp hL hv h0
    go_wp2_with fail
    refine (matches_code p e f l t bs fs vb vf _ (by exact P2.out) (by omega) ht).mono ?_
    rintro _ w3 ⟨rfl, h3⟩
    have K3 := hide ((K2.out.alloc (partO e f l)).below h3)
    clear h3
    go_wp2
    refine bodyPost_ret (v := .tuple #[.bool (simul bs fs l f e (tx t)), .int .i64 0]) ?_ rfl ⟨?_, K3.out.toBelow⟩
    · simp [results, Try.results22, go_sem]
    · rw [H0.out]
      have : simul bs fs l f e (tx t) = decide ((0 : Int) = 0 ∧ (readW s).v (tx t)) := by
        rw [Bool.eq_iff_iff, HV.out]; simp
      rw [this]
  · have hq : ((readW s).err != 0) = true := by simp [h0]
    have H0 := hide h0
    clear h0
    go_wp2
    refine bodyPost_ret (v := .tuple #[.bool false, .int .i64 (readW s).err]) ?_ rfl ⟨?_, (K2.out.alloc _).toBelow⟩
    · simp [results, Try.results22, go_sem]
    · rw [show decide ((readW s).err = 0 ∧ (readW s).v (tx t)) = false from by simp [H0.out]]
end Go.Proofs.Ytbjdkbcfpmeneaa

/- What is proved here: awake of the second package of statements: it answers true. -/
namespace Go.Proofs.Ytbjdkbcfpmeneaa
set_option linter.unusedVariables false
set_option linter.unusedSimpArgs false
open Go.RowKit Go.ChangeMaps

theorem own_cellN {w : World} {e : TypeId} {sz : Nat} {v : Value} {n : Nat} {xs : List Value} (h : w.ownsRow 0 e sz v n xs) {g : Nat} (hg : v.ownBlock = some g) {j : Nat} {u : Value} (hu : xs[j]? = some u) : w.cell? ⟨g, j, none⟩ = some u := by
  rcases h.2 with ⟨rfl, _⟩ | ⟨g', cap, cur, rfl, _, hb, _, _, _, ht⟩
  · simp [Value.ownBlock] at hg
  · simp [Value.ownBlock] at hg
    subst hg
    rw [cell_of_block hb, ← Array.getElem?_toList]
    rw [← ht, List.getElem?_take] at hu
    by_cases q : j < n * sz
    · rw [if_pos q] at hu; exact hu
    · rw [if_neg q] at hu; simp at hu
/- Two rules in memory. -/
theorem rulesA {w : World} {g : Nat} (h : w.heap[g]? = some (.cells #[.string wAB, .string wB] 9 (0, 0))) : RulesIn w g 0 2 rsA :=
  ⟨lt_of_block h, fun i hi => by
    rw [cell_of_block h, Nat.zero_add]
    match i, hi with
    | 0, _ => rfl
    | 1, _ => rfl⟩
/- What Make makes of them. -/
theorem makeA (g cap : Nat) (w : World) (h : w.heap[g]? = some (.cells #[.string wAB, .string wB] 9 (0, 0))) :
    Calls Try.prog 20 #[.slice (some ⟨g, 0, none⟩) 2 cap] w fun e w' => Below w.heap.size w w' ∧ ∃ (lb : Nat) (U : Tab), e = .returned (.tuple #[.pointer (some ⟨lb, 0, none⟩), .int .i64 0, .int .i64 0, .int .i64 0]) ∧ LexAt w' lb U ∧ Canon U (told LA 2) ∧ U.N ≤ 250 ∧ U.C ≤ 256 := by
  refine (make_code g 0 2 cap rsA w (rulesA h) (by omega) (by omega)).mono ?_
  rintro e w' ⟨hb, hw⟩
  refine ⟨hb, ?_⟩
  have e0 : (readW (rsA 0)).err = 0 := by rw [rsA0, rd_ab]
  have e1 : (readW (rsA 1)).err = 0 := by rw [rsA1, rd_b]
  rcases hw with ⟨i, hi, _, hne, _⟩ | ⟨_, bs, fs, ps, lo, S, hrd, hfl, hnd, hrc, hw⟩
  · match i, hi with
    | 0, _ => exact absurd e0 hne
    | 1, _ => exact absurd e1 hne
  · rcases hw with ⟨lb, U, cl, nx, ac, C, rfl, _, _, _, hL, hC, h1, h2⟩ | ⟨_, hbig⟩
    · rw [LA_def] at hC
      exact ⟨lb, U, rfl, hL, hC, h1, h2⟩
    · have hs := hrd.small hfl
      have hf := few_reach hnd hrc bs.length hs.1 hs.2
      have l0 : lo 1 ≤ lo 0 + min (readW (rsA 0)).j 16 := hrd.hi 0 (by omega)
      have l1 : lo 2 ≤ lo 1 + min (readW (rsA 1)).j 16 := hrd.hi 1 (by omega)
      have j0 : (readW (rsA 0)).j = 3 := by rw [rsA0, rd_ab]
      have j1 : (readW (rsA 1)).j = 2 := by rw [rsA1, rd_b]
      rw [j0, hrd.zero] at l0
      rw [j1] at l1
      have hl : bs.length ≤ 5 := by rw [← hrd.last]; omega
      have hp : 2 ^ bs.length ≤ 2 ^ 5 := Nat.pow_le_pow_right (by decide) hl
      rw [hrd.len] at hf
      have : 2 ^ bs.length * 2 ^ 2 ≤ 2 ^ 5 * 2 ^ 2 := Nat.mul_le_mul_right _ hp
      omega
theorem scanA (lb : Nat) (U : Tab) (w : World) (hL : LexAt w lb U) (hC : Canon U (told LA 2)) (h1 : U.N ≤ 250) (h2 : U.C ≤ 256) :
    Calls Try.prog 12 #[.pointer (some ⟨lb, 0, none⟩), .string { data := #[97, 98, 98, 97, 99] }] w fun e w' => Below w.heap.size w w' ∧ ∃ g cap, e = .returned (.tuple #[.slice (some ⟨g, 0, none⟩) 3 cap, .int .i64 4]) ∧ w.heap.size ≤ g ∧ g < w'.heap.size ∧
      w'.cell? ⟨g, 0, none⟩ = some (.int .i64 0) ∧ w'.cell? ⟨g, 1, none⟩ = some (.int .i64 0) ∧ w'.cell? ⟨g, 2, none⟩ = some (.int .i64 2) ∧ w'.cell? ⟨g, 3, none⟩ = some (.int .i64 1) ∧ w'.cell? ⟨g, 4, none⟩ = some (.int .i64 2) ∧ w'.cell? ⟨g, 5, none⟩ = some (.int .i64 3) ∧ w'.cell? ⟨g, 6, none⟩ = some (.int .i64 0) ∧ w'.cell? ⟨g, 7, none⟩ = some (.int .i64 3) ∧ w'.cell? ⟨g, 8, none⟩ = some (.int .i64 4) := by
  refine (scan_code lb _ U LA 2 w hL.lex hC.ok h1 h2 (by decide)).mono ?_
  rintro e w' ⟨hb, ts, vt, en, rfl, hown, hcut, hfr⟩
  obtain ⟨rfl, rfl⟩ := cut_one _ _ _ _ _ hcut (cutA LA0 LA1)
  refine ⟨hb, ?_⟩
  obtain ⟨g, cap, rfl⟩ : ∃ g cap, vt = .slice (some ⟨g, 0, none⟩) 3 cap := by
    rcases hown.2 with ⟨_, e⟩ | ⟨g, cap, cur, e, _⟩
    · simp at e
    · exact ⟨g, cap, e⟩
  have c := fun i x h => own_cellN (j := i) (u := x) hown rfl h
  exact ⟨g, cap, rfl, hfr g rfl, (hown.lt g rfl).2, c 0 _ rfl, c 1 _ rfl, c 2 _ rfl, c 3 _ rfl, c 4 _ rfl, c 5 _ rfl, c 6 _ rfl, c 7 _ rfl, c 8 _ rfl⟩
open Classical in
theorem match1 (w : World) : Calls Try.prog 22 #[.string { data := #[97, 98, 63] }, .string { data := #[97, 98] }] w fun x w' => x = .returned (.tuple #[.bool true, .int .i64 0]) ∧ Below w.heap.size w w' := by
  refine (match_code wAB { data := #[97, 98] } w (by decide)).mono ?_
  rintro _ w' ⟨rfl, hb⟩
  refine ⟨?_, hb⟩
  have h : (readW wAB).v (tx { data := #[97, 98] }) := (v_ab _).2 (.inr rfl)
  have he : (readW wAB).err = 0 := by rw [rd_ab]
  rw [decide_eq_true ⟨he, h⟩, he]
open Classical in
theorem match2 (w : World) : Calls Try.prog 22 #[.string { data := #[97, 98, 63] }, .string { data := #[98] }] w fun x w' => x = .returned (.tuple #[.bool false, .int .i64 0]) ∧ Below w.heap.size w w' := by
  refine (match_code wAB { data := #[98] } w (by decide)).mono ?_
  rintro _ w' ⟨rfl, hb⟩
  refine ⟨?_, hb⟩
  have h : ¬ (readW wAB).v (tx { data := #[98] }) := fun q => by
    have := (v_ab _).1 q
    revert this
    decide
  have he : (readW wAB).err = 0 := by rw [rd_ab]
  rw [decide_eq_false (fun q => h q.2), he]
theorem right1 (w : World) : Calls Try.prog 15 #[.string { data := #[40, 97] }] w fun x w' => x = .returned (.tuple #[.int .i64 4, .int .i64 2]) ∧ Below w.heap.size w w' := by
  refine (right_code { data := #[40, 97] } w).mono ?_
  rintro _ w' ⟨rfl, hb⟩
  refine ⟨?_, hb⟩
  rw [rd_open.1, rd_open.2]

set_option maxRecDepth 100000 in
set_option maxHeartbeats 4000000 in
theorem awake_code (w : World) : Calls Try.prog 14 #[] w fun x w' => x = .returned (.bool true) ∧ Below w.heap.size w w' := by
  go_enter Try.func14, Try.ntmps14
  go_wp2_with fail
  refine (makeA w.heap.size _ _ (by rw [blk_alloc, if_pos rfl])).mono ?_
  rintro _ w1 ⟨b1, lb, U, rfl, hL, hC, h1, h2⟩
  have K1 : Hid (Kp [] w w1) := ((Kp.refl [] w).alloc _).below b1
  have HL := hide hL
  have HC := hide hC
  clear b1 hL hC
  go_wp2_with fail
  refine (scanA lb U w1 HL.out HC.out h1 h2).mono ?_
  rintro _ w2 ⟨b2, g, cap, rfl, hg1, hg2, c0, c1, c2, c3, c4, c5, c6, c7, c8⟩
  have K2 : Hid (Kp [] w w2) := K1.out.trans ((Kp.refl [] w1).below b2) (by simp)
  have CC : Hid (w2.cell? ⟨g, 0, none⟩ = some (.int .i64 0) ∧ w2.cell? ⟨g, 1, none⟩ = some (.int .i64 0) ∧ w2.cell? ⟨g, 2, none⟩ = some (.int .i64 2) ∧ w2.cell? ⟨g, 3, none⟩ = some (.int .i64 1) ∧ w2.cell? ⟨g, 4, none⟩ = some (.int .i64 2) ∧ w2.cell? ⟨g, 5, none⟩ = some (.int .i64 3) ∧ w2.cell? ⟨g, 6, none⟩ = some (.int .i64 0) ∧ w2.cell? ⟨g, 7, none⟩ = some (.int .i64 3) ∧ w2.cell? ⟨g, 8, none⟩ = some (.int .i64 4)) := ⟨c0, c1, c2, c3, c4, c5, c6, c7, c8⟩
  clear b2 c0 c1 c2 c3 c4 c5 c6 c7 c8
  go_wp2_with fail
  refine (match1 _).mono ?_
  rintro _ w3 ⟨rfl, b3⟩
  have K3 : Hid (Kp [] w2 w3) := (Kp.refl [] w2).below b3
  clear b3
  go_wp2_with fail
  refine (match2 _).mono ?_
  rintro _ w4 ⟨rfl, b4⟩
  have K4 : Hid (Kp [] w2 w4) := K3.out.below b4
  clear b4
  go_wp2_with fail
  refine (right1 _).mono ?_
  rintro _ w5 ⟨rfl, b5⟩
  have K5 : Hid (Kp [] w2 w5) := K4.out.below b5
  clear b5
  obtain ⟨c0, c1, c2, c3, c4, c5, c6, c7, c8⟩ := CC.out
  rw [← K5.out.cell hg2] at c0 c1 c2 c3 c4 c5 c6 c7 c8
  go_wp2_with fail
  go_ret
  exact ⟨by simp, (K2.out.trans K5.out (by simp)).toBelow⟩
end Go.Proofs.Ytbjdkbcfpmeneaa

/- What is proved here: made of the second package of statements: a lexer with the smallest table, or none. -/
namespace Go.Proofs.Ytbjdkbcfpmeneaa
set_option linter.unusedVariables false
set_option linter.unusedSimpArgs false
open Go.RowKit Go.ChangeMaps

def MadePost (rs : Nat → ByteArray) (n : Nat) (w : World) (e : Ending) (w' : World) : Prop := Below w.heap.size w w' ∧
  (e = .returned (.tuple #[.pointer none, .bool true]) ∨
   ∃ (lb : Nat) (U : Tab), e = .returned (.tuple #[.pointer (some ⟨lb, 0, none⟩), .bool true]) ∧ 0 < n ∧ n ≤ 6 ∧ (∀ k, k < n → (readW (rs k)).err = 0) ∧ LexAt w' lb U ∧ Canon U (told (fun k => (readW (rs k)).v) n) ∧ U.N ≤ 250 ∧ U.C ≤ 256)
/- Rules as they come in. -/
def RulesOf (w : World) (a : Option Addr) (n : Nat) (rs : Nat → ByteArray) : Prop := 0 < n → ∃ g o, a = some ⟨g, o, none⟩ ∧ RulesIn w g o n rs
theorem RulesOf.kp {w w' : World} {a : Option Addr} {n : Nat} {rs : Nat → ByteArray} (h : RulesOf w a n rs) (hk : Kp [] w w') : RulesOf w' a n rs := fun h0 => by
  obtain ⟨g, o, e, hr⟩ := h h0
  exact ⟨g, o, e, hr.kp hk⟩
/- What Make answers, whatever the rules. -/
def MakeAny (rs : Nat → ByteArray) (n : Nat) (w : World) (e : Ending) (w' : World) : Prop := Below w.heap.size w w' ∧
  ((∃ x y z : Int, x ≠ 0 ∧ e = .returned (.tuple #[.pointer none, .int .i64 x, .int .i64 y, .int .i64 z])) ∨
   ∃ (lb : Nat) (U : Tab), e = .returned (.tuple #[.pointer (some ⟨lb, 0, none⟩), .int .i64 0, .int .i64 0, .int .i64 0]) ∧ 0 < n ∧ n ≤ 6 ∧ (∀ k, k < n → (readW (rs k)).err = 0) ∧ LexAt w' lb U ∧ Canon U (told (fun k => (readW (rs k)).v) n) ∧ U.N ≤ 250 ∧ U.C ≤ 256)
theorem make_any (a : Option Addr) (n cap : Nat) (rs : Nat → ByteArray) (w : World) (h : RulesOf w a n rs) :
    Calls Try.prog 20 #[.slice a n cap] w (MakeAny rs n w) := by
  by_cases hn : n = 0 ∨ 6 < n
  · refine (make_many a n cap w hn).mono ?_
    rintro e w' ⟨rfl, rfl⟩
    exact ⟨Below.refl _ _, .inl ⟨1, 0, 0, by decide, rfl⟩⟩
  · obtain ⟨g, o, rfl, hr⟩ := h (by omega)
    refine (make_code g o n cap rs w hr (by omega) (by omega)).mono ?_
    rintro e w' ⟨hb, hw⟩
    refine ⟨hb, ?_⟩
    rcases hw with ⟨i, hi, _, hne, rfl⟩ | ⟨hok, bs, fs, ps, lo, S, hrd, hfl, hnd, hrc, hw⟩
    · exact .inl ⟨_, _, _, by omega, rfl⟩
    · rcases hw with ⟨lb, U, cl, nx, ac, C, rfl, _, _, _, hL, hC, h1, h2⟩ | ⟨rfl, hbig⟩
      · exact .inr ⟨lb, U, rfl, by omega, by omega, hok, hL, hC, h1, h2⟩
      · exact .inl ⟨7, 0, 0, by decide, rfl⟩

set_option maxRecDepth 100000 in
set_option maxHeartbeats 4000000 in
theorem made_code (a : Option Addr) (n cap : Nat) (rs : Nat → ByteArray) (w : World) (h : RulesOf w a n rs) :
    Calls Try.prog 11 #[.slice a n cap] w (MadePost rs n w) := by
  have HR := hide h
  clear h
  go_enter Try.func11, Try.ntmps11
  go_wp2_with fail
  refine (awake_code _).mono ?_
  rintro _ w1 ⟨rfl, b1⟩
  have K1 : Hid (Kp [] w w1) := (Kp.refl [] w).below b1
  clear b1
  go_wp2_with fail
  refine (make_any a n cap rs w1 (HR.out.kp K1.out)).mono ?_
  rintro _ w2 ⟨b2, hw⟩
  have K2 : Hid (Kp [] w w2) := K1.out.trans ((Kp.refl [] w1).below b2) (by simp)
  clear b2
  rcases hw with ⟨x, y, z, hx, rfl⟩ | ⟨lb, U, rfl, h1, h2, h3, h4⟩
  · have hx' : (x != 0) = true := by simp [hx]
    go_wp2_with fail
    refine bodyPost_ret (v := .tuple #[.pointer none, .bool true]) ?_ rfl ⟨K2.out.toBelow, .inl rfl⟩
    simp [results, Try.results11, go_sem]
  · have H4 := hide h4
    have H3 := hide h3
    clear h3 h4
    go_wp2_with fail
    refine bodyPost_ret (v := .tuple #[.pointer (some ⟨lb, 0, none⟩), .bool true]) ?_ rfl ⟨K2.out.toBelow, .inr ⟨lb, U, rfl, h1, h2, H3.out, H4.out⟩⟩
    simp [results, Try.results11, go_sem]
end Go.Proofs.Ytbjdkbcfpmeneaa

/- What is proved here: short, matches and first of the second package of statements. -/
namespace Go.Proofs.Ytbjdkbcfpmeneaa
set_option linter.unusedVariables false
set_option linter.unusedSimpArgs false
open Go.RowKit

set_option maxHeartbeats 400000 in
theorem kshort_code (t : ByteArray) (m : Nat) (hm : m ≤ 100000) (w : World) : Calls Try.prog 10 #[.string t, .int .i64 m] w fun x w' => x = .returned (.string (if t.size ≤ m then t else t.extract 0 m)) ∧ w' = w := by
  by_cases h : t.size ≤ m
  · have q : (t.size : Int) ≤ m := by omega
    rw [if_pos h]
    go_enter Try.func10, Try.ntmps10
    go_wp2
    go_ret
    exact ⟨rfl, rfl⟩
  · have q : (m : Int) < t.size := by omega
    have q2 : (m : Int) ≤ t.size := by omega
    rw [if_neg h]
    have HN := hide h
    clear h
    go_enter Try.func10, Try.ntmps10
    go_wp2
    go_ret
    exact ⟨by simp, rfl⟩

/- Does a rule match a text? -/
def Hits (s t : ByteArray) : Prop := (readW s).err = 0 ∧ (readW s).v (tx t)
open Classical in
set_option maxHeartbeats 400000 in
theorem kmatches_code (s t : ByteArray) (w : World) (ht : t.size ≤ 100000) : Calls Try.prog 16 #[.string s, .string t] w fun x w' => x = .returned (.bool (decide (Hits s t))) ∧ Below w.heap.size w w' := by
  have key := match_code s t w ht
  have e : decide (Hits s t) = (decide ((readW s).err = 0 ∧ (readW s).v (tx t)) && decide ((readW s).err = 0)) := by
    by_cases h : (readW s).err = 0 <;> simp [Hits, h]
  rw [e]
  generalize decide ((readW s).err = 0 ∧ (readW s).v (tx t)) = D at *
  generalize (readW s).err = E at *
  clear e
  by_cases h : E = 0
  · rw [h] at key ⊢
    cases D
    all_goals
      go_enter Try.func16, Try.ntmps16
      go_wp2_with fail
      refine key.mono ?_
      rintro _ w2 ⟨rfl, k2⟩
      go_wp2
      go_ret
      exact ⟨rfl, k2⟩
  · rw [decide_eq_false h, Bool.and_false]
    have hE : (E == 0) = false := by simp [h]
    cases D
    all_goals
      go_enter Try.func16, Try.ntmps16
      go_wp2_with fail
      refine key.mono ?_
      rintro _ w2 ⟨rfl, k2⟩
      go_wp2
      go_ret
      exact ⟨by simp [hE], k2⟩
end Go.Proofs.Ytbjdkbcfpmeneaa

/- What is proved here: first of the second package of statements: the first rule that matches. -/
namespace Go.Proofs.Ytbjdkbcfpmeneaa
set_option linter.unusedVariables false
set_option linter.unusedSimpArgs false
open Go.RowKit

/- Rules as they lie in memory. -/
def RsAt (w : World) (g o : Nat) (rs : List ByteArray) : Prop := g < w.heap.size ∧ ∀ i (h : i < rs.length), w.cell? ⟨g, o + i, none⟩ = some (.string rs[i])

/- The language of a rule; a wrong one matches nothing. -/
def ruleL (rs : List ByteArray) (i : Nat) : Lang := fun x => ∃ s, rs[i]? = some s ∧ (readW s).err = 0 ∧ (readW s).v x

open Classical in
set_option maxRecDepth 100000 in
set_option maxHeartbeats 1000000 in
theorem kfirst_code (rs : List ByteArray) (g o cap : Nat) (t : ByteArray) (ht : t.size ≤ 100000) (hr : rs.length ≤ 100000) (w : World) (h : RsAt w g o rs) :
    Calls Try.prog 13 #[.slice (some ⟨g, o, none⟩) rs.length cap, .string t] w fun x w' => x = .returned (.int .i64 (firstR (ruleL rs) rs.length (tx t))) ∧ Below w.heap.size w w' := by
  go_enter Try.func13, Try.ntmps13
  go_wp2_with fail
  go_loopw [5] (fun c w' => ∃ j : Nat, j ≤ rs.length ∧ c = .int .i64 j ∧ Below w.heap.size w w' ∧ ∀ i, i < j → ¬ ruleL rs i (tx t))
    (fun c _ => rs.length - (intOf c).toNat)
  case atStart => exact ⟨0, by omega, rfl, Below.refl _ _, fun i hi => by omega⟩
  case round =>
    obtain ⟨j, hj, rfl, bb, hn⟩ := hrel
    have BB := hide bb
    have HN := hide hn
    by_cases hlt : j < rs.length
    · have hlt' : (j : Int) < rs.length := by omega
      have cj := (bb.cell (p := ⟨g, o + j, none⟩) h.1).trans (h.2 j hlt)
      have hk : Hid (ruleL rs j (tx t) ↔ Hits rs[j] t) := by
        show _ ↔ _
        unfold ruleL Hits
        rw [List.getElem?_eq_getElem hlt]
        simp
      generalize rs[j] = s at *
      have key := fun w2 => kmatches_code s t w2 ht
      by_cases hh : Hits s t
      · rw [decide_eq_true hh] at key
        have HH := hide hh
        clear hh bb hn
        go_wp2_with fail
        refine (key _).mono ?_
        rintro _ w3 ⟨rfl, k3⟩
        have K3 : Hid (Below w.heap.size w w3) := BB.out.trans (k3.mono BB.out.size)
        clear k3
        go_wp2
        go_ret
        refine ⟨?_, K3.out⟩
        rw [firstR_of hlt (hk.out.2 HH.out) HN.out]
        rfl
      · rw [decide_eq_false hh] at key
        have HH := hide hh
        clear hh bb hn
        go_wp2_with fail
        refine (key _).mono ?_
        rintro _ w3 ⟨rfl, k3⟩
        have K3 : Hid (Below w.heap.size w w3) := BB.out.trans (k3.mono BB.out.size)
        clear k3
        go_wp2
        refine ⟨⟨j + 1, by omega, by go_num, K3.out, fun i hi => ?_⟩, by simp [intOf]; omega⟩
        by_cases e : i = j
        · rw [e]; exact fun q => HH.out (hk.out.1 q)
        · exact HN.out i (by omega)
    · have hlt' : (rs.length : Int) ≤ j := by omega
      have ej : j = rs.length := by omega
      clear bb hn
      go_wp2
      go_ret
      refine ⟨?_, BB.out⟩
      rw [firstR_of_none fun i hi => HN.out i (by omega)]
      rfl
end Go.Proofs.Ytbjdkbcfpmeneaa
