/- What is proved here: what Read of the positions does: the pattern's error and its place, or its positions. -/
import Derived.Test.YtbjdkbcfpmeneaaRows
import Derived.Test.YtbjdkbcfpmeneaaM34
import Derived.Test.YtbjdkbcfpmeneaaM35
import Derived.Test.YtbjdkbcfpmeneaaM30
namespace Go.Proofs.Ytbjdkbcfpmeneaa
set_option linter.unusedVariables false
set_option linter.unusedSimpArgs false
open Go.RowKit

/- What is read of a pattern lies in the positions. -/
def PPost (R : PR Lang) (p : Nat) (bs fs : List Nat) (vb vf : Value) (w : World) (x : Ending) (w' : World) : Prop :=
  ∃ (e : Bool) (f l : Nat), x = .returned (.tuple #[partV e f l, .int .i64 R.err, .int .i64 R.pl]) ∧ Kp (foot p vb vf) w w' ∧
    (R.err ≠ 0 → e = false ∧ f = 0 ∧ l = 0) ∧
    (R.err = 0 → ∃ (bs' fs' : List Nat) (vb' vf' : Value), PosAt w' p bs' fs' vb' vf' ∧ (∀ g ∈ foot p vb' vf', g ∈ foot p vb vf ∨ w.heap.size ≤ g) ∧ bs.length ≤ bs'.length ∧ bs'.length ≤ bs.length + min R.j 16 ∧ bs'.take bs.length = bs ∧ fs'.take bs.length = fs ∧
      Part (fun q => bs'.getD q 0) (fun q => fs'.getD q 0) bs.length bs'.length e f l R.v)

theorem part_zero : partV false 0 0 = .agg #[.bool false, .int .u64 0, .int .u64 0, .int .u64 0, .int .u64 0, .int .u64 0, .int .u64 0, .int .u64 0, .int .u64 0] := by simp [partV, wd_zero]

set_option maxRecDepth 100000 in
set_option maxHeartbeats 1000000 in
theorem pread_long (s : ByteArray) (p : Nat) (bs fs : List Nat) (vb vf : Value) (w : World) (h : 16 < s.size) :
    Calls Try.prog 25 #[.pointer (some ⟨p, 0, none⟩), .string s] w (PPost (readW s) p bs fs vb vf w) := by
  have hR : Hid (readW s = ⟨2, 0, 0, lEps⟩) := by show _ = _; rw [readW, if_pos h]
  have q : (16 : Int) < s.size := by omega
  clear h
  go_enter Try.func25, Try.ntmps25
  go_wp2
  refine bodyPost_ret (v := .tuple #[partV false 0 0, .int .i64 2, .int .i64 0]) ?_ rfl ⟨false, 0, 0, by rw [hR.out], ((Kp.refl _ w).alloc _), fun _ => ⟨rfl, rfl, rfl⟩, fun e => absurd e (by rw [hR.out]; decide)⟩
  simp [results, Try.results25, go_sem, part_zero]

set_option maxRecDepth 100000 in
set_option maxHeartbeats 4000000 in
theorem pread_rest (s : ByteArray) (p : Nat) (bs fs : List Nat) (vb vf : Value) (w : World) (h : PosAt w p bs fs vb vf) (hs : s.size ≤ 16) (hn : bs.length ≤ 100) :
    Calls Try.prog 25 #[.pointer (some ⟨p, 0, none⟩), .string s] w (PPost (readW s) p bs fs vb vf w) := by
  have HP := hide h
  have q : (s.size : Int) ≤ 16 := by omega
  have hR1 : Hid (∀ k, fb s s.size 0 = some k → readW s = ⟨3, k, 0, lEps⟩) := readW_byte s hs
  have hR2 : Hid (fb s s.size 0 = none → readW s = if (aR s 40 0).err ≠ 0 then aR s 40 0 else if (aR s 40 0).j = s.size then aR s 40 0 else ⟨5, (aR s 40 0).j, 0, lEps⟩) := readW_none s hs
  generalize readW s = R at *
  clear h
  go_enter Try.func25, Try.ntmps25
  go_upto_region 3 with fail
  have kW : Kp [] w (w.alloc zeroPart) := (Kp.refl _ w).alloc _
  have bZ : (w.alloc zeroPart).heap[w.heap.size]? = some zeroPart := by rw [blk_alloc, if_pos rfl]
  generalize w.alloc zeroPart = W at *
  have lZ := lt_of_block bZ
  obtain ⟨⟨zc0, zc1, zc2, zc3, zc4, zc5, zc6, zc7, zc8⟩, zf0, zf1, zf2, zf3, zf4, zf5, zf6, zf7, zf8⟩ := nine bZ
  have KW := hide kW
  have BZ := hide bZ
  clear kW bZ
  go_wp2_with fail
  go_loopw [16] (fun i w' => ∃ k : Nat, k ≤ s.size ∧ i = .int .i64 k ∧ w' = W ∧ fb s s.size 0 = fb s (s.size - k) k)
    (fun i _ => s.size - (intOf i).toNat)
  case atStart => exact ⟨0, by omega, rfl, rfl, rfl⟩
  case round =>
    obtain ⟨k, hk, rfl, rfl, hfb⟩ := hrel
    by_cases hlt : k < s.size
    · have hk' : (k : Int) < s.size := by omega
      have hg := gt_at s k hlt
      have hF : fb s (s.size - k) k = if gt s k < 32 ∨ 126 < gt s k then some k else fb s (s.size - (k + 1)) (k + 1) := by
        rw [show s.size - k = (s.size - (k + 1)) + 1 by omega, fb]
      rw [hg] at hF
      have HF : Hid _ := hfb.trans hF
      clear hfb hF hg
      by_cases b1 : s[k].toNat < 32
      · have b1' : (s[k].toNat : Int) < 32 := by omega
        have HB := hide b1
        clear b1
        go_wp2
        have hRk : R = ⟨3, k, 0, lEps⟩ := hR1.out k (by rw [HF.out, if_pos (by have := HB.out; omega)])
        have e0 : (((((((((wr.setCell ⟨w.heap.size, 0, none⟩ (.bool false)).setCell ⟨w.heap.size, 1, none⟩ (.int .u64 0)).setCell ⟨w.heap.size, 2, none⟩ (.int .u64 0)).setCell ⟨w.heap.size, 3, none⟩ (.int .u64 0)).setCell ⟨w.heap.size, 4, none⟩ (.int .u64 0)).setCell ⟨w.heap.size, 5, none⟩ (.int .u64 0)).setCell ⟨w.heap.size, 6, none⟩ (.int .u64 0)).setCell ⟨w.heap.size, 7, none⟩ (.int .u64 0)).setCell ⟨w.heap.size, 8, none⟩ (.int .u64 0)).heap[w.heap.size]? = some zeroPart := by
          simp only [blk_set, BZ.out]; simp [setObj_cells]
        obtain ⟨⟨x0, x1, x2, x3, x4, x5, x6, x7, x8⟩, _⟩ := nine e0
        refine bodyPost_ret (v := .tuple #[partV false 0 0, .int .i64 3, .int .i64 k]) ?_ rfl ⟨false, 0, 0, by rw [hRk], (KW.out.mono (by simp)).set9 (.inr (Nat.le_refl _)) _ _ _ _ _ _ _ _ _, fun _ => ⟨rfl, rfl, rfl⟩, fun e => absurd e (by rw [hRk]; simp)⟩
        simp [results, Try.results25, go_sem, part_zero, x0, x1, x2, x3, x4, x5, x6, x7, x8]
      · have b1' : (32 : Int) ≤ s[k].toNat := by omega
        have HB := hide b1
        clear b1
        by_cases b2 : 126 < s[k].toNat
        · have b2' : (126 : Int) < s[k].toNat := by omega
          have HB2 := hide b2
          clear b2
          go_wp2
          have hRk : R = ⟨3, k, 0, lEps⟩ := hR1.out k (by rw [HF.out, if_pos (by have := HB2.out; omega)])
          have e0 : (((((((((wr.setCell ⟨w.heap.size, 0, none⟩ (.bool false)).setCell ⟨w.heap.size, 1, none⟩ (.int .u64 0)).setCell ⟨w.heap.size, 2, none⟩ (.int .u64 0)).setCell ⟨w.heap.size, 3, none⟩ (.int .u64 0)).setCell ⟨w.heap.size, 4, none⟩ (.int .u64 0)).setCell ⟨w.heap.size, 5, none⟩ (.int .u64 0)).setCell ⟨w.heap.size, 6, none⟩ (.int .u64 0)).setCell ⟨w.heap.size, 7, none⟩ (.int .u64 0)).setCell ⟨w.heap.size, 8, none⟩ (.int .u64 0)).heap[w.heap.size]? = some zeroPart := by
            simp only [blk_set, BZ.out]; simp [setObj_cells]
          obtain ⟨⟨x0, x1, x2, x3, x4, x5, x6, x7, x8⟩, _⟩ := nine e0
          refine bodyPost_ret (v := .tuple #[partV false 0 0, .int .i64 3, .int .i64 k]) ?_ rfl ⟨false, 0, 0, by rw [hRk], (KW.out.mono (by simp)).set9 (.inr (Nat.le_refl _)) _ _ _ _ _ _ _ _ _, fun _ => ⟨rfl, rfl, rfl⟩, fun e => absurd e (by rw [hRk]; simp)⟩
          simp [results, Try.results25, go_sem, part_zero, x0, x1, x2, x3, x4, x5, x6, x7, x8]
        · have b2' : (s[k].toNat : Int) ≤ 126 := by omega
          have HB2 := hide b2
          clear b2
          go_wp2
          refine ⟨⟨k + 1, by omega, by go_num, trivial, ?_⟩, by simp [intOf]; omega⟩
          rw [HF.out, if_neg (by have := HB.out; have := HB2.out; omega)]
    · have hkN : k = s.size := by omega
      subst hkN
      rw [Nat.sub_self] at hfb
      have HF : Hid (fb s s.size 0 = none) := hfb
      clear hfb hlt
      have hz : Nz s := nz_of_fb s HF.out
      have lZr := lt_of_block BZ.out
      go_upto_region 10 with fail
      have kR : Kp [] w (wr.alloc (rdO s 0 0 0 p)) := KW.out.alloc _
      have bR : (wr.alloc (rdO s 0 0 0 p)).heap[wr.heap.size]? = some (rdO s 0 0 0 p) := by rw [blk_alloc, if_pos rfl]
      have bZ : (wr.alloc (rdO s 0 0 0 p)).heap[w.heap.size]? = some zeroPart := by rw [blk_alloc, if_neg (Nat.ne_of_lt lZr)]; exact BZ.out
      generalize wr.alloc (rdO s 0 0 0 p) = W1 at *
      generalize hr : wr.heap.size = r at *
      have hrw : w.heap.size < r := lZr
      have S1 : St W1 s 0 0 0 p r bs fs vb vf := ⟨bR, HP.out.kp kR (by simp), fun hm => by have := HP.out.lt r hm; omega⟩
      have BZ1 := hide bZ
      have K1 := hide kR
      have SH1 := hide S1
      clear hr S1 kR bR bZ zc0 zc1 zc2 zc3 zc4 zc5 zc6 zc7 zc8 zf0 zf1 zf2 zf3 zf4 zf5 zf6 zf7 zf8
      go_wp2_with fail
      refine (alt_code s 40 0 p r bs fs vb vf _ (aR s 40 0) rfl (by exact SH1.out) hz hs (by omega) (by omega) (by omega) either_any (fun m hm j bs' fs' vb' vf' w'' hj hfu _ _ hl h'' => (all_code either_any s hz hs p r bs.length (by omega) m).2 j bs' fs' vb' vf' w'' h'' (by omega) hj hfu)).mono ?_
      rintro _ w2 ⟨e, f, l, bs', fs', vb', vf', rfl, S2, k2, fr2, len2, ok2⟩
      have hRR := hide (hR2.out HF.out)
      have hsh := hide (aR_shape s hz 40 0 (by omega))
      generalize aR s 40 0 = A at *
      have K2 : Hid (Kp (foot p vb vf) w w2) := (K1.out.mono (by simp)).trans k2 (by intro y hy; rcases List.mem_cons.1 hy with rfl | hy; exact .inr (by omega); exact .inl hy)
      have bz2 : w2.heap[w.heap.size]? = some zeroPart := k2.keep BZ1.out (by intro hm; rcases List.mem_cons.1 hm with e | hm; omega; have := HP.out.lt _ hm; omega)
      have lz2 := lt_of_block bz2
      have lr2 := lt_of_block S2.rd
      have lf2 : ∀ g ∈ foot p vb' vf', g < w2.heap.size := S2.ps.lt
      have FR2 : Hid (∀ g ∈ foot p vb' vf', g ∈ foot p vb vf ∨ w.heap.size ≤ g) := fun g hg => by rcases fr2 g hg with e | e; exact .inl e; exact .inr (by have := K1.out.size; omega)
      have nz : Hid (w.heap.size ∉ foot p vb' vf') := fun hm => by
        rcases fr2 _ hm with e | e
        · have := HP.out.lt _ e; omega
        · have := K1.out.size; have := lt_of_block BZ1.out; omega
      go_upto_region 11 with fail
      have k3 : Kp [] w2 (w2.alloc (partO e f l)) := (Kp.refl _ _).alloc _
      have bp3 : (w2.alloc (partO e f l)).heap[w2.heap.size]? = some (partO e f l) := by rw [blk_alloc, if_pos rfl]
      generalize hP : w2.heap.size = P at *
      generalize w2.alloc (partO e f l) = W3 at *
      have S3 : St W3 s A.j A.err A.pl p r bs' fs' vb' vf' := ⟨k3.keep S2.rd (by simp), S2.ps.kp k3 (by simp), S2.ap⟩
      have BZ3 := hide (k3.keep bz2 (by simp))
      have BP3 := hide bp3
      have SH3 := hide S3
      have K3 : Hid (Kp (foot p vb vf) w W3) := K2.out.trans k3 (by simp)
      have OK2 := hide ok2
      have LEN2 := hide len2
      have hzP : w.heap.size ≠ P := by omega
      have hrP : r ≠ P := by omega
      have hrz : w.heap.size ≠ r := by omega
      clear S2 S3 k2 fr2 bz2 bp3 k3 ok2 len2 hP
      rcases hsh.out with ⟨a1, a2, a3, a4, a5⟩ | ⟨a1, a2⟩
      · have rd3 := SH3.out.rd
        rw [a1, a2] at rd3
        by_cases hj : A.j = s.size
        · rw [hj] at rd3
          have RD3 := hide rd3
          have hRk : R = A := by rw [hRR.out, if_neg (by simp [a1]), if_pos hj]
          clear rd3
          go_wp2_with fail
          refine (ended_yes s p r 0 0 _ (by exact RD3.out)).mono ?_
          rintro _ w4 ⟨rfl, n, rfl⟩
          have bz5 : (W3.drewN n).heap[w.heap.size]? = some zeroPart := BZ3.out
          have bp5 : (W3.drewN n).heap[P]? = some (partO e f l) := BP3.out
          have rd5 : (W3.drewN n).heap[r]? = some (rdO s s.size 0 0 p) := RD3.out
          have K5 : Hid (Kp (foot p vb vf) w (W3.drewN n)) := K3.out.drewN n
          have P5 : Hid (PosAt (W3.drewN n) p bs' fs' vb' vf') := SH3.out.ps.kp ((Kp.refl [] W3).drewN n) (by simp)
          generalize W3.drewN n = W5 at *
          obtain ⟨⟨zc0, zc1, zc2, zc3, zc4, zc5, zc6, zc7, zc8⟩, zf0, zf1, zf2, zf3, zf4, zf5, zf6, zf7, zf8⟩ := nine bz5
          obtain ⟨⟨pc0, pc1, pc2, pc3, pc4, pc5, pc6, pc7, pc8⟩, _⟩ := nine bp5
          have rc3 : W5.cell? ⟨r, 3, none⟩ = some (.int .i64 0) := by rw [cell_of_block rd5]; rfl
          have BZ5 := hide bz5
          clear bz5 bp5 rd5
          go_wp2
          have e0 : ((((((((((W5.setCell ⟨w.heap.size, 0, none⟩ (.bool e)).setCell ⟨w.heap.size, 1, none⟩ (.int .u64 (wd f 0))).setCell ⟨w.heap.size, 2, none⟩ (.int .u64 (wd f 1))).setCell ⟨w.heap.size, 3, none⟩ (.int .u64 (wd f 2))).setCell ⟨w.heap.size, 4, none⟩ (.int .u64 (wd f 3))).setCell ⟨w.heap.size, 5, none⟩ (.int .u64 (wd l 0))).setCell ⟨w.heap.size, 6, none⟩ (.int .u64 (wd l 1))).setCell ⟨w.heap.size, 7, none⟩ (.int .u64 (wd l 2))).setCell ⟨w.heap.size, 8, none⟩ (.int .u64 (wd l 3)))).heap[w.heap.size]? = some (partO e f l) := by
            simp only [blk_set, BZ5.out]; simp [setObj_cells]
          obtain ⟨⟨x0, x1, x2, x3, x4, x5, x6, x7, x8⟩, _⟩ := nine e0
          refine bodyPost_ret (v := .tuple #[partV e f l, .int .i64 0, .int .i64 0]) ?_ rfl ⟨e, f, l, by rw [hRk, a1, a2], K5.out.set9 (.inr (Nat.le_refl _)) _ _ _ _ _ _ _ _ _, fun h => absurd (by rw [hRk]; exact a1) h, fun _ => ⟨bs', fs', vb', vf', P5.out.kp ((Kp.refl [w.heap.size] _).set9 (.inl (by simp)) _ _ _ _ _ _ _ _ _) (by intro k hk; simp at hk; subst hk; exact nz.out), FR2.out, (OK2.out a1).1, by have := LEN2.out; rw [hRk]; omega, (OK2.out a1).2.1, (OK2.out a1).2.2.1, by rw [hRk]; exact (OK2.out a1).2.2.2⟩⟩
          simp [results, Try.results25, go_sem, x0, x1, x2, x3, x4, x5, x6, x7, x8]
        · have RD3 := hide rd3
          have hRk : R = ⟨5, A.j, 0, lEps⟩ := by rw [hRR.out, if_neg (by simp [a1]), if_neg hj]
          clear rd3
          go_wp2_with fail
          refine (ended_no s A.j p r 0 0 _ (by exact RD3.out) (by omega)).mono ?_
          rintro _ w4 ⟨rfl, n, rfl⟩
          have rc1 : W3.cell? ⟨r, 1, none⟩ = some (.int .i64 A.j) := by rw [cell_of_block RD3.out]; rfl
          go_wp2_with fail
          refine (fail_first s A.j p r 0 5 A.j _ (by exact RD3.out)).mono ?_
          rintro _ W5 ⟨rfl, rd5, k5⟩
          have bz5 : W5.heap[w.heap.size]? = some zeroPart := k5.keep (by exact BZ3.out) (by simp [hrz])
          have K5 : Hid (Kp (foot p vb vf) w W5) := (K3.out.drewN n).trans k5 (by intro y hy; simp at hy; exact .inr (by omega))
          obtain ⟨⟨zc0, zc1, zc2, zc3, zc4, zc5, zc6, zc7, zc8⟩, zf0, zf1, zf2, zf3, zf4, zf5, zf6, zf7, zf8⟩ := nine bz5
          have rc3 : W5.cell? ⟨r, 3, none⟩ = some (.int .i64 5) := by rw [cell_of_block rd5]; rfl
          have rc4 : W5.cell? ⟨r, 4, none⟩ = some (.int .i64 A.j) := by rw [cell_of_block rd5]; rfl
          have BZ5 := hide bz5
          clear bz5 rd5 k5 rc1
          go_wp2_with fail
          go_region
          all_goals
            have e0 : ((((((((((W5.setCell ⟨w.heap.size, 0, none⟩ (.bool false)).setCell ⟨w.heap.size, 1, none⟩ (.int .u64 0)).setCell ⟨w.heap.size, 2, none⟩ (.int .u64 0)).setCell ⟨w.heap.size, 3, none⟩ (.int .u64 0)).setCell ⟨w.heap.size, 4, none⟩ (.int .u64 0)).setCell ⟨w.heap.size, 5, none⟩ (.int .u64 0)).setCell ⟨w.heap.size, 6, none⟩ (.int .u64 0)).setCell ⟨w.heap.size, 7, none⟩ (.int .u64 0)).setCell ⟨w.heap.size, 8, none⟩ (.int .u64 0))).drew.heap[w.heap.size]? = some zeroPart := by
              simp only [blk_set, blk_drew, BZ5.out]; simp [setObj_cells]
            go_wp2
            obtain ⟨⟨x0, x1, x2, x3, x4, x5, x6, x7, x8⟩, _⟩ := nine e0
            refine bodyPost_ret (v := .tuple #[partV false 0 0, .int .i64 5, .int .i64 A.j]) ?_ rfl ⟨false, 0, 0, by rw [hRk], (K5.out.set9 (.inr (Nat.le_refl _)) _ _ _ _ _ _ _ _ _).drew, fun _ => ⟨rfl, rfl, rfl⟩, fun e => absurd e (by rw [hRk]; first | exact HE.out | simp)⟩
            simp [results, Try.results25, go_sem, part_zero, x0, x1, x2, x3, x4, x5, x6, x7, x8]
      · have rd3 := SH3.out.rd
        rw [a2] at rd3
        have RD3 := hide rd3
        have hRk : R = A := by rw [hRR.out, if_pos a1]
        have HE := hide a1
        have hne : (A.err != 0) = true := by simp [a1]
        clear rd3
        go_wp2_with fail
        refine (ended_yes s p r A.err A.pl _ (by exact RD3.out)).mono ?_
        rintro _ w4 ⟨rfl, n, rfl⟩
        have bz5 : (W3.drewN n).heap[w.heap.size]? = some zeroPart := BZ3.out
        have rd5 : (W3.drewN n).heap[r]? = some (rdO s s.size A.err A.pl p) := RD3.out
        have K5 : Hid (Kp (foot p vb vf) w (W3.drewN n)) := K3.out.drewN n
        generalize W3.drewN n = W5 at *
        obtain ⟨⟨zc0, zc1, zc2, zc3, zc4, zc5, zc6, zc7, zc8⟩, zf0, zf1, zf2, zf3, zf4, zf5, zf6, zf7, zf8⟩ := nine bz5
        have rc3 : W5.cell? ⟨r, 3, none⟩ = some (.int .i64 A.err) := by rw [cell_of_block rd5]; rfl
        have rc4 : W5.cell? ⟨r, 4, none⟩ = some (.int .i64 A.pl) := by rw [cell_of_block rd5]; rfl
        have BZ5 := hide bz5
        clear bz5 rd5 a1
        go_wp2_with fail
        go_region
        all_goals
          have e0 : ((((((((((W5.setCell ⟨w.heap.size, 0, none⟩ (.bool false)).setCell ⟨w.heap.size, 1, none⟩ (.int .u64 0)).setCell ⟨w.heap.size, 2, none⟩ (.int .u64 0)).setCell ⟨w.heap.size, 3, none⟩ (.int .u64 0)).setCell ⟨w.heap.size, 4, none⟩ (.int .u64 0)).setCell ⟨w.heap.size, 5, none⟩ (.int .u64 0)).setCell ⟨w.heap.size, 6, none⟩ (.int .u64 0)).setCell ⟨w.heap.size, 7, none⟩ (.int .u64 0)).setCell ⟨w.heap.size, 8, none⟩ (.int .u64 0))).drew.heap[w.heap.size]? = some zeroPart := by
            simp only [blk_set, blk_drew, BZ5.out]; simp [setObj_cells]
          go_wp2
          obtain ⟨⟨x0, x1, x2, x3, x4, x5, x6, x7, x8⟩, _⟩ := nine e0
          refine bodyPost_ret (v := .tuple #[partV false 0 0, .int .i64 A.err, .int .i64 A.pl]) ?_ rfl ⟨false, 0, 0, by rw [hRk], (K5.out.set9 (.inr (Nat.le_refl _)) _ _ _ _ _ _ _ _ _).drew, fun _ => ⟨rfl, rfl, rfl⟩, fun e => absurd e (by rw [hRk]; first | exact HE.out | simp)⟩
          simp [results, Try.results25, go_sem, part_zero, x0, x1, x2, x3, x4, x5, x6, x7, x8]

theorem pread_code (s : ByteArray) (p : Nat) (bs fs : List Nat) (vb vf : Value) (w : World) (h : PosAt w p bs fs vb vf) (hn : bs.length ≤ 100) :
    Calls Try.prog 25 #[.pointer (some ⟨p, 0, none⟩), .string s] w (PPost (readW s) p bs fs vb vf w) := by
  rcases Nat.lt_or_ge 16 s.size with hs | hs
  · exact pread_long s p bs fs vb vf w hs
  · exact pread_rest s p bs fs vb vf w h hs hn
end Go.Proofs.Ytbjdkbcfpmeneaa

/- What is proved here: several rules, read one behind the other into the same positions (for Make). No program is named. -/
namespace Go.Proofs.Ytbjdkbcfpmeneaa
set_option linter.unusedVariables false
set_option linter.unusedSimpArgs false

/- The rules read so far: each has positions of its own. -/
structure RdI (rs : Nat → ByteArray) (i : Nat) (bs fs : List Nat) (ps : List (Bool × Nat × Nat)) (lo : Nat → Nat) : Prop where
  len : ps.length = i
  zero : lo 0 = 0
  last : lo i = bs.length
  mono : ∀ k, k < i → lo k ≤ lo (k + 1)
  hi : ∀ k, k < i → lo (k + 1) ≤ lo k + min (readW (rs k)).j 16
  part : ∀ k, k < i → Part (fun q => bs.getD q 0) (fun q => fs.getD q 0) (lo k) (lo (k + 1)) (eR ps k) (fR ps k) (lR ps k) (readW (rs k)).v
  ok : ∀ k, k < i → (readW (rs k)).err = 0

theorem RdI.le {rs : Nat → ByteArray} {i : Nat} {bs fs : List Nat} {ps : List (Bool × Nat × Nat)} {lo : Nat → Nat} (h : RdI rs i bs fs ps lo) : ∀ k j, k ≤ j → j ≤ i → lo k ≤ lo j := by
  intro k j hkj hj
  induction j with
  | zero => rw [show k = 0 by omega]; exact Nat.le_refl _
  | succ j ih =>
    by_cases e : k = j + 1
    · rw [e]; exact Nat.le_refl _
    · have := ih (by omega) (by omega)
      have := h.mono j (by omega)
      omega
theorem RdI.few {rs : Nat → ByteArray} {i : Nat} {bs fs : List Nat} {ps : List (Bool × Nat × Nat)} {lo : Nat → Nat} (h : RdI rs i bs fs ps lo) : ∀ k, k ≤ i → lo k ≤ 16 * k := by
  intro k hk
  induction k with
  | zero => rw [h.zero]; omega
  | succ k ih =>
    have := ih (by omega)
    have := h.hi k (by omega)
    omega
theorem RdI.start (rs : Nat → ByteArray) : RdI rs 0 [] [] [] (fun _ => 0) := ⟨rfl, rfl, rfl, fun k hk => by omega, fun k hk => by omega, fun k hk => by omega, fun k hk => by omega⟩

theorem getD_take_eq {l l' : List Nat} {n q : Nat} (h : l'.take n = l) (hq : q < l.length) : l'.getD q 0 = l.getD q 0 := by
  subst h
  rw [List.getD_eq_getElem?_getD, List.getD_eq_getElem?_getD, List.getElem?_take, if_pos]
  rw [List.length_take] at hq; omega

theorem RdI.step {rs : Nat → ByteArray} {i : Nat} {bs fs bs' fs' : List Nat} {ps : List (Bool × Nat × Nat)} {lo : Nat → Nat} {e : Bool} {f l : Nat} (h : RdI rs i bs fs ps lo) (hl : fs.length = bs.length) (h0 : (readW (rs i)).err = 0) (h1 : bs.length ≤ bs'.length) (h2 : bs'.length ≤ bs.length + min (readW (rs i)).j 16) (h3 : bs'.take bs.length = bs) (h4 : fs'.take bs.length = fs)
    (h5 : Part (fun q => bs'.getD q 0) (fun q => fs'.getD q 0) bs.length bs'.length e f l (readW (rs i)).v) : RdI rs (i + 1) bs' fs' (ps ++ [(e, f, l)]) (fun k => if k = i + 1 then bs'.length else lo k) := by
  have hps := h.len
  have old : ∀ k, k < i → (ps ++ [(e, f, l)]).getD k (false, 0, 0) = ps.getD k (false, 0, 0) := fun k hk => by
    rw [List.getD_eq_getElem?_getD, List.getElem?_append_left (by omega), ← List.getD_eq_getElem?_getD]
  have new : (ps ++ [(e, f, l)]).getD i (false, 0, 0) = (e, f, l) := by
    rw [List.getD_eq_getElem?_getD, ← hps]; simp
  refine ⟨by simp [hps], by simp [h.zero], by simp, fun k hk => ?_, fun k hk => ?_, fun k hk => ?_, fun k hk => ?_⟩
  · show (if k = i + 1 then bs'.length else lo k) ≤ (if k + 1 = i + 1 then bs'.length else lo (k + 1))
    rw [if_neg (by omega)]
    by_cases q : k = i
    · rw [if_pos (by omega), q, h.last]; exact h1
    · rw [if_neg (by omega)]; exact h.mono k (by omega)
  · show (if k + 1 = i + 1 then bs'.length else lo (k + 1)) ≤ (if k = i + 1 then bs'.length else lo k) + _
    rw [if_neg (show ¬ k = i + 1 by omega)]
    by_cases q : k = i
    · rw [if_pos (by omega), q, h.last]; exact h2
    · rw [if_neg (by omega)]; exact h.hi k (by omega)
  · show Part _ _ (if k = i + 1 then bs'.length else lo k) (if k + 1 = i + 1 then bs'.length else lo (k + 1)) _ _ _ _
    rw [if_neg (show ¬ k = i + 1 by omega)]
    by_cases q : k = i
    · subst q
      rw [if_pos rfl, h.last]
      unfold eR fR lR
      rw [new]
      exact h5
    · rw [if_neg (by omega)]
      unfold eR fR lR
      rw [old k (by omega)]
      have hk1 : lo (k + 1) ≤ bs.length := by rw [← h.last]; exact h.le (k + 1) i (by omega) (Nat.le_refl _)
      exact (h.part k (by omega)).congr (fun q hq => getD_take_eq h3 (by omega)) (fun q _ hq => getD_take_eq h4 (by omega))
  · by_cases q : k = i
    · rw [q]; exact h0
    · exact h.ok k (by omega)

theorem RdI.rules {rs : Nat → ByteArray} {i : Nat} {bs fs : List Nat} {ps : List (Bool × Nat × Nat)} {lo : Nat → Nat} (h : RdI rs i bs fs ps lo) :
    Rules (fun q => bs.getD q 0) (fun q => fs.getD q 0) ps.length lo (eR ps) (fR ps) (lR ps) (fun k => (readW (rs k)).v) := by
  rw [h.len]
  exact ⟨h.part, h.le⟩

/- Which rule a position belongs to. -/
theorem RdI.which {rs : Nat → ByteArray} {i : Nat} {bs fs : List Nat} {ps : List (Bool × Nat × Nat)} {lo : Nat → Nat} (h : RdI rs i bs fs ps lo) : ∀ k, k ≤ i → ∀ q, q < lo k → ∃ j, j < k ∧ lo j ≤ q ∧ q < lo (j + 1) := by
  intro k
  induction k with
  | zero => intro _ q hq; rw [h.zero] at hq; omega
  | succ k ih =>
    intro hk q hq
    by_cases e : lo k ≤ q
    · exact ⟨k, by omega, e, hq⟩
    · obtain ⟨j, h1, h2⟩ := ih (by omega) q (by omega)
      exact ⟨j, by omega, h2⟩
theorem RdI.small {rs : Nat → ByteArray} {i : Nat} {bs fs : List Nat} {ps : List (Bool × Nat × Nat)} {lo : Nat → Nat} (h : RdI rs i bs fs ps lo) (hl : fs.length = bs.length) : (∀ q, fs.getD q 0 < 2 ^ bs.length) ∧ firsts (fR ps) ps.length < 2 ^ bs.length := by
  have sm := h.rules.small
  rw [h.len, h.last] at sm
  refine ⟨fun q => ?_, firsts_small _ _ _ (fun k hk => sm.1 k (by rw [h.len] at hk; exact hk))⟩
  by_cases hq : q < bs.length
  · obtain ⟨j, h1, h2, h3⟩ := h.which i (Nat.le_refl _) q (by rw [h.last]; exact hq)
    exact sm.2 j q h1 h2 h3
  · rw [List.getD_eq_getElem?_getD, List.getElem?_eq_none (by omega)]
    exact Nat.two_pow_pos _
theorem RdI.big {rs : Nat → ByteArray} {i : Nat} {bs fs : List Nat} {ps : List (Bool × Nat × Nat)} {lo : Nat → Nat} (h : RdI rs i bs fs ps lo) (hl : fs.length = bs.length) (hi : i ≤ 6) : bs.length ≤ 96 ∧ (∀ q, fs.getD q 0 < 2 ^ 256) ∧ firsts (fR ps) ps.length < 2 ^ 256 := by
  have e := h.few i (Nat.le_refl _)
  rw [h.last] at e
  have p : 2 ^ bs.length ≤ 2 ^ 256 := Nat.pow_le_pow_right (by decide) (by omega)
  have s := h.small hl
  exact ⟨by omega, fun q => Nat.lt_of_lt_of_le (s.1 q) p, Nat.lt_of_lt_of_le s.2 p⟩
end Go.Proofs.Ytbjdkbcfpmeneaa

/- What is proved here: making a row of parts, building a lexer of a table; how rules and a lexer lie in memory. -/
namespace Go.Proofs.Ytbjdkbcfpmeneaa
set_option linter.unusedVariables false
set_option linter.unusedSimpArgs false
open Go.RowKit

def lexPlace : Nat → Option (Nat × Nat)
  | 0 => some (0, 258)
  | _ => none
theorem infoLex : (Try.prog.info? 56).map (fun i => i.zero) = some (some (.agg (tabArr z256 (.slice none 0 0) (.slice none 0 0)))) := by kernel_rfl
set_option maxRecDepth 100000 in
theorem built_lex (parts : List (Nat × Value)) : Try.prog.built 56 parts = Instr.fill lexPlace (tabArr z256 (.slice none 0 0) (.slice none 0 0)) parts := by
  have hz := infoLex
  obtain ⟨i, hi⟩ : ∃ i, Try.prog.info? 56 = some i := by
    cases h : Try.prog.info? 56 with
    | none => rw [h] at hz; cases hz
    | some i => exact ⟨i, rfl⟩
  rw [hi] at hz
  have hz' : i.zero = some (.agg (tabArr z256 (.slice none 0 0) (.slice none 0 0))) := by simpa using hz
  unfold Program.built
  simp only [hi, Try.underlying56, hz']
  have hp : ((Try.prog.info? 46).map fun i => (0, i.size)) = some (0, 258) := by kernel_rfl
  simp only [List.mapM_cons, List.mapM_nil, hp]
  have e : (fun x => ([(0, 258)] : List (Nat × Nat)).toArray[x]?) = lexPlace := by
    funext x
    match x with
    | 0 => rfl
    | n + 1 => rfl
  rw [← e]
  rfl
theorem fill_lex {c : Array Value} (h : c.size = 256) (vn va : Value) : Instr.fill lexPlace (tabArr z256 (.slice none 0 0) (.slice none 0 0)) [(0, .agg (tabArr c vn va))] = some (tabArr c vn va) := by
  rw [Instr.fill]
  simp only [lexPlace, Value.cells, tabArr_size h, tabArr_size z256_size]
  have := fold_lay 0 (tabArr c vn va).toList 0 (tabArr z256 (.slice none 0 0) (.slice none 0 0))
  simp only [Nat.add_zero] at this
  rw [layAt_all _ _ (by rw [tabArr_size h, tabArr_size z256_size])] at this
  rw [if_neg (by simp)]
  show some _ = _
  congr 1
  refine Eq.trans ?_ this
  rw [← Array.foldl_toList]
  simp

section
variable {ops : Array Oper} {rest : List Oper} {op : Oper} {a : Act} {w : World} {Q : Exit → Act → World → Prop}
theorem buildLex (hgd : op.guard = none) (parts : List (Nat × Operand)) (ho : op.op = .build 56 parts.toArray) (cells : Array Value) (hf : Instr.fill lexPlace (tabArr z256 (.slice none 0 0) (.slice none 0 0)) (parts.map fun q => (q.1, a.eval q.2)) = some cells)
    (h : wpList Try.prog ops Q rest (a.put op.dst (.agg cells)) w) : wpList Try.prog ops Q (op :: rest) a w := by
  have e : (parts.toArray.map fun (i, x) => (i, a.eval x)).toList = parts.map fun q => (q.1, a.eval q.2) := by simp
  refine wpList_plain hgd fun _ hK => wp_build 56 parts.toArray ho ?_ (hK _ _ ?_)
  · rw [built_lex, e, hf]; rfl
  · rw [built_lex, e, hf]; exact h
end

theorem infoPart9 : (Try.prog.info? 64).map (fun i => (i.zero, i.size, i.bytes)) = some (some (.agg #[.bool false, .int .u64 0, .int .u64 0, .int .u64 0, .int .u64 0, .int .u64 0, .int .u64 0, .int .u64 0, .int .u64 0]), 9, 72) := by kernel_rfl
/- Rows of parts that are nothing yet. -/
set_option maxRecDepth 10000 in
theorem run_make_parts (n : Nat) (hn : n ≤ 1000) (w : World) :
    (Instr.makeSlice 71 (.int .i64 (n : Int)) (.int .i64 (n : Int))).run Try.prog w = .ok (.slice (some ⟨w.heap.size, 0, none⟩) n n) (w.alloc (.cells (madeCells (partV false 0 0).cells (n * 9)) 64)) := by
  obtain ⟨i0, hi0, hz0, hz1, hz2⟩ := info_parts infoPart9
  have hb : (i0.bytes : Int) * (n : Int) ≤ 281474976710656 := by rw [hz2]; omega
  have q := run_make (P := Try.prog) w 71 64 i0 _ Try.underlying71 hi0 hz0 .i64 .i64 (n : Int) (n : Int) (by omega) (Int.le_refl _) hb (by omega)
  rw [hz1, Int.toNat_natCast] at q
  rw [part_zero]
  exact q

/- The parts that lie in a row, of the first rules. -/
structure PartsI (w : World) (ga n : Nat) (ps : List (Bool × Nat × Nat)) : Prop where
  row : ∃ c : Array Value, w.heap[ga]? = some (.cells c 64 (0, 0)) ∧ c.size = n * 9 ∧ ∀ k j, k < ps.length → j < 9 → c[k * 9 + j]? = (pv (ps.getD k (false, 0, 0))).cells[j]?
theorem PartsI.kp {w w' : World} {ga n : Nat} {ps : List (Bool × Nat × Nat)} {xs : List Nat} (h : PartsI w ga n ps) (hk : Kp xs w w') (hx : ga ∉ xs) : PartsI w' ga n ps := by
  obtain ⟨c, h1, h2⟩ := h.row
  exact ⟨c, hk.keep h1 hx, h2⟩
theorem pv_size (x : Bool × Nat × Nat) : (pv x).cells.size = 9 := rfl
theorem PartsI.set {w w' : World} {ga n : Nat} {ps : List (Bool × Nat × Nat)} {c : Array Value} {x : Bool × Nat × Nat} (hc : w'.heap[ga]? = some (.cells (layAt c (ps.length * 9) (pv x).cells.toList) 64 (0, 0))) (hs : c.size = n * 9) (hp : ps.length < n) (h : ∀ k j, k < ps.length → j < 9 → c[k * 9 + j]? = (pv (ps.getD k (false, 0, 0))).cells[j]?) : PartsI w' ga n (ps ++ [x]) := by
  refine ⟨_, hc, by rw [layAt_size]; exact hs, fun k j hk hj => ?_⟩
  have hl : (pv x).cells.toList.length = 9 := by rw [Array.length_toList]; rfl
  rw [List.length_append, List.length_singleton] at hk
  by_cases e : k = ps.length
  · subst e
    rw [layAt_in _ _ _ _ (by rw [hl]; exact hj) (by rw [hl, hs]; omega), Array.getElem?_toList]
    congr 3
    rw [List.getD_eq_getElem?_getD]; simp
  · rw [layAt_out _ _ _ _ (.inl (by omega)), h k j (by omega) hj]
    congr 3
    rw [List.getD_eq_getElem?_getD, List.getD_eq_getElem?_getD, List.getElem?_append_left (by omega)]
theorem PartsI.rules {w : World} {ga : Nat} {ps : List (Bool × Nat × Nat)} (h : PartsI w ga ps.length ps) (hn : ps.length ≤ 1000) : RulesAt w (.slice (some ⟨ga, 0, none⟩) ps.length ps.length) ps := by
  obtain ⟨c, h1, h2, h3⟩ := h.row
  have hl : (cellsAll (ps.map pv)).length = ps.length * 9 := by
    clear h h1 h2 h3 hn
    induction ps with
    | nil => rfl
    | cons a l ih =>
      have e : cellsAll ((a :: l).map pv) = (pv a).cells.toList ++ cellsAll (l.map pv) := by simp [cellsAll]
      rw [e, List.length_append, ih, Array.length_toList, pv_size, List.length_cons]; omega
  have he : c.toList = cellsAll (ps.map pv) := by
    apply List.ext_getElem?
    intro i
    rcases Nat.lt_or_ge i (ps.length * 9) with hi | hi
    · have hk : i / 9 < ps.length := by omega
      have hj : i % 9 < 9 := by omega
      have q := h3 (i / 9) (i % 9) hk hj
      have e : i / 9 * 9 + i % 9 = i := by omega
      have r := cellsAll_get (n := 9) (ks := ps.map pv) (i := i / 9) (j := i % 9) (x := pv (ps.getD (i / 9) (false, 0, 0))) (fun v hv => by obtain ⟨x, _, rfl⟩ := List.mem_map.1 hv; rfl) (by rw [List.getElem?_map, List.getElem?_eq_getElem hk, List.getD_eq_getElem?_getD, List.getElem?_eq_getElem hk]; rfl) hj
      rw [e] at q r
      rw [Array.getElem?_toList, q, r]
    · rw [List.getElem?_eq_none (by rw [Array.length_toList, h2]; exact hi), List.getElem?_eq_none (by rw [hl]; exact hi)]
  exact ⟨hl, .inr ⟨ga, ps.length, c, rfl, Nat.zero_le _, h1, Nat.le_refl _, by unfold maxLen; omega, h2, by rw [← he, List.take_of_length_le (by rw [Array.length_toList, h2]; exact Nat.le_refl _)]⟩⟩

/- How rules lie in memory. -/
structure RulesIn (w : World) (g o n : Nat) (rs : Nat → ByteArray) : Prop where
  lt : g < w.heap.size
  at_ : ∀ i, i < n → w.cell? ⟨g, o + i, none⟩ = some (.string (rs i))
theorem RulesIn.kp {w w' : World} {g o n : Nat} {rs : Nat → ByteArray} (h : RulesIn w g o n rs) (hk : Kp [] w w') : RulesIn w' g o n rs :=
  ⟨by have := hk.size; have := h.lt; omega, fun i hi => by rw [bkeepc' hk h.lt]; exact h.at_ i hi⟩
/- A lexer with a table. -/
structure LexAt (w : World) (lb : Nat) (U : Tab) : Prop where
  lex : ∃ vn va, w.heap[lb]? = some (.cells (tabArr (clArr U.cls 256) vn va) 56 (0, 0)) ∧ TabR w vn va U
end Go.Proofs.Ytbjdkbcfpmeneaa
