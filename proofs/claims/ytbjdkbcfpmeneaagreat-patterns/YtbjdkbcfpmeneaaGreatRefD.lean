/- What is proved here: the document's reader, whole: what its Read answers at every pattern. -/
import Derived.Test.YtbjdkbcfpmeneaaGreatRows
import Derived.Test.YtbjdkbcfpmeneaaGreatRefC
import Derived.Test.YtbjdkbcfpmeneaaGreatRef7
import Derived.Test.YtbjdkbcfpmeneaaGreatRef8
import Derived.Test.YtbjdkbcfpmeneaaGreatRef9
namespace Go.Proofs.YtbjdkbcfpmeneaaGreat
set_option linter.unusedVariables false
set_option linter.unusedSimpArgs false
open Go.RowKit

theorem rall_code (s : ByteArray) (hz : Nz s) (hs : s.size ≤ 16) (r : Nat) : ∀ n,
    (∀ (i : Nat) (nv : Value) (ns : List ND) (Ls : List Lang) (w : World), RSt w s i 0 0 r nv ns → TrOk w ns Ls → i < s.size → 2 * (s.size - i) + 1 ≤ n → gt s i ≠ 124 → gt s i ≠ 41 → ns.length + 2 * (s.size - i) ≤ 800 → Calls Tryz.prog 50 #[.pointer (some ⟨r, 0, none⟩)] w (RRP (pp s n 2 lEps i) 0 s i r nv ns Ls w)) ∧
    (∀ (i : Nat) (nv : Value) (ns : List ND) (Ls : List Lang) (w : World), RSt w s i 0 0 r nv ns → TrOk w ns Ls → i ≤ s.size → 2 * (s.size - i) + 2 ≤ n → ns.length + 2 * (s.size - i) ≤ 800 → Calls Tryz.prog 35 #[.pointer (some ⟨r, 0, none⟩)] w (RRP (pp s n 1 lEps i) 1 s i r nv ns Ls w)) := by
  intro n
  induction n using Nat.strongRecOn with
  | ind n ih =>
    refine ⟨fun i nv ns Ls w h t hi hf h1 h2 hn => ?_, fun i nv ns Ls w h t hi hf hn => ?_⟩
    · obtain ⟨k, rfl⟩ : ∃ k, n = k + 1 := ⟨n - 1, by omega⟩
      have h0 : gt s i ≠ 0 := fun e => by have := (hz i).1 e; omega
      by_cases g1 : gt s i = 40
      · refine ratom_paren s i r nv ns Ls (aR s k (i + 1)) lEps w h t hi hs g1 (fun w' h' t' => ?_) ?_ _ (atom_aR s k i lEps g1)
        · exact ralt_code s k (i + 1) r nv ns Ls w' _ rfl h' t' hz hs hi (by omega) (by omega) (fun m hm j nv' ns' Ls' w'' hj hfu hij hl h'' t'' => (ih m (by omega)).2 j nv' ns' Ls' w'' h'' t'' hj hfu (by omega))
        · rcases aR_shape s hz k (i + 1) hi with ⟨a1, a2, a3, a4, _⟩ | a
          · exact .inl ⟨a1, a2, a3, a4⟩
          · exact .inr a
      · by_cases g2 : gt s i = 91
        · exact ratom_set s i r nv ns Ls w h t hi hs (by omega) g2 hz lEps _ (by rw [pp_atom, if_neg g1, if_pos g2])
        · by_cases g3 : gt s i = 46
          · rw [pp_atom, if_neg g1, if_neg g2, if_pos g3]; exact ratom_dot s i r nv ns Ls w h t hi hs (by omega) g3
          · by_cases g4 : gt s i = 92
            · rw [pp_atom, if_neg g1, if_neg g2, if_neg g3, if_pos g4]
              by_cases g5 : gt s (i + 1) = 0
              · rw [if_pos g5]; exact ratom_escEnd s i r nv ns Ls w h t hi hs (by omega) g4 g5 lEps
              · rw [if_neg g5]; exact ratom_esc s i r nv ns Ls w h t hi hs (by omega) g4 g5
            · rw [pp_atom, if_neg g1, if_neg g2, if_neg g3, if_neg g4]
              by_cases g5 : gt s i = 42 ∨ gt s i = 43 ∨ gt s i = 63 ∨ gt s i = 93
              · rw [if_pos g5]; exact ratom_bad s i r nv ns Ls w h t hi hs (by omega) g5 lEps
              · rw [if_neg g5]; exact ratom_byte s i r nv ns Ls w h t hi hs (by omega) g1 g2 g3 g4 (by omega) (by omega) (by omega) (by omega)
    · exact rcat_code s n i r nv ns Ls w _ rfl h t hz hs hi hf hn (fun m hm j nv' ns' Ls' w' hj hfu q1 q2 hij hl h' t' => (ih m hm).1 j nv' ns' Ls' w' h' t' hj hfu q1 q2 (by omega))

/- A tree in its block, as Read hands it out. -/
structure TreeAt (w : World) (r k : Nat) (L : Lang) : Prop where
  ex : ∃ (s : ByteArray) (i e pl : Int) (nv : Value) (ns : List ND) (Ls : List Lang), w.heap[r]? = some (rrO s i e pl nv k) ∧ w.ownsRow 0 104 4 nv ns.length (flatN ns) ∧ nv.ownBlock ≠ some r ∧ TrOk w ns Ls ∧ k < ns.length ∧ Ls.getD k lNone = L

def RReadPost (R : PR Lang) (w : World) (x : Ending) (w' : World) : Prop :=
  Kp [] w w' ∧ ((R.err ≠ 0 ∧ x = .returned (.tuple #[.pointer none, .int .i64 R.err, .int .i64 R.pl])) ∨
    (R.err = 0 ∧ R.pl = 0 ∧ ∃ r k, x = .returned (.tuple #[.pointer (some ⟨r, 4, none⟩), .int .i64 0, .int .i64 0]) ∧ TreeAt w' r k R.v))

set_option maxRecDepth 100000 in
set_option maxHeartbeats 1000000 in
theorem rread_long (s : ByteArray) (w : World) (h : 16 < s.size) : Calls Tryz.prog 11 #[.string s] w (RReadPost (readW s) w) := by
  have hR : Hid (readW s = ⟨2, 0, 0, lEps⟩) := by show _ = _; rw [readW, if_pos h]
  have q : (16 : Int) < s.size := by omega
  clear h
  go_enter Tryz.func11, Tryz.ntmps11
  go_wp2
  refine bodyPost_ret (v := .tuple #[.pointer none, .int .i64 2, .int .i64 0]) ?_ rfl ⟨Kp.refl _ _, .inl ⟨by rw [hR.out]; decide, by rw [hR.out]⟩⟩
  simp [results, Tryz.results11, go_sem]

set_option maxRecDepth 100000 in
set_option maxHeartbeats 4000000 in
theorem rread_rest (s : ByteArray) (w : World) (hs : s.size ≤ 16) : Calls Tryz.prog 11 #[.string s] w (RReadPost (readW s) w) := by
  have q : (s.size : Int) ≤ 16 := by omega
  have hR1 : Hid (∀ k, fb s s.size 0 = some k → readW s = ⟨3, k, 0, lEps⟩) := readW_byte s hs
  have hR2 : Hid (fb s s.size 0 = none → readW s = if (aR s 40 0).err ≠ 0 then aR s 40 0 else if (aR s 40 0).j = s.size then aR s 40 0 else ⟨5, (aR s 40 0).j, 0, lEps⟩) := readW_none s hs
  generalize readW s = R at *
  go_enter Tryz.func11, Tryz.ntmps11
  go_wp2_with fail
  go_loopw [5] (fun i w' => ∃ k : Nat, k ≤ s.size ∧ i = .int .i64 k ∧ w' = w ∧ fb s s.size 0 = fb s (s.size - k) k)
    (fun i _ => s.size - (intOf i).toNat)
  case atStart => exact ⟨0, by omega, rfl, rfl, rfl⟩
  case round =>
    obtain ⟨k, hk, rfl, rfl, hfb⟩ := hrel
    by_cases hlt : k < s.size
    · have hk' : (k : Int) < s.size := by omega
      have hg := gt_at s k hlt
      have hF : fb s (s.size - k) k = if gt s k < 32 ∨ 126 < gt s k then some k else fb s (s.size - (k + 1)) (k + 1) := by
        rw [show s.size - k = (s.size - (k + 1)) + 1 by omega, fb]
      rw [hg] at hF
      have HF : Hid _ := hfb.trans hF
      clear hfb hF hg
      by_cases b1 : s[k].toNat < 32
      · have b1' : (s[k].toNat : Int) < 32 := by omega
        have HB := hide b1
        clear b1
        go_wp2
        have hRk : R = ⟨3, k, 0, lEps⟩ := hR1.out k (by rw [HF.out, if_pos (by have := HB.out; omega)])
        refine bodyPost_ret (v := .tuple #[.pointer none, .int .i64 3, .int .i64 k]) ?_ rfl ⟨Kp.refl _ _, .inl ⟨by rw [hRk]; simp, by rw [hRk]⟩⟩
        simp [results, Tryz.results11, go_sem]
      · have b1' : (32 : Int) ≤ s[k].toNat := by omega
        have HB := hide b1
        clear b1
        by_cases b2 : 126 < s[k].toNat
        · have b2' : (126 : Int) < s[k].toNat := by omega
          have HB2 := hide b2
          clear b2
          go_wp2
          have hRk : R = ⟨3, k, 0, lEps⟩ := hR1.out k (by rw [HF.out, if_pos (by have := HB2.out; omega)])
          refine bodyPost_ret (v := .tuple #[.pointer none, .int .i64 3, .int .i64 k]) ?_ rfl ⟨Kp.refl _ _, .inl ⟨by rw [hRk]; simp, by rw [hRk]⟩⟩
          simp [results, Tryz.results11, go_sem]
        · have b2' : (s[k].toNat : Int) ≤ 126 := by omega
          have HB2 := hide b2
          clear b2
          go_wp2
          refine ⟨⟨k + 1, by omega, by go_num, trivial, ?_⟩, by simp [intOf]; omega⟩
          rw [HF.out, if_neg (by have := HB.out; have := HB2.out; omega)]
    · have hkN : k = s.size := by omega
      subst hkN
      rw [Nat.sub_self] at hfb
      have HF : Hid (fb s s.size 0 = none) := hfb
      clear hfb hlt
      have hz : Nz s := nz_of_fb s HF.out
      go_upto_region 9 with fail
      have kR : Kp [] wr (wr.alloc (rrO s 0 0 0 (.slice none 0 0) 0)) := (Kp.refl _ _).alloc _
      have S1 : RSt (wr.alloc (rrO s 0 0 0 (.slice none 0 0) 0)) s (0 : Nat) 0 0 wr.heap.size (.slice none 0 0) [] := ⟨by rw [blk_alloc, if_pos rfl]; rfl, ⟨rfl, .inl ⟨rfl, rfl⟩⟩, by simp [Value.ownBlock]⟩
      have T1 : TrOk (wr.alloc (rrO s 0 0 0 (.slice none 0 0) 0)) [] [] := ⟨rfl, fun k nd h => by simp at h⟩
      have KR := hide kR
      have SH1 := hide S1
      have TH1 := hide T1
      clear kR S1 T1
      generalize wr.alloc (rrO s 0 0 0 (.slice none 0 0) 0) = W1 at *
      generalize hr : wr.heap.size = r at *
      have HRr := hide hr
      clear hr
      go_wp2_with fail
      refine (ralt_code s 40 0 r _ [] [] _ (aR s 40 0) rfl (by exact SH1.out) (by exact TH1.out) hz hs (by omega) (by omega) (by simp; omega) (fun m hm j nv' ns' Ls' w'' hj hfu hij hl h'' t'' => (rall_code s hz hs r m).2 j nv' ns' Ls' w'' h'' t'' hj hfu (by simp at hl; omega))).mono ?_
      rintro _ w2 ⟨k, iv, nv2, ns2, rfl, s2, k2, fr2, len2, ok2⟩
      have hRR := hide (hR2.out HF.out)
      have hsh := hide (aR_shape s hz 40 0 (by omega))
      generalize aR s 40 0 = A at *
      have K2 : Hid (Kp [] wr w2) := KR.out.trans k2 (by intro y hy; have := rfoot_mem.1 hy; simp [Value.ownBlock] at this; right; have := HRr.out; omega)
      have S2 := hide s2
      have OK2 := hide ok2
      obtain ⟨c0, c1, c2, c3, c4, c5, f0, f1, f2, f3, f4, f5⟩ := six s2.rd
      have rd3 : (w2.setCell ⟨r, 5, none⟩ (.int .i64 k)).heap[r]? = some (rrO s iv A.err A.pl nv2 k) := by rw [blk_set, if_pos rfl, s2.rd]; simp [setObj_cells]
      have K3 : Hid (Kp [r] w2 (w2.setCell ⟨r, 5, none⟩ (.int .i64 k))) := (Kp.refl _ _).set (.inl (by simp)) _ _
      have RD3 := hide rd3
      clear s2 k2 fr2 ok2 rd3
      go_upto_region 10 with fail
      generalize w2.setCell ⟨r, 5, none⟩ (.int .i64 k) = W3 at *
      have K3' : Hid (Kp [] wr W3) := K2.out.trans K3.out (by intro y hy; simp at hy; right; have := HRr.out; omega)
      clear c0 c1 c2 c3 c4 c5 f0 f1 f2 f3 f4 f5
      rcases hsh.out with ⟨a1, a2, a3, a4, a5⟩ | ⟨a1, a2⟩
      · obtain ⟨hiv, Lm, more, hmo, hfr, tr, hk2, hv2⟩ := OK2.out a1
        have rd3 := RD3.out
        rw [a1, a2, hiv] at rd3
        have RD4 := hide rd3
        obtain ⟨c0, c1, c2, c3, c4, c5, f0, f1, f2, f3, f4, f5⟩ := six rd3
        have TR3 := hide (tr.keep K3.out S2.out.farR)
        have OW3 := hide (owns_kp S2.out.own K3.out (fun g hg hm => by simp at hm; subst hm; exact S2.out.ne hg))
        have HK2 := hide hk2
        have HV2 := hide hv2
        clear rd3 tr hk2 hv2 hmo hfr hiv
        go_wp2_with fail
        refine (rnext_any s A.j r 0 k nv2 _ (by exact RD4.out)).mono ?_
        rintro _ w4 ⟨rfl, n4, rfl⟩
        by_cases hj : A.j = s.size
        · have g0 : gt s A.j = 0 := gt_out s A.j (by omega)
          rw [g0]
          have hRk : R = A := by rw [hRR.out, if_neg (by simp [a1]), if_pos hj]
          clear g0
          go_wp2
          refine bodyPost_ret (v := .tuple #[.pointer (some ⟨r, 4, none⟩), .int .i64 0, .int .i64 0]) ?_ rfl ⟨K3'.out.drewN n4, .inr ⟨by rw [hRk]; exact a1, by rw [hRk]; exact a2, r, k, rfl, ⟨s, A.j, 0, 0, nv2, ns2, _, RD4.out, OW3.out, S2.out.ne, TR3.out.keep ((Kp.refl [] W3).drewN n4) (Far.nil _), HK2.out, by rw [hRk]; exact HV2.out⟩⟩⟩
          simp [results, Tryz.results11, go_sem]
        · have g0 : gt s A.j ≠ 0 := fun e => by have := (hz A.j).1 e; omega
          have q0 : ((gt s A.j : Int) != 0) = true := by simp; omega
          have hRk : R = ⟨5, A.j, 0, lEps⟩ := by rw [hRR.out, if_neg (by simp [a1]), if_neg hj]
          have HRK := hide hRk
          clear g0 hRk
          go_wp2_with fail
          refine (rfail_first s A.j r 0 k 5 A.j nv2 _ (by exact RD4.out)).mono ?_
          rintro _ w5 ⟨rfl, h5, k5⟩
          have K5 : Hid (Kp [] wr w5) := K3'.out.trans k5.ofDrewN (by intro y hy; simp at hy; right; have := HRr.out; omega)
          obtain ⟨c0, c1, c2, c3, c4, c5, f0, f1, f2, f3, f4, f5⟩ := six h5
          clear h5 k5
          go_wp2_with fail
          go_quiet (fail)
          go_wp2
          refine bodyPost_ret (v := .tuple #[.pointer none, .int .i64 5, .int .i64 A.j]) ?_ rfl ⟨K5.out.drewN _, .inl ⟨by rw [HRK.out]; simp, by rw [HRK.out]⟩⟩
          simp [results, Tryz.results11, go_sem]
      · have HE := hide a1
        have hRk : R = A := by rw [hRR.out, if_pos a1]
        have HRK := hide hRk
        have hne : (A.err != 0) = true := by simp [a1]
        obtain ⟨c0, c1, c2, c3, c4, c5, f0, f1, f2, f3, f4, f5⟩ := six RD3.out
        clear a1 hRk
        go_wp2_with fail
        refine (rnext_bad s iv r A.err A.pl k nv2 _ (by exact RD3.out) HE.out).mono ?_
        rintro _ w4 ⟨rfl, n4, rfl⟩
        go_wp2_with fail
        go_quiet (fail)
        go_wp2
        refine bodyPost_ret (v := .tuple #[.pointer none, .int .i64 A.err, .int .i64 A.pl]) ?_ rfl ⟨(K3'.out.drewN _).drewN _, .inl ⟨by rw [HRK.out]; exact HE.out, by rw [HRK.out]⟩⟩
        simp [results, Tryz.results11, go_sem]

theorem rread_code (s : ByteArray) (w : World) : Calls Tryz.prog 11 #[.string s] w (RReadPost (readW s) w) := by
  rcases Nat.lt_or_ge 16 s.size with hs | hs
  · exact rread_long s w hs
  · exact rread_rest s w hs
end Go.Proofs.YtbjdkbcfpmeneaaGreat
