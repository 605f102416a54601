/- What is proved here: what set of the document's reader does. -/
import Derived.Test.YtbjdkbcfpmeneaaGreatRows
import Derived.Test.YtbjdkbcfpmeneaaGreatRef3
import Derived.Test.YtbjdkbcfpmeneaaGreatAtom5
namespace Go.Proofs.YtbjdkbcfpmeneaaGreat
set_option linter.unusedVariables false
set_option linter.unusedSimpArgs false
open Go.RowKit

theorem spanN_below (a : Nat) : ∀ k, k ≤ a → spanN a k = 0 := spanN_self a
theorem spanN_step (a k : Nat) (h : a ≤ k) : spanN a (k + 1) = spanN a k ||| (1 <<< k) := by rw [spanN, if_pos h]

/- What the loop of set keeps. -/
def SetRel (RR : PR Nat) (s : ByteArray) (r : Nat) (nv : Value) (b : Nat) (w : World) (f : Value) (w' : World) : Prop :=
  ∃ l : List Bool, l.length = 256 ∧ w'.heap[b]? = some (boolsO l) ∧ Kp [r] w w' ∧
    ((∃ (f0 : Bool) (j n acc : Nat), f = .bool f0 ∧ l = bitsL acc ∧ w'.heap[r]? = some (rrO s j 0 0 nv 0) ∧ j ≤ s.size ∧ s.size - j < n ∧ (f0 = true → RR = pItems s n acc j) ∧ (f0 = false → RR = pAfter s n acc j ∧ gt s j ≠ 0)) ∨
     (∃ iv : Int, f = .bool false ∧ RR.err ≠ 0 ∧ w'.heap[r]? = some (rrO s iv RR.err RR.pl nv 0)))

def setMu (s : ByteArray) (r : Nat) (w' : World) : Nat :=
  if intOf ((w'.cell? ⟨r, 2, none⟩).getD undef) = 0 then s.size + 1 - (intOf ((w'.cell? ⟨r, 1, none⟩).getD undef)).toNat else 0
theorem setMu_run {s : ByteArray} {r : Nat} {w : World} {j : Nat} {nv : Value} (h : w.heap[r]? = some (rrO s j 0 0 nv 0)) : setMu s r w = s.size + 1 - j := by
  obtain ⟨_, c1, c2, _⟩ := six h
  simp [setMu, c1, c2, intOf]
theorem setMu_bad {s : ByteArray} {r : Nat} {w : World} {i e pl : Int} {nv : Value} (h : w.heap[r]? = some (rrO s i e pl nv 0)) (he : e ≠ 0) : setMu s r w = 0 := by
  obtain ⟨_, _, c2, _⟩ := six h
  simp [setMu, c2, intOf, he]

def RSetPost (R : PR Nat) (s : ByteArray) (r : Nat) (nv : Value) (w : World) (x : Ending) (w' : World) : Prop :=
  x = .returned (.slice (some ⟨w.heap.size, 0, none⟩) 256 256) ∧ ∃ (iv : Int) (l : List Bool), l.length = 256 ∧ w'.heap[w.heap.size]? = some (boolsO l) ∧ w'.heap[r]? = some (rrO s iv R.err R.pl nv 0) ∧ Kp [r] w w' ∧ (R.err = 0 → iv = R.j ∧ l = bitsL R.v)

theorem bitsL_comp (s : Nat) : (bitsL s).map (fun b => !b) = bitsL (comp s) := by
  apply List.ext_getElem
  · simp only [List.length_map, bitsL_len]
  · intro i h1 h2
    have hi : i < 256 := by rw [bitsL_len] at h2; exact h2
    simp only [bitsL, List.getElem_map, List.getElem_range, comp_bit, hi, decide_true, Bool.true_and]

/- The first k of a row turned round. -/
def invTo (l : List Bool) : Nat → List Bool
  | 0 => l
  | k + 1 => (invTo l k).set k (!(l.getD k false))
theorem invTo_len (l : List Bool) : ∀ k, (invTo l k).length = l.length
  | 0 => rfl
  | k + 1 => by rw [invTo, List.length_set]; exact invTo_len l k
theorem invTo_get (l : List Bool) : ∀ k q, k ≤ l.length → q < l.length → (invTo l k).getD q false = if q < k then !(l.getD q false) else l.getD q false := by
  intro k
  induction k with
  | zero => intro q _ _; simp [invTo]
  | succ k ih =>
    intro q hk hq
    have hl := invTo_len l k
    rw [invTo]
    by_cases h : q = k
    · subst h
      rw [List.getD_eq_getElem?_getD, List.getElem?_set_self (by omega), Option.getD_some, if_pos (by omega)]
    · rw [List.getD_eq_getElem?_getD, List.getElem?_set_ne (fun e => h e.symm), ← List.getD_eq_getElem?_getD, ih q (by omega) hq]
      by_cases h2 : q < k
      · rw [if_pos h2, if_pos (by omega)]
      · rw [if_neg h2, if_neg (by omega)]
theorem invTo_all (l : List Bool) : invTo l l.length = l.map (fun b => !b) := by
  apply List.ext_getElem
  · rw [invTo_len, List.length_map]
  · intro i h1 h2
    rw [invTo_len] at h1
    have := invTo_get l l.length i (Nat.le_refl _) h1
    rw [if_pos h1, List.getD_eq_getElem?_getD, List.getElem?_eq_getElem (by rw [invTo_len]; exact h1), Option.getD_some, List.getD_eq_getElem?_getD, List.getElem?_eq_getElem h1, Option.getD_some] at this
    rw [List.getElem_map]; exact this

set_option maxRecDepth 100000 in
set_option maxHeartbeats 16000000 in
theorem rset_plain (s : ByteArray) (i r : Nat) (nv : Value) (w : World) (h : w.heap[r]? = some (rrO s i 0 0 nv 0)) (hz : Nz s) (hi : i ≤ s.size) (hs : s.size ≤ 16) (hg : gt s i ≠ 94) :
    Calls Tryz.prog 77 #[.pointer (some ⟨r, 0, none⟩)] w (RSetPost (pSet s i) s r nv w) := by
  have H := hide h
  have hr := lt_of_block h
  have hrb : w.heap.size ≠ r := by omega
  have hm := run_make_256
  have hq : Hid (pSet s i = pItems s 20 0 i) := by show _ = _; rw [pSet, if_neg hg]
  have q94 : ((gt s i : Int) == 94) = false := by simp; omega
  generalize pSet s i = RS at *
  generalize hQ : pItems s 20 0 i = RR at *
  have HQ := hide hQ
  clear h hQ
  go_enter Tryz.func77, Tryz.ntmps77
  go_upto_region 2 with fail
  have kW : Kp [r] w (w.alloc (boolsO (fl 256))) := (Kp.refl _ _).alloc _
  have bW : (w.alloc (boolsO (fl 256))).heap[w.heap.size]? = some (boolsO (fl 256)) := by rw [blk_alloc, if_pos rfl]
  have hW : (w.alloc (boolsO (fl 256))).heap[r]? = some (rrO s i 0 0 nv 0) := by rw [blk_alloc, if_neg (Nat.ne_of_lt hr)]; exact H.out
  generalize w.alloc (boolsO (fl 256)) = W at *
  have KW := hide kW
  have BW := hide bW
  have HW := hide hW
  obtain ⟨wq0, wq1, wq2, wq3, wq4, wq5, _, wqf1, _⟩ := six hW
  clear kW bW hW hm
  go_wp2_with fail
  refine (rnext_any s i r 0 0 nv _ (by exact HW.out)).mono ?_
  rintro _ w1 ⟨rfl, n1, rfl⟩
  go_wp2_with fail
  clear wq0 wq1 wq2 wq3 wq4 wq5 wqf1
  go_loopw [5] (fun f w' => SetRel RR s r nv w.heap.size w f w') (fun _ w' => setMu s r w')
  case atStart =>
    exact ⟨fl 256, fl_len _, BW.out, KW.out.drewN n1, .inl ⟨true, i, 20, 0, rfl, bitsL_zero.symm, HW.out, hi, by omega, fun _ => HQ.out.symm, fun e => by cases e⟩⟩
  case round =>
    obtain ⟨l, hl, bb, kk, ⟨f0, j, n, acc, rfl, hla, rd, hj, hn, t1, t2⟩ | ⟨iv, rfl, he, rd⟩⟩ := hrel
    · obtain ⟨m, rfl⟩ : ∃ m, n = m + 1 := ⟨n - 1, by omega⟩
      have MU : Hid (setMu s r wr = s.size + 1 - j) := setMu_run rd
      cases f0
      · obtain ⟨tR, tg⟩ := t2 rfl
        have RD0 := hide rd
        obtain ⟨zq0, zq1, zq2, zq3, zq4, zq5, _, zqf1, zqf2, zqf3, _, _⟩ := six rd
        have BB0 := hide bb
        have KK0 := hide kk
        clear rd bb kk t1 t2
        go_wp2_with fail
        refine (rnext_any s j r 0 0 nv _ (by exact RD0.out)).mono ?_
        rintro _ w1 ⟨rfl, n0, rfl⟩
        by_cases g93 : gt s j = 93
        · rw [g93]
          have hRk : RR = good (j + 1) acc := by rw [tR, pAfter, if_neg tg, if_pos g93]
          have HRK := hide hRk
          have hwj := wrap1 j (by omega)
          clear g93 tR tg hRk
          go_wp2
          go_ret
          refine ⟨rfl, ((j + 1 : Nat) : Int), l, hl, ?_, ?_, (KK0.out.drewN n0).set (.inl (by simp)) _ _, fun _ => ?_⟩
          · rw [blk_set, if_neg hrb]; exact BB0.out
          · rw [hq.out, HRK.out]; exact rset1 (j := (j + 1 : Nat)) (by exact RD0.out)
          · rw [hq.out, HRK.out]; exact ⟨rfl, hla⟩
        · have g93' : ((gt s j : Int) != 93) = true := by simp; omega
          have HPI0 : Hid (RR = if (pItem s j).err ≠ 0 then pItem s j else pAfter s m (acc ||| (pItem s j).v) (pItem s j).j) := by
            show _ = _; rw [tR, pAfter, if_neg tg, if_neg g93, pItems_succ]
          have RD : Hid ((wr.drewN n0).heap[r]? = some (rrO s j 0 0 nv 0)) := RD0.out
          have BB : Hid ((wr.drewN n0).heap[w.heap.size]? = some (boolsO l)) := BB0.out
          have KK : Hid (Kp [r] w (wr.drewN n0)) := KK0.out.drewN n0
          clear zq0 zq1 zq2 zq3 zq4 zq5 zqf1 zqf2 zqf3
          clear g93 tR tg
          obtain ⟨zq0, zq1, zq2, zq3, zq4, zq5, _, zqf1, zqf2, zqf3, _, _⟩ := six RD.out
          go_wp2_with fail
          refine (rone_code s j r nv _ (by exact RD.out) hj hs).mono ?_
          rintro _ w2 ⟨v, i2, rfl, hv, h2, k2, ok2⟩
          have sh := pOne_shape s j hz
          have K2 : Hid (Kp [r] w w2) := KK.out.trans k2 (by simp)
          have B2 := hide (k2.keep BB.out (by simp [hrb]))
          have hIt : pItem s j = if (pOne s j).err ≠ 0 then pOne s j else if gt s (pOne s j).j = 45 then (if (pOne s (((pOne s j).j) + 1)).err ≠ 0 then pOne s ((pOne s j).j + 1) else if (pOne s ((pOne s j).j + 1)).v < (pOne s j).v then bad s 6 j 0 else good (pOne s ((pOne s j).j + 1)).j (spanN (pOne s j).v ((pOne s ((pOne s j).j + 1)).v + 1))) else good (pOne s j).j (spanN (pOne s j).v ((pOne s j).v + 1)) := rfl
          generalize pOne s j = A at *
          have HIT := hide hIt
          clear zq0 zq1 zq2 zq3 zq4 zq5 zqf1 zqf2 zqf3
          clear hIt k2 BB KK
          rcases sh with ⟨a1, a2, a3, a4, a5⟩ | ⟨a1, a2, a3⟩
          · obtain ⟨e1, e2⟩ := ok2 a1
            subst e1
            rw [a1, a2, e2] at h2
            have H2 := hide h2
            obtain ⟨zq0, zq1, zq2, zq3, zq4, zq5, _, zqf1, zqf2, zqf3, _, _⟩ := six h2
            clear h2 ok2 e2
            go_wp2_with fail
            refine (rnext_any s A.j r 0 0 nv _ (by exact H2.out)).mono ?_
            rintro _ w3 ⟨rfl, n3, rfl⟩
            by_cases g45 : gt s A.j = 45
            · rw [g45]
              have hAj : A.j + 1 ≤ s.size := by have := hz A.j; omega
              have hwA := wrap1 A.j (by omega)
              have H3 : Hid (((w2.drewN n3).setCell ⟨r, 1, none⟩ (.int .i64 (A.j + 1 : Nat))).heap[r]? = some (rrO s (A.j + 1 : Nat) 0 0 nv 0)) := rset1 (by exact H2.out)
              have K3 : Hid (Kp [r] w ((w2.drewN n3).setCell ⟨r, 1, none⟩ (.int .i64 (A.j + 1 : Nat)))) := (K2.out.drewN n3).set (.inl (by simp)) _ _
              have B3 : Hid (((w2.drewN n3).setCell ⟨r, 1, none⟩ (.int .i64 (A.j + 1 : Nat))).heap[w.heap.size]? = some (boolsO l)) := by show _ = _; rw [blk_set, if_neg hrb]; exact B2.out
              have HG := hide g45
              clear g45
              go_wp2_with fail
              refine (rone_code s (A.j + 1) r nv _ (by exact H3.out) hAj hs).mono ?_
              rintro _ w4 ⟨v4, i4, rfl, hv4, h4, k4, ok4⟩
              have sh4 := pOne_shape s (A.j + 1) hz
              have KK : Hid (Kp [r] w w4) := K3.out.trans k4 (by simp)
              have BB := hide (k4.keep (by exact B3.out) (by simp [hrb]))
              generalize pOne s (A.j + 1) = B at *
              clear zq0 zq1 zq2 zq3 zq4 zq5 zqf1 zqf2 zqf3
              clear k4 K3 B3 H3
              rcases sh4 with ⟨b1, b2, b3, b4, b5⟩ | ⟨b1, b2, b3⟩
              · obtain ⟨e1, e2⟩ := ok4 b1
                subst e1
                rw [b1, b2, e2] at h4
                have H4 := hide h4
                obtain ⟨zq0, zq1, zq2, zq3, zq4, zq5, _, zqf1, zqf2, zqf3, _, _⟩ := six h4
                clear h4 ok4 e2
                by_cases hlt : B.v < A.v
                · have hlt' : (B.v : Int) < A.v := by omega
                  have hI : pItem s j = bad s 6 j 0 := by rw [HIT.out, if_neg (by simp [a1]), if_pos HG.out, if_neg (by simp [b1]), if_pos hlt]
                  have hRk : RR = bad s 6 j 0 := by rw [HPI0.out, hI, if_pos (by simp [bad])]
                  clear hI
                  have RE : Hid (RR.err = 6) := by show _ = _; rw [hRk]; rfl
                  have RP : Hid (RR.pl = j) := by show _ = _; rw [hRk]; rfl
                  have HE : Hid ((6 : Int) ≠ 0) := by show _ ≠ _; decide
                  clear hRk hlt
                  go_wp2_with fail
                  refine (rfail_first s B.j r 0 0 6 j nv _ (by exact H4.out)).mono ?_
                  rintro _ w5 ⟨rfl, h5, k5⟩
                  have HH := hide h5
                  have KK5 : Hid (Kp [r] w w5) := KK.out.trans k5 (by simp)
                  have BB5 := hide (k5.keep BB.out (by simp [hrb]))
                  clear KK BB
                  have KK := KK5
                  have BB := BB5
                  clear zq0 zq1 zq2 zq3 zq4 zq5 zqf1 zqf2 zqf3
                  obtain ⟨zq0, zq1, zq2, zq3, zq4, zq5, _, zqf1, zqf2, zqf3, _, _⟩ := six HH.out
                  have hle' : ¬ ((A.v : Int) ≤ B.v) := by omega
                  clear h5 k5 hlt'
                  go_wp2_with fail
                  go_rounds 1
                  refine ⟨⟨l, hl, BB.out, KK.out, .inr ⟨_, rfl, by rw [RE.out]; exact HE.out, by rw [RE.out, RP.out]; exact HH.out⟩⟩, ?_⟩
                  rw [MU.out, setMu_bad HH.out HE.out]; omega
                · have hPv : A.v ≤ B.v := by omega
                  have HPI : Hid (RR = pAfter s m (acc ||| spanN A.v (B.v + 1)) B.j) := by
                    have hI : pItem s j = good B.j (spanN A.v (B.v + 1)) := by rw [HIT.out, if_neg (by simp [a1]), if_pos HG.out, if_neg (by simp [b1]), if_neg hlt]
                    show _ = _; rw [HPI0.out, hI, if_neg (by simp [good])]; rfl
                  have hlt' : ¬ ((B.v : Int) < A.v) := by omega
                  have hP1 : j < B.j := by omega
                  have hP2 : B.j ≤ s.size := b4
                  have HH := H4
                  have hhi : B.v < 256 := b5
                  rw [hla] at BB
                  clear hlt HPI0 HIT
                  generalize B.j = P at *
                  generalize hlo : A.v = lo at *
                  generalize hhiE : B.v = hi at *
                  go_wp2_with fail
                  go_loopw [9] (fun c w' => ∃ k : Nat, lo ≤ k ∧ k ≤ hi + 1 ∧ c = .int .i64 k ∧ w'.heap[w.heap.size]? = some (boolsO (bitsL (acc ||| spanN lo k))) ∧ w'.heap[r]? = some (rrO s P 0 0 nv 0) ∧ Kp [r] w w') (fun c _ => hi + 1 - (intOf c).toNat)
                  case atStart =>
                    refine ⟨lo, Nat.le_refl _, by omega, by go_num, ?_, HH.out, KK.out⟩
                    rw [spanN_below lo lo (Nat.le_refl _), Nat.or_zero]; exact BB.out
                  case round =>
                    clear zq0 zq1 zq2 zq3 zq4 zq5 zqf1 zqf2 zqf3
                    obtain ⟨k, hk1, hk2, rfl, bk, rk, kk⟩ := hrel
                    obtain ⟨zq0, zq1, zq2, zq3, zq4, zq5, _, zqf1, zqf2, zqf3, _, _⟩ := six rk
                    have RK := hide rk
                    have BK := hide bk
                    have KK2 := hide kk
                    clear rk kk
                    by_cases hle : k ≤ hi
                    · have ck := bcell bk k (by rw [bitsL_len]; omega)
                      have fk := bfroz bk k
                      have hle' : (k : Int) ≤ hi := by omega
                      have hk256 : (k : Int) < 256 := by omega
                      clear bk
                      go_wp2
                      refine ⟨⟨k + 1, by omega, by omega, by go_num, ?_, ?_, KK2.out.set (.inr (Nat.le_refl _)) _ _⟩, by simp [intOf]; omega⟩
                      · rw [bset BK.out k true, bitsL_set _ k (by omega), spanN_step lo k hk1, Nat.or_assoc]
                      · rw [blk_set, if_neg (Ne.symm hrb)]; exact RK.out
                    · have hkE : k = hi + 1 := by omega
                      have HKE := hide hkE
                      have hle' : ¬ ((k : Int) ≤ hi) := by omega
                      clear bk hkE
                      go_wp2_with fail
                      refine (rnext_any s P r 0 0 nv _ (by exact RK.out)).mono ?_
                      rintro _ w5 ⟨rfl, n5, rfl⟩
                      by_cases gP : gt s P = 0
                      · rw [gP]
                        have GP := hide gP
                        clear gP
                        go_wp2_with fail
                        refine (rfail_first s P r 0 0 4 s.size nv _ (by exact RK.out)).mono ?_
                        rintro _ w6 ⟨rfl, h6, k6⟩
                        have H6 := hide h6
                        have K6 : Hid (Kp [r] w w6) := (KK2.out.drewN n5).trans k6 (by simp)
                        have B6 := hide (k6.keep (by exact BK.out) (by simp [hrb]))
                        have hRk : RR = bad s 4 s.size 0 := by rw [HPI.out, pAfter, if_pos GP.out]
                        have HRK := hide hRk
                        clear h6 k6 hRk
                        go_wp2
                        refine ⟨⟨_, bitsL_len _, B6.out, K6.out, .inr ⟨_, rfl, by rw [HRK.out]; simp [bad], by rw [HRK.out]; exact H6.out⟩⟩, ?_⟩
                        rw [MU.out, setMu_bad H6.out (by decide)]; omega
                      · have gP' : ((gt s P : Int) == 0) = false := by simp; omega
                        have GP := hide gP
                        clear gP
                        go_wp2
                        refine ⟨⟨_, bitsL_len _, BK.out, KK2.out.drewN n5, .inl ⟨false, P, m, _, rfl, rfl, RK.out, hP2, by omega, (fun e => by cases e), fun _ => ⟨by rw [HPI.out, HKE.out], GP.out⟩⟩⟩, ?_⟩
                        rw [MU.out, setMu_run (by exact RK.out)]; omega
              · have hI : pItem s j = B := by rw [HIT.out, if_neg (by simp [a1]), if_pos HG.out, if_pos b1]
                have hRk : RR = B := by rw [HPI0.out, hI, if_pos b1]
                clear hI
                have RE : Hid (RR.err = B.err) := by show _ = _; rw [hRk]
                have RP : Hid (RR.pl = B.pl) := by show _ = _; rw [hRk]
                have HE := hide b1
                have HH := hide h4
                obtain ⟨zq0, zq1, zq2, zq3, zq4, zq5, _, zqf1, zqf2, zqf3, _, _⟩ := six h4
                have hbe : (B.err == 0) = false := by simp [b1]
                clear hRk h4 ok4 b1
                by_cases hle : A.v ≤ v4
                · have hle' : (A.v : Int) ≤ v4 := by omega
                  clear hle
                  go_wp2_with fail
                  go_rounds 1
                  refine ⟨⟨l, hl, BB.out, KK.out, .inr ⟨_, rfl, by rw [RE.out]; exact HE.out, by rw [RE.out, RP.out]; exact HH.out⟩⟩, ?_⟩
                  rw [MU.out, setMu_bad HH.out HE.out]; omega
                · have hle' : ¬ ((A.v : Int) ≤ v4) := by omega
                  clear hle
                  go_wp2_with fail
                  go_rounds 1
                  refine ⟨⟨l, hl, BB.out, KK.out, .inr ⟨_, rfl, by rw [RE.out]; exact HE.out, by rw [RE.out, RP.out]; exact HH.out⟩⟩, ?_⟩
                  rw [MU.out, setMu_bad HH.out HE.out]; omega
            · have g45' : ((gt s A.j : Int) == 45) = false := by simp; omega
              have HPI : Hid (RR = pAfter s m (acc ||| spanN A.v (A.v + 1)) A.j) := by
                have hI : pItem s j = good A.j (spanN A.v (A.v + 1)) := by rw [HIT.out, if_neg (by simp [a1]), if_neg g45]
                show _ = _; rw [HPI0.out, hI, if_neg (by simp [good])]; rfl
              have hP1 : j < A.j := a3
              have hP2 : A.j ≤ s.size := a4
              have HH : Hid ((w2.drewN n3).heap[r]? = some (rrO s A.j 0 0 nv 0)) := H2.out
              have KK : Hid (Kp [r] w (w2.drewN n3)) := K2.out.drewN n3
              have BB : Hid ((w2.drewN n3).heap[w.heap.size]? = some (boolsO (bitsL acc))) := by show _ = _; rw [← hla]; exact B2.out
              generalize hlo : A.v = lo at *
              have hi : Nat := lo
              clear hi g45 HPI0 HIT
              generalize A.j = P at *
              go_wp2_with fail
              go_loopw [9] (fun c w' => ∃ k : Nat, lo ≤ k ∧ k ≤ lo + 1 ∧ c = .int .i64 k ∧ w'.heap[w.heap.size]? = some (boolsO (bitsL (acc ||| spanN lo k))) ∧ w'.heap[r]? = some (rrO s P 0 0 nv 0) ∧ Kp [r] w w') (fun c _ => lo + 1 - (intOf c).toNat)
              case atStart =>
                refine ⟨lo, Nat.le_refl _, by omega, by go_num, ?_, HH.out, KK.out⟩
                rw [spanN_below lo lo (Nat.le_refl _), Nat.or_zero]; exact BB.out
              case round =>
                clear zq0 zq1 zq2 zq3 zq4 zq5 zqf1 zqf2 zqf3
                obtain ⟨k, hk1, hk2, rfl, bk, rk, kk⟩ := hrel
                obtain ⟨zq0, zq1, zq2, zq3, zq4, zq5, _, zqf1, zqf2, zqf3, _, _⟩ := six rk
                have RK := hide rk
                have BK := hide bk
                have KK2 := hide kk
                clear rk kk
                by_cases hle : k ≤ lo
                · have ck := bcell bk k (by rw [bitsL_len]; omega)
                  have fk := bfroz bk k
                  have hle' : (k : Int) ≤ lo := by omega
                  have hk256 : (k : Int) < 256 := by omega
                  clear bk
                  go_wp2
                  refine ⟨⟨k + 1, by omega, by omega, by go_num, ?_, ?_, KK2.out.set (.inr (Nat.le_refl _)) _ _⟩, by simp [intOf]; omega⟩
                  · rw [bset BK.out k true, bitsL_set _ k (by omega), spanN_step lo k hk1, Nat.or_assoc]
                  · rw [blk_set, if_neg (Ne.symm hrb)]; exact RK.out
                · have hkE : k = lo + 1 := by omega
                  have HKE := hide hkE
                  have hle' : ¬ ((k : Int) ≤ lo) := by omega
                  clear bk hkE
                  go_wp2_with fail
                  refine (rnext_any s P r 0 0 nv _ (by exact RK.out)).mono ?_
                  rintro _ w5 ⟨rfl, n5, rfl⟩
                  by_cases gP : gt s P = 0
                  · rw [gP]
                    have GP := hide gP
                    clear gP
                    go_wp2_with fail
                    refine (rfail_first s P r 0 0 4 s.size nv _ (by exact RK.out)).mono ?_
                    rintro _ w6 ⟨rfl, h6, k6⟩
                    have H6 := hide h6
                    have K6 : Hid (Kp [r] w w6) := (KK2.out.drewN n5).trans k6 (by simp)
                    have B6 := hide (k6.keep (by exact BK.out) (by simp [hrb]))
                    have hRk : RR = bad s 4 s.size 0 := by rw [HPI.out, pAfter, if_pos GP.out]
                    have HRK := hide hRk
                    clear h6 k6 hRk
                    go_wp2
                    refine ⟨⟨_, bitsL_len _, B6.out, K6.out, .inr ⟨_, rfl, by rw [HRK.out]; simp [bad], by rw [HRK.out]; exact H6.out⟩⟩, ?_⟩
                    rw [MU.out, setMu_bad H6.out (by decide)]; omega
                  · have gP' : ((gt s P : Int) == 0) = false := by simp; omega
                    have GP := hide gP
                    clear gP
                    go_wp2
                    refine ⟨⟨_, bitsL_len _, BK.out, KK2.out.drewN n5, .inl ⟨false, P, m, _, rfl, rfl, RK.out, hP2, by omega, (fun e => by cases e), fun _ => ⟨by rw [HPI.out, HKE.out], GP.out⟩⟩⟩, ?_⟩
                    rw [MU.out, setMu_run (by exact RK.out)]; omega
          · have hI : pItem s j = A := by rw [HIT.out, if_pos a1]
            have hRk : RR = A := by rw [HPI0.out, hI, if_pos a1]
            clear hI
            have RE : Hid (RR.err = A.err) := by show _ = _; rw [hRk]
            have RP : Hid (RR.pl = A.pl) := by show _ = _; rw [hRk]
            have HE := hide a1
            have H2 := hide h2
            obtain ⟨zq0, zq1, zq2, zq3, zq4, zq5, _, zqf1, zqf2, zqf3, _, _⟩ := six h2
            have hae : (A.err == 0) = false := by simp [a1]
            clear hRk h2 ok2
            go_wp2_with fail
            refine (rnext_bad s i2 r A.err A.pl 0 nv _ (by exact H2.out) HE.out).mono ?_
            rintro _ w3 ⟨rfl, n3, rfl⟩
            have HH : Hid ((w2.drewN n3).heap[r]? = some (rrO s i2 A.err A.pl nv 0)) := H2.out
            have KK : Hid (Kp [r] w (w2.drewN n3)) := K2.out.drewN n3
            have BB : Hid ((w2.drewN n3).heap[w.heap.size]? = some (boolsO l)) := B2.out
            clear a1
            go_wp2_with fail
            go_rounds 1
            refine ⟨⟨l, hl, BB.out, KK.out, .inr ⟨_, rfl, by rw [RE.out]; exact HE.out, by rw [RE.out, RP.out]; exact HH.out⟩⟩, ?_⟩
            rw [MU.out, setMu_bad HH.out HE.out]; omega
      · have tR := t1 rfl
        have HPI0 : Hid (RR = if (pItem s j).err ≠ 0 then pItem s j else pAfter s m (acc ||| (pItem s j).v) (pItem s j).j) := by
          show _ = _; rw [tR, pItems_succ]
        have RD := hide rd
        have BB := hide bb
        have KK := hide kk
        clear rd bb kk t1 t2 tR
        obtain ⟨zq0, zq1, zq2, zq3, zq4, zq5, _, zqf1, zqf2, zqf3, _, _⟩ := six RD.out
        go_wp2_with fail
        refine (rone_code s j r nv _ (by exact RD.out) hj hs).mono ?_
        rintro _ w2 ⟨v, i2, rfl, hv, h2, k2, ok2⟩
        have sh := pOne_shape s j hz
        have K2 : Hid (Kp [r] w w2) := KK.out.trans k2 (by simp)
        have B2 := hide (k2.keep BB.out (by simp [hrb]))
        have hIt : pItem s j = if (pOne s j).err ≠ 0 then pOne s j else if gt s (pOne s j).j = 45 then (if (pOne s (((pOne s j).j) + 1)).err ≠ 0 then pOne s ((pOne s j).j + 1) else if (pOne s ((pOne s j).j + 1)).v < (pOne s j).v then bad s 6 j 0 else good (pOne s ((pOne s j).j + 1)).j (spanN (pOne s j).v ((pOne s ((pOne s j).j + 1)).v + 1))) else good (pOne s j).j (spanN (pOne s j).v ((pOne s j).v + 1)) := rfl
        generalize pOne s j = A at *
        have HIT := hide hIt
        clear zq0 zq1 zq2 zq3 zq4 zq5 zqf1 zqf2 zqf3
        clear hIt k2 BB KK
        rcases sh with ⟨a1, a2, a3, a4, a5⟩ | ⟨a1, a2, a3⟩
        · obtain ⟨e1, e2⟩ := ok2 a1
          subst e1
          rw [a1, a2, e2] at h2
          have H2 := hide h2
          obtain ⟨zq0, zq1, zq2, zq3, zq4, zq5, _, zqf1, zqf2, zqf3, _, _⟩ := six h2
          clear h2 ok2 e2
          go_wp2_with fail
          refine (rnext_any s A.j r 0 0 nv _ (by exact H2.out)).mono ?_
          rintro _ w3 ⟨rfl, n3, rfl⟩
          by_cases g45 : gt s A.j = 45
          · rw [g45]
            have hAj : A.j + 1 ≤ s.size := by have := hz A.j; omega
            have hwA := wrap1 A.j (by omega)
            have H3 : Hid (((w2.drewN n3).setCell ⟨r, 1, none⟩ (.int .i64 (A.j + 1 : Nat))).heap[r]? = some (rrO s (A.j + 1 : Nat) 0 0 nv 0)) := rset1 (by exact H2.out)
            have K3 : Hid (Kp [r] w ((w2.drewN n3).setCell ⟨r, 1, none⟩ (.int .i64 (A.j + 1 : Nat)))) := (K2.out.drewN n3).set (.inl (by simp)) _ _
            have B3 : Hid (((w2.drewN n3).setCell ⟨r, 1, none⟩ (.int .i64 (A.j + 1 : Nat))).heap[w.heap.size]? = some (boolsO l)) := by show _ = _; rw [blk_set, if_neg hrb]; exact B2.out
            have HG := hide g45
            clear g45
            go_wp2_with fail
            refine (rone_code s (A.j + 1) r nv _ (by exact H3.out) hAj hs).mono ?_
            rintro _ w4 ⟨v4, i4, rfl, hv4, h4, k4, ok4⟩
            have sh4 := pOne_shape s (A.j + 1) hz
            have KK : Hid (Kp [r] w w4) := K3.out.trans k4 (by simp)
            have BB := hide (k4.keep (by exact B3.out) (by simp [hrb]))
            generalize pOne s (A.j + 1) = B at *
            clear zq0 zq1 zq2 zq3 zq4 zq5 zqf1 zqf2 zqf3
            clear k4 K3 B3 H3
            rcases sh4 with ⟨b1, b2, b3, b4, b5⟩ | ⟨b1, b2, b3⟩
            · obtain ⟨e1, e2⟩ := ok4 b1
              subst e1
              rw [b1, b2, e2] at h4
              have H4 := hide h4
              obtain ⟨zq0, zq1, zq2, zq3, zq4, zq5, _, zqf1, zqf2, zqf3, _, _⟩ := six h4
              clear h4 ok4 e2
              by_cases hlt : B.v < A.v
              · have hlt' : (B.v : Int) < A.v := by omega
                have hI : pItem s j = bad s 6 j 0 := by rw [HIT.out, if_neg (by simp [a1]), if_pos HG.out, if_neg (by simp [b1]), if_pos hlt]
                have hRk : RR = bad s 6 j 0 := by rw [HPI0.out, hI, if_pos (by simp [bad])]
                clear hI
                have RE : Hid (RR.err = 6) := by show _ = _; rw [hRk]; rfl
                have RP : Hid (RR.pl = j) := by show _ = _; rw [hRk]; rfl
                have HE : Hid ((6 : Int) ≠ 0) := by show _ ≠ _; decide
                clear hRk hlt
                go_wp2_with fail
                refine (rfail_first s B.j r 0 0 6 j nv _ (by exact H4.out)).mono ?_
                rintro _ w5 ⟨rfl, h5, k5⟩
                have HH := hide h5
                have KK5 : Hid (Kp [r] w w5) := KK.out.trans k5 (by simp)
                have BB5 := hide (k5.keep BB.out (by simp [hrb]))
                clear KK BB
                have KK := KK5
                have BB := BB5
                clear zq0 zq1 zq2 zq3 zq4 zq5 zqf1 zqf2 zqf3
                obtain ⟨zq0, zq1, zq2, zq3, zq4, zq5, _, zqf1, zqf2, zqf3, _, _⟩ := six HH.out
                have hle' : ¬ ((A.v : Int) ≤ B.v) := by omega
                clear h5 k5 hlt'
                go_wp2_with fail
                go_rounds 1
                refine ⟨⟨l, hl, BB.out, KK.out, .inr ⟨_, rfl, by rw [RE.out]; exact HE.out, by rw [RE.out, RP.out]; exact HH.out⟩⟩, ?_⟩
                rw [MU.out, setMu_bad HH.out HE.out]; omega
              · have hPv : A.v ≤ B.v := by omega
                have HPI : Hid (RR = pAfter s m (acc ||| spanN A.v (B.v + 1)) B.j) := by
                  have hI : pItem s j = good B.j (spanN A.v (B.v + 1)) := by rw [HIT.out, if_neg (by simp [a1]), if_pos HG.out, if_neg (by simp [b1]), if_neg hlt]
                  show _ = _; rw [HPI0.out, hI, if_neg (by simp [good])]; rfl
                have hlt' : ¬ ((B.v : Int) < A.v) := by omega
                have hP1 : j < B.j := by omega
                have hP2 : B.j ≤ s.size := b4
                have HH := H4
                have hhi : B.v < 256 := b5
                rw [hla] at BB
                clear hlt HPI0 HIT
                generalize B.j = P at *
                generalize hlo : A.v = lo at *
                generalize hhiE : B.v = hi at *
                go_wp2_with fail
                go_loopw [9] (fun c w' => ∃ k : Nat, lo ≤ k ∧ k ≤ hi + 1 ∧ c = .int .i64 k ∧ w'.heap[w.heap.size]? = some (boolsO (bitsL (acc ||| spanN lo k))) ∧ w'.heap[r]? = some (rrO s P 0 0 nv 0) ∧ Kp [r] w w') (fun c _ => hi + 1 - (intOf c).toNat)
                case atStart =>
                  refine ⟨lo, Nat.le_refl _, by omega, by go_num, ?_, HH.out, KK.out⟩
                  rw [spanN_below lo lo (Nat.le_refl _), Nat.or_zero]; exact BB.out
                case round =>
                  clear zq0 zq1 zq2 zq3 zq4 zq5 zqf1 zqf2 zqf3
                  obtain ⟨k, hk1, hk2, rfl, bk, rk, kk⟩ := hrel
                  obtain ⟨zq0, zq1, zq2, zq3, zq4, zq5, _, zqf1, zqf2, zqf3, _, _⟩ := six rk
                  have RK := hide rk
                  have BK := hide bk
                  have KK2 := hide kk
                  clear rk kk
                  by_cases hle : k ≤ hi
                  · have ck := bcell bk k (by rw [bitsL_len]; omega)
                    have fk := bfroz bk k
                    have hle' : (k : Int) ≤ hi := by omega
                    have hk256 : (k : Int) < 256 := by omega
                    clear bk
                    go_wp2
                    refine ⟨⟨k + 1, by omega, by omega, by go_num, ?_, ?_, KK2.out.set (.inr (Nat.le_refl _)) _ _⟩, by simp [intOf]; omega⟩
                    · rw [bset BK.out k true, bitsL_set _ k (by omega), spanN_step lo k hk1, Nat.or_assoc]
                    · rw [blk_set, if_neg (Ne.symm hrb)]; exact RK.out
                  · have hkE : k = hi + 1 := by omega
                    have HKE := hide hkE
                    have hle' : ¬ ((k : Int) ≤ hi) := by omega
                    clear bk hkE
                    go_wp2_with fail
                    refine (rnext_any s P r 0 0 nv _ (by exact RK.out)).mono ?_
                    rintro _ w5 ⟨rfl, n5, rfl⟩
                    by_cases gP : gt s P = 0
                    · rw [gP]
                      have GP := hide gP
                      clear gP
                      go_wp2_with fail
                      refine (rfail_first s P r 0 0 4 s.size nv _ (by exact RK.out)).mono ?_
                      rintro _ w6 ⟨rfl, h6, k6⟩
                      have H6 := hide h6
                      have K6 : Hid (Kp [r] w w6) := (KK2.out.drewN n5).trans k6 (by simp)
                      have B6 := hide (k6.keep (by exact BK.out) (by simp [hrb]))
                      have hRk : RR = bad s 4 s.size 0 := by rw [HPI.out, pAfter, if_pos GP.out]
                      have HRK := hide hRk
                      clear h6 k6 hRk
                      go_wp2
                      refine ⟨⟨_, bitsL_len _, B6.out, K6.out, .inr ⟨_, rfl, by rw [HRK.out]; simp [bad], by rw [HRK.out]; exact H6.out⟩⟩, ?_⟩
                      rw [MU.out, setMu_bad H6.out (by decide)]; omega
                    · have gP' : ((gt s P : Int) == 0) = false := by simp; omega
                      have GP := hide gP
                      clear gP
                      go_wp2
                      refine ⟨⟨_, bitsL_len _, BK.out, KK2.out.drewN n5, .inl ⟨false, P, m, _, rfl, rfl, RK.out, hP2, by omega, (fun e => by cases e), fun _ => ⟨by rw [HPI.out, HKE.out], GP.out⟩⟩⟩, ?_⟩
                      rw [MU.out, setMu_run (by exact RK.out)]; omega
            · have hI : pItem s j = B := by rw [HIT.out, if_neg (by simp [a1]), if_pos HG.out, if_pos b1]
              have hRk : RR = B := by rw [HPI0.out, hI, if_pos b1]
              clear hI
              have RE : Hid (RR.err = B.err) := by show _ = _; rw [hRk]
              have RP : Hid (RR.pl = B.pl) := by show _ = _; rw [hRk]
              have HE := hide b1
              have HH := hide h4
              obtain ⟨zq0, zq1, zq2, zq3, zq4, zq5, _, zqf1, zqf2, zqf3, _, _⟩ := six h4
              have hbe : (B.err == 0) = false := by simp [b1]
              clear hRk h4 ok4 b1
              by_cases hle : A.v ≤ v4
              · have hle' : (A.v : Int) ≤ v4 := by omega
                clear hle
                go_wp2_with fail
                go_rounds 1
                refine ⟨⟨l, hl, BB.out, KK.out, .inr ⟨_, rfl, by rw [RE.out]; exact HE.out, by rw [RE.out, RP.out]; exact HH.out⟩⟩, ?_⟩
                rw [MU.out, setMu_bad HH.out HE.out]; omega
              · have hle' : ¬ ((A.v : Int) ≤ v4) := by omega
                clear hle
                go_wp2_with fail
                go_rounds 1
                refine ⟨⟨l, hl, BB.out, KK.out, .inr ⟨_, rfl, by rw [RE.out]; exact HE.out, by rw [RE.out, RP.out]; exact HH.out⟩⟩, ?_⟩
                rw [MU.out, setMu_bad HH.out HE.out]; omega
          · have g45' : ((gt s A.j : Int) == 45) = false := by simp; omega
            have HPI : Hid (RR = pAfter s m (acc ||| spanN A.v (A.v + 1)) A.j) := by
              have hI : pItem s j = good A.j (spanN A.v (A.v + 1)) := by rw [HIT.out, if_neg (by simp [a1]), if_neg g45]
              show _ = _; rw [HPI0.out, hI, if_neg (by simp [good])]; rfl
            have hP1 : j < A.j := a3
            have hP2 : A.j ≤ s.size := a4
            have HH : Hid ((w2.drewN n3).heap[r]? = some (rrO s A.j 0 0 nv 0)) := H2.out
            have KK : Hid (Kp [r] w (w2.drewN n3)) := K2.out.drewN n3
            have BB : Hid ((w2.drewN n3).heap[w.heap.size]? = some (boolsO (bitsL acc))) := by show _ = _; rw [← hla]; exact B2.out
            generalize hlo : A.v = lo at *
            have hi : Nat := lo
            clear hi g45 HPI0 HIT
            generalize A.j = P at *
            go_wp2_with fail
            go_loopw [9] (fun c w' => ∃ k : Nat, lo ≤ k ∧ k ≤ lo + 1 ∧ c = .int .i64 k ∧ w'.heap[w.heap.size]? = some (boolsO (bitsL (acc ||| spanN lo k))) ∧ w'.heap[r]? = some (rrO s P 0 0 nv 0) ∧ Kp [r] w w') (fun c _ => lo + 1 - (intOf c).toNat)
            case atStart =>
              refine ⟨lo, Nat.le_refl _, by omega, by go_num, ?_, HH.out, KK.out⟩
              rw [spanN_below lo lo (Nat.le_refl _), Nat.or_zero]; exact BB.out
            case round =>
              clear zq0 zq1 zq2 zq3 zq4 zq5 zqf1 zqf2 zqf3
              obtain ⟨k, hk1, hk2, rfl, bk, rk, kk⟩ := hrel
              obtain ⟨zq0, zq1, zq2, zq3, zq4, zq5, _, zqf1, zqf2, zqf3, _, _⟩ := six rk
              have RK := hide rk
              have BK := hide bk
              have KK2 := hide kk
              clear rk kk
              by_cases hle : k ≤ lo
              · have ck := bcell bk k (by rw [bitsL_len]; omega)
                have fk := bfroz bk k
                have hle' : (k : Int) ≤ lo := by omega
                have hk256 : (k : Int) < 256 := by omega
                clear bk
                go_wp2
                refine ⟨⟨k + 1, by omega, by omega, by go_num, ?_, ?_, KK2.out.set (.inr (Nat.le_refl _)) _ _⟩, by simp [intOf]; omega⟩
                · rw [bset BK.out k true, bitsL_set _ k (by omega), spanN_step lo k hk1, Nat.or_assoc]
                · rw [blk_set, if_neg (Ne.symm hrb)]; exact RK.out
              · have hkE : k = lo + 1 := by omega
                have HKE := hide hkE
                have hle' : ¬ ((k : Int) ≤ lo) := by omega
                clear bk hkE
                go_wp2_with fail
                refine (rnext_any s P r 0 0 nv _ (by exact RK.out)).mono ?_
                rintro _ w5 ⟨rfl, n5, rfl⟩
                by_cases gP : gt s P = 0
                · rw [gP]
                  have GP := hide gP
                  clear gP
                  go_wp2_with fail
                  refine (rfail_first s P r 0 0 4 s.size nv _ (by exact RK.out)).mono ?_
                  rintro _ w6 ⟨rfl, h6, k6⟩
                  have H6 := hide h6
                  have K6 : Hid (Kp [r] w w6) := (KK2.out.drewN n5).trans k6 (by simp)
                  have B6 := hide (k6.keep (by exact BK.out) (by simp [hrb]))
                  have hRk : RR = bad s 4 s.size 0 := by rw [HPI.out, pAfter, if_pos GP.out]
                  have HRK := hide hRk
                  clear h6 k6 hRk
                  go_wp2
                  refine ⟨⟨_, bitsL_len _, B6.out, K6.out, .inr ⟨_, rfl, by rw [HRK.out]; simp [bad], by rw [HRK.out]; exact H6.out⟩⟩, ?_⟩
                  rw [MU.out, setMu_bad H6.out (by decide)]; omega
                · have gP' : ((gt s P : Int) == 0) = false := by simp; omega
                  have GP := hide gP
                  clear gP
                  go_wp2
                  refine ⟨⟨_, bitsL_len _, BK.out, KK2.out.drewN n5, .inl ⟨false, P, m, _, rfl, rfl, RK.out, hP2, by omega, (fun e => by cases e), fun _ => ⟨by rw [HPI.out, HKE.out], GP.out⟩⟩⟩, ?_⟩
                  rw [MU.out, setMu_run (by exact RK.out)]; omega
        · have hI : pItem s j = A := by rw [HIT.out, if_pos a1]
          have hRk : RR = A := by rw [HPI0.out, hI, if_pos a1]
          clear hI
          have RE : Hid (RR.err = A.err) := by show _ = _; rw [hRk]
          have RP : Hid (RR.pl = A.pl) := by show _ = _; rw [hRk]
          have HE := hide a1
          have H2 := hide h2
          obtain ⟨zq0, zq1, zq2, zq3, zq4, zq5, _, zqf1, zqf2, zqf3, _, _⟩ := six h2
          have hae : (A.err == 0) = false := by simp [a1]
          clear hRk h2 ok2
          go_wp2_with fail
          refine (rnext_bad s i2 r A.err A.pl 0 nv _ (by exact H2.out) HE.out).mono ?_
          rintro _ w3 ⟨rfl, n3, rfl⟩
          have HH : Hid ((w2.drewN n3).heap[r]? = some (rrO s i2 A.err A.pl nv 0)) := H2.out
          have KK : Hid (Kp [r] w (w2.drewN n3)) := K2.out.drewN n3
          have BB : Hid ((w2.drewN n3).heap[w.heap.size]? = some (boolsO l)) := B2.out
          clear a1
          go_wp2_with fail
          go_rounds 1
          refine ⟨⟨l, hl, BB.out, KK.out, .inr ⟨_, rfl, by rw [RE.out]; exact HE.out, by rw [RE.out, RP.out]; exact HH.out⟩⟩, ?_⟩
          rw [MU.out, setMu_bad HH.out HE.out]; omega
    · have H1 := hide rd
      have HE := hide he
      obtain ⟨zq0, zq1, zq2, zq3, zq4, zq5, _, zqf1, zqf2, zqf3, _, _⟩ := six rd
      have hae : (RR.err == 0) = false := by simp [he]
      have BB := hide bb
      have KK := hide kk
      clear rd he bb kk
      go_wp2
      go_ret
      rw [hq.out]
      exact ⟨rfl, _, l, hl, by rw [blk_set, if_neg hrb]; exact BB.out, rset1 H1.out, KK.out.set (.inl (by simp)) _ _, fun e => absurd e HE.out⟩
end Go.Proofs.YtbjdkbcfpmeneaaGreat
