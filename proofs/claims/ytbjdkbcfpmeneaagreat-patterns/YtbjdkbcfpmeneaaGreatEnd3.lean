/- What is proved here: what ends of the document's tree answers at a node that is there any number of times, at least once, or once or not. -/
import Derived.Test.YtbjdkbcfpmeneaaGreatRows
import Derived.Test.YtbjdkbcfpmeneaaGreatEnd2
namespace Go.Proofs.YtbjdkbcfpmeneaaGreat
set_option linter.unusedVariables false
set_option linter.unusedSimpArgs false
open Go.RowKit

def isF : Value → Bool
  | .bool false => true
  | _ => false
def cfW (w : World) (b : Nat) : Nat := match w.heap[b]? with
  | some (.cells c _ _) => c.toList.countP isF
  | _ => 0
def boolN : Value → Nat
  | .bool true => 1
  | _ => 0
theorem cfW_eq {w : World} {b : Nat} {l : List Bool} (h : w.heap[b]? = some (boolsO l)) : cfW w b = cf l := by
  unfold cfW
  rw [h]
  show (l.map Value.bool).countP isF = cf l
  rw [List.countP_map, cf, List.count]
  congr 1
  funext b
  cases b <;> rfl

set_option maxRecDepth 100000 in
set_option maxHeartbeats 4000000 in
theorem ends_opt (r k bf : Nat) (nv : Value) (ns : List ND) (Ls : List Lang) (t : ByteArray) (lf : List Bool) (nd : ND) (ps : List Nat) (L : Lang) (w : World) (h : TS w r nv ns Ls) (hk : ns[k]? = some nd) (hl : lf.length = t.size + 1) (hf : w.heap[bf]? = some (boolsO lf)) (ht : t.size ≤ 100000)
    (h1 : nd.kind = 63) (h2 : nd.hv = .slice none 0 0) (own : w.ownsRow 0 3 1 nd.pv ps.length (intsL ps)) (p : Nat) (hps : ps = [p]) (M : Lang) (hM : Ls.getD p lNone = M) (hL : L = lOpt M)
    (hpart : ∀ p ∈ ps, ∀ (bf : Nat) (lf : List Bool) (w' : World), TS w' r nv ns Ls → lf.length = t.size + 1 → w'.heap[bf]? = some (boolsO lf) → Calls Tryz.prog 41 #[.pointer (some ⟨r, 4, none⟩), .int .i64 p, .string t, .slice (some ⟨bf, 0, none⟩) (t.size + 1) (t.size + 1)] w' (EPost (Ls.getD p lNone) t lf w')) :
    Calls Tryz.prog 41 #[.pointer (some ⟨r, 4, none⟩), .int .i64 k, .string t, .slice (some ⟨bf, 0, none⟩) (t.size + 1) (t.size + 1)] w (EPost L t lf w) := by
  obtain ⟨s, i, e, pl, top, rd⟩ := h.rd
  have HP := hide hpart
  obtain ⟨pa, pc, hpv⟩ : ∃ pa pc, nd.pv = .slice pa ps.length pc := by
    rcases own.2 with ⟨e1, e2⟩ | ⟨g, cap, cur, e1, _⟩
    · rw [e1, e2]; exact ⟨_, _, rfl⟩
    · exact ⟨_, _, e1⟩
  rw [hpv] at own
  have HSX := hide h
  obtain ⟨g, cap, hnv, hg, n0, n1, n2, n3⟩ := h.row hk
  have hkl : k < ns.length := by
    rcases Nat.lt_or_ge k ns.length with a | a
    · exact a
    · rw [List.getElem?_eq_none a] at hk; cases hk
  have hkl' : (k : Int) < ns.length := by omega
  obtain ⟨_, _, _, _, c4, _⟩ := six rd
  rw [hnv] at c4
  have hm : ∀ w, (Instr.makeSlice 80 (.int .i64 ((t.size : Int) + 1)) (.int .i64 ((t.size : Int) + 1))).run Tryz.prog w = .ok (.slice (some ⟨w.heap.size, 0, none⟩) (t.size + 1) (t.size + 1)) (w.alloc (boolsO (fl (t.size + 1)))) := fun w => run_make_bools (t.size + 1) (by omega) w
  have BF := hide hf
  rw [h1] at n0
  rw [h2] at n1
  rw [hpv] at n2
  have hnode : Hid (∀ w' : World, Kp [] w w' → ∀ j, j < ps.length → ∃ gp, pa = some ⟨gp, 0, none⟩ ∧ w'.cell? ⟨gp, j, none⟩ = some (.int .i64 (ps.getD j 0))) := fun w' hk' j hj => by
    have own' := owns_kp own hk' (by simp)
    rcases own'.2 with ⟨_, e2⟩ | ⟨gp, cap, cur, e1, _⟩
    · omega
    · simp only [Value.slice.injEq] at e1
      refine ⟨gp, e1.1, ?_⟩
      rw [e1.1] at own'
      have := own'.cellAt j (by omega)
      rw [this]
      simp [intsL, List.getElem?_eq_getElem hj]
  have hps0 : ps.length ≤ 9223372036854775807 := by
    rcases own.2 with ⟨_, e2⟩ | ⟨_, _, _, _, _, _, e5, e6, _⟩
    · omega
    · unfold maxLen at e6; omega
  have hxl : (tx t).length = t.size := tx_len t
  have HL := hide hL
  have hp0 : Hid (ps.length = 1) := by show _ = _; rw [hps]; rfl
  have hpg : ps.getD 0 0 = p := by rw [hps]; rfl
  have hpm : p ∈ ps := by rw [hps]; simp
  have HMM := hide hM
  clear h rd hf hk hpart own hpv hL hps hM
  go_enter Tryz.func41, Tryz.ntmps41
  go_upto_region 3 with fail
  have kW : Kp [] w ((w.alloc (.cells #[.int .u8 63, .slice none 0 0, .slice pa ps.length pc, .int .i64 0] 104 (0, 0))).alloc (boolsO (fl (t.size + 1)))) := ((Kp.refl _ _).alloc _).alloc _
  have bT : ((w.alloc (.cells #[.int .u8 63, .slice none 0 0, .slice pa ps.length pc, .int .i64 0] 104 (0, 0))).alloc (boolsO (fl (t.size + 1)))).heap[w.heap.size]? = some (.cells #[.int .u8 63, .slice none 0 0, .slice pa ps.length pc, .int .i64 0] 104 (0, 0)) := by
    rw [blk_alloc, size_alloc, if_neg (by omega), blk_alloc, if_pos rfl]
  have bO : ((w.alloc (.cells #[.int .u8 63, .slice none 0 0, .slice pa ps.length pc, .int .i64 0] 104 (0, 0))).alloc (boolsO (fl (t.size + 1)))).heap[w.heap.size + 1]? = some (boolsO (fl (t.size + 1))) := by
    rw [blk_alloc, size_alloc, if_pos rfl]
  generalize (w.alloc (.cells #[.int .u8 63, .slice none 0 0, .slice pa ps.length pc, .int .i64 0] 104 (0, 0))).alloc (boolsO (fl (t.size + 1))) = W at *
  obtain ⟨d0, d1, d2, d3, _⟩ := four bT
  have KW := hide kW
  have BT := hide bT
  have BO := hide bO
  clear kW bT bO hm n0 n1 n2 n3 c4
  have HPP : Hid (∀ (bf : Nat) (lf : List Bool) (w' : World), TS w' r nv ns Ls → lf.length = t.size + 1 → w'.heap[bf]? = some (boolsO lf) → Calls Tryz.prog 41 #[.pointer (some ⟨r, 4, none⟩), .int .i64 p, .string t, .slice (some ⟨bf, 0, none⟩) (t.size + 1) (t.size + 1)] w' (EPost M t lf w')) := fun bf lf w' a b c => by
    have := HP.out p hpm bf lf w' a b c
    rw [HMM.out] at this; exact this
  obtain ⟨gp, hpa, cp⟩ := hnode.out W KW.out 0 (by have := hp0.out; omega)
  have hnd : Hid (∀ w' : World, Kp [] w w' → w'.cell? ⟨gp, 0, none⟩ = some (.int .i64 p)) := fun w' hk' => by
    obtain ⟨g', e1, e2⟩ := hnode.out w' hk' 0 (by have := hp0.out; omega)
    rw [hpa] at e1
    simp only [Option.some.injEq, Addr.mk.injEq] at e1
    rw [← e1.1, hpg] at e2; exact e2
  rw [hpg] at cp
  subst hpa
  have hp1 : (0 : Int) < ps.length := by have := hp0.out; omega
  have hcall := hide (HPP.out bf lf W (HSX.out.kp KW.out) hl (KW.out.keep BF.out (by simp)))
  clear hnode HP HMM hpm hpg
  go_wp2_with fail
  refine hcall.out.mono ?_
  rintro _ w1 ⟨B1, l1, rfl, hb1, hge1, ek1, k1⟩
  have K1 : Hid (Kp [] w w1) := KW.out.trans k1 (by simp)
  have BT1 := hide (k1.keep BT.out (by simp))
  have BB1 := hide hb1
  have EK1 := hide ek1
  have szW : w.heap.size + 1 < W.heap.size := lt_of_block BO.out
  have hB1 : w.heap.size ≤ B1 := by omega
  have hB1T : B1 ≠ w.heap.size := by omega
  clear k1 hb1 ek1 d0 d1 d2 d3 cp hcall BO
  obtain ⟨d0, d1, d2, d3, _⟩ := four BT1.out
  go_wp2_with fail
  go_rounds 1
  have BOX := BB1
  have KX := K1
  have EKX := EK1
  go_loopw [19] (fun c w' => ∃ q : Nat, q ≤ t.size + 1 ∧ c = .int .i64 q ∧ w'.heap[B1]? = some (boolsO (orTo l1 lf q)) ∧ Kp [] w w') (fun c _ => t.size + 1 - (intOf c).toNat)
  case atStart => exact ⟨0, by omega, rfl, BOX.out, KX.out⟩
  case round =>
    obtain ⟨q, hq, rfl, bq, kq⟩ := hrel
    have BQ := hide bq
    have KQ := hide kq
    by_cases hqt : q ≤ t.size
    · have hqt' : (q : Int) ≤ t.size := by omega
      have hqt2 : (q : Int) < (t.size : Int) + 1 := by omega
      have hlk := EKX.out.len
      have hwq := wrap1' q (by omega)
      have cq := bcell bq q (by rw [orTo_len]; omega)
      rw [orTo_get l1 lf q q (by omega), if_neg (by omega)] at cq
      have fq := bfroz bq q
      have c3 := bcell (kq.keep BF.out (by simp)) q (by omega)
      have hst : Hid (orTo l1 lf (q + 1) = (orTo l1 lf q).set q (l1.getD q false || lf.getD q false)) := rfl
      generalize l1.getD q false = va at *
      generalize lf.getD q false = vb at *
      clear bq kq hlk
      cases va <;> cases vb
      all_goals
        go_wp2
        refine ⟨⟨q + 1, by omega, by go_num, ?_, KQ.out.set (.inr hB1) _ _⟩, by simp [intOf]; omega⟩
        rw [hst.out]; exact bset BQ.out q _
    · have hqE : q = t.size + 1 := by omega
      subst hqE
      have hqt' : ¬ (((t.size + 1 : Nat) : Int) ≤ t.size) := by omega
      clear bq kq hqt
      go_wp2
      go_ret
      refine ⟨B1, orTo l1 lf (t.size + 1), rfl, BQ.out, hB1, ?_, KQ.out⟩
      rw [HL.out]
      have := EKX.out.opt
      rw [hxl] at this; exact this

set_option maxRecDepth 100000 in
set_option maxHeartbeats 4000000 in
theorem ends_plus (r k bf : Nat) (nv : Value) (ns : List ND) (Ls : List Lang) (t : ByteArray) (lf : List Bool) (nd : ND) (ps : List Nat) (L : Lang) (w : World) (h : TS w r nv ns Ls) (hk : ns[k]? = some nd) (hl : lf.length = t.size + 1) (hf : w.heap[bf]? = some (boolsO lf)) (ht : t.size ≤ 100000)
    (h1 : nd.kind = 43) (h2 : nd.hv = .slice none 0 0) (own : w.ownsRow 0 3 1 nd.pv ps.length (intsL ps)) (p : Nat) (hps : ps = [p]) (M : Lang) (hM : Ls.getD p lNone = M) (hL : L = lPlus M)
    (hpart : ∀ p ∈ ps, ∀ (bf : Nat) (lf : List Bool) (w' : World), TS w' r nv ns Ls → lf.length = t.size + 1 → w'.heap[bf]? = some (boolsO lf) → Calls Tryz.prog 41 #[.pointer (some ⟨r, 4, none⟩), .int .i64 p, .string t, .slice (some ⟨bf, 0, none⟩) (t.size + 1) (t.size + 1)] w' (EPost (Ls.getD p lNone) t lf w')) :
    Calls Tryz.prog 41 #[.pointer (some ⟨r, 4, none⟩), .int .i64 k, .string t, .slice (some ⟨bf, 0, none⟩) (t.size + 1) (t.size + 1)] w (EPost L t lf w) := by
  obtain ⟨s, i, e, pl, top, rd⟩ := h.rd
  have HP := hide hpart
  obtain ⟨pa, pc, hpv⟩ : ∃ pa pc, nd.pv = .slice pa ps.length pc := by
    rcases own.2 with ⟨e1, e2⟩ | ⟨g, cap, cur, e1, _⟩
    · rw [e1, e2]; exact ⟨_, _, rfl⟩
    · exact ⟨_, _, e1⟩
  rw [hpv] at own
  have HSX := hide h
  obtain ⟨g, cap, hnv, hg, n0, n1, n2, n3⟩ := h.row hk
  have hkl : k < ns.length := by
    rcases Nat.lt_or_ge k ns.length with a | a
    · exact a
    · rw [List.getElem?_eq_none a] at hk; cases hk
  have hkl' : (k : Int) < ns.length := by omega
  obtain ⟨_, _, _, _, c4, _⟩ := six rd
  rw [hnv] at c4
  have hm : ∀ w, (Instr.makeSlice 80 (.int .i64 ((t.size : Int) + 1)) (.int .i64 ((t.size : Int) + 1))).run Tryz.prog w = .ok (.slice (some ⟨w.heap.size, 0, none⟩) (t.size + 1) (t.size + 1)) (w.alloc (boolsO (fl (t.size + 1)))) := fun w => run_make_bools (t.size + 1) (by omega) w
  have BF := hide hf
  rw [h1] at n0
  rw [h2] at n1
  rw [hpv] at n2
  have hnode : Hid (∀ w' : World, Kp [] w w' → ∀ j, j < ps.length → ∃ gp, pa = some ⟨gp, 0, none⟩ ∧ w'.cell? ⟨gp, j, none⟩ = some (.int .i64 (ps.getD j 0))) := fun w' hk' j hj => by
    have own' := owns_kp own hk' (by simp)
    rcases own'.2 with ⟨_, e2⟩ | ⟨gp, cap, cur, e1, _⟩
    · omega
    · simp only [Value.slice.injEq] at e1
      refine ⟨gp, e1.1, ?_⟩
      rw [e1.1] at own'
      have := own'.cellAt j (by omega)
      rw [this]
      simp [intsL, List.getElem?_eq_getElem hj]
  have hps0 : ps.length ≤ 9223372036854775807 := by
    rcases own.2 with ⟨_, e2⟩ | ⟨_, _, _, _, _, _, e5, e6, _⟩
    · omega
    · unfold maxLen at e6; omega
  have hxl : (tx t).length = t.size := tx_len t
  have HL := hide hL
  have hp0 : Hid (ps.length = 1) := by show _ = _; rw [hps]; rfl
  have hpg : ps.getD 0 0 = p := by rw [hps]; rfl
  have hpm : p ∈ ps := by rw [hps]; simp
  have HMM := hide hM
  clear h rd hf hk hpart own hpv hL hps hM
  go_enter Tryz.func41, Tryz.ntmps41
  go_upto_region 3 with fail
  have kW : Kp [] w ((w.alloc (.cells #[.int .u8 43, .slice none 0 0, .slice pa ps.length pc, .int .i64 0] 104 (0, 0))).alloc (boolsO (fl (t.size + 1)))) := ((Kp.refl _ _).alloc _).alloc _
  have bT : ((w.alloc (.cells #[.int .u8 43, .slice none 0 0, .slice pa ps.length pc, .int .i64 0] 104 (0, 0))).alloc (boolsO (fl (t.size + 1)))).heap[w.heap.size]? = some (.cells #[.int .u8 43, .slice none 0 0, .slice pa ps.length pc, .int .i64 0] 104 (0, 0)) := by
    rw [blk_alloc, size_alloc, if_neg (by omega), blk_alloc, if_pos rfl]
  have bO : ((w.alloc (.cells #[.int .u8 43, .slice none 0 0, .slice pa ps.length pc, .int .i64 0] 104 (0, 0))).alloc (boolsO (fl (t.size + 1)))).heap[w.heap.size + 1]? = some (boolsO (fl (t.size + 1))) := by
    rw [blk_alloc, size_alloc, if_pos rfl]
  generalize (w.alloc (.cells #[.int .u8 43, .slice none 0 0, .slice pa ps.length pc, .int .i64 0] 104 (0, 0))).alloc (boolsO (fl (t.size + 1))) = W at *
  obtain ⟨d0, d1, d2, d3, _⟩ := four bT
  have KW := hide kW
  have BT := hide bT
  have BO := hide bO
  clear kW bT bO hm n0 n1 n2 n3 c4
  have HPP : Hid (∀ (bf : Nat) (lf : List Bool) (w' : World), TS w' r nv ns Ls → lf.length = t.size + 1 → w'.heap[bf]? = some (boolsO lf) → Calls Tryz.prog 41 #[.pointer (some ⟨r, 4, none⟩), .int .i64 p, .string t, .slice (some ⟨bf, 0, none⟩) (t.size + 1) (t.size + 1)] w' (EPost M t lf w')) := fun bf lf w' a b c => by
    have := HP.out p hpm bf lf w' a b c
    rw [HMM.out] at this; exact this
  obtain ⟨gp, hpa, cp⟩ := hnode.out W KW.out 0 (by have := hp0.out; omega)
  have hnd : Hid (∀ w' : World, Kp [] w w' → w'.cell? ⟨gp, 0, none⟩ = some (.int .i64 p)) := fun w' hk' => by
    obtain ⟨g', e1, e2⟩ := hnode.out w' hk' 0 (by have := hp0.out; omega)
    rw [hpa] at e1
    simp only [Option.some.injEq, Addr.mk.injEq] at e1
    rw [← e1.1, hpg] at e2; exact e2
  rw [hpg] at cp
  subst hpa
  have hp1 : (0 : Int) < ps.length := by have := hp0.out; omega
  have hcall := hide (HPP.out bf lf W (HSX.out.kp KW.out) hl (KW.out.keep BF.out (by simp)))
  clear hnode HP HMM hpm hpg
  go_wp2_with fail
  refine hcall.out.mono ?_
  rintro _ w1 ⟨B1, l1, rfl, hb1, hge1, ek1, k1⟩
  have K1 : Hid (Kp [] w w1) := KW.out.trans k1 (by simp)
  have BT1 := hide (k1.keep BT.out (by simp))
  have BB1 := hide hb1
  have EK1 := hide ek1
  have szW : w.heap.size + 1 < W.heap.size := lt_of_block BO.out
  have hB1 : w.heap.size ≤ B1 := by omega
  have hB1T : B1 ≠ w.heap.size := by omega
  clear k1 hb1 ek1 d0 d1 d2 d3 cp hcall BO
  obtain ⟨d0, d1, d2, d3, _⟩ := four BT1.out
  go_wp2_with fail
  clear d0 d1 d2 d3
  go_loopw [16] (fun mo w' => ∃ (m0 : Bool) (o : List Bool), mo = .bool m0 ∧ w'.heap[B1]? = some (boolsO o) ∧ w'.heap[w.heap.size]? = some (.cells #[.int .u8 43, .slice none 0 0, .slice (some ⟨gp, 0, none⟩) ps.length pc, .int .i64 0] 104 (0, 0)) ∧ Kp [] w w' ∧ PlusInv M (tx t) lf o ∧ (m0 = false → ∀ m j, m ≤ j → j ≤ (tx t).length → o.getD m false = true → M (sub (tx t) m j) → o.getD j false = true))
    (fun mo w' => 2 * cfW w' B1 + boolN mo)
  case atStart => exact ⟨true, l1, rfl, BB1.out, BT1.out, K1.out, PlusInv.start EK1.out, fun e => by cases e⟩
  case round =>
    obtain ⟨m0, o, rfl, bo, bt, kk, pi, hcl⟩ := hrel
    obtain ⟨d0, d1, d2, d3, _⟩ := four bt
    have BTr := hide bt
    have BOr := hide bo
    have KKr := hide kk
    have PI := hide pi
    have MU := hide (cfW_eq bo)
    have hol : o.length = t.size + 1 := by have := pi.len; omega
    cases m0
    · have EKX := hide (pi.done (hcl rfl))
      have BOX := BOr
      have KX := KKr
      clear bt bo kk pi hcl
      go_wp2
      go_ret
      exact ⟨B1, o, rfl, BOX.out, hB1, by rw [HL.out]; exact EKX.out, KX.out⟩
    · have cp := hnd.out wr kk
      have hcall := hide (HPP.out B1 o wr (HSX.out.kp kk) hol bo)
      have B1lt := lt_of_block bo
      clear bt bo kk pi hcl
      go_wp2_with fail
      refine hcall.out.mono ?_
      rintro _ w3 ⟨b3, l3, rfl, hb3, hge3, ek3, k3⟩
      have KT : Hid (Kp [] w w3) := KKr.out.trans k3 (by simp)
      have BT3 := hide (k3.keep BTr.out (by simp))
      have BK3 := hide (k3.keep BOr.out (by simp))
      have BO3 := hide hb3
      have EK3 := hide ek3
      have hne3 : b3 ≠ B1 := by omega
      clear k3 hb3 ek3 d0 d1 d2 d3 cp hcall
      go_wp2_with fail
      go_loopw [18, 16] (fun c mo w' => ∃ (q : Nat) (m1 : Bool), q ≤ t.size + 1 ∧ c = .int .i64 q ∧ mo = .bool m1 ∧ w'.heap[B1]? = some (boolsO (orTo o l3 q)) ∧ w'.heap[b3]? = some (boolsO l3) ∧ w'.heap[w.heap.size]? = some (.cells #[.int .u8 43, .slice none 0 0, .slice (some ⟨gp, 0, none⟩) ps.length pc, .int .i64 0] 104 (0, 0)) ∧ Kp [] w w' ∧ cf (orTo o l3 q) ≤ cf o ∧ (m1 = true → cf (orTo o l3 q) < cf o) ∧ (m1 = false → ∀ j, j < q → l3.getD j false = true → o.getD j false = true))
        (fun c _ _ => t.size + 1 - (intOf c).toNat)
      case atStart => exact ⟨0, false, by omega, rfl, rfl, BK3.out, BO3.out, BT3.out, KT.out, Nat.le_refl _, (fun e => by cases e), fun _ j hj => by omega⟩
      case round =>
        obtain ⟨q, m1, hq, rfl, rfl, bq, b3q, bt, kq, hc1, hc2, hc3⟩ := hrel
        have BQ := hide bq
        have B3q := hide b3q
        have BTq := hide bt
        have KQ := hide kq
        have HC1 := hide hc1
        have HC2 := hide hc2
        have HC3 := hide hc3
        by_cases hqt : q ≤ t.size
        · have hqt' : (q : Int) ≤ t.size := by omega
          have hqt2 : (q : Int) < (t.size : Int) + 1 := by omega
          have hl3 := EK3.out.len
          have hwq := wrap1' q (by omega)
          have cq := bcell bq q (by rw [orTo_len]; omega)
          have gq := orTo_get o l3 q q (by omega)
          rw [if_neg (by omega)] at gq
          rw [gq] at cq
          have fq := bfroz bq q
          have c3 := bcell b3q q (by omega)
          have hst : Hid (orTo o l3 (q + 1) = (orTo o l3 q).set q (o.getD q false || l3.getD q false)) := rfl
          have hsame : Hid ((o.getD q false || l3.getD q false) = o.getD q false → orTo o l3 (q + 1) = orTo o l3 q) := orTo_same o l3 q (by omega)
          have hcfs : Hid (o.getD q false = false → cf ((orTo o l3 q).set q true) + 1 = cf (orTo o l3 q)) := fun e => cf_set _ q (by rw [orTo_len]; omega) (by rw [gq]; exact e)
          have HA : Hid (o.getD q false = o.getD q false) := rfl
          generalize hva : o.getD q false = va at cq hst hsame hcfs
          generalize hvb : l3.getD q false = vb at c3 hst hsame
          have HVA := hide hva
          have HVB := hide hvb
          clear bq b3q bt kq hl3 hc1 hc2 hc3 gq hva hvb HA
          cases va <;> cases vb
          · go_wp2
            refine ⟨⟨q + 1, m1, by omega, by go_num, rfl, by rw [hsame.out rfl]; exact BQ.out, B3q.out, BTq.out, KQ.out, by rw [hsame.out rfl]; exact HC1.out, by rw [hsame.out rfl]; exact HC2.out, fun e j hj h3 => ?_⟩, by simp [intOf]; omega⟩
            by_cases ej : j = q
            · subst ej; rw [HVB.out] at h3; cases h3
            · exact HC3.out e j (by omega) h3
          · go_wp2
            refine ⟨⟨q + 1, true, by omega, by go_num, rfl, by rw [hst.out]; exact bset BQ.out q _, ?_, ?_, KQ.out.set (.inr hB1) _ _, ?_, fun _ => ?_, fun e => by cases e⟩, by simp [intOf]; omega⟩
            · rw [blk_set, if_neg hne3]; exact B3q.out
            · rw [blk_set, if_neg (Ne.symm hB1T)]; exact BTq.out
            · rw [hst.out]; have := hcfs.out rfl; have := HC1.out; simp only [Bool.false_or]; omega
            · rw [hst.out]; have := hcfs.out rfl; have := HC1.out; simp only [Bool.false_or]; omega
          · go_wp2
            refine ⟨⟨q + 1, m1, by omega, by go_num, rfl, by rw [hsame.out rfl]; exact BQ.out, B3q.out, BTq.out, KQ.out, by rw [hsame.out rfl]; exact HC1.out, by rw [hsame.out rfl]; exact HC2.out, fun e j hj h3 => ?_⟩, by simp [intOf]; omega⟩
            by_cases ej : j = q
            · subst ej; exact HVA.out
            · exact HC3.out e j (by omega) h3
          · go_wp2
            refine ⟨⟨q + 1, m1, by omega, by go_num, rfl, by rw [hsame.out rfl]; exact BQ.out, B3q.out, BTq.out, KQ.out, by rw [hsame.out rfl]; exact HC1.out, by rw [hsame.out rfl]; exact HC2.out, fun e j hj h3 => ?_⟩, by simp [intOf]; omega⟩
            by_cases ej : j = q
            · subst ej; exact HVA.out
            · exact HC3.out e j (by omega) h3
        · have hqE : q = t.size + 1 := by omega
          subst hqE
          have hqt' : ¬ (((t.size + 1 : Nat) : Int) ≤ t.size) := by omega
          have pi2 := PI.out.step EK3.out
          rw [hxl] at pi2
          have PI2 := hide pi2
          clear bq b3q bt kq hqt hc1 hc2 hc3 pi2
          go_wp2
          refine ⟨⟨m1, orTo o l3 (t.size + 1), rfl, BQ.out, BTq.out, KQ.out, PI2.out, fun e m j hmj hj hm hM => ?_⟩, ?_⟩
          · have hx := hj
            rw [hxl] at hx
            have g : ∀ i, i ≤ t.size → (orTo o l3 (t.size + 1)).getD i false = (o.getD i false || l3.getD i false) := fun i hi => by
              rw [orTo_get o l3 _ i (by omega), if_pos (by omega)]
            rw [g m (by omega), Bool.or_eq_true] at hm
            have hom : o.getD m false = true := by
              rcases hm with a | a
              · exact a
              · exact HC3.out e m (by omega) a
            have := (EK3.out.iff j hj).2 ⟨m, hmj, hom, hM⟩
            rw [g j (by omega), this, Bool.or_true]
          · rw [MU.out, cfW_eq BQ.out]
            have := HC1.out
            cases m1
            · simp only [boolN]; omega
            · have := HC2.out rfl
              simp only [boolN]; omega

set_option maxRecDepth 100000 in
set_option maxHeartbeats 4000000 in
theorem ends_star (r k bf : Nat) (nv : Value) (ns : List ND) (Ls : List Lang) (t : ByteArray) (lf : List Bool) (nd : ND) (ps : List Nat) (L : Lang) (w : World) (h : TS w r nv ns Ls) (hk : ns[k]? = some nd) (hl : lf.length = t.size + 1) (hf : w.heap[bf]? = some (boolsO lf)) (ht : t.size ≤ 100000)
    (h1 : nd.kind = 42) (h2 : nd.hv = .slice none 0 0) (own : w.ownsRow 0 3 1 nd.pv ps.length (intsL ps)) (p : Nat) (hps : ps = [p]) (M : Lang) (hM : Ls.getD p lNone = M) (hL : L = lStar M)
    (hpart : ∀ p ∈ ps, ∀ (bf : Nat) (lf : List Bool) (w' : World), TS w' r nv ns Ls → lf.length = t.size + 1 → w'.heap[bf]? = some (boolsO lf) → Calls Tryz.prog 41 #[.pointer (some ⟨r, 4, none⟩), .int .i64 p, .string t, .slice (some ⟨bf, 0, none⟩) (t.size + 1) (t.size + 1)] w' (EPost (Ls.getD p lNone) t lf w')) :
    Calls Tryz.prog 41 #[.pointer (some ⟨r, 4, none⟩), .int .i64 k, .string t, .slice (some ⟨bf, 0, none⟩) (t.size + 1) (t.size + 1)] w (EPost L t lf w) := by
  obtain ⟨s, i, e, pl, top, rd⟩ := h.rd
  have HP := hide hpart
  obtain ⟨pa, pc, hpv⟩ : ∃ pa pc, nd.pv = .slice pa ps.length pc := by
    rcases own.2 with ⟨e1, e2⟩ | ⟨g, cap, cur, e1, _⟩
    · rw [e1, e2]; exact ⟨_, _, rfl⟩
    · exact ⟨_, _, e1⟩
  rw [hpv] at own
  have HSX := hide h
  obtain ⟨g, cap, hnv, hg, n0, n1, n2, n3⟩ := h.row hk
  have hkl : k < ns.length := by
    rcases Nat.lt_or_ge k ns.length with a | a
    · exact a
    · rw [List.getElem?_eq_none a] at hk; cases hk
  have hkl' : (k : Int) < ns.length := by omega
  obtain ⟨_, _, _, _, c4, _⟩ := six rd
  rw [hnv] at c4
  have hm : ∀ w, (Instr.makeSlice 80 (.int .i64 ((t.size : Int) + 1)) (.int .i64 ((t.size : Int) + 1))).run Tryz.prog w = .ok (.slice (some ⟨w.heap.size, 0, none⟩) (t.size + 1) (t.size + 1)) (w.alloc (boolsO (fl (t.size + 1)))) := fun w => run_make_bools (t.size + 1) (by omega) w
  have BF := hide hf
  rw [h1] at n0
  rw [h2] at n1
  rw [hpv] at n2
  have hnode : Hid (∀ w' : World, Kp [] w w' → ∀ j, j < ps.length → ∃ gp, pa = some ⟨gp, 0, none⟩ ∧ w'.cell? ⟨gp, j, none⟩ = some (.int .i64 (ps.getD j 0))) := fun w' hk' j hj => by
    have own' := owns_kp own hk' (by simp)
    rcases own'.2 with ⟨_, e2⟩ | ⟨gp, cap, cur, e1, _⟩
    · omega
    · simp only [Value.slice.injEq] at e1
      refine ⟨gp, e1.1, ?_⟩
      rw [e1.1] at own'
      have := own'.cellAt j (by omega)
      rw [this]
      simp [intsL, List.getElem?_eq_getElem hj]
  have hps0 : ps.length ≤ 9223372036854775807 := by
    rcases own.2 with ⟨_, e2⟩ | ⟨_, _, _, _, _, _, e5, e6, _⟩
    · omega
    · unfold maxLen at e6; omega
  have hxl : (tx t).length = t.size := tx_len t
  have HL := hide hL
  have hp0 : Hid (ps.length = 1) := by show _ = _; rw [hps]; rfl
  have hpg : ps.getD 0 0 = p := by rw [hps]; rfl
  have hpm : p ∈ ps := by rw [hps]; simp
  have HMM := hide hM
  clear h rd hf hk hpart own hpv hL hps hM
  go_enter Tryz.func41, Tryz.ntmps41
  go_upto_region 3 with fail
  have kW : Kp [] w ((w.alloc (.cells #[.int .u8 42, .slice none 0 0, .slice pa ps.length pc, .int .i64 0] 104 (0, 0))).alloc (boolsO (fl (t.size + 1)))) := ((Kp.refl _ _).alloc _).alloc _
  have bT : ((w.alloc (.cells #[.int .u8 42, .slice none 0 0, .slice pa ps.length pc, .int .i64 0] 104 (0, 0))).alloc (boolsO (fl (t.size + 1)))).heap[w.heap.size]? = some (.cells #[.int .u8 42, .slice none 0 0, .slice pa ps.length pc, .int .i64 0] 104 (0, 0)) := by
    rw [blk_alloc, size_alloc, if_neg (by omega), blk_alloc, if_pos rfl]
  have bO : ((w.alloc (.cells #[.int .u8 42, .slice none 0 0, .slice pa ps.length pc, .int .i64 0] 104 (0, 0))).alloc (boolsO (fl (t.size + 1)))).heap[w.heap.size + 1]? = some (boolsO (fl (t.size + 1))) := by
    rw [blk_alloc, size_alloc, if_pos rfl]
  generalize (w.alloc (.cells #[.int .u8 42, .slice none 0 0, .slice pa ps.length pc, .int .i64 0] 104 (0, 0))).alloc (boolsO (fl (t.size + 1))) = W at *
  obtain ⟨d0, d1, d2, d3, _⟩ := four bT
  have KW := hide kW
  have BT := hide bT
  have BO := hide bO
  clear kW bT bO hm n0 n1 n2 n3 c4
  have HPP : Hid (∀ (bf : Nat) (lf : List Bool) (w' : World), TS w' r nv ns Ls → lf.length = t.size + 1 → w'.heap[bf]? = some (boolsO lf) → Calls Tryz.prog 41 #[.pointer (some ⟨r, 4, none⟩), .int .i64 p, .string t, .slice (some ⟨bf, 0, none⟩) (t.size + 1) (t.size + 1)] w' (EPost M t lf w')) := fun bf lf w' a b c => by
    have := HP.out p hpm bf lf w' a b c
    rw [HMM.out] at this; exact this
  obtain ⟨gp, hpa, cp⟩ := hnode.out W KW.out 0 (by have := hp0.out; omega)
  have hnd : Hid (∀ w' : World, Kp [] w w' → w'.cell? ⟨gp, 0, none⟩ = some (.int .i64 p)) := fun w' hk' => by
    obtain ⟨g', e1, e2⟩ := hnode.out w' hk' 0 (by have := hp0.out; omega)
    rw [hpa] at e1
    simp only [Option.some.injEq, Addr.mk.injEq] at e1
    rw [← e1.1, hpg] at e2; exact e2
  rw [hpg] at cp
  subst hpa
  have hp1 : (0 : Int) < ps.length := by have := hp0.out; omega
  have hcall := hide (HPP.out bf lf W (HSX.out.kp KW.out) hl (KW.out.keep BF.out (by simp)))
  clear hnode HP HMM hpm hpg
  go_wp2_with fail
  refine hcall.out.mono ?_
  rintro _ w1 ⟨B1, l1, rfl, hb1, hge1, ek1, k1⟩
  have K1 : Hid (Kp [] w w1) := KW.out.trans k1 (by simp)
  have BT1 := hide (k1.keep BT.out (by simp))
  have BB1 := hide hb1
  have EK1 := hide ek1
  have szW : w.heap.size + 1 < W.heap.size := lt_of_block BO.out
  have hB1 : w.heap.size ≤ B1 := by omega
  have hB1T : B1 ≠ w.heap.size := by omega
  clear k1 hb1 ek1 d0 d1 d2 d3 cp hcall BO
  obtain ⟨d0, d1, d2, d3, _⟩ := four BT1.out
  go_wp2_with fail
  clear d0 d1 d2 d3
  go_loopw [16] (fun mo w' => ∃ (m0 : Bool) (o : List Bool), mo = .bool m0 ∧ w'.heap[B1]? = some (boolsO o) ∧ w'.heap[w.heap.size]? = some (.cells #[.int .u8 42, .slice none 0 0, .slice (some ⟨gp, 0, none⟩) ps.length pc, .int .i64 0] 104 (0, 0)) ∧ Kp [] w w' ∧ PlusInv M (tx t) lf o ∧ (m0 = false → ∀ m j, m ≤ j → j ≤ (tx t).length → o.getD m false = true → M (sub (tx t) m j) → o.getD j false = true))
    (fun mo w' => 2 * cfW w' B1 + boolN mo)
  case atStart => exact ⟨true, l1, rfl, BB1.out, BT1.out, K1.out, PlusInv.start EK1.out, fun e => by cases e⟩
  case round =>
    obtain ⟨m0, o, rfl, bo, bt, kk, pi, hcl⟩ := hrel
    obtain ⟨d0, d1, d2, d3, _⟩ := four bt
    have BTr := hide bt
    have BOr := hide bo
    have KKr := hide kk
    have PI := hide pi
    have MU := hide (cfW_eq bo)
    have hol : o.length = t.size + 1 := by have := pi.len; omega
    cases m0
    · have EKX := hide (pi.done (hcl rfl))
      have BOX := BOr
      have KX := KKr
      clear bt bo kk pi hcl
      go_wp2_with fail
      go_loopw [19] (fun c w' => ∃ q : Nat, q ≤ t.size + 1 ∧ c = .int .i64 q ∧ w'.heap[B1]? = some (boolsO (orTo o lf q)) ∧ Kp [] w w') (fun c _ => t.size + 1 - (intOf c).toNat)
      case atStart => exact ⟨0, by omega, rfl, BOX.out, KX.out⟩
      case round =>
        obtain ⟨q, hq, rfl, bq, kq⟩ := hrel
        have BQ := hide bq
        have KQ := hide kq
        by_cases hqt : q ≤ t.size
        · have hqt' : (q : Int) ≤ t.size := by omega
          have hqt2 : (q : Int) < (t.size : Int) + 1 := by omega
          have hlk := EKX.out.len
          have hwq := wrap1' q (by omega)
          have cq := bcell bq q (by rw [orTo_len]; omega)
          rw [orTo_get o lf q q (by omega), if_neg (by omega)] at cq
          have fq := bfroz bq q
          have c3 := bcell (kq.keep BF.out (by simp)) q (by omega)
          have hst : Hid (orTo o lf (q + 1) = (orTo o lf q).set q (o.getD q false || lf.getD q false)) := rfl
          generalize o.getD q false = va at *
          generalize lf.getD q false = vb at *
          clear bq kq hlk
          cases va <;> cases vb
          all_goals
            go_wp2
            refine ⟨⟨q + 1, by omega, by go_num, ?_, KQ.out.set (.inr hB1) _ _⟩, by simp [intOf]; omega⟩
            rw [hst.out]; exact bset BQ.out q _
        · have hqE : q = t.size + 1 := by omega
          subst hqE
          have hqt' : ¬ (((t.size + 1 : Nat) : Int) ≤ t.size) := by omega
          clear bq kq hqt
          go_wp2
          go_ret
          refine ⟨B1, orTo o lf (t.size + 1), rfl, BQ.out, hB1, ?_, KQ.out⟩
          rw [HL.out]
          have := EKX.out.star
          rw [hxl] at this; exact this
    · have cp := hnd.out wr kk
      have hcall := hide (HPP.out B1 o wr (HSX.out.kp kk) hol bo)
      have B1lt := lt_of_block bo
      clear bt bo kk pi hcl
      go_wp2_with fail
      refine hcall.out.mono ?_
      rintro _ w3 ⟨b3, l3, rfl, hb3, hge3, ek3, k3⟩
      have KT : Hid (Kp [] w w3) := KKr.out.trans k3 (by simp)
      have BT3 := hide (k3.keep BTr.out (by simp))
      have BK3 := hide (k3.keep BOr.out (by simp))
      have BO3 := hide hb3
      have EK3 := hide ek3
      have hne3 : b3 ≠ B1 := by omega
      clear k3 hb3 ek3 d0 d1 d2 d3 cp hcall
      go_wp2_with fail
      go_loopw [18, 16] (fun c mo w' => ∃ (q : Nat) (m1 : Bool), q ≤ t.size + 1 ∧ c = .int .i64 q ∧ mo = .bool m1 ∧ w'.heap[B1]? = some (boolsO (orTo o l3 q)) ∧ w'.heap[b3]? = some (boolsO l3) ∧ w'.heap[w.heap.size]? = some (.cells #[.int .u8 42, .slice none 0 0, .slice (some ⟨gp, 0, none⟩) ps.length pc, .int .i64 0] 104 (0, 0)) ∧ Kp [] w w' ∧ cf (orTo o l3 q) ≤ cf o ∧ (m1 = true → cf (orTo o l3 q) < cf o) ∧ (m1 = false → ∀ j, j < q → l3.getD j false = true → o.getD j false = true))
        (fun c _ _ => t.size + 1 - (intOf c).toNat)
      case atStart => exact ⟨0, false, by omega, rfl, rfl, BK3.out, BO3.out, BT3.out, KT.out, Nat.le_refl _, (fun e => by cases e), fun _ j hj => by omega⟩
      case round =>
        obtain ⟨q, m1, hq, rfl, rfl, bq, b3q, bt, kq, hc1, hc2, hc3⟩ := hrel
        have BQ := hide bq
        have B3q := hide b3q
        have BTq := hide bt
        have KQ := hide kq
        have HC1 := hide hc1
        have HC2 := hide hc2
        have HC3 := hide hc3
        by_cases hqt : q ≤ t.size
        · have hqt' : (q : Int) ≤ t.size := by omega
          have hqt2 : (q : Int) < (t.size : Int) + 1 := by omega
          have hl3 := EK3.out.len
          have hwq := wrap1' q (by omega)
          have cq := bcell bq q (by rw [orTo_len]; omega)
          have gq := orTo_get o l3 q q (by omega)
          rw [if_neg (by omega)] at gq
          rw [gq] at cq
          have fq := bfroz bq q
          have c3 := bcell b3q q (by omega)
          have hst : Hid (orTo o l3 (q + 1) = (orTo o l3 q).set q (o.getD q false || l3.getD q false)) := rfl
          have hsame : Hid ((o.getD q false || l3.getD q false) = o.getD q false → orTo o l3 (q + 1) = orTo o l3 q) := orTo_same o l3 q (by omega)
          have hcfs : Hid (o.getD q false = false → cf ((orTo o l3 q).set q true) + 1 = cf (orTo o l3 q)) := fun e => cf_set _ q (by rw [orTo_len]; omega) (by rw [gq]; exact e)
          have HA : Hid (o.getD q false = o.getD q false) := rfl
          generalize hva : o.getD q false = va at cq hst hsame hcfs
          generalize hvb : l3.getD q false = vb at c3 hst hsame
          have HVA := hide hva
          have HVB := hide hvb
          clear bq b3q bt kq hl3 hc1 hc2 hc3 gq hva hvb HA
          cases va <;> cases vb
          · go_wp2
            refine ⟨⟨q + 1, m1, by omega, by go_num, rfl, by rw [hsame.out rfl]; exact BQ.out, B3q.out, BTq.out, KQ.out, by rw [hsame.out rfl]; exact HC1.out, by rw [hsame.out rfl]; exact HC2.out, fun e j hj h3 => ?_⟩, by simp [intOf]; omega⟩
            by_cases ej : j = q
            · subst ej; rw [HVB.out] at h3; cases h3
            · exact HC3.out e j (by omega) h3
          · go_wp2
            refine ⟨⟨q + 1, true, by omega, by go_num, rfl, by rw [hst.out]; exact bset BQ.out q _, ?_, ?_, KQ.out.set (.inr hB1) _ _, ?_, fun _ => ?_, fun e => by cases e⟩, by simp [intOf]; omega⟩
            · rw [blk_set, if_neg hne3]; exact B3q.out
            · rw [blk_set, if_neg (Ne.symm hB1T)]; exact BTq.out
            · rw [hst.out]; have := hcfs.out rfl; have := HC1.out; simp only [Bool.false_or]; omega
            · rw [hst.out]; have := hcfs.out rfl; have := HC1.out; simp only [Bool.false_or]; omega
          · go_wp2
            refine ⟨⟨q + 1, m1, by omega, by go_num, rfl, by rw [hsame.out rfl]; exact BQ.out, B3q.out, BTq.out, KQ.out, by rw [hsame.out rfl]; exact HC1.out, by rw [hsame.out rfl]; exact HC2.out, fun e j hj h3 => ?_⟩, by simp [intOf]; omega⟩
            by_cases ej : j = q
            · subst ej; exact HVA.out
            · exact HC3.out e j (by omega) h3
          · go_wp2
            refine ⟨⟨q + 1, m1, by omega, by go_num, rfl, by rw [hsame.out rfl]; exact BQ.out, B3q.out, BTq.out, KQ.out, by rw [hsame.out rfl]; exact HC1.out, by rw [hsame.out rfl]; exact HC2.out, fun e j hj h3 => ?_⟩, by simp [intOf]; omega⟩
            by_cases ej : j = q
            · subst ej; exact HVA.out
            · exact HC3.out e j (by omega) h3
        · have hqE : q = t.size + 1 := by omega
          subst hqE
          have hqt' : ¬ (((t.size + 1 : Nat) : Int) ≤ t.size) := by omega
          have pi2 := PI.out.step EK3.out
          rw [hxl] at pi2
          have PI2 := hide pi2
          clear bq b3q bt kq hqt hc1 hc2 hc3 pi2
          go_wp2
          refine ⟨⟨m1, orTo o l3 (t.size + 1), rfl, BQ.out, BTq.out, KQ.out, PI2.out, fun e m j hmj hj hm hM => ?_⟩, ?_⟩
          · have hx := hj
            rw [hxl] at hx
            have g : ∀ i, i ≤ t.size → (orTo o l3 (t.size + 1)).getD i false = (o.getD i false || l3.getD i false) := fun i hi => by
              rw [orTo_get o l3 _ i (by omega), if_pos (by omega)]
            rw [g m (by omega), Bool.or_eq_true] at hm
            have hom : o.getD m false = true := by
              rcases hm with a | a
              · exact a
              · exact HC3.out e m (by omega) a
            have := (EK3.out.iff j hj).2 ⟨m, hmj, hom, hM⟩
            rw [g j (by omega), this, Bool.or_true]
          · rw [MU.out, cfW_eq BQ.out]
            have := HC1.out
            cases m1
            · simp only [boolN]; omega
            · have := HC2.out rfl
              simp only [boolN]; omega
end Go.Proofs.YtbjdkbcfpmeneaaGreat
