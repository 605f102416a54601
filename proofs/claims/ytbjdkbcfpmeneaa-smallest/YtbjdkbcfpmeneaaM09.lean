/- What is proved here: going byte by byte with the set of open positions finds just the texts of a part; lists and numbers alone, no program is named. -/
import Derived.Test.YtbjdkbcfpmeneaaM07
import Derived.Test.YtbjdkbcfpmeneaaRows
import Derived.Test.YtbjdkbcfpmeneaaM08
import Derived.Deep.Cut
namespace Go.Proofs.Ytbjdkbcfpmeneaa
set_option linter.unusedVariables false
set_option linter.unusedSimpArgs false
open Go.RowKit

/- The positions below k that match byte c; those that may follow one that was hit. -/
def takN (bs : List Nat) (c : Nat) : Nat → Nat
  | 0 => 0
  | k + 1 => if (bs.getD k 0).testBit c = true then takN bs c k ||| (1 <<< k) else takN bs c k
def behN (fs : List Nat) (h : Nat) : Nat → Nat
  | 0 => 0
  | k + 1 => if h.testBit k = true then behN fs h k ||| fs.getD k 0 else behN fs h k

theorem takN_bit (bs : List Nat) (c q : Nat) : ∀ k, (takN bs c k).testBit q = true ↔ q < k ∧ (bs.getD q 0).testBit c = true := by
  intro k
  induction k with
  | zero => simp [takN]
  | succ k ih =>
    rw [takN]
    have one : (1 <<< k).testBit q = true ↔ q = k := by rw [Nat.one_shiftLeft, Nat.testBit_two_pow, decide_eq_true_eq]; exact eq_comm
    by_cases h : (bs.getD k 0).testBit c = true
    · rw [if_pos h, Nat.testBit_or, Bool.or_eq_true, ih, one]
      constructor
      · rintro (⟨a, b⟩ | rfl)
        · exact ⟨by omega, b⟩
        · exact ⟨by omega, h⟩
      · rintro ⟨a, b⟩
        by_cases e : q = k
        · exact .inr e
        · exact .inl ⟨by omega, b⟩
    · rw [if_neg h, ih]
      constructor
      · rintro ⟨a, b⟩; exact ⟨by omega, b⟩
      · rintro ⟨a, b⟩
        have : q ≠ k := by rintro rfl; exact h b
        exact ⟨by omega, b⟩

theorem behN_bit (fs : List Nat) (h r : Nat) : ∀ k, (behN fs h k).testBit r = true ↔ ∃ q, q < k ∧ h.testBit q = true ∧ (fs.getD q 0).testBit r = true := by
  intro k
  induction k with
  | zero => simp [behN]
  | succ k ih =>
    rw [behN]
    by_cases hk : h.testBit k = true
    · rw [if_pos hk, Nat.testBit_or, Bool.or_eq_true, ih]
      constructor
      · rintro (⟨q, a, b⟩ | b)
        · exact ⟨q, by omega, b⟩
        · exact ⟨k, by omega, hk, b⟩
      · rintro ⟨q, a, b, c⟩
        by_cases e : q = k
        · subst e; exact .inr c
        · exact .inl ⟨q, by omega, b, c⟩
    · rw [if_neg hk, ih]
      constructor
      · rintro ⟨q, a, b⟩; exact ⟨q, by omega, b⟩
      · rintro ⟨q, a, b, c⟩
        have : q ≠ k := by rintro rfl; exact hk b
        exact ⟨q, by omega, b, c⟩

/- Byte by byte. -/
def simul (bs fs : List Nat) (last : Nat) : Nat → Bool → List Nat → Bool
  | _, done, [] => done
  | op, _, c :: cs => if op &&& takN bs c bs.length = 0 then false else simul bs fs last (behN fs (op &&& takN bs c bs.length) fs.length) ((op &&& takN bs c bs.length) &&& last != 0) cs

theorem getD_bit_lt {l : List Nat} {q c : Nat} (h : (l.getD q 0).testBit c = true) : q < l.length := by
  rcases Nat.lt_or_ge q l.length with a | a
  · exact a
  · rw [List.getD_eq_getElem?_getD, List.getElem?_eq_none a, Option.getD_none] at h; simp at h

theorem ne_zero_bit {x : Nat} (h : x ≠ 0) : ∃ q, x.testBit q = true := Nat.exists_testBit_of_ne_zero h

theorem simul_iff (bs fs : List Nat) (last : Nat) : ∀ (x : List Nat) (op : Nat) (done : Bool),
    simul bs fs last op done x = true ↔ (x = [] ∧ done = true) ∨ ∃ q, op.testBit q = true ∧ rd (fun q => bs.getD q 0) (fun q => fs.getD q 0) last q x := by
  intro x
  induction x with
  | nil =>
    intro op done
    rw [simul]
    constructor
    · intro h; exact .inl ⟨rfl, h⟩
    · rintro (⟨_, h⟩ | ⟨q, _, h⟩)
      · exact h
      · exact h.elim
  | cons c cs ih =>
    intro op done
    rw [simul]
    have hitb : ∀ q, (op &&& takN bs c bs.length).testBit q = true ↔ op.testBit q = true ∧ (bs.getD q 0).testBit c = true := by
      intro q
      rw [Nat.testBit_and, Bool.and_eq_true, takN_bit]
      constructor
      · rintro ⟨a, _, b⟩; exact ⟨a, b⟩
      · rintro ⟨a, b⟩; exact ⟨a, getD_bit_lt b, b⟩
    generalize op &&& takN bs c bs.length = hit at hitb
    by_cases h0 : hit = 0
    · rw [if_pos h0]
      constructor
      · intro h; cases h
      · rintro (⟨h, _⟩ | ⟨q, a, b, _⟩)
        · cases h
        · have := (hitb q).2 ⟨a, b⟩
          rw [h0] at this; simp at this
    · rw [if_neg h0, ih]
      constructor
      · rintro (⟨a, b⟩ | ⟨r, a, b⟩)
        · obtain ⟨q, hq⟩ := ne_zero_bit (bne_iff_ne.1 b)
          rw [Nat.testBit_and, Bool.and_eq_true] at hq
          have := (hitb q).1 hq.1
          exact .inr ⟨q, this.1, this.2, .inl ⟨a, hq.2⟩⟩
        · obtain ⟨q, hq, h1, h2⟩ := (behN_bit fs hit r _).1 a
          have := (hitb q).1 h1
          exact .inr ⟨q, this.1, this.2, .inr ⟨r, h2, b⟩⟩
      · rintro (⟨h, _⟩ | ⟨q, a, b, ⟨e, g⟩ | ⟨r, e, g⟩⟩)
        · cases h
        · refine .inl ⟨e, bne_iff_ne.2 fun z => ?_⟩
          have : (hit &&& last).testBit q = true := by rw [Nat.testBit_and, (hitb q).2 ⟨a, b⟩, g]; rfl
          rw [z] at this; simp at this
        · exact .inr ⟨r, (behN_bit fs hit r _).2 ⟨q, getD_bit_lt e, (hitb q).2 ⟨a, b⟩, e⟩, g⟩

theorem Part.simul {bs fs : List Nat} {lo hi : Nat} {e : Bool} {first last : Nat} {L : Lang} (h : Part (fun q => bs.getD q 0) (fun q => fs.getD q 0) lo hi e first last L) (x : List Nat) :
    Go.Proofs.Ytbjdkbcfpmeneaa.simul bs fs last first e x = true ↔ L x := by
  rw [simul_iff, ← h.eq x]
  exact Iff.rfl

/- What is proved here: what Behind and Taking answer. -/

abbrev setO (s : Nat) : Obj := .cells #[.int .u64 (wd s 0), .int .u64 (wd s 1), .int .u64 (wd s 2), .int .u64 (wd s 3)] 62 (0, 0)

theorem PosAt.rowB {w : World} {p g N cap : Nat} {bs L : List Nat} {vf : Value} (h : PosAt w p bs L (.slice (some ⟨g, 0, none⟩) N cap) vf) (hl : bs.length = N) (k : Nat) (hk : k < N) :
    w.cell? ⟨g, k * 4, none⟩ = some (.int .u64 (wd (bs.getD k 0) 0)) ∧ w.cell? ⟨g, k * 4 + 1, none⟩ = some (.int .u64 (wd (bs.getD k 0) 1)) ∧ w.cell? ⟨g, k * 4 + 2, none⟩ = some (.int .u64 (wd (bs.getD k 0) 2)) ∧ w.cell? ⟨g, k * 4 + 3, none⟩ = some (.int .u64 (wd (bs.getD k 0) 3)) := by
  have ho : w.ownsRow 0 62 4 (.slice (some ⟨g, 0, none⟩) N cap) N (flat bs) := by have := h.ob; rw [hl] at this; exact this
  have c : ∀ i < 4, w.cell? ⟨g, k * 4 + i, none⟩ = some (.int .u64 (wd (bs.getD k 0) i)) := fun i hi => by
    rw [ho.cellAt (k * 4 + i) (by omega)]; exact flat_get bs k (by omega) i hi
  exact ⟨c 0 (by omega), c 1 (by omega), c 2 (by omega), c 3 (by omega)⟩
theorem Below.toKp {w w1 : World} (h : Below w.heap.size w w1) : Kp [] w w1 := ⟨h.os, h.tape, h.output, h.size, fun k hk _ => h.block k hk⟩

set_option maxRecDepth 100000 in
set_option maxHeartbeats 2000000 in
theorem behind_some (p hit g cap : Nat) (bs fs : List Nat) (vb : Value) (w : World) (h : PosAt w p bs fs vb (.slice (some ⟨g, 0, none⟩) fs.length cap)) (hn : fs.length ≤ 200) :
    Calls Try.prog 47 #[.pointer (some ⟨p, 0, none⟩), setV hit] w fun x w' => x = .returned (setV (behN fs hit fs.length)) ∧ Below w.heap.size w w' := by
  have hp := lt_of_block h.blk
  have hpne : p ≠ w.heap.size := by omega
  have hpne1 : p ≠ w.heap.size + 1 := by omega
  have hpne2 : p ≠ w.heap.size + 1 + 1 := by omega
  have hpne3 : p ≠ w.heap.size + 2 := by omega
  obtain ⟨c0, c1, f0, f1⟩ := two h.blk
  have HP : Hid _ := h
  have hg : g < w.heap.size := h.lt g (foot_mem.2 (.inr (.inr rfl)))
  generalize hN : fs.length = N at *
  have HN := hide hN
  clear h hN
  go_enter Try.func47, Try.ntmps47
  go_upto_region 2 with fail
  have kW : Kp [] w (((w.alloc (setO hit)).alloc zeroSet).alloc zeroSet) := (((Kp.refl _ w).alloc _).alloc _).alloc _
  have bE : (((w.alloc (setO hit)).alloc zeroSet).alloc zeroSet).heap[w.heap.size]? = some (setO hit) := by simp only [blk_alloc, size_alloc]; simp; omega
  have bZ : (((w.alloc (setO hit)).alloc zeroSet).alloc zeroSet).heap[w.heap.size + 1]? = some zeroSet := by simp only [blk_alloc, size_alloc]; simp
  have bO : (((w.alloc (setO hit)).alloc zeroSet).alloc zeroSet).heap[w.heap.size + 1 + 1]? = some zeroSet := by simp only [blk_alloc, size_alloc]; simp
  generalize ((w.alloc (setO hit)).alloc zeroSet).alloc zeroSet = W at *
  clear c0 c1 f0 f1
  obtain ⟨c0, c1, f0, f1⟩ := two (HP.out.kp kW (by simp)).blk
  have KW := hide kW
  have BE := hide bE
  have BZ := hide bZ
  have BO := hide bO
  clear kW bE bZ bO
  go_wp2_with fail
  go_loopw [13] (fun i w' => ∃ k : Nat, k ≤ N ∧ i = .int .i64 k ∧ Kp [] w w' ∧ w'.heap[w.heap.size]? = some (setO hit) ∧ w'.heap[w.heap.size + 1]? = some zeroSet ∧ w'.heap[w.heap.size + 1 + 1]? = some (setO (behN fs hit k)))
    (fun i _ => N - (intOf i).toNat)
  case atStart =>
    refine ⟨0, by omega, rfl, KW.out, BE.out, BZ.out, ?_⟩
    simp only [behN, setO, wd_zero]; exact BO.out
  case round =>
    obtain ⟨k, hk, rfl, kp, be, bz, bo⟩ := hrel
    have P := HP.out.kp kp (by simp)
    have KP := hide kp
    have BE := hide be
    have BZ := hide bz
    have BO := hide bo
    have lr : w.heap.size + 1 + 1 < wr.heap.size := lt_of_block bo
    have lr0 : w.heap.size < wr.heap.size := by omega
    have lr1 : w.heap.size + 1 < wr.heap.size := by omega
    obtain ⟨ec0, ec1, ec2, ec3, _⟩ := four be
    obtain ⟨oc0, oc1, oc2, oc3, of0, of1, of2, of3⟩ := four bo
    obtain ⟨zc0, zc1, zc2, zc3, zf0, zf1, zf2, zf3⟩ := four bz
    clear c0 c1 f0 f1 be bz bo kp
    by_cases hlt : k < N
    · have hu8 : IntKind.u8.wrap (k : Int) = k := by simp [IntKind.wrap, IntKind.bits, IntKind.signed]; omega
      have hlt' : (k : Int) < N := by omega
      obtain ⟨g0, g1, g2, g3, _⟩ := P.row HN.out k hlt
      have hb1 : Hid (behN fs hit (k + 1) = if hit.testBit k = true then behN fs hit k ||| fs.getD k 0 else behN fs hit k) := rfl
      generalize fs.getD k 0 = X at *
      generalize hO : behN fs hit k = O at *
      clear P hO
      go_wp2_with fail
      refine (has_any hit k _ (by omega)).mono ?_
      rintro _ w1 ⟨rfl, h1⟩
      have K1 := hide ((KP.out.alloc (setO X)).below h1)
      have be1 : Hid (w1.heap[w.heap.size]? = some (setO hit)) := bkeep h1 (by rw [blk_alloc, if_neg (by omega)]; exact BE.out)
      have bz1 : Hid (w1.heap[w.heap.size + 1]? = some zeroSet) := bkeep h1 (by rw [blk_alloc, if_neg (by omega)]; exact BZ.out)
      have bo1 : w1.heap[w.heap.size + 1 + 1]? = some (setO O) := bkeep h1 (by rw [blk_alloc, if_neg (by omega)]; exact BO.out)
      have bx1 : w1.heap[wr.heap.size]? = some (setO X) := bkeep h1 (by rw [blk_alloc, if_pos rfl])
      have lx1 := lt_of_block bx1
      have BO1 := hide bo1
      clear oc0 oc1 oc2 oc3 of0 of1 of2 of3
      obtain ⟨oc0, oc1, oc2, oc3, of0, of1, of2, of3⟩ := four bo1
      obtain ⟨xc0, xc1, xc2, xc3, _⟩ := four bx1
      clear h1 bo1 bx1 ec0 ec1 ec2 ec3 zc0 zc1 zc2 zc3 zf0 zf1 zf2 zf3
      by_cases hb : hit.testBit k = true
      · rw [hb]
        have HB := hide hb
        clear hb
        go_wp2_with fail
        refine (union2 O X _ _ (by rw [blk_alloc, if_pos rfl])).mono ?_
        rintro _ w2 ⟨rfl, h2⟩
        have K2 := hide ((K1.out.alloc (.cells #[.int .u64 (wd O 0), .int .u64 (wd O 1), .int .u64 (wd O 2), .int .u64 (wd O 3), .int .u64 (wd X 0), .int .u64 (wd X 1), .int .u64 (wd X 2), .int .u64 (wd X 3)] 62)).below h2)
        have be2 : Hid (w2.heap[w.heap.size]? = some (setO hit)) := bkeep h2 (by rw [blk_alloc, if_neg (by omega)]; exact be1.out)
        have bz2 : Hid (w2.heap[w.heap.size + 1]? = some zeroSet) := bkeep h2 (by rw [blk_alloc, if_neg (by omega)]; exact bz1.out)
        have bo2 : w2.heap[w.heap.size + 1 + 1]? = some (setO O) := bkeep h2 (by rw [blk_alloc, if_neg (by omega)]; exact BO1.out)
        clear oc0 oc1 oc2 oc3 of0 of1 of2 of3 xc0 xc1 xc2 xc3 h2
        obtain ⟨oc0, oc1, oc2, oc3, of0, of1, of2, of3⟩ := four bo2
        have BO2 := hide bo2
        clear bo2
        go_wp2
        refine ⟨⟨k + 1, by omega, by go_num, K2.out.set4 (.inr (by omega)) _ _ _ _, ?_, ?_, ?_⟩, by simp [intOf]; omega⟩
        · simp only [blk_set, if_neg (show w.heap.size ≠ w.heap.size + 1 + 1 by omega)]; exact be2.out
        · simp only [blk_set, if_neg (show w.heap.size + 1 ≠ w.heap.size + 1 + 1 by omega)]; exact bz2.out
        · simp only [blk_set, BO2.out]
          rw [hb1.out, if_pos HB.out]
          simp [setObj_cells]
      · have hb' : hit.testBit k = false := by simpa using hb
        rw [hb']
        have HB := hide hb
        clear hb hb'
        go_wp2
        refine ⟨⟨k + 1, by omega, by go_num, K1.out, be1.out, bz1.out, ?_⟩, by simp [intOf]; omega⟩
        rw [hb1.out, if_neg HB.out]; exact BO1.out
    · have hkN : k = N := by omega
      subst hkN
      clear P
      go_wp2
      refine bodyPost_ret (v := setV (behN fs hit k)) ?_ rfl ⟨rfl, (KP.out.set4 (.inr (by omega)) _ _ _ _).toBelow⟩
      have e0 : ((((wr.setCell ⟨w.heap.size + 1, 0, none⟩ (.int .u64 (wd (behN fs hit k) 0))).setCell ⟨w.heap.size + 1, 1, none⟩ (.int .u64 (wd (behN fs hit k) 1))).setCell ⟨w.heap.size + 1, 2, none⟩ (.int .u64 (wd (behN fs hit k) 2))).setCell ⟨w.heap.size + 1, 3, none⟩ (.int .u64 (wd (behN fs hit k) 3))).heap[w.heap.size + 1]? = some (setO (behN fs hit k)) := by
        simp only [blk_set, BZ.out]; simp [setObj_cells]
      obtain ⟨x0, x1, x2, x3, _⟩ := four e0
      simp [results, Try.results47, go_sem, x0, x1, x2, x3]

theorem behind_none (p hit cap : Nat) (a : Option Addr) (bs : List Nat) (vb : Value) (w : World) (h : PosAt w p bs [] vb (.slice a 0 cap)) :
    Calls Try.prog 47 #[.pointer (some ⟨p, 0, none⟩), setV hit] w fun x w' => x = .returned (setV (behN [] hit 0)) ∧ Below w.heap.size w w' := by
  have HP : Hid _ := h
  clear h
  go_enter Try.func47, Try.ntmps47
  go_upto_region 2 with fail
  have kW : Kp [] w (((w.alloc (setO hit)).alloc zeroSet).alloc zeroSet) := (((Kp.refl _ w).alloc _).alloc _).alloc _
  have bZ : (((w.alloc (setO hit)).alloc zeroSet).alloc zeroSet).heap[w.heap.size + 1]? = some zeroSet := by simp only [blk_alloc, size_alloc]; simp
  have bO : (((w.alloc (setO hit)).alloc zeroSet).alloc zeroSet).heap[w.heap.size + 1 + 1]? = some zeroSet := by simp only [blk_alloc, size_alloc]; simp
  generalize ((w.alloc (setO hit)).alloc zeroSet).alloc zeroSet = W at *
  obtain ⟨c0, c1, f0, f1⟩ := two (HP.out.kp kW (by simp)).blk
  obtain ⟨oc0, oc1, oc2, oc3, of0, of1, of2, of3⟩ := four bO
  obtain ⟨zc0, zc1, zc2, zc3, zf0, zf1, zf2, zf3⟩ := four bZ
  have KW := hide kW
  have BZ := hide bZ
  clear kW bZ bO
  go_wp2_with fail
  go_rounds 1
  refine bodyPost_ret (v := setV 0) ?_ rfl ⟨rfl, (KW.out.set4 (.inr (by omega)) _ _ _ _).toBelow⟩
  have e0 : ((((W.setCell ⟨w.heap.size + 1, 0, none⟩ (.int .u64 0)).setCell ⟨w.heap.size + 1, 1, none⟩ (.int .u64 0)).setCell ⟨w.heap.size + 1, 2, none⟩ (.int .u64 0)).setCell ⟨w.heap.size + 1, 3, none⟩ (.int .u64 0)).heap[w.heap.size + 1]? = some zeroSet := by
    simp only [blk_set, BZ.out]; simp [setObj_cells]
  obtain ⟨x0, x1, x2, x3, _⟩ := four e0
  simp [results, Try.results47, go_sem, x0, x1, x2, x3, wd_zero]

theorem behind_code (p hit : Nat) (bs fs : List Nat) (vb vf : Value) (w : World) (h : PosAt w p bs fs vb vf) (hn : fs.length ≤ 200) :
    Calls Try.prog 47 #[.pointer (some ⟨p, 0, none⟩), setV hit] w fun x w' => x = .returned (setV (behN fs hit fs.length)) ∧ Below w.heap.size w w' := by
  rcases h.of.2 with ⟨rfl, e0⟩ | ⟨g, cap, cur, rfl, _⟩
  · have : fs = [] := List.eq_nil_of_length_eq_zero e0
    subst this
    exact behind_none p hit 0 none bs vb w h
  · exact behind_some p hit g cap bs fs vb w h hn

set_option maxRecDepth 100000 in
set_option maxHeartbeats 2000000 in
theorem taking_some (p c g cap : Nat) (bs fs : List Nat) (vf : Value) (w : World) (h : PosAt w p bs fs (.slice (some ⟨g, 0, none⟩) bs.length cap) vf) (hn : bs.length ≤ 200) (hc : c < 256) :
    Calls Try.prog 46 #[.pointer (some ⟨p, 0, none⟩), .int .u8 c] w fun x w' => x = .returned (setV (takN bs c bs.length)) ∧ Below w.heap.size w w' := by
  have HP : Hid _ := h
  have hg : g < w.heap.size := h.lt g (foot_mem.2 (.inr (.inl rfl)))
  generalize hN : bs.length = N at *
  have HN := hide hN
  clear h hN
  go_enter Try.func46, Try.ntmps46
  go_upto_region 2 with fail
  have kW : Kp [] w ((w.alloc zeroSet).alloc zeroSet) := ((Kp.refl _ w).alloc _).alloc _
  have bZ : ((w.alloc zeroSet).alloc zeroSet).heap[w.heap.size]? = some zeroSet := by simp only [blk_alloc, size_alloc]; simp
  have bO : ((w.alloc zeroSet).alloc zeroSet).heap[w.heap.size + 1]? = some zeroSet := by simp only [blk_alloc, size_alloc]; simp
  generalize (w.alloc zeroSet).alloc zeroSet = W at *
  obtain ⟨c0, c1, f0, f1⟩ := two (HP.out.kp kW (by simp)).blk
  have KW := hide kW
  have BZ := hide bZ
  have BO := hide bO
  clear kW bZ bO
  go_wp2_with fail
  go_loopw [13] (fun i w' => ∃ k : Nat, k ≤ N ∧ i = .int .i64 k ∧ Kp [] w w' ∧ w'.heap[w.heap.size]? = some zeroSet ∧ w'.heap[w.heap.size + 1]? = some (setO (takN bs c k)))
    (fun i _ => N - (intOf i).toNat)
  case atStart =>
    refine ⟨0, by omega, rfl, KW.out, BZ.out, ?_⟩
    simp only [takN, setO, wd_zero]; exact BO.out
  case round =>
    obtain ⟨k, hk, rfl, kp, bz, bo⟩ := hrel
    have P := HP.out.kp kp (by simp)
    have KP := hide kp
    have BZ := hide bz
    have BO := hide bo
    have lr : w.heap.size + 1 < wr.heap.size := lt_of_block bo
    have lr0 : w.heap.size < wr.heap.size := by omega
    obtain ⟨oc0, oc1, oc2, oc3, of0, of1, of2, of3⟩ := four bo
    obtain ⟨zc0, zc1, zc2, zc3, zf0, zf1, zf2, zf3⟩ := four bz
    clear c0 c1 f0 f1 bz bo kp
    by_cases hlt : k < N
    · have hu8 : IntKind.u8.wrap (k : Int) = k := by simp [IntKind.wrap, IntKind.bits, IntKind.signed]; omega
      have hlt' : (k : Int) < N := by omega
      obtain ⟨g0, g1, g2, g3⟩ := P.rowB HN.out k hlt
      have hb1 : Hid (takN bs c (k + 1) = if (bs.getD k 0).testBit c = true then takN bs c k ||| (1 <<< k) else takN bs c k) := rfl
      generalize bs.getD k 0 = X at *
      generalize hO : takN bs c k = O at *
      clear P hO
      go_wp2_with fail
      refine (has_any X c _ hc).mono ?_
      rintro _ w1 ⟨rfl, h1⟩
      have K1 := hide ((KP.out.alloc (setO X)).below h1)
      have bz1 : Hid (w1.heap[w.heap.size]? = some zeroSet) := bkeep h1 (by rw [blk_alloc, if_neg (by omega)]; exact BZ.out)
      have bo1 : w1.heap[w.heap.size + 1]? = some (setO O) := bkeep h1 (by rw [blk_alloc, if_neg (by omega)]; exact BO.out)
      have lo1 := lt_of_block bo1
      have BO1 := hide bo1
      clear oc0 oc1 oc2 oc3 of0 of1 of2 of3
      obtain ⟨oc0, oc1, oc2, oc3, of0, of1, of2, of3⟩ := four bo1
      clear h1 bo1 zc0 zc1 zc2 zc3 zf0 zf1 zf2 zf3 g0 g1 g2 g3
      by_cases hb : X.testBit c = true
      · rw [hb]
        have HB := hide hb
        clear hb
        go_wp2_with fail
        go_region_with (first | (go_at_call 73; refine (one_any k _ (by omega)).mono ?_; rintro _ w2 ⟨rfl, h2⟩; have K2 := hide (K1.out.drew.below h2); have bz2 : Hid (w2.heap[w.heap.size]? = some zeroSet) := bkeep h2 (by exact bz1.out); have bo2 : w2.heap[w.heap.size + 1]? = some (setO O) := bkeep h2 (by exact BO1.out); have BO2 := hide bo2; have lo2 := lt_of_block bo2; obtain ⟨oc0, oc1, oc2, oc3, of0, of1, of2, of3⟩ := four bo2; clear bo2 h2) | (go_at_call 54; refine (union2 O (1 <<< k) _ _ (by rw [blk_alloc, if_pos rfl])).mono ?_; rintro _ w3 ⟨rfl, h3⟩; have K3 := hide ((K2.out.alloc (.cells #[.int .u64 (wd O 0), .int .u64 (wd O 1), .int .u64 (wd O 2), .int .u64 (wd O 3), .int .u64 (wd (1 <<< k) 0), .int .u64 (wd (1 <<< k) 1), .int .u64 (wd (1 <<< k) 2), .int .u64 (wd (1 <<< k) 3)] 62)).below h3); have bz3 : Hid (w3.heap[w.heap.size]? = some zeroSet) := bkeep h3 (by rw [blk_alloc, if_neg (by omega)]; exact bz2.out); have bo3 : w3.heap[w.heap.size + 1]? = some (setO O) := bkeep h3 (by rw [blk_alloc, if_neg (by omega)]; exact BO2.out); have BO3 := hide bo3; obtain ⟨oc0, oc1, oc2, oc3, of0, of1, of2, of3⟩ := four bo3; clear bo3 h3))
        all_goals
          go_wp2
          refine ⟨⟨k + 1, by omega, by go_num, K3.out.set4 (.inr (by omega)) _ _ _ _, ?_, ?_⟩, by simp [intOf]; omega⟩
          · simp only [blk_set, if_neg (show w.heap.size ≠ w.heap.size + 1 by omega)]; exact bz3.out
          · simp only [blk_set, BO3.out]
            rw [hb1.out, if_pos HB.out]
            simp [setObj_cells]
      · have hb' : X.testBit c = false := by simpa using hb
        rw [hb']
        have HB := hide hb
        clear hb hb'
        go_wp2
        refine ⟨⟨k + 1, by omega, by go_num, K1.out, bz1.out, ?_⟩, by simp [intOf]; omega⟩
        rw [hb1.out, if_neg HB.out]; exact BO1.out
    · have hkN : k = N := by omega
      subst hkN
      clear P
      go_wp2
      refine bodyPost_ret (v := setV (takN bs c k)) ?_ rfl ⟨rfl, (KP.out.set4 (.inr (by omega)) _ _ _ _).toBelow⟩
      have e0 : ((((wr.setCell ⟨w.heap.size, 0, none⟩ (.int .u64 (wd (takN bs c k) 0))).setCell ⟨w.heap.size, 1, none⟩ (.int .u64 (wd (takN bs c k) 1))).setCell ⟨w.heap.size, 2, none⟩ (.int .u64 (wd (takN bs c k) 2))).setCell ⟨w.heap.size, 3, none⟩ (.int .u64 (wd (takN bs c k) 3))).heap[w.heap.size]? = some (setO (takN bs c k)) := by
        simp only [blk_set, BZ.out]; simp [setObj_cells]
      obtain ⟨x0, x1, x2, x3, _⟩ := four e0
      simp [results, Try.results46, go_sem, x0, x1, x2, x3]

theorem taking_none (p c cap : Nat) (a : Option Addr) (fs : List Nat) (vf : Value) (w : World) (h : PosAt w p [] fs (.slice a 0 cap) vf) :
    Calls Try.prog 46 #[.pointer (some ⟨p, 0, none⟩), .int .u8 c] w fun x w' => x = .returned (setV (takN [] c 0)) ∧ Below w.heap.size w w' := by
  have HP : Hid _ := h
  clear h
  go_enter Try.func46, Try.ntmps46
  go_upto_region 2 with fail
  have kW : Kp [] w ((w.alloc zeroSet).alloc zeroSet) := ((Kp.refl _ w).alloc _).alloc _
  have bZ : ((w.alloc zeroSet).alloc zeroSet).heap[w.heap.size]? = some zeroSet := by simp only [blk_alloc, size_alloc]; simp
  have bO : ((w.alloc zeroSet).alloc zeroSet).heap[w.heap.size + 1]? = some zeroSet := by simp only [blk_alloc, size_alloc]; simp
  generalize (w.alloc zeroSet).alloc zeroSet = W at *
  obtain ⟨c0, c1, f0, f1⟩ := two (HP.out.kp kW (by simp)).blk
  obtain ⟨oc0, oc1, oc2, oc3, of0, of1, of2, of3⟩ := four bO
  obtain ⟨zc0, zc1, zc2, zc3, zf0, zf1, zf2, zf3⟩ := four bZ
  have KW := hide kW
  have BZ := hide bZ
  clear kW bZ bO
  go_wp2_with fail
  go_rounds 1
  refine bodyPost_ret (v := setV 0) ?_ rfl ⟨rfl, (KW.out.set4 (.inr (by omega)) _ _ _ _).toBelow⟩
  have e0 : ((((W.setCell ⟨w.heap.size, 0, none⟩ (.int .u64 0)).setCell ⟨w.heap.size, 1, none⟩ (.int .u64 0)).setCell ⟨w.heap.size, 2, none⟩ (.int .u64 0)).setCell ⟨w.heap.size, 3, none⟩ (.int .u64 0)).heap[w.heap.size]? = some zeroSet := by
    simp only [blk_set, BZ.out]; simp [setObj_cells]
  obtain ⟨x0, x1, x2, x3, _⟩ := four e0
  simp [results, Try.results46, go_sem, x0, x1, x2, x3, wd_zero]

theorem taking_code (p c : Nat) (bs fs : List Nat) (vb vf : Value) (w : World) (h : PosAt w p bs fs vb vf) (hn : bs.length ≤ 200) (hc : c < 256) :
    Calls Try.prog 46 #[.pointer (some ⟨p, 0, none⟩), .int .u8 c] w fun x w' => x = .returned (setV (takN bs c bs.length)) ∧ Below w.heap.size w w' := by
  rcases h.ob.2 with ⟨rfl, e0⟩ | ⟨g, cap, cur, rfl, _⟩
  · have : bs = [] := List.eq_nil_of_length_eq_zero e0
    subst this
    exact taking_none p c 0 none fs vf w h
  · exact taking_some p c g cap bs fs vf w h hn hc
end Go.Proofs.Ytbjdkbcfpmeneaa
