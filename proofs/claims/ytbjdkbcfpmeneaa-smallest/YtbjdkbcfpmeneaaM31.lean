/- What is proved here: a link over the list of followers is a link of the parts; lists and numbers alone. -/
import Derived.Test.YtbjdkbcfpmeneaaM07
import Derived.Test.YtbjdkbcfpmeneaaRows
import Derived.Test.YtbjdkbcfpmeneaaM30
namespace Go.Proofs.Ytbjdkbcfpmeneaa
set_option linter.unusedVariables false
set_option linter.unusedSimpArgs false

theorem linkTo_get (e st : Nat) (fs : List Nat) : ∀ k q, k ≤ fs.length → (linkTo e st k fs).getD q 0 = if q < k then lk e st q (fs.getD q 0) else fs.getD q 0 := by
  intro k
  induction k with
  | zero => intro q _; simp [linkTo]
  | succ k ih =>
    intro q hk
    have hl := linkTo_len e st fs k
    rw [linkTo]
    by_cases hq : q = k
    · subst hq
      rw [List.getD_eq_getElem?_getD, List.getElem?_set_self (by omega), if_pos (by omega), Option.getD_some, ih q (by omega), if_neg (by omega)]
    · rw [List.getD_eq_getElem?_getD, List.getElem?_set_ne (fun h => hq h.symm), ← List.getD_eq_getElem?_getD, ih q (by omega)]
      by_cases h2 : q < k
      · rw [if_pos h2, if_pos (by omega)]
      · rw [if_neg h2, if_neg (by omega)]
theorem linkL_len (e st : Nat) (fs : List Nat) : (linkL e st fs).length = fs.length := linkTo_len e st fs _
theorem linkL_get (e st : Nat) (fs : List Nat) (q : Nat) (hq : q < fs.length) : (linkL e st fs).getD q 0 = lkF (fun q => fs.getD q 0) e st q := by
  rw [linkL, linkTo_get e st fs _ q (Nat.le_refl _), if_pos hq]
  rfl
theorem linkL_take (e st : Nat) (fs : List Nat) (lo hi : Nat) (h : In lo hi e) : (linkL e st fs).take lo = fs.take lo := by
  apply List.ext_getElem?
  intro q
  rw [List.getElem?_take, List.getElem?_take]
  by_cases hq : q < lo
  · rw [if_pos hq, if_pos hq]
    by_cases hl : q < fs.length
    · have g := linkL_get e st fs q hl
      have n := out_of h (q := q) (.inl hq)
      rw [lkF, n] at g
      simp only [Bool.false_eq_true, if_false] at g
      rw [List.getD_eq_getElem?_getD, List.getD_eq_getElem?_getD, List.getElem?_eq_getElem hl, List.getElem?_eq_getElem (by rw [linkL_len]; exact hl)] at g
      simp only [Option.getD_some] at g
      rw [List.getElem?_eq_getElem hl, List.getElem?_eq_getElem (by rw [linkL_len]; exact hl), g]
    · rw [List.getElem?_eq_none (by rw [linkL_len]; omega), List.getElem?_eq_none (by omega)]
  · rw [if_neg hq, if_neg hq]

theorem Part.linked {B : Nat → Nat} {fs : List Nat} {lo hi a b : Nat} {e : Bool} {f l : Nat} {L : Lang} (h : Part B (lkF (fun q => fs.getD q 0) a b) lo hi e f l L) (hl : hi ≤ fs.length) :
    Part B (fun q => (linkL a b fs).getD q 0) lo hi e f l L :=
  h.congr (fun _ _ => rfl) (fun q _ h2 => linkL_get a b fs q (by omega))
end Go.Proofs.Ytbjdkbcfpmeneaa

/- What is proved here: what the reader's method rep does, if atom does what it should. -/
namespace Go.Proofs.Ytbjdkbcfpmeneaa
set_option linter.unusedVariables false
set_option linter.unusedSimpArgs false
open Go.RowKit

theorem see3 (c : Nat) (hc : c < 256) : decide (0 ≤ Lib.indexByte (ByteArray.mk #[42, 43, 63]).data.toList c.toUInt8) = decide (c = 42 ∨ c = 43 ∨ c = 63) := by
  have h : ∀ c : Fin 256, decide (0 ≤ Lib.indexByte (ByteArray.mk #[42, 43, 63]).data.toList c.1.toUInt8) = decide (c.1 = 42 ∨ c.1 = 43 ∨ c.1 = 63) := by decide +kernel
  exact h ⟨c, hc⟩
theorem next_val (s : ByteArray) (i p r : Nat) (e pl c : Int) (w : World) (h : w.heap[r]? = some (rdO s i e pl p)) (hi : i < s.size) (hs : s.size ≤ 16) (hc : (gt s i : Int) = c) :
    Calls Try.prog 89 #[.pointer (some ⟨r, 0, none⟩)] w fun x w' => x = .returned (.int .u8 c) ∧ w'.heap[r]? = some (rdO s (i + 1) e pl p) ∧ Kp [r] w w' := by
  rw [← hc]; exact next_yes s i p r e pl w h hi hs

/- What rep's loop keeps: T holds the part that was read, H the answer's block. -/
def RepRel (R : PR Lang) (s : ByteArray) (i p r T H : Nat) (bs fs bs1 : List Nat) (vb1 vf1 : Value) (xs : List Nat) (w w' : World) : Prop :=
  ∃ (e : Bool) (f l : Nat) (fs' : List Nat), w'.heap[T]? = some (partO e f l) ∧ w'.heap[H]? = some zeroPart ∧ Kp xs w w' ∧
    ((∃ (L : Lang) (j m : Nat), St w' s j 0 0 p r bs1 fs' vb1 vf1 ∧ i ≤ j ∧ j ≤ s.size ∧ s.size - j < m ∧ R = pReps s m L j ∧ bs1.length ≤ bs.length + (j - i) ∧ bs.length ≤ bs1.length ∧ bs1.take bs.length = bs ∧ fs'.take bs.length = fs ∧
        Part (fun q => bs1.getD q 0) (fun q => fs'.getD q 0) bs.length bs1.length e f l L) ∨
     (St w' s R.j R.err R.pl p r bs1 fs' vb1 vf1 ∧ R.err ≠ 0 ∧ R.j = s.size ∧ bs1.length ≤ bs.length + (R.j - i)))

/- Both ways in which the loop is left answer what was read. -/
theorem RepRel.done {R : PR Lang} {s : ByteArray} {j m : Nat} {L : Lang} (hR : R = pReps s m L j) (hg : gt s j ≠ 42 ∧ gt s j ≠ 43 ∧ gt s j ≠ 63) (hm : 0 < m) : R = good j L := by
  obtain ⟨k, rfl⟩ : ∃ k, m = k + 1 := ⟨m - 1, by omega⟩
  rw [hR, pReps, if_neg hg.1, if_neg hg.2.1, if_neg hg.2.2]

set_option maxRecDepth 100000 in
set_option maxHeartbeats 6000000 in
theorem rep_code (s : ByteArray) (i p r : Nat) (bs fs : List Nat) (vb vf : Value) (w : World) (A R : PR Lang) (h : St w s i 0 0 p r bs fs vb vf) (hz : Nz s) (hs : s.size ≤ 16) (hn : bs.length + s.size < 200)
    (hat : ∀ w', St w' s i 0 0 p r bs fs vb vf → Calls Try.prog 87 #[.pointer (some ⟨r, 0, none⟩)] w' (RPost A s i p r bs fs vb vf w'))
    (hA : (A.err = 0 ∧ A.pl = 0 ∧ i ≤ A.j ∧ A.j ≤ s.size) ∨ (A.err ≠ 0 ∧ A.j = s.size)) (hR : R = if A.err ≠ 0 then A else pReps s 20 A.v A.j) :
    Calls Try.prog 77 #[.pointer (some ⟨r, 0, none⟩)] w (RPost R s i p r bs fs vb vf w) := by
  have hr := lt_of_block h.rd
  have hrne : r ≠ w.heap.size := by omega
  have S0 : Hid (St (w.alloc zeroPart) s i 0 0 p r bs fs vb vf) := ⟨by rw [blk_alloc, if_neg hrne]; exact h.rd, h.ps.kp ((Kp.refl [] w).alloc _) (by simp), h.ap⟩
  have Z0 : Hid ((w.alloc zeroPart).heap[w.heap.size]? = some zeroPart) := by show _ = _; rw [blk_alloc, if_pos rfl]
  have HS := hide h
  have HAT := hide hat
  have HA := hide hA
  have HR := hide hR
  have HN := hide hn
  have HZ := hide hz
  have nf : ∀ k, w.heap.size ≤ k → k ∉ foot p vb vf := fun k hk hm => by have := HS.out.ps.lt k hm; omega
  have NF := hide nf
  clear h hat hA hR hn hz nf
  go_enter Try.func77, Try.ntmps77
  go_wp2_with fail
  refine Calls.mono (HAT.out _ (by exact S0.out)) ?_
  rintro _ w1 ⟨e, f, l, bs1, fs1, vb1, vf1, rfl, st1, k1, fr1, hl1, hp1⟩
  have hZn : w.heap.size ∉ r :: foot p vb vf := by
    intro hm; simp at hm; rcases hm with e | e
    · omega
    · exact NF.out _ (Nat.le_refl _) e
  have z1 := k1.keep Z0.out hZn
  have lz1 := lt_of_block z1
  have lr1 := lt_of_block st1.rd
  have ST1 := hide st1
  have Z1 := hide z1
  have K1 := hide (((Kp.refl (r :: foot p vb vf) w).alloc zeroPart).trans k1 (fun y hy => .inl hy))
  have FR1 : Hid (∀ g ∈ foot p vb1 vf1, g ∈ foot p vb vf ∨ w.heap.size + 1 ≤ g) := fun g hg => by rcases fr1 g hg with e | e; exact .inl e; right; rw [size_alloc] at e; exact e
  have HL1 := hide hl1
  have HP1 := hide hp1
  clear st1 k1 fr1 hl1 hp1 z1
  go_wp2_with fail
  have TF : Hid (w1.heap.size ∉ foot p vb1 vf1) := fun hm => by have := ST1.out.ps.lt _ hm; omega
  have ZF : Hid (w.heap.size ∉ foot p vb1 vf1) := fun hm => by rcases FR1.out _ hm with e | e; exact NF.out _ (Nat.le_refl _) e; omega
  have FR0 : Hid (∀ g ∈ foot p vb1 vf1, g ∈ foot p vb vf ∨ w.heap.size ≤ g) := fun g hg => by rcases FR1.out g hg with e | e; exact .inl e; right; omega
  have hrZ : r ∉ [w.heap.size] := by simp; omega
  have hrT : r ≠ w1.heap.size := by omega
  go_loopw [] (fun w' => RepRel R s i p r w1.heap.size w.heap.size bs fs bs1 vb1 vf1 (r :: foot p vb vf) w w') (fun w' => s.size - (intOf ((w'.cell? ⟨r, 1, none⟩).getD undef)).toNat)
  case atStart =>
    have stW : St (w1.alloc (partO e f l)) s A.j A.err A.pl p r bs1 fs1 vb1 vf1 := ⟨by rw [blk_alloc, if_neg (Nat.ne_of_lt lr1)]; exact ST1.out.rd, ST1.out.ps.kp ((Kp.refl [] _).alloc _) (by simp), ST1.out.ap⟩
    refine ⟨e, f, l, fs1, by rw [blk_alloc, if_pos rfl], by rw [blk_alloc, if_neg (Nat.ne_of_lt lz1)]; exact Z1.out, K1.out.alloc _, ?_⟩
    rcases HA.out with hA | hA
    · left
      have hR := HR.out
      rw [if_neg (by simp [hA.1])] at hR
      rw [hA.1, hA.2.1] at stW
      obtain ⟨p1, p2, p3, p4⟩ := HP1.out hA.1
      exact ⟨A.v, A.j, 20, stW, hA.2.2.1, hA.2.2.2, by omega, hR, HL1.out, p1, p2, p3, p4⟩
    · right
      have hR := HR.out
      rw [if_pos hA.1] at hR
      rw [hR]
      exact ⟨stW, hA.1, hA.2, HL1.out⟩
  case round =>
    obtain ⟨e', f', l', fs', tb, zb, kk, hst⟩ := hrel
    have TB := hide tb
    have ZB := hide zb
    have KK := hide kk
    clear tb zb kk
    rcases hst with ⟨L, j, m, st, hij, hj, hm, hRR, hb1, hb2, hb3, hb4, hpart⟩ | ⟨st, he, hjs, hb⟩
    · have ST := hide st
      have HRR := hide hRR
      have HPT := hide hpart
      have HB := hide (And.intro hb1 (And.intro hb2 (And.intro hb3 hb4)))
      clear st hRR hpart hb1 hb2 hb3 hb4
      by_cases h0 : gt s j = 0
      · have hjs : j = s.size := by have := (HZ.out j).1 h0; omega
        have HG := hide (RepRel.done HRR.out (by omega) (by omega))
        subst hjs
        clear h0
        go_wp2_with fail
        refine (sees_end s _ p r 0 0 _ (by exact ST.out.rd)).mono ?_
        rintro _ w2 ⟨rfl, n2, rfl⟩
        go_upto_region 4 with fail
        apply wp_region_lit
        refine load9 rfl _ rfl (b := w1.heap.size) (by exact TB.out) rfl ?_
        refine store9 rfl _ _ rfl (b := w.heap.size) (by exact ZB.out) rfl rfl (by simp [Value.oneCell']) ?_
        intro w9 z9 k9 s9
        go_wp2
        refine bodyPost_ret (v := partV e' f' l') (res_part (b := w.heap.size) Try.results77 rfl z9) rfl ?_
        refine ⟨e', f', l', bs1, fs', vb1, vf1, rfl, ⟨k9.keep (by exact (by rw [HG.out]; exact ST.out.rd)) hrZ, ST.out.ps.kp k9.ofDrewN (by intro k hk; simp at hk; subst hk; exact ZF.out), ST.out.ap⟩, (KK.out.trans k9.ofDrewN (by simp)), FR0.out, (by rw [HG.out]; exact HB.out.1), fun _ => ⟨HB.out.2.1, HB.out.2.2.1, HB.out.2.2.2, by rw [HG.out]; exact HPT.out⟩⟩
      · have hlt : j < s.size := by have := (HZ.out j).2; omega
        by_cases hsg : gt s j = 42
        · have hsee : decide (0 ≤ Lib.indexByte (ByteArray.mk #[42, 43, 63]).data.toList (gt s j).toUInt8) = true := by rw [see3 _ (gt_lt s j)]; simp; omega
          have hgi : (gt s j : Int) = 42 := by omega
          obtain ⟨m, rfl⟩ : ∃ k, m = k + 1 := ⟨m - 1, by omega⟩
          have hR2 : R = pReps s m (lStar L) (j + 1) := by rw [HRR.out, pReps]; simp [hsg]
          have HSEE := hide hsee
          have HGI := hide hgi
          have HR2 := hide hR2
          clear hsee h0 hsg hgi hR2 HRR
          go_wp2_with fail
          refine (sees_at s _ j p r 0 0 true _ (by exact ST.out.rd) hlt hs HSEE.out).mono ?_
          rintro _ w2 ⟨rfl, n2, hw2⟩
          have tb2 : w2.heap[w1.heap.size]? = some (partO e' f' l') := by rw [hw2]; exact TB.out
          have rd2 : w2.heap[r]? = some (rdO s j 0 0 p) := by rw [hw2]; exact ST.out.rd
          have ZB2 : Hid (w2.heap[w.heap.size]? = some zeroPart) := by rw [hw2]; exact ZB.out
          have KK2 : Hid (Kp (r :: foot p vb vf) w w2) := by rw [hw2]; exact KK.out.drewN n2
          have P2 : Hid (PosAt w2 p bs1 fs' vb1 vf1) := by rw [hw2]; exact ST.out.ps.kp ((Kp.refl [] wr).drewN n2) (by simp)
          have MS : Hid ((wr.cell? ⟨r, 1, none⟩).getD undef = .int .i64 j) := by show _ = _; rw [cell_of_block ST.out.rd]; rfl
          obtain ⟨⟨a0, a1, a2, a3, a4, a5, a6, a7, a8⟩, _⟩ := nine tb2
          have c2 : w2.cell? ⟨r, 2, none⟩ = some (.pointer (some ⟨p, 0, none⟩)) := by rw [cell_of_block rd2]; rfl
          have TB2 := hide tb2
          have RD2 := hide rd2
          have lT := lt_of_block tb2
          have lr2 := lt_of_block rd2
          clear hw2 tb2 rd2
          go_wp2_with fail
          go_region_with (first | (go_at_call 89; refine (next_val s j p r 0 0 42 _ (by exact RD2.out) hlt hs HGI.out).mono ?_; rintro _ w3 ⟨rfl, rd3, k3⟩; obtain ⟨⟨b0, b1, b2, b3, b4, b5, b6, b7, b8⟩, _⟩ := nine (k3.keep (o := partO e' f' l') (b := w1.heap.size) TB2.out (by simp; omega)); have cc3 : w3.cell? ⟨r, 2, none⟩ = some (.pointer (some ⟨p, 0, none⟩)) := (by rw [cell_of_block rd3]; rfl); have RD3 := hide rd3; have TB3 := hide (k3.keep (o := partO e' f' l') (b := w1.heap.size) TB2.out (by simp; omega)); have ZB3 := hide (k3.keep (o := zeroPart) (b := w.heap.size) ZB2.out (by simp; omega)); have P3 : Hid (PosAt w3 p bs1 fs' vb1 vf1) := (P2.out.kp ((Kp.refl [r] w2).drew.trans k3 (by simp)) (by intro k hk; simp at hk; subst hk; exact ST.out.ap)); have KK3 := hide ((KK2.out.drew).trans k3 (by simp)); clear rd3 k3) | (go_at_call 88; refine (repeat_star p e' f' l' bs1 fs' vb1 vf1 _ (by exact P3.out) (by have := HN.out; have := HB.out.1; have := ST.out.ps.len; omega)).mono ?_; rintro _ w4 ⟨rfl, P4, k4⟩; obtain ⟨⟨d0, d1, d2, d3, d4, d5, d6, d7, d8⟩, g0, g1, g2, g3, g4, g5, g6, g7, g8⟩ := nine (k4.keep TB3.out TF.out); have RD4 := hide (k4.keep RD3.out ST.out.ap); have TB4 := hide (k4.keep TB3.out TF.out); have ZB4 := hide (k4.keep ZB3.out ZF.out); have P4H := hide P4; have KK4 := hide (KK3.out.trans k4 (fun y hy => by rcases FR0.out y hy with e | e; exact .inl (by simp [e]); exact .inr e)); clear P4 k4))
          all_goals
            go_wp2
            have kq := (Kp.refl [w1.heap.size] w4).set9 (b := w1.heap.size) (by simp) (.bool true) (.int .u64 (wd f' 0)) (.int .u64 (wd f' 1)) (.int .u64 (wd f' 2)) (.int .u64 (wd f' 3)) (.int .u64 (wd l' 0)) (.int .u64 (wd l' 1)) (.int .u64 (wd l' 2)) (.int .u64 (wd l' 3))
            have rq := kq.keep RD4.out (by simp; omega)
            refine ⟨⟨true, f', l', linkL l' f' fs', ?_, kq.keep ZB4.out (by simp; omega), KK4.out.trans kq (by simp; omega), .inl ⟨lStar L, j + 1, m, ⟨rq, P4H.out.kp kq (by intro k hk; simp at hk; subst hk; exact TF.out), ST.out.ap⟩, by omega, by omega, by omega, HR2.out, ?_, HB.out.2.1, HB.out.2.2.1, ?_, ?_⟩⟩, ?_⟩
            · simp only [blk_set, TB4.out]; simp [setObj_cells]
            · have := HB.out.1; omega
            · rw [linkL_take _ _ _ _ _ HPT.out.la]; exact HB.out.2.2.2
            · exact Part.linked HPT.out.star (by rw [ST.out.ps.len]; exact Nat.le_refl _)
            · rw [MS.out, cell_of_block rq]; simp [intOf]; omega
        · by_cases hsg2 : gt s j = 43
          · have hsee : decide (0 ≤ Lib.indexByte (ByteArray.mk #[42, 43, 63]).data.toList (gt s j).toUInt8) = true := by rw [see3 _ (gt_lt s j)]; simp; omega
            have hgi : (gt s j : Int) = 43 := by omega
            obtain ⟨m, rfl⟩ : ∃ k, m = k + 1 := ⟨m - 1, by omega⟩
            have hR2 : R = pReps s m (lPlus L) (j + 1) := by rw [HRR.out, pReps]; simp [hsg2]
            have HSEE := hide hsee
            have HGI := hide hgi
            have HR2 := hide hR2
            clear hsee h0 hsg hsg2 hgi hR2 HRR
            go_wp2_with fail
            refine (sees_at s _ j p r 0 0 true _ (by exact ST.out.rd) hlt hs HSEE.out).mono ?_
            rintro _ w2 ⟨rfl, n2, hw2⟩
            have tb2 : w2.heap[w1.heap.size]? = some (partO e' f' l') := by rw [hw2]; exact TB.out
            have rd2 : w2.heap[r]? = some (rdO s j 0 0 p) := by rw [hw2]; exact ST.out.rd
            have ZB2 : Hid (w2.heap[w.heap.size]? = some zeroPart) := by rw [hw2]; exact ZB.out
            have KK2 : Hid (Kp (r :: foot p vb vf) w w2) := by rw [hw2]; exact KK.out.drewN n2
            have P2 : Hid (PosAt w2 p bs1 fs' vb1 vf1) := by rw [hw2]; exact ST.out.ps.kp ((Kp.refl [] wr).drewN n2) (by simp)
            have MS : Hid ((wr.cell? ⟨r, 1, none⟩).getD undef = .int .i64 j) := by show _ = _; rw [cell_of_block ST.out.rd]; rfl
            obtain ⟨⟨a0, a1, a2, a3, a4, a5, a6, a7, a8⟩, _⟩ := nine tb2
            have c2 : w2.cell? ⟨r, 2, none⟩ = some (.pointer (some ⟨p, 0, none⟩)) := by rw [cell_of_block rd2]; rfl
            have TB2 := hide tb2
            have RD2 := hide rd2
            have lT := lt_of_block tb2
            have lr2 := lt_of_block rd2
            clear hw2 tb2 rd2
            go_wp2_with fail
            go_region_with (first | (go_at_call 89; refine (next_val s j p r 0 0 43 _ (by exact RD2.out) hlt hs HGI.out).mono ?_; rintro _ w3 ⟨rfl, rd3, k3⟩; obtain ⟨⟨b0, b1, b2, b3, b4, b5, b6, b7, b8⟩, _⟩ := nine (k3.keep (o := partO e' f' l') (b := w1.heap.size) TB2.out (by simp; omega)); have cc3 : w3.cell? ⟨r, 2, none⟩ = some (.pointer (some ⟨p, 0, none⟩)) := (by rw [cell_of_block rd3]; rfl); have RD3 := hide rd3; have TB3 := hide (k3.keep (o := partO e' f' l') (b := w1.heap.size) TB2.out (by simp; omega)); have ZB3 := hide (k3.keep (o := zeroPart) (b := w.heap.size) ZB2.out (by simp; omega)); have P3 : Hid (PosAt w3 p bs1 fs' vb1 vf1) := (P2.out.kp ((Kp.refl [r] w2).drew.trans k3 (by simp)) (by intro k hk; simp at hk; subst hk; exact ST.out.ap)); have KK3 := hide ((KK2.out.drew).trans k3 (by simp)); clear rd3 k3) | (go_at_call 88; refine (repeat_plus p e' f' l' bs1 fs' vb1 vf1 _ (by exact P3.out) (by have := HN.out; have := HB.out.1; have := ST.out.ps.len; omega)).mono ?_; rintro _ w4 ⟨rfl, P4, k4⟩; obtain ⟨⟨d0, d1, d2, d3, d4, d5, d6, d7, d8⟩, g0, g1, g2, g3, g4, g5, g6, g7, g8⟩ := nine (k4.keep TB3.out TF.out); have RD4 := hide (k4.keep RD3.out ST.out.ap); have TB4 := hide (k4.keep TB3.out TF.out); have ZB4 := hide (k4.keep ZB3.out ZF.out); have P4H := hide P4; have KK4 := hide (KK3.out.trans k4 (fun y hy => by rcases FR0.out y hy with e | e; exact .inl (by simp [e]); exact .inr e)); clear P4 k4))
            all_goals
              go_wp2
              have kq := (Kp.refl [w1.heap.size] w4).set9 (b := w1.heap.size) (by simp) (.bool e') (.int .u64 (wd f' 0)) (.int .u64 (wd f' 1)) (.int .u64 (wd f' 2)) (.int .u64 (wd f' 3)) (.int .u64 (wd l' 0)) (.int .u64 (wd l' 1)) (.int .u64 (wd l' 2)) (.int .u64 (wd l' 3))
              have rq := kq.keep RD4.out (by simp; omega)
              refine ⟨⟨e', f', l', linkL l' f' fs', ?_, kq.keep ZB4.out (by simp; omega), KK4.out.trans kq (by simp; omega), .inl ⟨lPlus L, j + 1, m, ⟨rq, P4H.out.kp kq (by intro k hk; simp at hk; subst hk; exact TF.out), ST.out.ap⟩, by omega, by omega, by omega, HR2.out, ?_, HB.out.2.1, HB.out.2.2.1, ?_, ?_⟩⟩, ?_⟩
              · simp only [blk_set, TB4.out]; simp [setObj_cells]
              · have := HB.out.1; omega
              · rw [linkL_take _ _ _ _ _ HPT.out.la]; exact HB.out.2.2.2
              · exact Part.linked HPT.out.plus (by rw [ST.out.ps.len]; exact Nat.le_refl _)
              · rw [MS.out, cell_of_block rq]; simp [intOf]; omega
          · by_cases hsg3 : gt s j = 63
            · have hsee : decide (0 ≤ Lib.indexByte (ByteArray.mk #[42, 43, 63]).data.toList (gt s j).toUInt8) = true := by rw [see3 _ (gt_lt s j)]; simp; omega
              have hgi : (gt s j : Int) = 63 := by omega
              obtain ⟨m, rfl⟩ : ∃ k, m = k + 1 := ⟨m - 1, by omega⟩
              have hR2 : R = pReps s m (lOpt L) (j + 1) := by rw [HRR.out, pReps]; simp [hsg3]
              have HSEE := hide hsee
              have HGI := hide hgi
              have HR2 := hide hR2
              clear hsee h0 hsg hsg2 hsg3 hgi hR2 HRR
              go_wp2_with fail
              refine (sees_at s _ j p r 0 0 true _ (by exact ST.out.rd) hlt hs HSEE.out).mono ?_
              rintro _ w2 ⟨rfl, n2, hw2⟩
              have tb2 : w2.heap[w1.heap.size]? = some (partO e' f' l') := by rw [hw2]; exact TB.out
              have rd2 : w2.heap[r]? = some (rdO s j 0 0 p) := by rw [hw2]; exact ST.out.rd
              have ZB2 : Hid (w2.heap[w.heap.size]? = some zeroPart) := by rw [hw2]; exact ZB.out
              have KK2 : Hid (Kp (r :: foot p vb vf) w w2) := by rw [hw2]; exact KK.out.drewN n2
              have P2 : Hid (PosAt w2 p bs1 fs' vb1 vf1) := by rw [hw2]; exact ST.out.ps.kp ((Kp.refl [] wr).drewN n2) (by simp)
              have MS : Hid ((wr.cell? ⟨r, 1, none⟩).getD undef = .int .i64 j) := by show _ = _; rw [cell_of_block ST.out.rd]; rfl
              obtain ⟨⟨a0, a1, a2, a3, a4, a5, a6, a7, a8⟩, _⟩ := nine tb2
              have c2 : w2.cell? ⟨r, 2, none⟩ = some (.pointer (some ⟨p, 0, none⟩)) := by rw [cell_of_block rd2]; rfl
              have TB2 := hide tb2
              have RD2 := hide rd2
              have lT := lt_of_block tb2
              have lr2 := lt_of_block rd2
              clear hw2 tb2 rd2
              go_wp2_with fail
              go_region_with (first | (go_at_call 89; refine (next_val s j p r 0 0 63 _ (by exact RD2.out) hlt hs HGI.out).mono ?_; rintro _ w3 ⟨rfl, rd3, k3⟩; obtain ⟨⟨b0, b1, b2, b3, b4, b5, b6, b7, b8⟩, _⟩ := nine (k3.keep (o := partO e' f' l') (b := w1.heap.size) TB2.out (by simp; omega)); have cc3 : w3.cell? ⟨r, 2, none⟩ = some (.pointer (some ⟨p, 0, none⟩)) := (by rw [cell_of_block rd3]; rfl); have RD3 := hide rd3; have TB3 := hide (k3.keep (o := partO e' f' l') (b := w1.heap.size) TB2.out (by simp; omega)); have ZB3 := hide (k3.keep (o := zeroPart) (b := w.heap.size) ZB2.out (by simp; omega)); have P3 : Hid (PosAt w3 p bs1 fs' vb1 vf1) := (P2.out.kp ((Kp.refl [r] w2).drew.trans k3 (by simp)) (by intro k hk; simp at hk; subst hk; exact ST.out.ap)); have KK3 := hide ((KK2.out.drew).trans k3 (by simp)); clear rd3 k3) | (go_at_call 88; refine (repeat_opt p e' f' l' bs1 fs' vb1 vf1 _ (by exact P3.out)).mono ?_; rintro _ w4 ⟨rfl, P4, k4⟩; obtain ⟨⟨d0, d1, d2, d3, d4, d5, d6, d7, d8⟩, g0, g1, g2, g3, g4, g5, g6, g7, g8⟩ := nine (k4.keep TB3.out TF.out); have RD4 := hide (k4.keep RD3.out ST.out.ap); have TB4 := hide (k4.keep TB3.out TF.out); have ZB4 := hide (k4.keep ZB3.out ZF.out); have P4H := hide P4; have KK4 := hide (KK3.out.trans k4 (fun y hy => by rcases FR0.out y hy with e | e; exact .inl (by simp [e]); exact .inr e)); clear P4 k4))
              all_goals
                go_wp2
                have kq := (Kp.refl [w1.heap.size] w4).set9 (b := w1.heap.size) (by simp) (.bool true) (.int .u64 (wd f' 0)) (.int .u64 (wd f' 1)) (.int .u64 (wd f' 2)) (.int .u64 (wd f' 3)) (.int .u64 (wd l' 0)) (.int .u64 (wd l' 1)) (.int .u64 (wd l' 2)) (.int .u64 (wd l' 3))
                have rq := kq.keep RD4.out (by simp; omega)
                refine ⟨⟨true, f', l', fs', ?_, kq.keep ZB4.out (by simp; omega), KK4.out.trans kq (by simp; omega), .inl ⟨lOpt L, j + 1, m, ⟨rq, P4H.out.kp kq (by intro k hk; simp at hk; subst hk; exact TF.out), ST.out.ap⟩, by omega, by omega, by omega, HR2.out, ?_, HB.out.2.1, HB.out.2.2.1, ?_, ?_⟩⟩, ?_⟩
                · simp only [blk_set, TB4.out]; simp [setObj_cells]
                · have := HB.out.1; omega
                · exact HB.out.2.2.2
                · exact HPT.out.opt
                · rw [MS.out, cell_of_block rq]; simp [intOf]; omega
            · have hsee : decide (0 ≤ Lib.indexByte (ByteArray.mk #[42, 43, 63]).data.toList (gt s j).toUInt8) = false := by rw [see3 _ (gt_lt s j)]; simp; omega
              have HG := hide (RepRel.done HRR.out (by omega) (by omega))
              have HSEE := hide hsee
              clear hsee h0 hsg hsg2 hsg3
              go_wp2_with fail
              refine (sees_at s _ j p r 0 0 false _ (by exact ST.out.rd) hlt hs HSEE.out).mono ?_
              rintro _ w2 ⟨rfl, n2, rfl⟩
              go_upto_region 4 with fail
              apply wp_region_lit
              refine load9 rfl _ rfl (b := w1.heap.size) (by exact TB.out) rfl ?_
              refine store9 rfl _ _ rfl (b := w.heap.size) (by exact ZB.out) rfl rfl (by simp [Value.oneCell']) ?_
              intro w9 z9 k9 s9
              go_wp2
              refine bodyPost_ret (v := partV e' f' l') (res_part (b := w.heap.size) Try.results77 rfl z9) rfl ?_
              refine ⟨e', f', l', bs1, fs', vb1, vf1, rfl, ⟨k9.keep (by exact (by rw [HG.out]; exact ST.out.rd)) hrZ, ST.out.ps.kp k9.ofDrewN (by intro k hk; simp at hk; subst hk; exact ZF.out), ST.out.ap⟩, (KK.out.trans k9.ofDrewN (by simp)), FR0.out, (by rw [HG.out]; exact HB.out.1), fun _ => ⟨HB.out.2.1, HB.out.2.2.1, HB.out.2.2.2, by rw [HG.out]; exact HPT.out⟩⟩
    · have ST := hide st
      have HE := hide he
      have HJ := hide hjs
      have HB := hide hb
      clear st he hjs hb
      go_wp2_with fail
      refine (sees_end s _ p r R.err R.pl _ (by rw [← HJ.out]; exact ST.out.rd)).mono ?_
      rintro _ w2 ⟨rfl, n2, rfl⟩
      go_upto_region 4 with fail
      apply wp_region_lit
      refine load9 rfl _ rfl (b := w1.heap.size) (by exact TB.out) rfl ?_
      refine store9 rfl _ _ rfl (b := w.heap.size) (by exact ZB.out) rfl rfl (by simp [Value.oneCell']) ?_
      intro w9 z9 k9 s9
      go_wp2
      refine bodyPost_ret (v := partV e' f' l') (res_part (b := w.heap.size) Try.results77 rfl z9) rfl ?_
      refine ⟨e', f', l', bs1, fs', vb1, vf1, rfl, ⟨k9.keep (by exact ST.out.rd) hrZ, ST.out.ps.kp k9.ofDrewN (by intro k hk; simp at hk; subst hk; exact ZF.out), ST.out.ap⟩, (KK.out.trans k9.ofDrewN (by simp)), FR0.out, HB.out, fun hh => absurd hh HE.out⟩
end Go.Proofs.Ytbjdkbcfpmeneaa

/- What is proved here: what the reader's method atom does at a set. -/
namespace Go.Proofs.Ytbjdkbcfpmeneaa
set_option linter.unusedVariables false
set_option linter.unusedSimpArgs false
open Go.RowKit

theorem pItems_shape (s : ByteArray) (hz : Nz s) : ∀ (n acc i : Nat), ((pItems s n acc i).err = 0 ∧ (pItems s n acc i).pl = 0 ∧ i < (pItems s n acc i).j ∧ (pItems s n acc i).j ≤ s.size) ∨ ((pItems s n acc i).err ≠ 0 ∧ (pItems s n acc i).j = s.size) := by
  intro n
  induction n with
  | zero => intro acc i; right; simp [pItems, bad]
  | succ n ih =>
    intro acc i
    have hA := pItem_shape s i hz
    rw [pItems_succ]
    generalize pItem s i = A at *
    rcases hA with ⟨a1, a2, a3, a4, a5⟩ | ⟨a1, a2⟩
    · rw [if_neg (by simp [a1]), pAfter]
      have h0 := hz A.j
      by_cases g0 : gt s A.j = 0
      · rw [if_pos g0]; right; simp [bad]
      · rw [if_neg g0]
        by_cases g1 : gt s A.j = 93
        · rw [if_pos g1]; left; exact ⟨rfl, rfl, by simp only [good]; omega, by simp only [good]; omega⟩
        · rw [if_neg g1]
          rcases ih (acc ||| A.v) A.j with h | h
          · left; exact ⟨h.1, h.2.1, by omega, h.2.2.2⟩
          · right; exact h
    · rw [if_pos a1]; right; exact ⟨a1, a2⟩
theorem pSet_shape (s : ByteArray) (i : Nat) (hz : Nz s) : ((pSet s i).err = 0 ∧ (pSet s i).pl = 0 ∧ i < (pSet s i).j ∧ (pSet s i).j ≤ s.size) ∨ ((pSet s i).err ≠ 0 ∧ (pSet s i).j = s.size) := by
  by_cases hg : gt s i = 94
  · rw [pSet, if_pos hg]
    have h := pItems_shape s hz 20 0 (i + 1)
    show (((if (pItems s 20 0 (i + 1)).err ≠ 0 then pItems s 20 0 (i + 1) else good (pItems s 20 0 (i + 1)).j (comp (pItems s 20 0 (i + 1)).v)) : PR Nat).err = 0 ∧ ((if (pItems s 20 0 (i + 1)).err ≠ 0 then pItems s 20 0 (i + 1) else good (pItems s 20 0 (i + 1)).j (comp (pItems s 20 0 (i + 1)).v)) : PR Nat).pl = 0 ∧ i < ((if (pItems s 20 0 (i + 1)).err ≠ 0 then pItems s 20 0 (i + 1) else good (pItems s 20 0 (i + 1)).j (comp (pItems s 20 0 (i + 1)).v)) : PR Nat).j ∧ ((if (pItems s 20 0 (i + 1)).err ≠ 0 then pItems s 20 0 (i + 1) else good (pItems s 20 0 (i + 1)).j (comp (pItems s 20 0 (i + 1)).v)) : PR Nat).j ≤ s.size) ∨ _
    generalize pItems s 20 0 (i + 1) = A at *
    rcases h with h | h
    · rw [if_neg (by simp [h.1])]; left; exact ⟨rfl, rfl, by simp [good]; omega, by simp [good]; exact h.2.2.2⟩
    · rw [if_pos h.1]; right; exact h
  · rw [pSet, if_neg hg]; exact pItems_shape s hz 20 0 i

set_option maxRecDepth 100000 in
set_option maxHeartbeats 800000 in
theorem atom_set (s : ByteArray) (i p r : Nat) (bs fs : List Nat) (vb vf : Value) (w : World) (h : St w s i 0 0 p r bs fs vb vf) (hi : i < s.size) (hs : s.size ≤ 16) (hn : bs.length < 200)
    (R : PR Lang) (hR : R.j = (pSet s (i + 1)).j ∧ R.err = (pSet s (i + 1)).err ∧ R.pl = (pSet s (i + 1)).pl ∧ (R.err = 0 → R.v = lSet (pSet s (i + 1)).v)) (hc : gt s i = 91) (hz : Nz s) :
    Calls Try.prog 87 #[.pointer (some ⟨r, 0, none⟩)] w (RPost R s i p r bs fs vb vf w) := by
  have q1 : ((gt s i : Int) == 40) = false := by simp; omega
  have q2 : ((gt s i : Int) == 91) = true := by simp; omega
  have HZ := hide hz
  have HR := hide hR
  have HS := hide h
  have hr := lt_of_block h.rd
  have hrne : r ≠ w.heap.size := by omega
  have rd0 : (w.alloc zeroPart).heap[r]? = some (rdO s i 0 0 p) := by rw [blk_alloc, if_neg hrne]; exact h.rd
  have c1 : w.cell? ⟨r, 1, none⟩ = some (.int .i64 i) := by rw [cell_of_block h.rd]; rfl
  have RD0 := hide rd0
  have Z0 : Hid ((w.alloc zeroPart).heap[w.heap.size]? = some zeroPart) := by show _ = _; rw [blk_alloc, if_pos rfl]
  have nf : ∀ k, w.heap.size ≤ k → k ∉ foot p vb vf := fun k hk hm => by have := HS.out.ps.lt k hm; omega
  have NF := hide nf
  clear h rd0 nf hc hz hR
  go_enter Try.func87, Try.ntmps87
  go_wp2_with fail
  refine (next_yes s i p r 0 0 _ (by exact RD0.out) hi hs).mono ?_
  rintro _ w1 ⟨rfl, rd1, k1⟩
  have RD1 := hide rd1
  have c2 : w1.cell? ⟨r, 2, none⟩ = some (.pointer (some ⟨p, 0, none⟩)) := by rw [cell_of_block rd1]; rfl
  have Z1 := hide (k1.keep Z0.out (by simp; omega))
  have P1 : Hid (PosAt w1 p bs fs vb vf) := HS.out.ps.kp (((Kp.refl [r] w).alloc _).trans k1 (by simp)) (by intro k hk; simp at hk; subst hk; exact HS.out.ap)
  have K1 := hide (((Kp.refl (r :: foot p vb vf) w).alloc zeroPart).trans k1 (by simp))
  have lr1 := lt_of_block rd1
  clear rd1 k1
  go_upto_region 10 with fail
  have R1d : w1.drew.heap[r]? = some (rdO s (i + 1) 0 0 p) := RD1.out
  have C1d : w1.drew.cell? ⟨r, 2, none⟩ = some (.pointer (some ⟨p, 0, none⟩)) := by rw [cell_of_block R1d]; rfl
  have Z1d : Hid (w1.drew.heap[w.heap.size]? = some zeroPart) := Z1.out
  have P1d : Hid (PosAt w1.drew p bs fs vb vf) := P1.out.kp ((Kp.refl [] w1).drew) (by simp)
  have K1d := hide K1.out.drew
  have R1H := hide R1d
  have hZr : w.heap.size ∉ [r] := by simp; omega
  clear c2 R1d
  go_region_held3 (fun w' : World => w'.cell? ⟨r, 2, none⟩ = some (.pointer (some ⟨p, 0, none⟩)))
    (first | with_reducible exact C4 | with_reducible exact C3 | with_reducible exact C2 | with_reducible exact C1d | (rw [cell_of_block (R5 _ _ _ _ _ _ _ _ _)]; rfl))
    (first | (go_at_call 93; refine (set_code s (i + 1) p r _ (by exact R1H.out) HZ.out hi hs).mono ?_; rintro _ w2 ⟨⟨v, rfl, hv⟩, rd2, k2⟩; have HV := hide hv; have C2 : w2.cell? ⟨r, 2, none⟩ = some (.pointer (some ⟨p, 0, none⟩)) := (by rw [cell_of_block rd2]; rfl); have R2 := hide rd2; have Z2 := hide (k2.keep Z1d.out hZr); have P2 := hide (P1d.out.kp k2 (by intro k hk; simp at hk; subst hk; exact HS.out.ap)); have K2 := hide (K1d.out.trans k2 (by simp)); clear rd2 k2 hv) | (go_at_call 92; refine (add_code p v bs fs vb vf _ (by exact P2.out) hn).mono ?_; rintro _ w4 ⟨rfl, vb', vf', P4, k4, fr4⟩; have R4 := k4.keep R2.out HS.out.ap; have C4 : w4.cell? ⟨r, 2, none⟩ = some (.pointer (some ⟨p, 0, none⟩)) := (by rw [cell_of_block R4]; rfl); have z4 := k4.keep Z2.out (NF.out _ (Nat.le_refl _)); obtain ⟨⟨zc0, zc1, zc2, zc3, zc4, zc5, zc6, zc7, zc8⟩, zf0, zf1, zf2, zf3, zf4, zf5, zf6, zf7, zf8⟩ := nine z4; have R5 : ∀ v0 v1 v2 v3 v4 v5 v6 v7 v8 : Value, (((((((((w4.setCell ⟨w.heap.size, 0, none⟩ v0).setCell ⟨w.heap.size, 1, none⟩ v1).setCell ⟨w.heap.size, 2, none⟩ v2).setCell ⟨w.heap.size, 3, none⟩ v3).setCell ⟨w.heap.size, 4, none⟩ v4).setCell ⟨w.heap.size, 5, none⟩ v5).setCell ⟨w.heap.size, 6, none⟩ v6).setCell ⟨w.heap.size, 7, none⟩ v7).setCell ⟨w.heap.size, 8, none⟩ v8).heap[r]? = some (rdO s (pSet s (i + 1)).j (pSet s (i + 1)).err (pSet s (i + 1)).pl p) := (fun _ _ _ _ _ _ _ _ _ => by simp only [blk_set, if_neg hrne]; exact R4); have Z4 := hide z4; have P4H := hide P4; have K4 := hide (K2.out.trans k4 (fun y hy => .inl (by simp [hy]))); have FR := hide fr4; have l3 := lt_of_block Z2.out; have FR1 : Hid (∀ g ∈ foot p vb' vf', g ∈ foot p vb vf ∨ w.heap.size ≤ g) := (fun g hg => by rcases fr4 g hg with e | e; exact .inl e; right; omega); clear z4 P4 fr4 R4))
  go_wp2
  refine bodyPost_ret (v := partV false (1 <<< bs.length) (1 <<< bs.length)) (res_part (b := w.heap.size) Try.results87 rfl (by simp only [blk_set, Z4.out]; simp [setObj_cells])) rfl ?_
  refine ⟨false, 1 <<< bs.length, 1 <<< bs.length, bs ++ [v], fs ++ [0], vb', vf', rfl, ⟨?_, ?_, ?_⟩, ?_, FR1.out, ?_, fun hh => ⟨?_, ?_, ?_, ?_⟩⟩
  · rw [HR.out.1, HR.out.2.1, HR.out.2.2.1]; exact R5 _ _ _ _ _ _ _ _ _
  · exact P4H.out.kp ((Kp.refl [w.heap.size] w4).set9 (by simp) _ _ _ _ _ _ _ _ _) (by intro k hk; simp at hk; subst hk; exact fun hm => by rcases FR.out _ hm with e | e; exact NF.out _ (Nat.le_refl _) e; omega)
  · intro hm; rcases FR1.out _ hm with e | e
    · exact HS.out.ap e
    · omega
  · exact K4.out.set9 (.inr (Nat.le_refl _)) _ _ _ _ _ _ _ _ _
  · have hh := pSet_shape s (i + 1) HZ.out
    rw [HR.out.1]
    simp only [List.length_append, List.length_cons, List.length_nil]
    rcases hh with hh | hh <;> omega
  · simp
  · simp
  · rw [← HS.out.ps.len]; simp
  · have e := HV.out (by rw [← HR.out.2.1]; exact hh)
    rw [HR.out.2.2.2 hh, ← e]
    exact one_part bs fs v HS.out.ps.len
end Go.Proofs.Ytbjdkbcfpmeneaa
