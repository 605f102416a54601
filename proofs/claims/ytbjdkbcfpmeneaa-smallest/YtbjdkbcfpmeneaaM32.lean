/- What is proved here: where a reading of a pattern ends; no program is walked. -/
import Derived.Test.YtbjdkbcfpmeneaaM30
import Derived.Test.YtbjdkbcfpmeneaaM31
import Derived.Test.YtbjdkbcfpmeneaaRows
namespace Go.Proofs.Ytbjdkbcfpmeneaa
set_option linter.unusedVariables false
set_option linter.unusedSimpArgs false

def Shp (s : ByteArray) (i : Nat) (strict : Prop) (R : PR Lang) : Prop := (R.err = 0 ∧ R.pl = 0 ∧ i ≤ R.j ∧ (strict → i < R.j) ∧ R.j ≤ s.size) ∨ (R.err ≠ 0 ∧ R.j = s.size)

theorem pp_alt (s : ByteArray) (n : Nat) (acc : Lang) (i : Nat) : pp s (n + 1) 0 acc i = if gt s i = 124 then (if (pp s n 1 lEps (i + 1)).err ≠ 0 then pp s n 1 lEps (i + 1) else pp s n 0 (lAlt acc (pp s n 1 lEps (i + 1)).v) (pp s n 1 lEps (i + 1)).j) else good i acc := rfl
theorem pp_cat (s : ByteArray) (n : Nat) (acc : Lang) (i : Nat) : pp s (n + 1) 1 acc i = if gt s i = 0 ∨ gt s i = 124 ∨ gt s i = 41 then good i acc else
    (if (pp s n 2 lEps i).err ≠ 0 then pp s n 2 lEps i else pp s n 1 (lCat acc (pReps s 20 (pp s n 2 lEps i).v (pp s n 2 lEps i).j).v) (pReps s 20 (pp s n 2 lEps i).v (pp s n 2 lEps i).j).j) := rfl
theorem pp_atom (s : ByteArray) (n : Nat) (acc : Lang) (i : Nat) : pp s (n + 1) 2 acc i =
    if gt s i = 40 then (if (pp s n 1 lEps (i + 1)).err ≠ 0 then pp s n 1 lEps (i + 1) else
      (if (pp s n 0 (pp s n 1 lEps (i + 1)).v (pp s n 1 lEps (i + 1)).j).err ≠ 0 then pp s n 0 (pp s n 1 lEps (i + 1)).v (pp s n 1 lEps (i + 1)).j
       else if gt s (pp s n 0 (pp s n 1 lEps (i + 1)).v (pp s n 1 lEps (i + 1)).j).j = 0 then bad s 4 s.size acc
       else good ((pp s n 0 (pp s n 1 lEps (i + 1)).v (pp s n 1 lEps (i + 1)).j).j + 1) (pp s n 0 (pp s n 1 lEps (i + 1)).v (pp s n 1 lEps (i + 1)).j).v))
    else if gt s i = 91 then (if (pSet s (i + 1)).err ≠ 0 then ⟨(pSet s (i + 1)).err, (pSet s (i + 1)).pl, (pSet s (i + 1)).j, acc⟩ else good (pSet s (i + 1)).j (lSet (pSet s (i + 1)).v))
    else if gt s i = 46 then good (i + 1) (lSet (comp (1 <<< 10)))
    else if gt s i = 92 then (if gt s (i + 1) = 0 then bad s 4 s.size acc else good (i + 2) (lSet (1 <<< gt s (i + 1))))
    else if gt s i = 42 ∨ gt s i = 43 ∨ gt s i = 63 ∨ gt s i = 93 then bad s 5 i acc
    else good (i + 1) (lSet (1 <<< gt s i)) := rfl

theorem pp_shape (s : ByteArray) (hz : Nz s) : ∀ n, (∀ acc i, i ≤ s.size → Shp s i False (pp s n 0 acc i)) ∧ (∀ acc i, i ≤ s.size → Shp s i False (pp s n 1 acc i)) ∧ (∀ acc i, i < s.size → Shp s i True (pp s n 2 acc i)) := by
  intro n
  induction n with
  | zero => exact ⟨fun _ _ _ => .inr ⟨by simp [pp, bad], rfl⟩, fun _ _ _ => .inr ⟨by simp [pp, bad], rfl⟩, fun _ _ _ => .inr ⟨by simp [pp, bad], rfl⟩⟩
  | succ n ih =>
    obtain ⟨ih0, ih1, ih2⟩ := ih
    refine ⟨fun acc i hi => ?_, fun acc i hi => ?_, fun acc i hi => ?_⟩
    · rw [pp_alt]
      have h0 := hz i
      by_cases hg : gt s i = 124
      · rw [if_pos hg]
        have hA := ih1 lEps (i + 1) (by omega)
        generalize pp s n 1 lEps (i + 1) = A at *
        rcases hA with ⟨a1, a2, a3, _, a5⟩ | ⟨a1, a2⟩
        · rw [if_neg (by simp [a1])]
          rcases ih0 (lAlt acc A.v) A.j a5 with ⟨b1, b2, b3, _, b5⟩ | b
          · exact .inl ⟨b1, b2, by omega, fun h => h.elim, b5⟩
          · exact .inr b
        · rw [if_pos a1]; exact .inr ⟨a1, a2⟩
      · rw [if_neg hg]; exact .inl ⟨rfl, rfl, Nat.le_refl _, fun h => h.elim, hi⟩
    · rw [pp_cat]
      have h0 := hz i
      by_cases hg : gt s i = 0 ∨ gt s i = 124 ∨ gt s i = 41
      · rw [if_pos hg]; exact .inl ⟨rfl, rfl, Nat.le_refl _, fun h => h.elim, hi⟩
      · rw [if_neg hg]
        have hA := ih2 lEps i (by omega)
        generalize pp s n 2 lEps i = A at *
        rcases hA with ⟨a1, a2, a3, _, a5⟩ | ⟨a1, a2⟩
        · rw [if_neg (by simp [a1])]
          have hB := pReps_shape s hz 20 A.v A.j a5
          generalize pReps s 20 A.v A.j = B at *
          rcases ih1 (lCat acc B.v) B.j hB.2.2.2 with ⟨b1, b2, b3, _, b5⟩ | b
          · exact .inl ⟨b1, b2, by omega, fun h => h.elim, b5⟩
          · exact .inr b
        · rw [if_pos a1]; exact .inr ⟨a1, a2⟩
    · rw [pp_atom]
      have h0 := hz i
      have h1 := hz (i + 1)
      by_cases g1 : gt s i = 40
      · rw [if_pos g1]
        have hA := ih1 lEps (i + 1) (by omega)
        generalize pp s n 1 lEps (i + 1) = A at *
        rcases hA with ⟨a1, a2, a3, _, a5⟩ | ⟨a1, a2⟩
        · rw [if_neg (by simp [a1])]
          have hB := ih0 A.v A.j a5
          generalize pp s n 0 A.v A.j = B at *
          rcases hB with ⟨b1, b2, b3, _, b5⟩ | ⟨b1, b2⟩
          · rw [if_neg (by simp [b1])]
            have h2 := hz B.j
            by_cases g2 : gt s B.j = 0
            · rw [if_pos g2]; exact .inr ⟨by simp [bad], rfl⟩
            · rw [if_neg g2]; exact .inl ⟨rfl, rfl, by simp only [good]; omega, fun _ => by simp only [good]; omega, by simp only [good]; omega⟩
          · rw [if_pos b1]; exact .inr ⟨b1, b2⟩
        · rw [if_pos a1]; exact .inr ⟨a1, a2⟩
      · rw [if_neg g1]
        by_cases g2 : gt s i = 91
        · rw [if_pos g2]
          have hA := pSet_shape s (i + 1) hz
          generalize pSet s (i + 1) = A at *
          rcases hA with ⟨a1, a2, a3, a4⟩ | ⟨a1, a2⟩
          · rw [if_neg (by simp [a1])]; exact .inl ⟨rfl, rfl, by simp only [good]; omega, fun _ => by simp only [good]; omega, a4⟩
          · rw [if_pos a1]; exact .inr ⟨a1, a2⟩
        · rw [if_neg g2]
          by_cases g3 : gt s i = 46
          · rw [if_pos g3]; exact .inl ⟨rfl, rfl, by simp only [good]; omega, fun _ => by simp only [good]; omega, by simp only [good]; omega⟩
          · rw [if_neg g3]
            by_cases g4 : gt s i = 92
            · rw [if_pos g4]
              by_cases g5 : gt s (i + 1) = 0
              · rw [if_pos g5]; exact .inr ⟨by simp [bad], rfl⟩
              · rw [if_neg g5]; exact .inl ⟨rfl, rfl, by simp only [good]; omega, fun _ => by simp only [good]; omega, by simp only [good]; omega⟩
            · rw [if_neg g4]
              by_cases g5 : gt s i = 42 ∨ gt s i = 43 ∨ gt s i = 63 ∨ gt s i = 93
              · rw [if_pos g5]; exact .inr ⟨by simp [bad], rfl⟩
              · rw [if_neg g5]; exact .inl ⟨rfl, rfl, by simp only [good]; omega, fun _ => by simp only [good]; omega, by simp only [good]; omega⟩
end Go.Proofs.Ytbjdkbcfpmeneaa

/- What is proved here: what the reader's method cat does, if rep does what it should. -/
namespace Go.Proofs.Ytbjdkbcfpmeneaa
set_option linter.unusedVariables false
set_option linter.unusedSimpArgs false
open Go.RowKit

/- What rep comes to at a place. -/
def rR (s : ByteArray) (m j : Nat) : PR Lang := if (pp s m 2 lEps j).err ≠ 0 then pp s m 2 lEps j else pReps s 20 (pp s m 2 lEps j).v (pp s m 2 lEps j).j
theorem rR_shape (s : ByteArray) (hz : Nz s) (m j : Nat) (hj : j < s.size) : ((rR s m j).err = 0 ∧ (rR s m j).pl = 0 ∧ j < (rR s m j).j ∧ (rR s m j).j ≤ s.size) ∨ ((rR s m j).err ≠ 0 ∧ (rR s m j).j = s.size) := by
  unfold rR
  rcases (pp_shape s hz m).2.2 lEps j hj with ⟨a1, a2, a3, a4, a5⟩ | ⟨a1, a2⟩
  · rw [if_neg (by simp [a1])]
    have := pReps_shape s hz 20 (pp s m 2 lEps j).v (pp s m 2 lEps j).j a5
    have h4 := a4 trivial
    exact .inl ⟨this.1, this.2.1, by omega, this.2.2.2⟩
  · rw [if_pos a1]; exact .inr ⟨a1, a2⟩
theorem cat_step (s : ByteArray) (m j : Nat) (L : Lang) (hz : Nz s) (hj : j < s.size) (h1 : gt s j ≠ 0) (h2 : gt s j ≠ 124) (h3 : gt s j ≠ 41) :
    pp s (m + 1) 1 L j = if (rR s m j).err ≠ 0 then rR s m j else pp s m 1 (lCat L (rR s m j).v) (rR s m j).j := by
  rw [pp_cat, if_neg (by omega)]
  unfold rR
  by_cases hA : (pp s m 2 lEps j).err ≠ 0
  · rw [if_pos hA, if_pos hA, if_pos hA]
  · rw [if_neg hA, if_neg hA]
    have hA' : (pp s m 2 lEps j).err = 0 := by simpa using hA
    rcases (pp_shape s hz m).2.2 lEps j hj with ⟨a1, a2, a3, a4, a5⟩ | ⟨a1, a2⟩
    · rw [if_neg (by have := (pReps_shape s hz 20 (pp s m 2 lEps j).v (pp s m 2 lEps j).j a5).1; simp [this])]
    · exact absurd hA' a1

/- A part read earlier, over the lists that a later reading has made longer. -/
theorem Part.longer {bs fs bs2 fs2 : List Nat} {lo : Nat} {e : Bool} {f l : Nat} {L : Lang} (h : Part (fun q => bs.getD q 0) (fun q => fs.getD q 0) lo bs.length e f l L) (hl : fs.length = bs.length) (hb : bs2.take bs.length = bs) (hf : fs2.take bs.length = fs) :
    Part (fun q => bs2.getD q 0) (fun q => fs2.getD q 0) lo bs.length e f l L := by
  refine h.congr (fun q hq => ?_) (fun q _ hq => ?_)
  · show bs2.getD q 0 = bs.getD q 0
    rw [List.getD_eq_getElem?_getD, List.getD_eq_getElem?_getD]
    have := congrArg (fun l : List Nat => l[q]?) hb
    simp only [List.getElem?_take, if_pos hq] at this
    rw [this]
  · show fs2.getD q 0 = fs.getD q 0
    rw [List.getD_eq_getElem?_getD, List.getD_eq_getElem?_getD]
    have := congrArg (fun l : List Nat => l[q]?) hf
    simp only [List.getElem?_take, if_pos hq] at this
    rw [this]
theorem see2 (c : Nat) (hc : c < 256) : decide (0 ≤ Lib.indexByte (ByteArray.mk #[124, 41]).data.toList c.toUInt8) = decide (c = 124 ∨ c = 41) := by
  have h : ∀ c : Fin 256, decide (0 ≤ Lib.indexByte (ByteArray.mk #[124, 41]).data.toList c.1.toUInt8) = decide (c.1 = 124 ∨ c.1 = 41) := by decide +kernel
  exact h ⟨c, hc⟩

theorem chain_named (p : Nat) (e1 e2 : Bool) (f1 l1 f2 l2 : Nat) (bs fs : List Nat) (vb vf : Value) (w : World) (h : PosAt w p bs fs vb vf) (hn : fs.length ≤ 200) :
    Calls Try.prog 76 #[.pointer (some ⟨p, 0, none⟩), partV e1 f1 l1, partV e2 f2 l2] w fun x w' =>
      ∃ E F M, (E = (e1 && e2) ∧ F = (if e1 then f1 ||| f2 else f1) ∧ M = (if e2 then l1 ||| l2 else l2)) ∧ x = .returned (partV E F M) ∧ PosAt w' p bs (linkL l1 f2 fs) vb vf ∧ Kp (foot p vb vf) w w' := by
  refine (chain_code p e1 e2 f1 l1 f2 l2 bs fs vb vf w h hn).mono ?_
  rintro x w' ⟨hx, hp, hk⟩
  exact ⟨_, _, _, ⟨rfl, rfl, rfl⟩, hx, hp, hk⟩
theorem take_take_of {l m : List Nat} {a b : Nat} (h : l.take b = m) (hab : a ≤ b) : l.take a = m.take a := by
  rw [← h, List.take_take, Nat.min_eq_left hab]

/- What cat's loop keeps. -/
def CatRel (R : PR Lang) (s : ByteArray) (n i p r T H : Nat) (bs fs : List Nat) (vb vf : Value) (w w' : World) : Prop :=
  ∃ (e : Bool) (f l : Nat) (bs' fs' : List Nat) (vb' vf' : Value), w'.heap[T]? = some (partO e f l) ∧ w'.heap[H]? = some zeroPart ∧ Kp (r :: foot p vb vf) w w' ∧ (∀ g ∈ foot p vb' vf', g ∈ foot p vb vf ∨ w.heap.size ≤ g) ∧ T ∉ foot p vb' vf' ∧ H ∉ foot p vb' vf' ∧
    ((∃ (L : Lang) (j m : Nat), St w' s j 0 0 p r bs' fs' vb' vf' ∧ i ≤ j ∧ j ≤ s.size ∧ 2 * (s.size - j) + 2 ≤ m ∧ m ≤ n ∧ R = pp s m 1 L j ∧ bs'.length ≤ bs.length + (j - i) ∧ bs.length ≤ bs'.length ∧ bs'.take bs.length = bs ∧ fs'.take bs.length = fs ∧
        Part (fun q => bs'.getD q 0) (fun q => fs'.getD q 0) bs.length bs'.length e f l L) ∨
     (St w' s R.j R.err R.pl p r bs' fs' vb' vf' ∧ R.err ≠ 0 ∧ R.j = s.size ∧ bs'.length ≤ bs.length + (R.j - i)))
theorem cat_done {R : PR Lang} {s : ByteArray} {j m : Nat} {L : Lang} (hR : R = pp s m 1 L j) (hg : gt s j = 0 ∨ gt s j = 124 ∨ gt s j = 41) (hm : 0 < m) : R = good j L := by
  obtain ⟨k, rfl⟩ : ∃ k, m = k + 1 := ⟨m - 1, by omega⟩
  rw [hR, pp_cat, if_pos hg]

set_option maxRecDepth 100000 in
set_option maxHeartbeats 6000000 in
theorem cat_code (s : ByteArray) (n i p r : Nat) (bs fs : List Nat) (vb vf : Value) (w : World) (R : PR Lang) (hR : R = pp s n 1 lEps i) (h : St w s i 0 0 p r bs fs vb vf) (hz : Nz s) (hs : s.size ≤ 16) (hn : bs.length + s.size < 184) (hi : i ≤ s.size) (hf : 2 * (s.size - i) + 2 ≤ n)
    (hrep : ∀ m, m < n → ∀ (j : Nat) (bs' fs' : List Nat) (vb' vf' : Value) (w' : World), j < s.size → 2 * (s.size - j) + 1 ≤ m → gt s j ≠ 124 → gt s j ≠ 41 → bs'.length + s.size < 200 → i ≤ j → bs'.length ≤ bs.length + (j - i) → St w' s j 0 0 p r bs' fs' vb' vf' → Calls Try.prog 77 #[.pointer (some ⟨r, 0, none⟩)] w' (RPost (rR s m j) s j p r bs' fs' vb' vf' w')) :
    Calls Try.prog 49 #[.pointer (some ⟨r, 0, none⟩)] w (RPost R s i p r bs fs vb vf w) := by
  have hr := lt_of_block h.rd
  have hrne : r ≠ w.heap.size := by omega
  have HS := hide h
  have HR := hide hR
  have HN := hide hn
  have HZ := hide hz
  have HF := hide hf
  have HREP := hide hrep
  have nf : ∀ k, w.heap.size ≤ k → k ∉ foot p vb vf := fun k hk hm => by have := HS.out.ps.lt k hm; omega
  have NF := hide nf
  clear h hrep hR hn hz nf hf
  go_enter Try.func49, Try.ntmps49
  go_wp2_with fail
  refine (nothing_any _).mono ?_
  rintro _ w1 ⟨rfl, b1⟩
  have z1 : w1.heap[w.heap.size]? = some zeroPart := bkeep b1 (by rw [blk_alloc, if_pos rfl])
  have K1 := hide (((Kp.refl (r :: foot p vb vf) w).alloc zeroPart).below b1)
  have S1 : Hid (St w1 s i 0 0 p r bs fs vb vf) := ⟨bkeep b1 (by rw [blk_alloc, if_neg hrne]; exact HS.out.rd), HS.out.ps.kp (((Kp.refl [] w).alloc zeroPart).below b1) (by simp), HS.out.ap⟩
  have lz1 := lt_of_block z1
  have lr1 := lt_of_block S1.out.rd
  have Z1 := hide z1
  clear b1 z1
  go_wp2_with fail
  have hrZ : r ∉ [w.heap.size] := by simp; omega
  have hrT : r ≠ w1.heap.size := by omega
  go_loopw [] (fun w' => CatRel R s n i p r w1.heap.size w.heap.size bs fs vb vf w w') (fun w' => s.size - (intOf ((w'.cell? ⟨r, 1, none⟩).getD undef)).toNat)
  case atStart =>
    refine ⟨true, 0, 0, bs, fs, vb, vf, by rw [blk_alloc, if_pos rfl], by rw [blk_alloc, if_neg (Nat.ne_of_lt lz1)]; exact Z1.out, K1.out.alloc _, fun g hg => .inl hg, NF.out _ (by omega), NF.out _ (Nat.le_refl _), .inl ⟨lEps, i, n, ⟨by rw [blk_alloc, if_neg (Nat.ne_of_lt lr1)]; exact S1.out.rd, S1.out.ps.kp ((Kp.refl [] _).alloc _) (by simp), HS.out.ap⟩, Nat.le_refl _, hi, HF.out, Nat.le_refl _, HR.out, by omega, Nat.le_refl _, by simp, ?_, Part.eps _ _ _⟩⟩
    rw [← HS.out.ps.len]; simp
  case round =>
    obtain ⟨e', f', l', bs', fs', vb', vf', tb, zb, kk, fr, ft, fz, hst⟩ := hrel
    have TB := hide tb
    have ZB := hide zb
    have KK := hide kk
    have FR := hide fr
    have FT := hide ft
    have FZ := hide fz
    clear tb zb kk fr ft fz
    rcases hst with ⟨L, j, m, st, hij, hj, hm, hmn, hRR, hb1, hb2, hb3, hb4, hpart⟩ | ⟨st, he, hjs, hb⟩
    · have ST := hide st
      have HRR := hide hRR
      have HPT := hide hpart
      have HB := hide (And.intro hb1 (And.intro hb2 (And.intro hb3 hb4)))
      clear st hRR hpart hb1 hb2 hb3 hb4
      by_cases h0 : gt s j = 0
      · have hjs : j = s.size := by have := (HZ.out j).1 h0; omega
        have HG := hide (cat_done HRR.out (by omega) (by omega))
        subst hjs
        clear h0
        go_wp2_with fail
        refine (ended_yes s p r 0 0 _ (by exact ST.out.rd)).mono ?_
        rintro _ w2 ⟨rfl, n2, rfl⟩
        go_upto_region 4 with fail
        apply wp_region_lit
        refine load9 rfl _ rfl (b := w1.heap.size) (by exact TB.out) rfl ?_
        refine store9 rfl _ _ rfl (b := w.heap.size) (by exact ZB.out) rfl rfl (by simp [Value.oneCell']) ?_
        intro w9 z9 k9 s9
        go_wp2
        refine bodyPost_ret (v := partV e' f' l') (res_part (b := w.heap.size) Try.results49 rfl z9) rfl ?_
        refine ⟨e', f', l', bs', fs', vb', vf', rfl, ⟨k9.keep (by exact (by rw [HG.out]; exact ST.out.rd)) hrZ, ST.out.ps.kp k9.ofDrewN (by intro k hk; simp at hk; subst hk; exact FZ.out), ST.out.ap⟩, (KK.out.trans k9.ofDrewN (by simp)), FR.out, (by rw [HG.out]; exact HB.out.1), fun _ => ⟨HB.out.2.1, HB.out.2.2.1, HB.out.2.2.2, by rw [HG.out]; exact HPT.out⟩⟩
      · have hlt : j < s.size := by have := (HZ.out j).2; omega
        by_cases hsg : gt s j = 124 ∨ gt s j = 41
        · have hsee : decide (0 ≤ Lib.indexByte (ByteArray.mk #[124, 41]).data.toList (gt s j).toUInt8) = true := by rw [see2 _ (gt_lt s j)]; simp; omega
          have HG := hide (cat_done HRR.out (by omega) (by omega))
          have HSEE := hide hsee
          clear hsee h0 hsg
          go_wp2_with fail
          refine (ended_no s j p r 0 0 _ (by exact ST.out.rd) hlt).mono ?_
          rintro _ w2 ⟨rfl, n2, rfl⟩
          go_wp2_with fail
          refine (sees_at s _ j p r 0 0 true _ (by exact ST.out.rd) hlt hs HSEE.out).mono ?_
          rintro _ w3 ⟨rfl, n3, rfl⟩
          go_upto_region 4 with fail
          apply wp_region_lit
          refine load9 rfl _ rfl (b := w1.heap.size) (by exact TB.out) rfl ?_
          refine store9 rfl _ _ rfl (b := w.heap.size) (by exact ZB.out) rfl rfl (by simp [Value.oneCell']) ?_
          intro w9 z9 k9 s9
          go_wp2
          refine bodyPost_ret (v := partV e' f' l') (res_part (b := w.heap.size) Try.results49 rfl z9) rfl ?_
          refine ⟨e', f', l', bs', fs', vb', vf', rfl, ⟨k9.keep (by exact (by rw [HG.out]; exact ST.out.rd)) hrZ, ST.out.ps.kp k9.ofDrewN (by intro k hk; simp at hk; subst hk; exact FZ.out), ST.out.ap⟩, (KK.out.trans k9.ofDrewN (by simp)), FR.out, (by rw [HG.out]; exact HB.out.1), fun _ => ⟨HB.out.2.1, HB.out.2.2.1, HB.out.2.2.2, by rw [HG.out]; exact HPT.out⟩⟩
        · have hsee : decide (0 ≤ Lib.indexByte (ByteArray.mk #[124, 41]).data.toList (gt s j).toUInt8) = false := by rw [see2 _ (gt_lt s j)]; simp; omega
          obtain ⟨m, rfl⟩ : ∃ k, m = k + 1 := ⟨m - 1, by omega⟩
          have hR2 : R = if (rR s m j).err ≠ 0 then rR s m j else pp s m 1 (lCat L (rR s m j).v) (rR s m j).j := by rw [HRR.out]; exact cat_step s m j L HZ.out hlt h0 (by omega) (by omega)
          have hC : ∀ w', St w' s j 0 0 p r bs' fs' vb' vf' → Calls Try.prog 77 #[.pointer (some ⟨r, 0, none⟩)] w' (RPost (rR s m j) s j p r bs' fs' vb' vf' w') :=
            fun w' h' => HREP.out m (by omega) j bs' fs' vb' vf' w' hlt (by omega) (by omega) (by omega) (by have := HN.out; have := HB.out.1; omega) hij HB.out.1 h'
          have hshape := rR_shape s HZ.out m j hlt
          generalize rR s m j = B at *
          have HSEE := hide hsee
          have HR2 := hide hR2
          have HC := hide hC
          have SHB := hide hshape
          clear hsee h0 hsg hR2 hC hshape HRR
          go_wp2_with fail
          refine (ended_no s j p r 0 0 _ (by exact ST.out.rd) hlt).mono ?_
          rintro _ w2a ⟨rfl, n1, rfl⟩
          go_wp2_with fail
          refine (sees_at s _ j p r 0 0 false _ (by exact ST.out.rd) hlt hs HSEE.out).mono ?_
          rintro _ w2 ⟨rfl, n2, hw2⟩
          have tb2 : w2.heap[w1.heap.size]? = some (partO e' f' l') := by rw [hw2]; exact TB.out
          have rd2 : w2.heap[r]? = some (rdO s j 0 0 p) := by rw [hw2]; exact ST.out.rd
          have zb2 : w2.heap[w.heap.size]? = some zeroPart := by rw [hw2]; exact ZB.out
          have KK2 : Hid (Kp (r :: foot p vb vf) w w2.drew) := by rw [hw2]; exact ((KK.out.drewN n1).drewN n2).drew
          have SD2 : Hid (St w2.drew s j 0 0 p r bs' fs' vb' vf') := ⟨rd2, by rw [hw2]; exact ST.out.ps.kp ((((Kp.refl [] wr).drewN n1).drewN n2).drew) (by simp), ST.out.ap⟩
          have MS : Hid ((wr.cell? ⟨r, 1, none⟩).getD undef = .int .i64 j) := by show _ = _; rw [cell_of_block ST.out.rd]; rfl
          obtain ⟨⟨a0, a1, a2, a3, a4, a5, a6, a7, a8⟩, _⟩ := nine tb2
          have c2 : w2.cell? ⟨r, 2, none⟩ = some (.pointer (some ⟨p, 0, none⟩)) := by rw [cell_of_block rd2]; rfl
          have TB2 : Hid (w2.drew.heap[w1.heap.size]? = some (partO e' f' l')) := tb2
          have ZB2 : Hid (w2.drew.heap[w.heap.size]? = some zeroPart) := zb2
          have lT : w1.heap.size < w2.drew.heap.size := lt_of_block tb2
          have lZ : w.heap.size < w2.drew.heap.size := lt_of_block zb2
          have hTn : w1.heap.size ∉ r :: foot p vb' vf' := by intro hm; simp at hm; rcases hm with e | e; omega; exact FT.out e
          have hZn : w.heap.size ∉ r :: foot p vb' vf' := by intro hm; simp at hm; rcases hm with e | e; omega; exact FZ.out e
          have HTN := hide hTn
          have HZN := hide hZn
          have lr2 := lt_of_block rd2
          clear hw2 tb2 rd2 zb2 hTn hZn
          go_wp2_with fail
          go_region_with (first | (go_at_call 77; refine Calls.mono (HC.out _ (by exact SD2.out)) ?_; rintro _ w3 ⟨e2, f2, l2, bs2, fs2, vb2, vf2, rfl, st3, k3, fr3, hl3, hp3⟩; obtain ⟨⟨b0, b1, b2, b3, b4, b5, b6, b7, b8⟩, _⟩ := nine (k3.keep TB2.out HTN.out); have cc3 : w3.cell? ⟨r, 2, none⟩ = some (.pointer (some ⟨p, 0, none⟩)) := (by rw [cell_of_block st3.rd]; rfl); have ST3 := hide st3; have TB3 := hide (k3.keep TB2.out HTN.out); have ZB3 := hide (k3.keep ZB2.out HZN.out); have KK3 := hide (KK2.out.trans k3 (fun y hy => by simp only [List.mem_cons] at hy; rcases hy with e | e; exact .inl (by simp [e]); rcases FR.out y e with e | e; exact .inl (by simp [e]); exact .inr e)); have FR3 : Hid (∀ g ∈ foot p vb2 vf2, g ∈ foot p vb vf ∨ w.heap.size ≤ g) := (fun g hg => by rcases fr3 g hg with e | e; exact FR.out g e; right; omega); have FT3 : Hid (w1.heap.size ∉ foot p vb2 vf2) := (fun hg => by rcases fr3 _ hg with e | e; exact FT.out e; omega); have FZ3 : Hid (w.heap.size ∉ foot p vb2 vf2) := (fun hg => by rcases fr3 _ hg with e | e; exact FZ.out e; omega); have HL3 := hide hl3; have HP3 := hide hp3; clear st3 k3 fr3 hl3 hp3) | (go_at_call 76; refine (chain_named p e' e2 f' l' f2 l2 bs2 fs2 vb2 vf2 _ (by exact ST3.out.ps) (by have := HN.out; have := HB.out.1; have := HL3.out; have := ST3.out.ps.len; rcases SHB.out with h | h <;> omega)).mono ?_; rintro _ w4 ⟨E4, F4, M4, hE, rfl, P4, k4⟩; obtain ⟨⟨d0, d1, d2, d3, d4, d5, d6, d7, d8⟩, g0, g1, g2, g3, g4, g5, g6, g7, g8⟩ := nine (k4.keep TB3.out FT3.out); have HE4 := hide hE; have RD4 := hide (k4.keep ST3.out.rd ST3.out.ap); have TB4 := hide (k4.keep TB3.out FT3.out); have ZB4 := hide (k4.keep ZB3.out FZ3.out); have P4H := hide P4; have KK4 := hide (KK3.out.trans k4 (fun y hy => by rcases FR3.out y hy with e | e; exact .inl (by simp [e]); exact .inr e)); clear hE P4 k4))
          all_goals
            go_wp2
            have kq := (Kp.refl [w1.heap.size] w4).set9 (b := w1.heap.size) (by simp) (.bool E4) (.int .u64 (wd F4 0)) (.int .u64 (wd F4 1)) (.int .u64 (wd F4 2)) (.int .u64 (wd F4 3)) (.int .u64 (wd M4 0)) (.int .u64 (wd M4 1)) (.int .u64 (wd M4 2)) (.int .u64 (wd M4 3))
            have rq := kq.keep RD4.out (by simp; omega)
            refine ⟨⟨E4, F4, M4, bs2, linkL l' f2 fs2, vb2, vf2, ?_, kq.keep ZB4.out (by simp; omega), KK4.out.trans kq (by simp; omega), FR3.out, FT3.out, FZ3.out, ?_⟩, ?_⟩
            · simp only [blk_set, TB4.out]; simp [setObj_cells]
            · have PF := P4H.out.kp kq (by intro k hk; simp at hk; subst hk; exact FT3.out)
              have hl3 := HL3.out
              have hb1 := HB.out.1
              rcases SHB.out with ⟨q1, q2, q3, q4⟩ | ⟨q1, q2⟩
              · left
                have hR := HR2.out
                rw [if_neg (by simp [q1])] at hR
                rw [q1, q2] at rq
                obtain ⟨r1, r2, r3, r4⟩ := HP3.out q1
                refine ⟨lCat L B.v, B.j, m, ⟨rq, PF, ST3.out.ap⟩, by omega, q4, by omega, by omega, hR, by omega, by have := HB.out.2.1; omega, ?_, ?_, ?_⟩
                · rw [take_take_of r2 HB.out.2.1]; exact HB.out.2.2.1
                · rw [linkL_take _ _ _ _ _ HPT.out.la, take_take_of r3 HB.out.2.1]; exact HB.out.2.2.2
                · obtain ⟨hE, hF, hM⟩ := HE4.out
                  rw [hE, hF, hM]
                  exact Part.linked (Part.chain (Part.longer HPT.out ST.out.ps.len r2 r3) r4 HB.out.2.1 r1) (by rw [ST3.out.ps.len]; exact Nat.le_refl _)
              · right
                have hR := HR2.out
                rw [if_pos q1] at hR
                rw [hR]
                exact ⟨⟨rq, PF, ST3.out.ap⟩, q1, q2, by omega⟩
            · rw [MS.out, cell_of_block rq]
              rcases SHB.out with h | h <;> simp [intOf] <;> omega
    · have ST := hide st
      have HE := hide he
      have HJ := hide hjs
      have HB := hide hb
      clear st he hjs hb
      go_wp2_with fail
      refine (ended_yes s p r R.err R.pl _ (by rw [← HJ.out]; exact ST.out.rd)).mono ?_
      rintro _ w2 ⟨rfl, n2, rfl⟩
      go_upto_region 4 with fail
      apply wp_region_lit
      refine load9 rfl _ rfl (b := w1.heap.size) (by exact TB.out) rfl ?_
      refine store9 rfl _ _ rfl (b := w.heap.size) (by exact ZB.out) rfl rfl (by simp [Value.oneCell']) ?_
      intro w9 z9 k9 s9
      go_wp2
      refine bodyPost_ret (v := partV e' f' l') (res_part (b := w.heap.size) Try.results49 rfl z9) rfl ?_
      refine ⟨e', f', l', bs', fs', vb', vf', rfl, ⟨k9.keep (by exact ST.out.rd) hrZ, ST.out.ps.kp k9.ofDrewN (by intro k hk; simp at hk; subst hk; exact FZ.out), ST.out.ap⟩, (KK.out.trans k9.ofDrewN (by simp)), FR.out, HB.out, fun hh => absurd hh HE.out⟩
end Go.Proofs.Ytbjdkbcfpmeneaa
