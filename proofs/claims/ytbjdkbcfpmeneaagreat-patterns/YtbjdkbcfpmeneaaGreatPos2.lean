/- What is proved here: what the method link of the positions does. -/
import Derived.Test.YtbjdkbcfpmeneaaGreatRows
import Derived.Test.YtbjdkbcfpmeneaaGreatPos1
namespace Go.Proofs.YtbjdkbcfpmeneaaGreat
set_option linter.unusedVariables false
set_option linter.unusedSimpArgs false
open Go.RowKit

theorem union2 (a b g : Nat) (w : World) (h : w.heap[g]? = some (.cells #[.int .u64 (wd a 0), .int .u64 (wd a 1), .int .u64 (wd a 2), .int .u64 (wd a 3), .int .u64 (wd b 0), .int .u64 (wd b 1), .int .u64 (wd b 2), .int .u64 (wd b 3)] 65 (0, 0))) :
    Calls Tryz.prog 52 #[.slice (some ⟨g, 0, none⟩) 2 2] w fun e w' => e = .returned (setV (a ||| b)) ∧ Below w.heap.size w w' := by
  refine (union_any g 2 2 [a, b] w rfl (by decide) ?_ (lt_of_block h)).mono ?_
  · intro j hj i hi
    rw [cell_of_block h]
    have hj' : j = 0 ∨ j = 1 := by omega
    have hi' : i = 0 ∨ i = 1 ∨ i = 2 ∨ i = 3 := by omega
    rcases hj' with rfl | rfl <;> rcases hi' with rfl | rfl | rfl | rfl <;> rfl
  · rintro _ w' ⟨rfl, hb⟩
    exact ⟨by simp, hb⟩

def lk (e st n x : Nat) : Nat := if e.testBit n then x ||| st else x
def linkTo (e st : Nat) : Nat → List Nat → List Nat
  | 0, fs => fs
  | k + 1, fs => (linkTo e st k fs).set k (lk e st k ((linkTo e st k fs).getD k 0))
def linkL (e st : Nat) (fs : List Nat) : List Nat := linkTo e st fs.length fs
theorem linkTo_len (e st : Nat) (fs : List Nat) : ∀ k, (linkTo e st k fs).length = fs.length
  | 0 => rfl
  | k + 1 => by rw [linkTo, List.length_set]; exact linkTo_len e st fs k

theorem flat_set (l : List Nat) (k v : Nat) (hk : k < l.length) : flat (l.set k v) = ((((flat l).set (k * 4) (.int .u64 (wd v 0))).set (k * 4 + 1) (.int .u64 (wd v 1))).set (k * 4 + 2) (.int .u64 (wd v 2))).set (k * 4 + 3) (.int .u64 (wd v 3)) := by
  induction l generalizing k with
  | nil => simp at hk
  | cons a l ih =>
    have e : ∀ (x : Nat) (m : List Nat), flat (x :: m) = .int .u64 (wd x 0) :: .int .u64 (wd x 1) :: .int .u64 (wd x 2) :: .int .u64 (wd x 3) :: flat m := fun x m => by simp [flat]
    cases k with
    | zero => rw [List.set_cons_zero, e, e]; simp
    | succ k =>
      rw [List.set_cons_succ, e, e, ih k (by simpa using hk)]
      have h4 : (k + 1) * 4 = k * 4 + 4 := by omega
      rw [h4]
      simp [List.set_cons_succ, Nat.add_assoc]

theorem PosAt.row {w : World} {p g N cap : Nat} {bs L : List Nat} {vb : Value} (h : PosAt w p bs L vb (.slice (some ⟨g, 0, none⟩) N cap)) (hl : L.length = N) (k : Nat) (hk : k < N) :
    w.cell? ⟨g, k * 4, none⟩ = some (.int .u64 (wd (L.getD k 0) 0)) ∧ w.cell? ⟨g, k * 4 + 1, none⟩ = some (.int .u64 (wd (L.getD k 0) 1)) ∧ w.cell? ⟨g, k * 4 + 2, none⟩ = some (.int .u64 (wd (L.getD k 0) 2)) ∧ w.cell? ⟨g, k * 4 + 3, none⟩ = some (.int .u64 (wd (L.getD k 0) 3)) ∧
    w.frozen? ⟨g, k * 4, none⟩ = false ∧ w.frozen? ⟨g, k * 4 + 1, none⟩ = false ∧ w.frozen? ⟨g, k * 4 + 2, none⟩ = false ∧ w.frozen? ⟨g, k * 4 + 3, none⟩ = false := by
  have ho : w.ownsRow 0 65 4 (.slice (some ⟨g, 0, none⟩) N cap) N (flat L) := by have := h.of; rw [hl] at this; exact this
  have c : ∀ i < 4, w.cell? ⟨g, k * 4 + i, none⟩ = some (.int .u64 (wd (L.getD k 0) i)) := fun i hi => by
    rw [ho.cellAt (k * 4 + i) (by omega)]; exact flat_get L k (by omega) i hi
  exact ⟨c 0 (by omega), c 1 (by omega), c 2 (by omega), c 3 (by omega), ho.frozenAt _, ho.frozenAt _, ho.frozenAt _, ho.frozenAt _⟩

theorem Kp.set4' {xs : List Nat} {w w1 : World} (h : Kp xs w w1) {b : Nat} (hb : b ∈ xs ∨ w.heap.size ≤ b) (k : Nat) (v0 v1 v2 v3 : Value) :
    Kp xs w ((((w1.setCell ⟨b, k, none⟩ v0).setCell ⟨b, k + 1, none⟩ v1).setCell ⟨b, k + 2, none⟩ v2).setCell ⟨b, k + 3, none⟩ v3) := (((h.set hb _ _).set hb _ _).set hb _ _).set hb _ _
theorem PosAt.store {w : World} {p g N cap : Nat} {bs L : List Nat} {vb : Value} (h : PosAt w p bs L vb (.slice (some ⟨g, 0, none⟩) N cap)) (hl : L.length = N) (k : Nat) (hk : k < N) (v : Nat) :
    PosAt ((((w.setCell ⟨g, k * 4, none⟩ (.int .u64 (wd v 0))).setCell ⟨g, k * 4 + 1, none⟩ (.int .u64 (wd v 1))).setCell ⟨g, k * 4 + 2, none⟩ (.int .u64 (wd v 2))).setCell ⟨g, k * 4 + 3, none⟩ (.int .u64 (wd v 3))) p bs (L.set k v) vb (.slice (some ⟨g, 0, none⟩) N cap) := by
  have kk := (Kp.refl [g] w).set4' (b := g) (.inl (by simp)) (k * 4) (.int .u64 (wd v 0)) (.int .u64 (wd v 1)) (.int .u64 (wd v 2)) (.int .u64 (wd v 3))
  have hgp : g ≠ p := fun e => h.nf (by rw [← e]; rfl)
  have ho : w.ownsRow 0 65 4 (.slice (some ⟨g, 0, none⟩) N cap) N (flat L) := by have := h.of; rw [hl] at this; exact this
  refine ⟨kk.keep h.blk (by simp; exact fun e => hgp e.symm), owns_kp h.ob kk (fun q e hm => by simp at hm; subst hm; exact h.ne _ e rfl), ?_, by rw [List.length_set]; exact h.len, h.nb, h.nf, h.ne⟩
  rw [List.length_set, hl, flat_set L k v (by omega)]
  exact ((((ho.stored _ _).1.stored _ _).1.stored _ _).1.stored _ _).1

set_option maxRecDepth 100000 in
set_option maxHeartbeats 4000000 in
theorem link_some (p e st g cap : Nat) (bs fs : List Nat) (vb : Value) (w : World) (h : PosAt w p bs fs vb (.slice (some ⟨g, 0, none⟩) fs.length cap)) (hn : fs.length ≤ 200) :
    Calls Tryz.prog 113 #[.pointer (some ⟨p, 0, none⟩), setV e, setV st] w fun x w' => x = .returned (.tuple #[]) ∧ PosAt w' p bs (linkL e st fs) vb (.slice (some ⟨g, 0, none⟩) fs.length cap) ∧ Kp (foot p vb (.slice (some ⟨g, 0, none⟩) fs.length cap)) w w' := by
  have hp := lt_of_block h.blk
  have hpne : p ≠ w.heap.size := by omega
  have hpne1 : p ≠ w.heap.size + 1 := by omega
  obtain ⟨c0, c1, f0, f1⟩ := two h.blk
  have HP : Hid _ := h
  have hg : g < w.heap.size := h.lt g (foot_mem.2 (.inr (.inr rfl)))
  generalize hN : fs.length = N at *
  have HN := hide hN
  clear h hN
  go_enter Tryz.func113, Tryz.ntmps113
  go_wp2_with fail
  go_loopw [12] (fun i w' => ∃ k : Nat, k ≤ N ∧ i = .int .i64 k ∧ PosAt w' p bs (linkTo e st k fs) vb (.slice (some ⟨g, 0, none⟩) N cap) ∧ Kp (foot p vb (.slice (some ⟨g, 0, none⟩) N cap)) w w' ∧
      w'.heap[w.heap.size]? = some (.cells #[.int .u64 (wd e 0), .int .u64 (wd e 1), .int .u64 (wd e 2), .int .u64 (wd e 3)] 65 (0, 0)) ∧
      w'.heap[w.heap.size + 1]? = some (.cells #[.int .u64 (wd st 0), .int .u64 (wd st 1), .int .u64 (wd st 2), .int .u64 (wd st 3)] 65 (0, 0)))
    (fun i _ => N - (intOf i).toNat)
  case atStart =>
    refine ⟨0, by omega, rfl, HP.out.kp (((Kp.refl [] w).alloc _).alloc _) (by simp), ((Kp.refl _ w).alloc _).alloc _, ?_, ?_⟩
    · simp only [blk_alloc, size_alloc]; simp
    · simp only [blk_alloc, size_alloc]; simp
  case round =>
    obtain ⟨k, hk, rfl, P, kp, be, bst⟩ := hrel
    have PK := hide P
    have BE := hide be
    have BS := hide bst
    have lr : w.heap.size + 1 < wr.heap.size := lt_of_block bst
    have hkp := hide kp
    obtain ⟨pc0, pc1, pf0, pf1⟩ := two P.blk
    obtain ⟨ec0, ec1, ec2, ec3, _⟩ := four be
    obtain ⟨sc0, sc1, sc2, sc3, _⟩ := four bst
    have hlen := linkTo_len e st fs k
    rw [HN.out] at hlen
    have HLEN := hide hlen
    clear c0 c1 f0 f1 P be bst hlen kp
    by_cases hlt : k < N
    · have hu8 : IntKind.u8.wrap (k : Int) = k := by simp [IntKind.wrap, IntKind.bits, IntKind.signed]; omega
      have hlt' : (k : Int) < N := by omega
      go_wp2_with fail
      refine (has_any e k _ (by omega)).mono ?_
      rintro _ w1 ⟨rfl, h1⟩
      by_cases hb : e.testBit k
      · have HB := hide hb
        have K1 := hide (hkp.out.below h1)
        have P1 := PK.out.kp ((Kp.refl [] wr).below h1) (by simp)
        have be1 := bkeep h1 BE.out
        have bs1 := bkeep h1 BS.out
        generalize hL : linkTo e st k fs = L at *
        have HL := hide hL
        clear hb hL pc0 pc1 pf0 pf1 ec0 ec1 ec2 ec3 sc0 sc1 sc2 sc3
        obtain ⟨g0, g1, g2, g3, gf0, gf1, gf2, gf3⟩ := P1.row HLEN.out k hlt
        have HRow : Hid (∀ w', PosAt w' p bs L vb (.slice (some ⟨g, 0, none⟩) N cap) → _) := fun w' h' => h'.row HLEN.out k hlt
        generalize hX : L.getD k 0 = X at *
        have HX := hide hX
        obtain ⟨pc0, pc1, pf0, pf1⟩ := two P1.blk
        obtain ⟨sc0, sc1, sc2, sc3, _⟩ := four bs1
        have l1 := lt_of_block bs1
        have n1 : p < w1.heap.size := by omega
        have n2 : g < w1.heap.size := by omega
        have P1H := hide P1
        have BE1 := hide be1
        have BS1 := hide bs1
        clear P1 be1 bs1 hX
        rw [HB.out]
        go_wp2_with fail
        go_region_with ((go_at_call 52; refine (union2 X st _ _ (by rw [blk_drew, blk_alloc, if_pos rfl])).mono ?_; rintro _ w2 ⟨rfl, h2⟩; have P2 := P1H.out.kp ((((Kp.refl [] w1).alloc _).drew).below h2) (by simp); obtain ⟨_, x1, _⟩ := two P2.blk; obtain ⟨y0, y1, y2, y3, yf0, yf1, yf2, yf3⟩ := HRow.out _ P2; have P2H := hide P2; clear P2))
        all_goals
          have P4 : PosAt ((((w2.setCell ⟨g, k * 4, none⟩ (.int .u64 (wd (X ||| st) 0))).setCell ⟨g, k * 4 + 1, none⟩ (.int .u64 (wd (X ||| st) 1))).setCell ⟨g, k * 4 + 2, none⟩ (.int .u64 (wd (X ||| st) 2))).setCell ⟨g, k * 4 + 3, none⟩ (.int .u64 (wd (X ||| st) 3))) p bs (linkTo e st (k + 1) fs) vb (.slice (some ⟨g, 0, none⟩) N cap) := by
            have e1 : linkTo e st (k + 1) fs = L.set k (X ||| st) := by rw [linkTo, HL.out, HX.out, lk, if_pos HB.out]
            rw [e1]
            exact P2H.out.store HLEN.out k hlt (X ||| st)
          have K4 := (((K1.out.alloc (.cells #[.int .u64 (wd X 0), .int .u64 (wd X 1), .int .u64 (wd X 2), .int .u64 (wd X 3), .int .u64 (wd st 0), .int .u64 (wd st 1), .int .u64 (wd st 2), .int .u64 (wd st 3)] 65)).drew).below h2).set4' (b := g) (.inl (foot_mem.2 (.inr (.inr rfl)))) (k * 4) (.int .u64 (wd (X ||| st) 0)) (.int .u64 (wd (X ||| st) 1)) (.int .u64 (wd (X ||| st) 2)) (.int .u64 (wd (X ||| st) 3))
          go_wp2
          refine ⟨⟨k + 1, by omega, by go_num, P4, K4, ?_, ?_⟩, by simp [intOf]; omega⟩
          · simp only [blk_set, if_neg (show w.heap.size ≠ g by omega)]
            exact bkeep h2 (by rw [blk_drew, blk_alloc, if_neg (by omega)]; exact BE1.out)
          · simp only [blk_set, if_neg (show w.heap.size + 1 ≠ g by omega)]
            exact bkeep h2 (by rw [blk_drew, blk_alloc, if_neg (by omega)]; exact BS1.out)
      · have hb' : e.testBit k = false := by simpa using hb
        have HB := hide hb'
        have K1 := hkp.out.below h1
        have P1 := PK.out.kp ((Kp.refl [] wr).below h1) (by simp)
        have be1 := bkeep h1 BE.out
        have bs1 := bkeep h1 BS.out
        clear hb hb'
        rw [HB.out]
        go_wp2
        refine ⟨⟨k + 1, by omega, by go_num, ?_, K1, be1, bs1⟩, by simp [intOf]; omega⟩
        have e1 : linkTo e st (k + 1) fs = linkTo e st k fs := by
          rw [linkTo, lk, if_neg (by simp [HB.out])]
          rw [List.getD_eq_getElem?_getD, List.getElem?_eq_getElem (by rw [HLEN.out]; exact hlt)]
          simp
        rw [e1]; exact P1
    · have hkN : k = N := by omega
      have HK := hide hkN
      clear hkN
      go_wp2
      go_end0
      refine ⟨rfl, ?_, hkp.out⟩
      have := PK.out
      rw [HK.out] at this
      rw [linkL, HN.out]; exact this

theorem link_none (p e st cap : Nat) (a : Option Addr) (bs : List Nat) (vb : Value) (w : World) (h : PosAt w p bs [] vb (.slice a 0 cap)) :
    Calls Tryz.prog 113 #[.pointer (some ⟨p, 0, none⟩), setV e, setV st] w fun x w' => x = .returned (.tuple #[]) ∧ PosAt w' p bs (linkL e st []) vb (.slice a 0 cap) ∧ Kp (foot p vb (.slice a 0 cap)) w w' := by
  have hp := lt_of_block h.blk
  have hpne : p ≠ w.heap.size := by omega
  have hpne1 : p ≠ w.heap.size + 1 := by omega
  obtain ⟨c0, c1, f0, f1⟩ := two h.blk
  have HP : Hid _ := h
  clear h
  go_enter Tryz.func113, Tryz.ntmps113
  go_wp2_with fail
  go_rounds 1
  go_end0
  exact ⟨rfl, HP.out.kp (((Kp.refl [] w).alloc _).alloc _) (by simp), ((Kp.refl _ w).alloc _).alloc _⟩

theorem link_code (p e st : Nat) (bs fs : List Nat) (vb vf : Value) (w : World) (h : PosAt w p bs fs vb vf) (hn : fs.length ≤ 200) :
    Calls Tryz.prog 113 #[.pointer (some ⟨p, 0, none⟩), setV e, setV st] w fun x w' => x = .returned (.tuple #[]) ∧ PosAt w' p bs (linkL e st fs) vb vf ∧ Kp (foot p vb vf) w w' := by
  rcases h.of.2 with ⟨rfl, e0⟩ | ⟨g, cap, cur, rfl, _⟩
  · have : fs = [] := List.eq_nil_of_length_eq_zero e0
    subst this
    exact link_none p e st 0 none bs vb w h
  · exact link_some p e st g cap bs fs vb w h hn
end Go.Proofs.YtbjdkbcfpmeneaaGreat
