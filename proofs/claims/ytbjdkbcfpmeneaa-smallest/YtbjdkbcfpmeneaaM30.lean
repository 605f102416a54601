/- What is proved here: the table that states.Table hands out is right for the rules, as it is read. -/
import Derived.Test.YtbjdkbcfpmeneaaRows
import Derived.Test.YtbjdkbcfpmeneaaM18
import Derived.Test.YtbjdkbcfpmeneaaM29
import Derived.Test.YtbjdkbcfpmeneaaM22
import Derived.Test.YtbjdkbcfpmeneaaM07
import Derived.Test.YtbjdkbcfpmeneaaM08
import Derived.Deep.Cut
namespace Go.Proofs.Ytbjdkbcfpmeneaa
set_option linter.unusedVariables false
set_option linter.unusedSimpArgs false
open Go.RowKit Go.ChangeMaps

theorem Rch.small {bs fs : List Nat} {ps : List (Bool × Nat × Nat)} {y : Nat × Nat} (h : Rch bs fs ps y) (p : Nat) (hfs : ∀ q, fs.getD q 0 < 2 ^ p) (hf : firsts (fR ps) ps.length < 2 ^ p) : y.1 < 2 ^ p ∧ y.2 < 2 ^ ps.length := by
  obtain ⟨x, _, rfl⟩ := h
  by_cases e : x = []
  · subst e
    exact ⟨hf, Nat.two_pow_pos _⟩
  · obtain ⟨z, c, rfl⟩ := snoc_of e
    rw [walkS_snoc]
    exact stepS_small bs fs (lR ps) ps.length p _ c hfs

/- The table, as it is read. -/
def TEnd.T (cl : Nat → Nat) (rows : List (List Int)) (accs : List Int) (N C : Nat) : Tab := ⟨cl, fun j m => (rows.getD j []).getD m 0, fun j => accs.getD j 0, N, C⟩

theorem TEnd.pos {w w' : World} {bs fs : List Nat} {ps : List (Bool × Nat × Nat)} {Ks : List Nat} {cl : Nat → Nat} {S : List (Nat × Nat)} {tb : Nat} {gs : List Nat} {rows : List (List Int)} {accs : List Int} {vn va : Value} (h : TEnd w bs fs ps Ks cl S tb gs rows accs vn va w') : 0 < S.length :=
  (List.getElem?_eq_some_iff.1 h.zero).1

theorem TEnd.built {w w' : World} {bs fs : List Nat} {ps : List (Bool × Nat × Nat)} {Ks : List Nat} {cl : Nat → Nat} {S : List (Nat × Nat)} {tb : Nat} {gs : List Nat} {rows : List (List Int)} {accs : List Int} {vn va : Value} (h : TEnd w bs fs ps Ks cl S tb gs rows accs vn va w')
    (hfs : ∀ q, fs.getD q 0 < 2 ^ 256) (hf : firsts (fR ps) ps.length < 2 ^ 256) (hn : ps.length ≤ 6) :
    Built bs fs (fR ps) (lR ps) ps.length S cl (fun j m => (rows.getD j []).getD m 0) (fun j => accs.getD j 0) Ks.length := by
  have hp : 2 ^ ps.length < 2 ^ 256 := Nat.pow_lt_pow_right (by decide) (by omega)
  refine ⟨h.pos, fun c hc => (h.kcl c hc).1, fun s k hs hk => ?_, ?_, fun s c hs hc => ?_, fun s hs => h.aok s hs⟩
  · show -1 ≤ (rows.getD s []).getD k 0 ∧ (rows.getD s []).getD k 0 < S.length
    rcases h.ok s hs k hk with ⟨_, _, e⟩ | ⟨_, i, e, hi⟩
    · rw [e]; have := h.pos; omega
    · have := (List.getElem?_eq_some_iff.1 hi).1
      rw [List.length_map] at this
      rw [e]; omega
  · rw [List.getD_eq_getElem?_getD, h.zero]; rfl
  · have q := h.ok s hs (cl c) (h.kcl c hc).1
    rw [(h.kcl c hc).2] at q
    rcases q with ⟨a, b, e⟩ | ⟨_, i, e, hi⟩
    · refine .inl ⟨?_, e⟩
      show ((nxt fs ps (S.getD s (0, 0)).1 (takN bs c bs.length)).1, (nxt fs ps (S.getD s (0, 0)).1 (takN bs c bs.length)).2) = (0, 0)
      rw [a, b]
    · obtain ⟨hl, _⟩ := List.getElem?_eq_some_iff.1 hi
      rw [List.length_map] at hl
      refine .inr ⟨i, e, hl, ?_⟩
      rw [List.getElem?_map, List.getElem?_eq_getElem hl] at hi
      have hy := (h.rch _ (List.getElem_mem hl)).small 256 hfs hf
      have hv : stateV (S[i]).1 (S[i]).2 = stateV (nxt fs ps (S.getD s (0, 0)).1 (takN bs c bs.length)).1 (nxt fs ps (S.getD s (0, 0)).1 (takN bs c bs.length)).2 := Option.some.inj hi
      obtain ⟨q1, q2⟩ := stateV_inj hy.1 (by omega) (behN_lt hfs _ _) (by have := wholes_small (lR ps) ((S.getD s (0, 0)).1 &&& takN bs c bs.length) ps.length; exact Nat.lt_trans this hp) hv
      rw [List.getD_eq_getElem?_getD, List.getElem?_eq_getElem hl]
      exact Prod.ext q1 q2

theorem TEnd.ac0 {w w' : World} {bs fs : List Nat} {ps : List (Bool × Nat × Nat)} {Ks : List Nat} {cl : Nat → Nat} {S : List (Nat × Nat)} {tb : Nat} {gs : List Nat} {rows : List (List Int)} {accs : List Int} {vn va : Value} (h : TEnd w bs fs ps Ks cl S tb gs rows accs vn va w') : accs.getD 0 0 = -1 := by
  rcases h.aok 0 h.pos with ⟨e, _⟩ | ⟨i, _, _, e, _⟩
  · exact e
  · rw [List.getD_eq_getElem?_getD, h.zero] at e
    simp at e

theorem TEnd.plain {w w' : World} {bs fs : List Nat} {ps : List (Bool × Nat × Nat)} {Ks : List Nat} {cl : Nat → Nat} {S : List (Nat × Nat)} {tb : Nat} {gs : List Nat} {rows : List (List Int)} {accs : List Int} {vn va : Value} (h : TEnd w bs fs ps Ks cl S tb gs rows accs vn va w')
    (hfs : ∀ q, fs.getD q 0 < 2 ^ 256) (hf : firsts (fR ps) ps.length < 2 ^ 256) (hn : ps.length ≤ 6) : Plain (TEnd.T cl rows accs S.length Ks.length) := by
  have b := h.built hfs hf hn
  refine ⟨b.pos, b.cl, b.rng, fun k hk => h.inv.sur k (by rw [List.length_map]; exact hk), fun c k hc hk => ?_⟩
  obtain ⟨d, h1, h2⟩ := h.inv.ord c k hc hk
  exact ⟨d, h1, h2⟩

theorem TEnd.tabR {w w' : World} {bs fs : List Nat} {ps : List (Bool × Nat × Nat)} {Ks : List Nat} {cl : Nat → Nat} {S : List (Nat × Nat)} {tb : Nat} {gs : List Nat} {rows : List (List Int)} {accs : List Int} {vn va : Value} (h : TEnd w bs fs ps Ks cl S tb gs rows accs vn va w') :
    TabR w' vn va (TEnd.T cl rows accs S.length Ks.length) := h.tab.tabR h.lg h.la h.pos (fun _ _ => rfl)

/- What texts lead to, by the table. -/
theorem TEnd.told {w w' : World} {bs fs : List Nat} {ps : List (Bool × Nat × Nat)} {Ks : List Nat} {cl : Nat → Nat} {S : List (Nat × Nat)} {tb : Nat} {gs : List Nat} {rows : List (List Int)} {accs : List Int} {vn va : Value} (h : TEnd w bs fs ps Ks cl S tb gs rows accs vn va w')
    (hfs : ∀ q, fs.getD q 0 < 2 ^ 256) (hf : firsts (fR ps) ps.length < 2 ^ 256) (hn : ps.length ≤ 6) {lo : Nat → Nat} {e : Nat → Bool} {L : Nat → Lang} (r : Rules (fun q => bs.getD q 0) (fun q => fs.getD q 0) ps.length lo e (fR ps) (lR ps) L) :
    ∀ x, Bytes x → (TEnd.T cl rows accs S.length Ks.length).out 0 x = Go.Proofs.Ytbjdkbcfpmeneaa.told L ps.length x :=
  TableOk.told (T := TEnd.T cl rows accs S.length Ks.length) ((h.built hfs hf hn).ok r) h.ac0

/- Few positions, few states. -/
theorem few_reach {bs fs : List Nat} {ps : List (Bool × Nat × Nat)} {S : List (Nat × Nat)} (hd : (S.map sv).Nodup) (hr : ∀ y ∈ S, Rch bs fs ps y) (p : Nat) (hfs : ∀ q, fs.getD q 0 < 2 ^ p) (hf : firsts (fR ps) ps.length < 2 ^ p) : S.length ≤ 2 ^ p * 2 ^ ps.length :=
  few_states p ps.length S (List.Pairwise.of_map sv (fun a b h e => h (congrArg sv e)) hd) (fun s hs => (hr s hs).small p hfs hf)
end Go.Proofs.Ytbjdkbcfpmeneaa

/- What is proved here: what chain and repeat do. -/
namespace Go.Proofs.Ytbjdkbcfpmeneaa
set_option linter.unusedVariables false
set_option linter.unusedSimpArgs false
open Go.RowKit

set_option maxRecDepth 100000 in
set_option maxHeartbeats 2000000 in
theorem chain_code (p : Nat) (e1 e2 : Bool) (f1 l1 f2 l2 : Nat) (bs fs : List Nat) (vb vf : Value) (w : World) (h : PosAt w p bs fs vb vf) (hn : fs.length ≤ 200) :
    Calls Try.prog 76 #[.pointer (some ⟨p, 0, none⟩), partV e1 f1 l1, partV e2 f2 l2] w fun x w' =>
      x = .returned (partV (e1 && e2) (if e1 then f1 ||| f2 else f1) (if e2 then l1 ||| l2 else l2)) ∧ PosAt w' p bs (linkL l1 f2 fs) vb vf ∧ Kp (foot p vb vf) w w' := by
  have hlt := h.lt
  have k0 : Kp (foot p vb vf) w (((w.alloc (partO e1 f1 l1)).alloc (partO e2 f2 l2)).alloc zeroPart) := (((Kp.refl _ _).alloc _).alloc _).alloc _
  have P0 : PosAt (((w.alloc (partO e1 f1 l1)).alloc (partO e2 f2 l2)).alloc zeroPart) p bs fs vb vf := h.kp ((((Kp.refl [] _).alloc _).alloc _).alloc _) (by simp)
  have bA : (((w.alloc (partO e1 f1 l1)).alloc (partO e2 f2 l2)).alloc zeroPart).heap[w.heap.size]? = some (partO e1 f1 l1) := by simp only [blk_alloc, size_alloc]; rw [if_neg (by omega), if_neg (by omega), if_true]
  have bB : (((w.alloc (partO e1 f1 l1)).alloc (partO e2 f2 l2)).alloc zeroPart).heap[w.heap.size + 1]? = some (partO e2 f2 l2) := by simp only [blk_alloc, size_alloc]; rw [if_neg (by omega), if_true]
  have bZ : (((w.alloc (partO e1 f1 l1)).alloc (partO e2 f2 l2)).alloc zeroPart).heap[w.heap.size + 1 + 1]? = some zeroPart := by simp only [blk_alloc, size_alloc]; rw [if_true]
  have K0 := hide k0
  have PP := hide P0
  have BA := hide bA
  have BB := hide bB
  have BZ := hide bZ
  have HLT := hide hlt
  have nf : ∀ k, w.heap.size ≤ k → k ∉ foot p vb vf := fun k hk hm => by have := HLT.out k hm; omega
  have NF := hide nf
  clear h hlt k0 P0 bA bB bZ nf
  go_enter Try.func76, Try.ntmps76
  go_wp2_with fail
  refine (link_code p l1 f2 bs fs vb vf _ (by exact PP.out) hn).mono ?_
  rintro _ w1 ⟨rfl, P1, k1⟩
  have bA1 := k1.keep BA.out (NF.out _ (by omega))
  have bB1 := k1.keep BB.out (NF.out _ (by omega))
  have bZ1 := k1.keep BZ.out (NF.out _ (by omega))
  have K1 := hide (K0.out.trans k1 (fun y hy => .inl hy))
  have P1H := hide P1
  obtain ⟨⟨a0, a1, a2, a3, a4, a5, a6, a7, a8⟩, _⟩ := nine bA1
  obtain ⟨⟨b0, b1, b2, b3, b4, b5, b6, b7, b8⟩, _⟩ := nine bB1
  have BA1 := hide bA1
  have BB1 := hide bB1
  have BZ1 := hide bZ1
  have lZ1 := lt_of_block bZ1
  have lB1 := lt_of_block bB1
  have lA1 := lt_of_block bA1
  clear bA1 bB1 bZ1 k1 P1
  cases e1 <;> cases e2
  · go_upto_region 7 with fail
    apply wp_region_lit
    refine load9 rfl _ rfl (b := w1.heap.size) (by rw [blk_alloc, if_pos rfl]) rfl ?_
    refine store9 rfl _ _ rfl (b := w.heap.size + 1 + 1) (by rw [blk_alloc, if_neg (Nat.ne_of_lt lZ1)]; exact BZ1.out) rfl rfl (by simp [Value.oneCell']) ?_
    intro w9 z9 k9 s9
    go_wp2
    refine bodyPost_ret (v := partV false f1 l2) (res_part (b := w.heap.size + 1 + 1) Try.results76 rfl z9) rfl ⟨rfl, ?_, ?_⟩
    · exact P1H.out.kp (((Kp.refl [w1.heap.size, w.heap.size + 1 + 1] w1).alloc _).trans k9 (by simp)) (by intro k hk; simp at hk; rcases hk with rfl | rfl <;> exact NF.out _ (by omega))
    · exact ((K1.out.alloc _).trans k9 (by simp; omega))
  · go_wp2_with fail
    refine (union2' l1 l2 _ _ (by simp only [blk_alloc, size_alloc]; rw [if_true])).mono ?_
    rintro _ w2 ⟨rfl, h2⟩
    have wh2 : w2.heap[w1.heap.size]? = some (partO false f1 l2) := bkeep h2 (by simp only [blk_alloc, size_alloc]; rw [if_neg (by omega), if_true])
    have z2 : w2.heap[w.heap.size + 1 + 1]? = some zeroPart := bkeep h2 (by simp only [blk_alloc, size_alloc]; rw [if_neg (by omega), if_neg (by omega)]; exact BZ1.out)
    have k2 : ∀ xs, Kp xs w1 w2 := fun xs => (((Kp.refl _ _).alloc _).alloc _).below h2
    have W2 := hide wh2
    have Z2 := hide z2
    have K2 := hide k2
    clear wh2 z2 k2 h2
    go_upto_region 7 with (refine storeLast (by rfl) _ _ (by rfl) (b := w1.heap.size) (by exact W2.out) (by rfl) (by rfl) (by simp [Value.oneCell']) ?_; intro w3 wh3 k3 s3; have W3 := hide wh3; have K3 := hide k3; clear wh3 k3)
    apply wp_region_lit
    refine load9 rfl _ rfl (b := w1.heap.size) W3.out rfl ?_
    refine store9 rfl _ _ rfl (b := w.heap.size + 1 + 1) (K3.out.keep Z2.out (by simp; omega)) rfl rfl (by simp [Value.oneCell']) ?_
    intro w9 z9 k9 s9
    go_wp2
    refine bodyPost_ret (v := partV false f1 (l1 ||| l2)) (res_part (b := w.heap.size + 1 + 1) Try.results76 rfl z9) rfl ⟨rfl, ?_, ?_⟩
    · exact P1H.out.kp (((K2.out [w1.heap.size, w.heap.size + 1 + 1]).trans K3.out (by simp)).trans k9 (by simp)) (by intro k hk; simp at hk; rcases hk with rfl | rfl <;> exact NF.out _ (by omega))
    · exact (((K1.out.trans (K2.out []) (by simp)).trans K3.out (by simp; omega)).trans k9 (by simp; omega))
  · go_wp2_with fail
    refine (union2' f1 f2 _ _ (by simp only [blk_alloc, size_alloc]; rw [if_true])).mono ?_
    rintro _ w2 ⟨rfl, h2⟩
    have wh2 : w2.heap[w1.heap.size]? = some (partO false f1 l2) := bkeep h2 (by simp only [blk_alloc, size_alloc]; rw [if_neg (by omega), if_true])
    have bB2 : w2.heap[w.heap.size + 1]? = some (partO false f2 l2) := bkeep h2 (by simp only [blk_alloc, size_alloc]; rw [if_neg (by omega), if_neg (by omega)]; exact BB1.out)
    have z2 : w2.heap[w.heap.size + 1 + 1]? = some zeroPart := bkeep h2 (by simp only [blk_alloc, size_alloc]; rw [if_neg (by omega), if_neg (by omega)]; exact BZ1.out)
    have k2 : ∀ xs, Kp xs w1 w2 := fun xs => (((Kp.refl _ _).alloc _).alloc _).below h2
    have W2 := hide wh2
    have Z2 := hide z2
    have B2 := hide bB2
    have K2 := hide k2
    clear wh2 z2 k2 h2 bB2
    go_upto_region 7 with (refine storeFirst (by rfl) _ _ (by rfl) (b := w1.heap.size) (by exact W2.out) (by rfl) (by rfl) (by simp [Value.oneCell']) ?_; intro w3 wh3 k3 s3; obtain ⟨⟨x0, _⟩, _⟩ := nine (k3.keep B2.out (by simp; omega)); have W3 := hide wh3; have K3 := hide k3; clear wh3 k3)
    apply wp_region_lit
    refine load9 rfl _ rfl (b := w1.heap.size) W3.out rfl ?_
    refine store9 rfl _ _ rfl (b := w.heap.size + 1 + 1) (K3.out.keep Z2.out (by simp; omega)) rfl rfl (by simp [Value.oneCell']) ?_
    intro w9 z9 k9 s9
    go_wp2
    refine bodyPost_ret (v := partV false (f1 ||| f2) l2) (res_part (b := w.heap.size + 1 + 1) Try.results76 rfl z9) rfl ⟨rfl, ?_, ?_⟩
    · exact P1H.out.kp (((K2.out [w1.heap.size, w.heap.size + 1 + 1]).trans K3.out (by simp)).trans k9 (by simp)) (by intro k hk; simp at hk; rcases hk with rfl | rfl <;> exact NF.out _ (by omega))
    · exact (((K1.out.trans (K2.out []) (by simp)).trans K3.out (by simp; omega)).trans k9 (by simp; omega))
  · go_wp2_with fail
    refine (union2' f1 f2 _ _ (by simp only [blk_alloc, size_alloc]; rw [if_true])).mono ?_
    rintro _ w2 ⟨rfl, h2⟩
    have wh2 : w2.heap[w1.heap.size]? = some (partO true f1 l2) := bkeep h2 (by simp only [blk_alloc, size_alloc]; rw [if_neg (by omega), if_true])
    have bA2 : w2.heap[w.heap.size]? = some (partO true f1 l1) := bkeep h2 (by simp only [blk_alloc, size_alloc]; rw [if_neg (by omega), if_neg (by omega)]; exact BA1.out)
    have bB2 : w2.heap[w.heap.size + 1]? = some (partO true f2 l2) := bkeep h2 (by simp only [blk_alloc, size_alloc]; rw [if_neg (by omega), if_neg (by omega)]; exact BB1.out)
    have z2 : w2.heap[w.heap.size + 1 + 1]? = some zeroPart := bkeep h2 (by simp only [blk_alloc, size_alloc]; rw [if_neg (by omega), if_neg (by omega)]; exact BZ1.out)
    have k2 : ∀ xs, Kp xs w1 w2 := fun xs => (((Kp.refl _ _).alloc _).alloc _).below h2
    have W2 := hide wh2
    have Z2 := hide z2
    have A2 := hide bA2
    have B2 := hide bB2
    have K2 := hide k2
    clear wh2 z2 k2 h2 bA2 bB2 a0 a1 a2 a3 a4 a5 a6 a7 a8 b0 b1 b2 b3 b4 b5 b6 b7 b8
    go_upto_region 6 with (refine storeFirst (by rfl) _ _ (by rfl) (b := w1.heap.size) (by exact W2.out) (by rfl) (by rfl) (by simp [Value.oneCell']) ?_; intro w3 wh3 k3 s3; obtain ⟨⟨a0, a1, a2, a3, a4, a5, a6, a7, a8⟩, _⟩ := nine (k3.keep A2.out (by simp; omega)); obtain ⟨⟨b0, b1, b2, b3, b4, b5, b6, b7, b8⟩, _⟩ := nine (k3.keep B2.out (by simp; omega)); have W3 := hide wh3; have K3 := hide k3; clear wh3 k3)
    have Z3 := hide (K3.out.keep Z2.out (by simp; omega))
    have lw3 := lt_of_block W3.out
    have lz3 := lt_of_block Z3.out
    go_wp2_with fail
    refine (union2' l1 l2 _ _ (by rw [blk_alloc, if_pos s3.symm])).mono ?_
    rintro _ w4 ⟨rfl, h4⟩
    have W4 := hide (bkeep h4 (b := w1.heap.size) (by rw [blk_alloc, if_neg (Nat.ne_of_lt lw3)]; exact W3.out))
    have Z4 := hide (bkeep h4 (b := w.heap.size + 1 + 1) (by rw [blk_alloc, if_neg (Nat.ne_of_lt lz3)]; exact Z3.out))
    have K4 : Hid (∀ xs, Kp xs w3 w4) := fun xs => ((Kp.refl _ _).alloc _).below h4
    clear h4
    go_upto_region 7 with (refine storeLast (by rfl) _ _ (by rfl) (b := w1.heap.size) (by exact W4.out) (by rfl) (by rfl) (by simp [Value.oneCell']) ?_; intro w5 wh5 k5 s5; have W5 := hide wh5; have K5 := hide k5; clear wh5 k5)
    apply wp_region_lit
    refine load9 rfl _ rfl (b := w1.heap.size) W5.out rfl ?_
    refine store9 rfl _ _ rfl (b := w.heap.size + 1 + 1) (K5.out.keep Z4.out (by simp; omega)) rfl rfl (by simp [Value.oneCell']) ?_
    intro w9 z9 k9 s9
    go_wp2
    refine bodyPost_ret (v := partV true (f1 ||| f2) (l1 ||| l2)) (res_part (b := w.heap.size + 1 + 1) Try.results76 rfl z9) rfl ⟨rfl, ?_, ?_⟩
    · exact P1H.out.kp (((((K2.out [w1.heap.size, w.heap.size + 1 + 1]).trans K3.out (by simp)).trans (K4.out []) (by simp)).trans K5.out (by simp)).trans k9 (by simp)) (by intro k hk; simp at hk; rcases hk with rfl | rfl <;> exact NF.out _ (by omega))
    · exact (((((K1.out.trans (K2.out []) (by simp)).trans K3.out (by simp; omega)).trans (K4.out []) (by simp)).trans K5.out (by simp; omega)).trans k9 (by simp; omega))
end Go.Proofs.Ytbjdkbcfpmeneaa

/- What is proved here: what repeat does. -/
namespace Go.Proofs.Ytbjdkbcfpmeneaa
set_option linter.unusedVariables false
set_option linter.unusedSimpArgs false
open Go.RowKit

set_option maxRecDepth 100000 in
set_option maxHeartbeats 2000000 in
theorem repeat_opt (p : Nat) (e : Bool) (f l : Nat) (bs fs : List Nat) (vb vf : Value) (w : World) (h : PosAt w p bs fs vb vf) :
    Calls Try.prog 88 #[.pointer (some ⟨p, 0, none⟩), partV e f l, .int .u8 63] w fun x w' => x = .returned (partV true f l) ∧ PosAt w' p bs fs vb vf ∧ Kp (foot p vb vf) w w' := by
  have HP := hide h
  have nf : ∀ k, w.heap.size ≤ k → k ∉ foot p vb vf := fun k hk hm => by have := HP.out.lt k hm; omega
  have NF := hide nf
  clear h nf
  go_enter Try.func88, Try.ntmps88
  go_upto_region 5 with fail
  apply wp_region_lit
  refine load9 rfl _ rfl (b := w.heap.size) (x0 := .bool true) (x1 := .int .u64 (wd f 0)) (x2 := .int .u64 (wd f 1)) (x3 := .int .u64 (wd f 2)) (x4 := .int .u64 (wd f 3)) (x5 := .int .u64 (wd l 0)) (x6 := .int .u64 (wd l 1)) (x7 := .int .u64 (wd l 2)) (x8 := .int .u64 (wd l 3)) (by simp only [blk_alloc, size_alloc]; rw [if_neg (by omega), if_true]) rfl ?_
  refine store9 rfl _ _ rfl (b := w.heap.size + 1) (x0 := .bool false) (x1 := .int .u64 0) (x2 := .int .u64 0) (x3 := .int .u64 0) (x4 := .int .u64 0) (x5 := .int .u64 0) (x6 := .int .u64 0) (x7 := .int .u64 0) (x8 := .int .u64 0) (by simp only [blk_alloc, size_alloc]; rw [if_true]) rfl rfl (by simp [Value.oneCell']) ?_
  intro w9 z9 k9 s9
  go_wp2
  refine bodyPost_ret (v := partV true f l) (res_part (b := w.heap.size + 1) Try.results88 rfl z9) rfl ⟨rfl, ?_, ?_⟩
  · exact HP.out.kp ((((Kp.refl [w.heap.size + 1] w).alloc _).alloc _).trans k9 (by simp)) (by intro k hk; simp at hk; subst hk; exact NF.out _ (by omega))
  · exact ((((Kp.refl _ w).alloc _).alloc _).trans k9 (by simp))

set_option maxRecDepth 100000 in
set_option maxHeartbeats 2000000 in
theorem repeat_plus (p : Nat) (e : Bool) (f l : Nat) (bs fs : List Nat) (vb vf : Value) (w : World) (h : PosAt w p bs fs vb vf) (hn : fs.length ≤ 200) :
    Calls Try.prog 88 #[.pointer (some ⟨p, 0, none⟩), partV e f l, .int .u8 43] w fun x w' => x = .returned (partV e f l) ∧ PosAt w' p bs (linkL l f fs) vb vf ∧ Kp (foot p vb vf) w w' := by
  have HP := hide h
  have nf : ∀ k, w.heap.size ≤ k → k ∉ foot p vb vf := fun k hk hm => by have := HP.out.lt k hm; omega
  have NF := hide nf
  have PP : Hid (PosAt ((w.alloc (partO e f l)).alloc zeroPart) p bs fs vb vf) := HP.out.kp (((Kp.refl [] _).alloc _).alloc _) (by simp)
  have BA : Hid (((w.alloc (partO e f l)).alloc zeroPart).heap[w.heap.size]? = some (partO e f l)) := by show _ = _; simp only [blk_alloc, size_alloc]; rw [if_neg (by omega), if_true]
  have BZ : Hid (((w.alloc (partO e f l)).alloc zeroPart).heap[w.heap.size + 1]? = some zeroPart) := by show _ = _; simp only [blk_alloc, size_alloc]; rw [if_true]
  clear h nf
  go_enter Try.func88, Try.ntmps88
  go_wp2_with fail
  refine (link_code p l f bs fs vb vf _ (by exact PP.out) hn).mono ?_
  rintro _ w1 ⟨rfl, P1, k1⟩
  have P1H := hide P1
  have A1 := hide (k1.keep BA.out (NF.out _ (by omega)))
  have Z1 := hide (k1.keep BZ.out (NF.out _ (by omega)))
  have K1 := hide ((((Kp.refl (foot p vb vf) w).alloc (partO e f l)).alloc zeroPart).trans k1 (fun y hy => .inl hy))
  clear P1 k1
  go_upto_region 5 with fail
  apply wp_region_lit
  refine load9 rfl _ rfl (b := w.heap.size) A1.out rfl ?_
  refine store9 rfl _ _ rfl (b := w.heap.size + 1) Z1.out rfl rfl (by simp [Value.oneCell']) ?_
  intro w9 z9 k9 s9
  go_wp2
  refine bodyPost_ret (v := partV e f l) (res_part (b := w.heap.size + 1) Try.results88 rfl z9) rfl ⟨rfl, ?_, ?_⟩
  · exact P1H.out.kp k9 (by intro k hk; simp at hk; subst hk; exact NF.out _ (by omega))
  · exact K1.out.trans k9 (by simp)

set_option maxRecDepth 100000 in
set_option maxHeartbeats 2000000 in
theorem repeat_star (p : Nat) (e : Bool) (f l : Nat) (bs fs : List Nat) (vb vf : Value) (w : World) (h : PosAt w p bs fs vb vf) (hn : fs.length ≤ 200) :
    Calls Try.prog 88 #[.pointer (some ⟨p, 0, none⟩), partV e f l, .int .u8 42] w fun x w' => x = .returned (partV true f l) ∧ PosAt w' p bs (linkL l f fs) vb vf ∧ Kp (foot p vb vf) w w' := by
  have HP := hide h
  have nf : ∀ k, w.heap.size ≤ k → k ∉ foot p vb vf := fun k hk hm => by have := HP.out.lt k hm; omega
  have NF := hide nf
  have PP : Hid (PosAt ((w.alloc (partO e f l)).alloc zeroPart) p bs fs vb vf) := HP.out.kp (((Kp.refl [] _).alloc _).alloc _) (by simp)
  have BA : Hid (((w.alloc (partO e f l)).alloc zeroPart).heap[w.heap.size]? = some (partO e f l)) := by show _ = _; simp only [blk_alloc, size_alloc]; rw [if_neg (by omega), if_true]
  have BZ : Hid (((w.alloc (partO e f l)).alloc zeroPart).heap[w.heap.size + 1]? = some zeroPart) := by show _ = _; simp only [blk_alloc, size_alloc]; rw [if_true]
  clear h nf
  go_enter Try.func88, Try.ntmps88
  go_wp2_with fail
  refine (link_code p l f bs fs vb vf _ (by exact PP.out) hn).mono ?_
  rintro _ w1 ⟨rfl, P1, k1⟩
  have P1H := hide P1
  have a1 := k1.keep BA.out (NF.out _ (by omega))
  have A1 := hide a1
  have Z1 := hide (k1.keep BZ.out (NF.out _ (by omega)))
  have K1 := hide ((((Kp.refl (foot p vb vf) w).alloc (partO e f l)).alloc zeroPart).trans k1 (fun y hy => .inl hy))
  obtain ⟨⟨c0, _⟩, f0, _⟩ := nine a1
  clear P1 k1 a1
  go_upto_region 5 with fail
  apply wp_region_lit
  refine load9 rfl _ rfl (b := w.heap.size) (x0 := .bool true) (x1 := .int .u64 (wd f 0)) (x2 := .int .u64 (wd f 1)) (x3 := .int .u64 (wd f 2)) (x4 := .int .u64 (wd f 3)) (x5 := .int .u64 (wd l 0)) (x6 := .int .u64 (wd l 1)) (x7 := .int .u64 (wd l 2)) (x8 := .int .u64 (wd l 3)) (by rw [blk_set, if_pos rfl, A1.out]; rfl) rfl ?_
  refine store9 rfl _ _ rfl (b := w.heap.size + 1) (x0 := .bool false) (x1 := .int .u64 0) (x2 := .int .u64 0) (x3 := .int .u64 0) (x4 := .int .u64 0) (x5 := .int .u64 0) (x6 := .int .u64 0) (x7 := .int .u64 0) (x8 := .int .u64 0) (by rw [blk_set, if_neg (by omega)]; exact Z1.out) rfl rfl (by simp [Value.oneCell']) ?_
  intro w9 z9 k9 s9
  go_wp2
  refine bodyPost_ret (v := partV true f l) (res_part (b := w.heap.size + 1) Try.results88 rfl z9) rfl ⟨rfl, ?_, ?_⟩
  · exact P1H.out.kp (((Kp.refl [w.heap.size, w.heap.size + 1] w1).set (by simp) _ _).trans k9 (by simp)) (by intro k hk; simp at hk; rcases hk with rfl | rfl <;> exact NF.out _ (by omega))
  · exact (K1.out.set (.inr (Nat.le_refl _)) _ _).trans k9 (by simp)
end Go.Proofs.Ytbjdkbcfpmeneaa

/- What is said here: how the document reads a whole pattern, and the languages of its parts; no program is named. -/
namespace Go.Proofs.Ytbjdkbcfpmeneaa
set_option linter.unusedVariables false
set_option linter.unusedSimpArgs false

def pReps (s : ByteArray) : Nat → Lang → Nat → PR Lang
  | 0, L, i => good i L
  | n + 1, L, i =>
    if gt s i = 42 then pReps s n (lStar L) (i + 1)
    else if gt s i = 43 then pReps s n (lPlus L) (i + 1)
    else if gt s i = 63 then pReps s n (lOpt L) (i + 1)
    else good i L

/- Tag 0: behind a cat of an alt; tag 1: within a cat; else: an atom. -/
def pp (s : ByteArray) : Nat → Nat → Lang → Nat → PR Lang
  | 0, _, acc, _ => bad s 99 0 acc
  | n + 1, tag, acc, i =>
    if tag = 0 then
      if gt s i = 124 then
        let a := pp s n 1 lEps (i + 1)
        if a.err ≠ 0 then a else pp s n 0 (lAlt acc a.v) a.j
      else good i acc
    else if tag = 1 then
      if gt s i = 0 ∨ gt s i = 124 ∨ gt s i = 41 then good i acc
      else
        let a := pp s n 2 lEps i
        if a.err ≠ 0 then a
        else
          let b := pReps s 20 a.v a.j
          pp s n 1 (lCat acc b.v) b.j
    else if gt s i = 40 then
      let a := pp s n 1 lEps (i + 1)
      if a.err ≠ 0 then a
      else
        let b := pp s n 0 a.v a.j
        if b.err ≠ 0 then b else if gt s b.j = 0 then bad s 4 s.size acc else good (b.j + 1) b.v
    else if gt s i = 91 then
      let a := pSet s (i + 1)
      if a.err ≠ 0 then ⟨a.err, a.pl, a.j, acc⟩ else good a.j (lSet a.v)
    else if gt s i = 46 then good (i + 1) (lSet (comp (1 <<< 10)))
    else if gt s i = 92 then (if gt s (i + 1) = 0 then bad s 4 s.size acc else good (i + 2) (lSet (1 <<< gt s (i + 1))))
    else if gt s i = 42 ∨ gt s i = 43 ∨ gt s i = 63 ∨ gt s i = 93 then bad s 5 i acc
    else good (i + 1) (lSet (1 <<< gt s i))

/- A reading that goes well ends behind where it began, within the text; one that does not stands at the end. -/
def Shape {α : Type} (s : ByteArray) (i : Nat) (R : PR α) : Prop := (R.err = 0 ∧ R.pl = 0 ∧ i ≤ R.j ∧ R.j ≤ s.size) ∨ (R.err ≠ 0 ∧ R.j = s.size)

theorem pReps_shape (s : ByteArray) (hz : ∀ j, gt s j = 0 ↔ s.size ≤ j) : ∀ (n : Nat) (L : Lang) (i : Nat), i ≤ s.size → (pReps s n L i).err = 0 ∧ (pReps s n L i).pl = 0 ∧ i ≤ (pReps s n L i).j ∧ (pReps s n L i).j ≤ s.size := by
  intro n
  induction n with
  | zero => intro L i hi; exact ⟨rfl, rfl, Nat.le_refl _, hi⟩
  | succ n ih =>
    intro L i hi
    have h0 := hz i
    unfold pReps
    by_cases h1 : gt s i = 42
    · rw [if_pos h1]; have := ih (lStar L) (i + 1) (by omega); exact ⟨this.1, this.2.1, by omega, this.2.2.2⟩
    · rw [if_neg h1]
      by_cases h2 : gt s i = 43
      · rw [if_pos h2]; have := ih (lPlus L) (i + 1) (by omega); exact ⟨this.1, this.2.1, by omega, this.2.2.2⟩
      · rw [if_neg h2]
        by_cases h3 : gt s i = 63
        · rw [if_pos h3]; have := ih (lOpt L) (i + 1) (by omega); exact ⟨this.1, this.2.1, by omega, this.2.2.2⟩
        · rw [if_neg h3]; exact ⟨rfl, rfl, Nat.le_refl _, hi⟩
end Go.Proofs.Ytbjdkbcfpmeneaa

/- What is proved here: what the reader's method atom does at a plain byte. -/
namespace Go.Proofs.Ytbjdkbcfpmeneaa
set_option linter.unusedVariables false
set_option linter.unusedSimpArgs false
open Go.RowKit

/- The state of a reading: the reader in block r, the positions in block p, nothing shared. -/
structure St (w : World) (s : ByteArray) (i : Nat) (e pl : Int) (p r : Nat) (bs fs : List Nat) (vb vf : Value) : Prop where
  rd : w.heap[r]? = some (rdO s i e pl p)
  ps : PosAt w p bs fs vb vf
  ap : r ∉ foot p vb vf

/- What a reading from place i on leaves behind. -/
def RPost (R : PR Lang) (s : ByteArray) (i p r : Nat) (bs fs : List Nat) (vb vf : Value) (w : World) (x : Ending) (w' : World) : Prop :=
  ∃ (e : Bool) (f l : Nat) (bs' fs' : List Nat) (vb' vf' : Value), x = .returned (partV e f l) ∧ St w' s R.j R.err R.pl p r bs' fs' vb' vf' ∧ Kp (r :: foot p vb vf) w w' ∧ (∀ g ∈ foot p vb' vf', g ∈ foot p vb vf ∨ w.heap.size ≤ g) ∧
    bs'.length ≤ bs.length + (R.j - i) ∧
    (R.err = 0 → bs.length ≤ bs'.length ∧ bs'.take bs.length = bs ∧ fs'.take bs.length = fs ∧ Part (fun q => bs'.getD q 0) (fun q => fs'.getD q 0) bs.length bs'.length e f l R.v)

theorem one_part (bs fs : List Nat) (v : Nat) (hl : fs.length = bs.length) : Part (fun q => (bs ++ [v]).getD q 0) (fun q => (fs ++ [0]).getD q 0) bs.length (bs ++ [v]).length false (1 <<< bs.length) (1 <<< bs.length) (lSet v) := by
  have h := Part.single (fun q => (bs ++ [v]).getD q 0) (fun q => (fs ++ [0]).getD q 0) bs.length (by simp [← hl])
  simpa using h

set_option maxRecDepth 100000 in
set_option maxHeartbeats 800000 in
theorem atom_byte (s : ByteArray) (i p r : Nat) (bs fs : List Nat) (vb vf : Value) (w : World) (h : St w s i 0 0 p r bs fs vb vf) (hi : i < s.size) (hs : s.size ≤ 16) (hn : bs.length < 200)
    (h1 : gt s i ≠ 40) (h2 : gt s i ≠ 91) (h3 : gt s i ≠ 46) (h4 : gt s i ≠ 92) (h5 : gt s i ≠ 41) (h6 : gt s i ≠ 93) (h7 : gt s i ≠ 124) (h8 : gt s i ≠ 42) (h9 : gt s i ≠ 43) (h10 : gt s i ≠ 63) :
    Calls Try.prog 87 #[.pointer (some ⟨r, 0, none⟩)] w (RPost (good (i + 1) (lSet (1 <<< gt s i))) s i p r bs fs vb vf w) := by
  have q1 : ((gt s i : Int) == 40) = false := by simp; omega
  have q2 : ((gt s i : Int) == 91) = false := by simp; omega
  have q3 : ((gt s i : Int) == 46) = false := by simp; omega
  have q4 : ((gt s i : Int) == 92) = false := by simp; omega
  have q5 : ((gt s i : Int) == 41) = false := by simp; omega
  have q6 : ((gt s i : Int) == 93) = false := by simp; omega
  have q7 : ((gt s i : Int) == 124) = false := by simp; omega
  have q8 : ((gt s i : Int) == 42) = false := by simp; omega
  have q9 : ((gt s i : Int) == 43) = false := by simp; omega
  have q10 : ((gt s i : Int) == 63) = false := by simp; omega
  have HS := hide h
  have hr := lt_of_block h.rd
  have hrne : r ≠ w.heap.size := by omega
  have rd0 : (w.alloc zeroPart).heap[r]? = some (rdO s i 0 0 p) := by rw [blk_alloc, if_neg hrne]; exact h.rd
  have c1 : w.cell? ⟨r, 1, none⟩ = some (.int .i64 i) := by rw [cell_of_block h.rd]; rfl
  have RD0 := hide rd0
  have Z0 : Hid ((w.alloc zeroPart).heap[w.heap.size]? = some zeroPart) := by show _ = _; rw [blk_alloc, if_pos rfl]
  have nf : ∀ k, w.heap.size ≤ k → k ∉ foot p vb vf := fun k hk hm => by have := HS.out.ps.lt k hm; omega
  have NF := hide nf
  clear h rd0 nf h1 h2 h3 h4 h5 h6 h7 h8 h9 h10
  go_enter Try.func87, Try.ntmps87
  go_wp2_with fail
  refine (next_yes s i p r 0 0 _ (by exact RD0.out) hi hs).mono ?_
  rintro _ w1 ⟨rfl, rd1, k1⟩
  have RD1 := hide rd1
  have c2 : w1.cell? ⟨r, 2, none⟩ = some (.pointer (some ⟨p, 0, none⟩)) := by rw [cell_of_block rd1]; rfl
  have Z1 := hide (k1.keep Z0.out (by simp; omega))
  have P1 : Hid (PosAt w1 p bs fs vb vf) := HS.out.ps.kp (((Kp.refl [r] w).alloc _).trans k1 (by simp)) (by intro k hk; simp at hk; subst hk; exact HS.out.ap)
  have K1 := hide (((Kp.refl (r :: foot p vb vf) w).alloc zeroPart).trans k1 (by simp))
  have lr1 := lt_of_block rd1
  clear rd1 k1
  go_upto_region 4 with fail
  have hc2 : ∀ w' : World, w'.heap[r]? = some (rdO s (i + 1) 0 0 p) → w'.cell? ⟨r, 2, none⟩ = some (.pointer (some ⟨p, 0, none⟩)) := fun w' h' => by rw [cell_of_block h']; rfl
  have R1d : w1.drew.heap[r]? = some (rdO s (i + 1) 0 0 p) := RD1.out
  have Z1d : Hid (w1.drew.heap[w.heap.size]? = some zeroPart) := Z1.out
  have P1d : Hid (PosAt w1.drew p bs fs vb vf) := P1.out.kp ((Kp.refl [] w1).drew) (by simp)
  have K1d := hide K1.out.drew
  clear c2
  go_region_held3 (fun w' : World => w'.heap[r]? = some (rdO s (i + 1) 0 0 p))
    (first | with_reducible exact R3 | with_reducible exact R2 | with_reducible exact R1d | (simp only [blk_set, if_neg hrne]; with_reducible exact R3))
    (first | (go_at_call 73; refine (one_any (gt s i) _ (gt_lt s i)).mono ?_; rintro _ w2 ⟨rfl, b2⟩; have R2 := bkeep b2 R1d; have Z2 := hide (bkeep b2 Z1d.out); have P2 := hide (P1d.out.kp ((Kp.refl [] _).below b2) (by simp)); have K2 := hide (K1d.out.below b2); clear b2) | (go_at_call 92; refine (add_code p (1 <<< gt s i) bs fs vb vf _ (by exact P2.out) hn).mono ?_; rintro _ w3 ⟨rfl, vb', vf', P3, k3, fr3⟩; have R3 := k3.keep R2 HS.out.ap; have z3 := k3.keep Z2.out (NF.out _ (Nat.le_refl _)); obtain ⟨⟨zc0, zc1, zc2, zc3, zc4, zc5, zc6, zc7, zc8⟩, zf0, zf1, zf2, zf3, zf4, zf5, zf6, zf7, zf8⟩ := nine z3; have Z3 := hide z3; have P3H := hide P3; have K3 := hide (K2.out.trans k3 (fun y hy => .inl (by simp [hy]))); have FR := hide fr3; have l2 := lt_of_block Z2.out; have l3 := lt_of_block z3; have FR1 : Hid (∀ g ∈ foot p vb' vf', g ∈ foot p vb vf ∨ w.heap.size ≤ g) := (fun g hg => by rcases fr3 g hg with e | e; exact .inl e; right; omega); clear z3 P3 fr3))
  go_wp2
  refine bodyPost_ret (v := partV false (1 <<< bs.length) (1 <<< bs.length)) (res_part (b := w.heap.size) Try.results87 rfl (by simp only [blk_set, Z3.out]; simp [setObj_cells])) rfl ?_
  refine ⟨false, 1 <<< bs.length, 1 <<< bs.length, bs ++ [1 <<< gt s i], fs ++ [0], vb', vf', rfl, ⟨?_, ?_, ?_⟩, ?_, FR1.out, ?_, fun _ => ⟨?_, ?_, ?_, ?_⟩⟩
  · simp only [blk_set, if_neg hrne]; exact R3
  · exact P3H.out.kp ((Kp.refl [w.heap.size] w3).set9 (by simp) _ _ _ _ _ _ _ _ _) (by intro k hk; simp at hk; subst hk; exact fun hm => by rcases FR.out _ hm with e | e; exact NF.out _ (Nat.le_refl _) e; omega)
  · intro hm; rcases FR1.out _ hm with e | e
    · exact HS.out.ap e
    · omega
  · exact K3.out.set9 (.inr (Nat.le_refl _)) _ _ _ _ _ _ _ _ _
  · simp [good]
  · simp
  · simp
  · rw [← HS.out.ps.len]; simp
  · exact one_part bs fs (1 <<< gt s i) HS.out.ps.len
end Go.Proofs.Ytbjdkbcfpmeneaa
