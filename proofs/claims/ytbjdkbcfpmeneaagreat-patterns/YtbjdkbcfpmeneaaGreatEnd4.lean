/- What is proved here: what ends, lengths and Match of the document's answer give, at every tree that Read gave and every text. -/
import Derived.Test.YtbjdkbcfpmeneaaGreatRows
import Derived.Test.YtbjdkbcfpmeneaaGreatEnd3
namespace Go.Proofs.YtbjdkbcfpmeneaaGreat
set_option linter.unusedVariables false
set_option linter.unusedSimpArgs false
open Go.RowKit

theorem ends_all (r : Nat) (nv : Value) (ns : List ND) (Ls : List Lang) (t : ByteArray) (ht : t.size ≤ 100000) : ∀ k, k < ns.length → ∀ (bf : Nat) (lf : List Bool) (w : World), TS w r nv ns Ls → lf.length = t.size + 1 → w.heap[bf]? = some (boolsO lf) →
    Calls Tryz.prog 41 #[.pointer (some ⟨r, 4, none⟩), .int .i64 k, .string t, .slice (some ⟨bf, 0, none⟩) (t.size + 1) (t.size + 1)] w (EPost (Ls.getD k lNone) t lf w) := by
  intro k
  induction k using Nat.strongRecOn with
  | ind k ih =>
    intro hk bf lf w h hl hf
    have hnd : ns[k]? = some ns[k] := List.getElem?_eq_getElem hk
    have hpart : ∀ ps : List Nat, (∀ p ∈ ps, p < k) → ∀ p ∈ ps, ∀ (bf : Nat) (lf : List Bool) (w' : World), TS w' r nv ns Ls → lf.length = t.size + 1 → w'.heap[bf]? = some (boolsO lf) → Calls Tryz.prog 41 #[.pointer (some ⟨r, 4, none⟩), .int .i64 p, .string t, .slice (some ⟨bf, 0, none⟩) (t.size + 1) (t.size + 1)] w' (EPost (Ls.getD p lNone) t lf w') :=
      fun ps hps p hp bf lf w' a b c => ih p (hps p hp) (by have := hps p hp; omega) bf lf w' a b c
    rcases h.tr.ok k _ hnd with ⟨h1, h0, b, q, h2, h3, h4⟩ | ⟨h0, ps, own, hps, ⟨h1, h2⟩ | ⟨h1, h2⟩ | ⟨p, h1, h2, h3⟩⟩
    · rw [h4]
      exact ends_byte r k bf b nv ns Ls t lf ns[k] q w h hnd hl hf ht h1 h2 h0 h3
    · exact ends_cat r k bf nv ns Ls t lf ns[k] ps _ w h hnd hl hf ht h1 h0 own h2 (hpart ps hps)
    · exact ends_alt r k bf nv ns Ls t lf ns[k] ps _ w h hnd hl hf ht h1 h0 own h2 (hpart ps hps)
    · rcases h2 with e | e | e
      · exact ends_star r k bf nv ns Ls t lf ns[k] ps _ w h hnd hl hf ht e h0 own p h1 _ rfl (by rw [h3, e]; rfl) (hpart ps hps)
      · exact ends_plus r k bf nv ns Ls t lf ns[k] ps _ w h hnd hl hf ht e h0 own p h1 _ rfl (by rw [h3, e]; rfl) (hpart ps hps)
      · exact ends_opt r k bf nv ns Ls t lf ns[k] ps _ w h hnd hl hf ht e h0 own p h1 _ rfl (by rw [h3, e]; rfl) (hpart ps hps)

/- The first place alone. -/
def firstL (n : Nat) : List Bool := (fl (n + 1)).set 0 true
theorem firstL_len (n : Nat) : (firstL n).length = n + 1 := by rw [firstL, List.length_set, fl_len]
theorem firstL_get (n i : Nat) : (firstL n).getD i false = true ↔ i = 0 := by
  unfold firstL
  by_cases h : i = 0
  · subst h
    rw [List.getD_eq_getElem?_getD, List.getElem?_set_self (by rw [fl_len]; omega)]; simp
  · rw [List.getD_eq_getElem?_getD, List.getElem?_set_ne (fun e => h e.symm), ← List.getD_eq_getElem?_getD, fl_get]
    simp [h]

set_option maxRecDepth 100000 in
set_option maxHeartbeats 1000000 in
theorem lengths_code (r k : Nat) (L : Lang) (t : ByteArray) (w : World) (h : TreeAt w r k L) (ht : t.size ≤ 100000) :
    Calls Tryz.prog 25 #[.pointer (some ⟨r, 4, none⟩), .string t] w (EPost L t (firstL t.size) w) := by
  obtain ⟨s, i, e, pl, nv, ns, Ls, rd, own, hne, tr, hk, hL⟩ := h.ex
  have HTS : Hid (TS w r nv ns Ls) := ⟨⟨s, i, e, pl, k, rd⟩, own, tr⟩
  have HL := hide hL
  obtain ⟨_, _, _, _, c4, c5, _⟩ := six rd
  have hr := lt_of_block rd
  have hm : ∀ w, (Instr.makeSlice 80 (.int .i64 ((t.size : Int) + 1)) (.int .i64 ((t.size : Int) + 1))).run Tryz.prog w = .ok (.slice (some ⟨w.heap.size, 0, none⟩) (t.size + 1) (t.size + 1)) (w.alloc (boolsO (fl (t.size + 1)))) := fun w => run_make_bools (t.size + 1) (by omega) w
  have RD := hide rd
  clear rd own tr hL h
  go_enter Tryz.func25, Tryz.ntmps25
  go_upto_region 2 with fail
  have k1 : Kp [] w (w.alloc (boolsO (fl (t.size + 1)))) := (Kp.refl _ _).alloc _
  have b1 : (w.alloc (boolsO (fl (t.size + 1)))).heap[w.heap.size]? = some (boolsO (fl (t.size + 1))) := by rw [blk_alloc, if_pos rfl]
  generalize w.alloc (boolsO (fl (t.size + 1))) = W at *
  have cc := bcell b1 0 (by rw [fl_len]; omega)
  have fc := bfroz b1 0
  have hz0 : (0 : Int) < (t.size : Int) + 1 := by omega
  have B1 := hide b1
  have K1 := hide k1
  clear b1 k1 hm c4 c5
  go_upto_region 3 with fail
  have k2 : Kp [] w (W.setCell ⟨w.heap.size, 0, none⟩ (.bool true)) := K1.out.set (.inr (Nat.le_refl _)) _ _
  have b2 : (W.setCell ⟨w.heap.size, 0, none⟩ (.bool true)).heap[w.heap.size]? = some (boolsO (firstL t.size)) := bset B1.out 0 true
  generalize W.setCell ⟨w.heap.size, 0, none⟩ (.bool true) = W2 at *
  obtain ⟨_, _, _, _, _, c5, _⟩ := six (k2.keep RD.out (by simp))
  have hcall := hide (ends_all r nv ns Ls t ht k hk w.heap.size (firstL t.size) W2 (HTS.out.kp k2) (firstL_len _) b2)
  have K2 := hide k2
  clear k2 b2 cc fc
  go_wp2_with fail
  refine hcall.out.mono ?_
  rintro _ w3 ⟨bo, lo, rfl, hb, hge, ek, k3⟩
  have K3 : Hid (Kp [] w w3) := K2.out.trans k3 (by simp)
  have EK := hide ek
  have HB := hide hb
  have hge2 : w.heap.size ≤ bo := by have := K2.out.size; omega
  clear ek hb k3
  go_wp2
  go_ret
  exact ⟨bo, lo, rfl, HB.out, hge2, by rw [← HL.out]; exact EK.out, K3.out⟩

open Classical in
set_option maxRecDepth 100000 in
set_option maxHeartbeats 1000000 in
theorem rmatch_code (s t : ByteArray) (w : World) (ht : t.size ≤ 100000) :
    Calls Tryz.prog 14 #[.string s, .string t] w fun x w' => x = .returned (.tuple #[.bool (decide ((readW s).err = 0 ∧ (readW s).v (tx t))), .int .i64 (readW s).err]) ∧ Below w.heap.size w w' := by
  go_enter Tryz.func14, Tryz.ntmps14
  go_wp2_with fail
  refine (rread_code s _).mono ?_
  rintro _ w2 ⟨k2, ⟨h0, rfl⟩ | ⟨h0, hpl, r, k, rfl, htr⟩⟩
  · have hq : ((readW s).err != 0) = true := by simp [h0]
    have H0 := hide h0
    have K2 := hide k2
    clear h0 k2
    go_wp2
    refine bodyPost_ret (v := .tuple #[.bool false, .int .i64 (readW s).err]) ?_ rfl ⟨?_, K2.out.toBelow⟩
    · simp [results, Tryz.results14, go_sem]
    · rw [show decide ((readW s).err = 0 ∧ (readW s).v (tx t)) = false from by simp [H0.out]]
  · have H0 := hide h0
    have K2 := hide k2
    have hcall := hide (lengths_code r k _ t w2 htr ht)
    clear h0 k2 htr hpl
    go_wp2_with fail
    refine hcall.out.mono ?_
    rintro _ w3 ⟨bo, lo, rfl, hb, hge, ek, k3⟩
    have K3 : Hid (Kp [] w w3) := K2.out.trans k3 (by simp)
    have hlen := ek.len
    rw [tx_len] at hlen
    have cc := bcell hb t.size (by omega)
    have hlt : (t.size : Int) < (t.size : Int) + 1 := by omega
    have hiff : Hid (lo.getD t.size false = true ↔ (readW s).v (tx t)) := by
      have := ek.iff t.size (by rw [tx_len]; exact Nat.le_refl _)
      show _ ↔ _
      rw [this]
      constructor
      · rintro ⟨i, a, b, c⟩
        have := (firstL_get _ _).1 b
        subst this
        unfold sub at c
        rwa [List.drop_zero, List.take_of_length_le (by rw [tx_len]; omega)] at c
      · intro a
        refine ⟨0, by omega, (firstL_get _ _).2 rfl, ?_⟩
        unfold sub
        rwa [List.drop_zero, List.take_of_length_le (by rw [tx_len]; omega)]
    generalize lo.getD t.size false = bb at *
    clear hb ek k3 hlen
    go_wp2
    refine bodyPost_ret (v := .tuple #[.bool bb, .int .i64 0]) ?_ rfl ⟨?_, K3.out.toBelow⟩
    · simp [results, Tryz.results14, go_sem]
    · rw [H0.out]
      have : bb = decide ((0 : Int) = 0 ∧ (readW s).v (tx t)) := by
        rw [Bool.eq_iff_iff, hiff.out]; simp
      rw [this]
end Go.Proofs.YtbjdkbcfpmeneaaGreat
