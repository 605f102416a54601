/- What is proved here: what ends of the document's tree answers at a node with parts one behind the other, and at one with one of some parts. -/
import Derived.Test.YtbjdkbcfpmeneaaGreatRows
import Derived.Test.YtbjdkbcfpmeneaaGreatEnd1
namespace Go.Proofs.YtbjdkbcfpmeneaaGreat
set_option linter.unusedVariables false
set_option linter.unusedSimpArgs false
open Go.RowKit

theorem Kp.setRow {w w1 : World} (h : Kp [] w w1) {g : Nat} (hg : w.heap.size ≤ g) (cs : Array Value) : Kp [] w (w1.setRow g cs) :=
  ⟨h.os, h.tape, h.output, by rw [setRow_size]; exact h.size, fun k hk hx => by rw [setRow_other _ _ _ _ (by omega)]; exact h.block k hk hx⟩
theorem wrapB (i : Nat) (hi : i + 1 ≤ 9223372036854775807) : IntKind.i64.wrap ((i : Int) + 1) = ((i + 1 : Nat) : Int) := by simp [IntKind.wrap, IntKind.bits, IntKind.signed]; omega
theorem take_snoc {α β : Type} (f : α → β) (ps : List α) (j : Nat) (hj : j < ps.length) : (ps.take (j + 1)).map f = (ps.take j).map f ++ [f ps[j]] := by
  rw [List.take_succ_eq_append_getElem hj, List.map_append]; rfl
theorem getD_mem {ps : List Nat} {j : Nat} (hj : j < ps.length) : ps.getD j 0 ∈ ps ∧ ps.getD j 0 = ps[j] := by
  rw [List.getD_eq_getElem?_getD, List.getElem?_eq_getElem hj, Option.getD_some]
  exact ⟨List.getElem_mem hj, rfl⟩

set_option maxRecDepth 100000 in
set_option maxHeartbeats 4000000 in
theorem ends_cat (r k bf : Nat) (nv : Value) (ns : List ND) (Ls : List Lang) (t : ByteArray) (lf : List Bool) (nd : ND) (ps : List Nat) (L : Lang) (w : World) (h : TS w r nv ns Ls) (hk : ns[k]? = some nd) (hl : lf.length = t.size + 1) (hf : w.heap[bf]? = some (boolsO lf)) (ht : t.size ≤ 100000)
    (h1 : nd.kind = 99) (h2 : nd.hv = .slice none 0 0) (own : w.ownsRow 0 3 1 nd.pv ps.length (intsL ps)) (hL : L = catL (ps.map fun p => Ls.getD p lNone))
    (hpart : ∀ p ∈ ps, ∀ (bf : Nat) (lf : List Bool) (w' : World), TS w' r nv ns Ls → lf.length = t.size + 1 → w'.heap[bf]? = some (boolsO lf) → Calls Tryz.prog 41 #[.pointer (some ⟨r, 4, none⟩), .int .i64 p, .string t, .slice (some ⟨bf, 0, none⟩) (t.size + 1) (t.size + 1)] w' (EPost (Ls.getD p lNone) t lf w')) :
    Calls Tryz.prog 41 #[.pointer (some ⟨r, 4, none⟩), .int .i64 k, .string t, .slice (some ⟨bf, 0, none⟩) (t.size + 1) (t.size + 1)] w (EPost L t lf w) := by
  obtain ⟨s, i, e, pl, top, rd⟩ := h.rd
  have HP := hide hpart
  obtain ⟨pa, pc, hpv⟩ : ∃ pa pc, nd.pv = .slice pa ps.length pc := by
    rcases own.2 with ⟨e1, e2⟩ | ⟨g, cap, cur, e1, _⟩
    · rw [e1, e2]; exact ⟨_, _, rfl⟩
    · exact ⟨_, _, e1⟩
  rw [hpv] at own
  have HSX := hide h
  obtain ⟨g, cap, hnv, hg, n0, n1, n2, n3⟩ := h.row hk
  have hkl : k < ns.length := by
    rcases Nat.lt_or_ge k ns.length with a | a
    · exact a
    · rw [List.getElem?_eq_none a] at hk; cases hk
  have hkl' : (k : Int) < ns.length := by omega
  obtain ⟨_, _, _, _, c4, _⟩ := six rd
  rw [hnv] at c4
  have hm : ∀ w, (Instr.makeSlice 80 (.int .i64 ((t.size : Int) + 1)) (.int .i64 ((t.size : Int) + 1))).run Tryz.prog w = .ok (.slice (some ⟨w.heap.size, 0, none⟩) (t.size + 1) (t.size + 1)) (w.alloc (boolsO (fl (t.size + 1)))) := fun w => run_make_bools (t.size + 1) (by omega) w
  have BF := hide hf
  rw [h1] at n0
  rw [h2] at n1
  rw [hpv] at n2
  have hnode : Hid (∀ w' : World, Kp [] w w' → ∀ j, j < ps.length → ∃ gp, pa = some ⟨gp, 0, none⟩ ∧ w'.cell? ⟨gp, j, none⟩ = some (.int .i64 (ps.getD j 0))) := fun w' hk' j hj => by
    have own' := owns_kp own hk' (by simp)
    rcases own'.2 with ⟨_, e2⟩ | ⟨gp, cap, cur, e1, _⟩
    · omega
    · simp only [Value.slice.injEq] at e1
      refine ⟨gp, e1.1, ?_⟩
      rw [e1.1] at own'
      have := own'.cellAt j (by omega)
      rw [this]
      simp [intsL, List.getElem?_eq_getElem hj]
  have hps0 : ps.length ≤ 9223372036854775807 := by
    rcases own.2 with ⟨_, e2⟩ | ⟨_, _, _, _, _, _, e5, e6, _⟩
    · omega
    · unfold maxLen at e6; omega
  have hxl : (tx t).length = t.size := tx_len t
  have HL := hide hL
  clear h rd hf hk hpart own hpv hL
  go_enter Tryz.func41, Tryz.ntmps41
  go_upto_region 3 with fail
  have kW : Kp [] w ((w.alloc (.cells #[.int .u8 99, .slice none 0 0, .slice pa ps.length pc, .int .i64 0] 104 (0, 0))).alloc (boolsO (fl (t.size + 1)))) := ((Kp.refl _ _).alloc _).alloc _
  have bT : ((w.alloc (.cells #[.int .u8 99, .slice none 0 0, .slice pa ps.length pc, .int .i64 0] 104 (0, 0))).alloc (boolsO (fl (t.size + 1)))).heap[w.heap.size]? = some (.cells #[.int .u8 99, .slice none 0 0, .slice pa ps.length pc, .int .i64 0] 104 (0, 0)) := by
    rw [blk_alloc, size_alloc, if_neg (by omega), blk_alloc, if_pos rfl]
  have bO : ((w.alloc (.cells #[.int .u8 99, .slice none 0 0, .slice pa ps.length pc, .int .i64 0] 104 (0, 0))).alloc (boolsO (fl (t.size + 1)))).heap[w.heap.size + 1]? = some (boolsO (fl (t.size + 1))) := by
    rw [blk_alloc, size_alloc, if_pos rfl]
  generalize (w.alloc (.cells #[.int .u8 99, .slice none 0 0, .slice pa ps.length pc, .int .i64 0] 104 (0, 0))).alloc (boolsO (fl (t.size + 1))) = W at *
  obtain ⟨d0, d1, d2, d3, _⟩ := four bT
  have KW := hide kW
  have BT := hide bT
  have BO := hide bO
  clear kW bT bO hm n0 n1 n2 n3 c4
  have hsz : (Tryz.prog.info? 4).map (·.size) = some 1 := by kernel_rfl
  have hcp : (Builtin.copy_ #[80, 80] 3 #[.slice (some ⟨w.heap.size + 1, 0, none⟩) (t.size + 1) (t.size + 1), .slice (some ⟨bf, 0, none⟩) (t.size + 1) (t.size + 1)]).run Tryz.prog W = .ok (goInt (t.size + 1)) (W.setRow (w.heap.size + 1) (lf.map Value.bool).toArray) := by
    have := run_copy_row (P := Tryz.prog) W 80 80 3 4 (w.heap.size + 1) 0 (t.size + 1) (t.size + 1) ⟨bf, 0, none⟩ (t.size + 1) (t.size + 1) _ _ (lf.map Value.bool) Tryz.underlying80 hsz BO.out (by rw [List.length_map, hl]; exact (Nat.min_self _).symm) (World.news_of_block (cs := (lf.map Value.bool).toArray) (t := 4) (fr := (0, 0)) (KW.out.keep BF.out (by simp))) (by simp [fl_len, hl]) (by intro v hv; obtain ⟨b, _, rfl⟩ := List.mem_map.1 hv; rfl)
    rw [this, List.length_map, hl]
    congr 2
    simp [fl_len, hl]
  have bo2 : (W.setRow (w.heap.size + 1) (lf.map Value.bool).toArray).heap[w.heap.size + 1]? = some (boolsO lf) := setRow_heap _ _ _ _ _ _ BO.out
  have bt2 : (W.setRow (w.heap.size + 1) (lf.map Value.bool).toArray).heap[w.heap.size]? = some (.cells #[.int .u8 99, .slice none 0 0, .slice pa ps.length pc, .int .i64 0] 104 (0, 0)) := by rw [setRow_other _ _ _ _ (by omega)]; exact BT.out
  have k2 : Kp [] w (W.setRow (w.heap.size + 1) (lf.map Value.bool).toArray) := KW.out.setRow (by omega) _
  generalize W.setRow (w.heap.size + 1) (lf.map Value.bool).toArray = W2 at *
  have BO2 := hide bo2
  have BT2 := hide bt2
  have K2 := hide k2
  clear bo2 bt2 k2
  go_wp2_with fail
  clear hcp d0 d1 d2 d3
  go_loopw [12, 10] (fun c o w' => ∃ (j bk : Nat) (lk : List Bool), j ≤ ps.length ∧ c = .int .i64 j ∧ o = .slice (some ⟨bk, 0, none⟩) (t.size + 1) (t.size + 1) ∧ w.heap.size ≤ bk ∧ w'.heap[bk]? = some (boolsO lk) ∧ w'.heap[w.heap.size]? = some (.cells #[.int .u8 99, .slice none 0 0, .slice pa ps.length pc, .int .i64 0] 104 (0, 0)) ∧ Kp [] w w' ∧ EndsOk (catL ((ps.take j).map fun p => Ls.getD p lNone)) (tx t) lf lk)
    (fun c _ _ => ps.length - (intOf c).toNat)
  case atStart => exact ⟨0, w.heap.size + 1, lf, by omega, rfl, rfl, by omega, BO2.out, BT2.out, K2.out, EndsOk.eps (by rw [hxl]; exact hl)⟩
  case round =>
    obtain ⟨j, bk, lk, hj, rfl, rfl, hbk, bo, bt, kk, ek⟩ := hrel
    obtain ⟨d0, d1, d2, d3, _⟩ := four bt
    have BTr := hide bt
    have BOr := hide bo
    have KKr := hide kk
    have EK := hide ek
    by_cases hlt : j < ps.length
    · have hlt' : (j : Int) < ps.length := by omega
      obtain ⟨gp, hpa, cp⟩ := hnode.out wr kk j hlt
      have hmem := getD_mem hlt
      have hcall := hide (HP.out (ps.getD j 0) hmem.1 bk lk wr (HSX.out.kp kk) (by have := ek.len; omega) bo)
      have HM := hide hmem.2
      generalize ps.getD j 0 = p at *
      subst hpa
      have hwj := wrapB j (by omega)
      clear bt bo kk ek hmem
      go_wp2_with fail
      refine hcall.out.mono ?_
      rintro _ w3 ⟨bo3, lo3, rfl, hb3, hge3, ek3, k3⟩
      have KT : Hid (Kp [] w w3) := KKr.out.trans k3 (by simp)
      have BT3 := hide (k3.keep BTr.out (by simp))
      have BO3 := hide hb3
      have EK3 := hide ek3
      have HG3 : Hid (w.heap.size ≤ bo3) := by show _ ≤ _; have := KKr.out.size; omega
      clear k3 hb3 ek3
      go_wp2
      refine ⟨⟨j + 1, bo3, lo3, by omega, by go_num, rfl, HG3.out, BO3.out, BT3.out, KT.out, ?_⟩, by simp [intOf]; omega⟩
      rw [take_snoc _ _ _ hlt, catL_snoc, ← HM.out]
      exact EK.out.cat EK3.out
    · have hjE : j = ps.length := by omega
      subst hjE
      clear bt bo kk ek hlt
      go_wp2
      go_ret
      refine ⟨bk, lk, rfl, BOr.out, hbk, ?_, KKr.out⟩
      rw [HL.out]
      have := EK.out
      rwa [List.take_length] at this

set_option maxRecDepth 100000 in
set_option maxHeartbeats 4000000 in
theorem ends_alt (r k bf : Nat) (nv : Value) (ns : List ND) (Ls : List Lang) (t : ByteArray) (lf : List Bool) (nd : ND) (ps : List Nat) (L : Lang) (w : World) (h : TS w r nv ns Ls) (hk : ns[k]? = some nd) (hl : lf.length = t.size + 1) (hf : w.heap[bf]? = some (boolsO lf)) (ht : t.size ≤ 100000)
    (h1 : nd.kind = 97) (h2 : nd.hv = .slice none 0 0) (own : w.ownsRow 0 3 1 nd.pv ps.length (intsL ps)) (hL : L = altL (ps.map fun p => Ls.getD p lNone))
    (hpart : ∀ p ∈ ps, ∀ (bf : Nat) (lf : List Bool) (w' : World), TS w' r nv ns Ls → lf.length = t.size + 1 → w'.heap[bf]? = some (boolsO lf) → Calls Tryz.prog 41 #[.pointer (some ⟨r, 4, none⟩), .int .i64 p, .string t, .slice (some ⟨bf, 0, none⟩) (t.size + 1) (t.size + 1)] w' (EPost (Ls.getD p lNone) t lf w')) :
    Calls Tryz.prog 41 #[.pointer (some ⟨r, 4, none⟩), .int .i64 k, .string t, .slice (some ⟨bf, 0, none⟩) (t.size + 1) (t.size + 1)] w (EPost L t lf w) := by
  obtain ⟨s, i, e, pl, top, rd⟩ := h.rd
  have HP := hide hpart
  obtain ⟨pa, pc, hpv⟩ : ∃ pa pc, nd.pv = .slice pa ps.length pc := by
    rcases own.2 with ⟨e1, e2⟩ | ⟨g, cap, cur, e1, _⟩
    · rw [e1, e2]; exact ⟨_, _, rfl⟩
    · exact ⟨_, _, e1⟩
  rw [hpv] at own
  have HSX := hide h
  obtain ⟨g, cap, hnv, hg, n0, n1, n2, n3⟩ := h.row hk
  have hkl : k < ns.length := by
    rcases Nat.lt_or_ge k ns.length with a | a
    · exact a
    · rw [List.getElem?_eq_none a] at hk; cases hk
  have hkl' : (k : Int) < ns.length := by omega
  obtain ⟨_, _, _, _, c4, _⟩ := six rd
  rw [hnv] at c4
  have hm : ∀ w, (Instr.makeSlice 80 (.int .i64 ((t.size : Int) + 1)) (.int .i64 ((t.size : Int) + 1))).run Tryz.prog w = .ok (.slice (some ⟨w.heap.size, 0, none⟩) (t.size + 1) (t.size + 1)) (w.alloc (boolsO (fl (t.size + 1)))) := fun w => run_make_bools (t.size + 1) (by omega) w
  have BF := hide hf
  rw [h1] at n0
  rw [h2] at n1
  rw [hpv] at n2
  have hnode : Hid (∀ w' : World, Kp [] w w' → ∀ j, j < ps.length → ∃ gp, pa = some ⟨gp, 0, none⟩ ∧ w'.cell? ⟨gp, j, none⟩ = some (.int .i64 (ps.getD j 0))) := fun w' hk' j hj => by
    have own' := owns_kp own hk' (by simp)
    rcases own'.2 with ⟨_, e2⟩ | ⟨gp, cap, cur, e1, _⟩
    · omega
    · simp only [Value.slice.injEq] at e1
      refine ⟨gp, e1.1, ?_⟩
      rw [e1.1] at own'
      have := own'.cellAt j (by omega)
      rw [this]
      simp [intsL, List.getElem?_eq_getElem hj]
  have hps0 : ps.length ≤ 9223372036854775807 := by
    rcases own.2 with ⟨_, e2⟩ | ⟨_, _, _, _, _, _, e5, e6, _⟩
    · omega
    · unfold maxLen at e6; omega
  have hxl : (tx t).length = t.size := tx_len t
  have HL := hide hL
  clear h rd hf hk hpart own hpv hL
  go_enter Tryz.func41, Tryz.ntmps41
  go_upto_region 3 with fail
  have kW : Kp [] w ((w.alloc (.cells #[.int .u8 97, .slice none 0 0, .slice pa ps.length pc, .int .i64 0] 104 (0, 0))).alloc (boolsO (fl (t.size + 1)))) := ((Kp.refl _ _).alloc _).alloc _
  have bT : ((w.alloc (.cells #[.int .u8 97, .slice none 0 0, .slice pa ps.length pc, .int .i64 0] 104 (0, 0))).alloc (boolsO (fl (t.size + 1)))).heap[w.heap.size]? = some (.cells #[.int .u8 97, .slice none 0 0, .slice pa ps.length pc, .int .i64 0] 104 (0, 0)) := by
    rw [blk_alloc, size_alloc, if_neg (by omega), blk_alloc, if_pos rfl]
  have bO : ((w.alloc (.cells #[.int .u8 97, .slice none 0 0, .slice pa ps.length pc, .int .i64 0] 104 (0, 0))).alloc (boolsO (fl (t.size + 1)))).heap[w.heap.size + 1]? = some (boolsO (fl (t.size + 1))) := by
    rw [blk_alloc, size_alloc, if_pos rfl]
  generalize (w.alloc (.cells #[.int .u8 97, .slice none 0 0, .slice pa ps.length pc, .int .i64 0] 104 (0, 0))).alloc (boolsO (fl (t.size + 1))) = W at *
  obtain ⟨d0, d1, d2, d3, _⟩ := four bT
  have KW := hide kW
  have BT := hide bT
  have BO := hide bO
  clear kW bT bO hm n0 n1 n2 n3 c4
  go_wp2_with fail
  clear d0 d1 d2 d3
  go_loopw [13] (fun c w' => ∃ (j : Nat) (lk : List Bool), j ≤ ps.length ∧ c = .int .i64 j ∧ w'.heap[w.heap.size + 1]? = some (boolsO lk) ∧ w'.heap[w.heap.size]? = some (.cells #[.int .u8 97, .slice none 0 0, .slice pa ps.length pc, .int .i64 0] 104 (0, 0)) ∧ Kp [] w w' ∧ EndsOk (altL ((ps.take j).map fun p => Ls.getD p lNone)) (tx t) lf lk)
    (fun c _ => ps.length - (intOf c).toNat)
  case atStart => exact ⟨0, fl (t.size + 1), by omega, rfl, BO.out, BT.out, KW.out, by have := EndsOk.none (tx t) lf; rw [hxl] at this; exact this⟩
  case round =>
    obtain ⟨j, lk, hj, rfl, bo, bt, kk, ek⟩ := hrel
    obtain ⟨d0, d1, d2, d3, _⟩ := four bt
    have BTr := hide bt
    have BOr := hide bo
    have KKr := hide kk
    have EK := hide ek
    by_cases hlt : j < ps.length
    · have hlt' : (j : Int) < ps.length := by omega
      obtain ⟨gp, hpa, cp⟩ := hnode.out wr kk j hlt
      have hmem := getD_mem hlt
      have hcall := hide (HP.out (ps.getD j 0) hmem.1 bf lf wr (HSX.out.kp kk) hl (kk.keep BF.out (by simp)))
      have HM := hide hmem.2
      generalize ps.getD j 0 = p at *
      subst hpa
      have hwj := wrapB j (by omega)
      clear bt bo kk ek hmem
      go_wp2_with fail
      refine hcall.out.mono ?_
      rintro _ w3 ⟨bo3, lo3, rfl, hb3, hge3, ek3, k3⟩
      have KT : Hid (Kp [] w w3) := KKr.out.trans k3 (by simp)
      have BT3 := hide (k3.keep BTr.out (by simp))
      have BK3 := hide (k3.keep BOr.out (by simp))
      have BO3 := hide hb3
      have EK3 := hide ek3
      have hlt3 : w.heap.size + 1 < wr.heap.size := lt_of_block BOr.out
      have hne3 : bo3 ≠ w.heap.size + 1 := by omega
      have hne4 : bo3 ≠ w.heap.size := by omega
      clear k3 hb3 ek3 d0 d1 d2 d3
      go_wp2_with fail
      go_loopw [15] (fun c w' => ∃ q : Nat, q ≤ t.size + 1 ∧ c = .int .i64 q ∧ w'.heap[w.heap.size + 1]? = some (boolsO (orTo lk lo3 q)) ∧ w'.heap[bo3]? = some (boolsO lo3) ∧ w'.heap[w.heap.size]? = some (.cells #[.int .u8 97, .slice none 0 0, .slice (some ⟨gp, 0, none⟩) ps.length pc, .int .i64 0] 104 (0, 0)) ∧ Kp [] w w')
        (fun c _ => t.size + 1 - (intOf c).toNat)
      case atStart => exact ⟨0, by omega, rfl, BK3.out, BO3.out, BT3.out, KT.out⟩
      case round =>
        obtain ⟨q, hq, rfl, bq, b3, bt, kq⟩ := hrel
        have BQ := hide bq
        have B3q := hide b3
        have BTq := hide bt
        have KQ := hide kq
        by_cases hqt : q ≤ t.size
        · have hqt' : (q : Int) ≤ t.size := by omega
          have hqt2 : (q : Int) < (t.size : Int) + 1 := by omega
          have hlk := EK.out.len
          have hl3 := EK3.out.len
          have hwq := wrap1' q (by omega)
          have cq := bcell bq q (by rw [orTo_len]; omega)
          rw [orTo_get lk lo3 q q (by omega), if_neg (by omega)] at cq
          have fq := bfroz bq q
          have c3 := bcell b3 q (by omega)
          have hst : Hid (orTo lk lo3 (q + 1) = (orTo lk lo3 q).set q (lk.getD q false || lo3.getD q false)) := rfl
          generalize lk.getD q false = va at *
          generalize lo3.getD q false = vb at *
          clear bq b3 bt kq hlk hl3
          cases va <;> cases vb
          all_goals
            go_wp2
            refine ⟨⟨q + 1, by omega, by go_num, ?_, ?_, ?_, KQ.out.set (.inr (by omega)) _ _⟩, by simp [intOf]; omega⟩
            · rw [hst.out]; exact bset BQ.out q _
            · rw [blk_set, if_neg hne3]; exact B3q.out
            · rw [blk_set, if_neg (by omega)]; exact BTq.out
        · have hqE : q = t.size + 1 := by omega
          subst hqE
          have hqt' : ¬ (((t.size + 1 : Nat) : Int) ≤ t.size) := by omega
          clear bq b3 bt kq hqt
          go_wp2
          refine ⟨⟨j + 1, orTo lk lo3 (t.size + 1), by omega, by go_num, BQ.out, BTq.out, KQ.out, ?_⟩, by simp [intOf]; omega⟩
          rw [take_snoc _ _ _ hlt, ← HM.out]
          have := EK.out.alt EK3.out
          rw [hxl] at this; exact this
    · have hjE : j = ps.length := by omega
      subst hjE
      clear bt bo kk ek hlt
      go_wp2
      go_ret
      refine ⟨w.heap.size + 1, lk, rfl, BOr.out, by omega, ?_, KKr.out⟩
      rw [HL.out]
      have := EK.out
      rwa [List.take_length] at this
end Go.Proofs.YtbjdkbcfpmeneaaGreat
