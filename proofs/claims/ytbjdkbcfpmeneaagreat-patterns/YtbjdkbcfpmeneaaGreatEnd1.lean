/- What is proved here: what ends of the document's tree answers at a node with a set of bytes. -/
import Derived.Test.YtbjdkbcfpmeneaaGreatRows
import Derived.Test.YtbjdkbcfpmeneaaGreatRefD
import Derived.Test.YtbjdkbcfpmeneaaGreatEndM
import Derived.Test.YtbjdkbcfpmeneaaGreatMatch1
import Derived.Laws.CopyOwn
namespace Go.Proofs.YtbjdkbcfpmeneaaGreat
set_option linter.unusedVariables false
set_option linter.unusedSimpArgs false
open Go.RowKit

/- A tree with its nodes, in memory. -/
structure TS (w : World) (r : Nat) (nv : Value) (ns : List ND) (Ls : List Lang) : Prop where
  rd : ∃ s i e pl top, w.heap[r]? = some (rrO s i e pl nv top)
  own : w.ownsRow 0 104 4 nv ns.length (flatN ns)
  tr : TrOk w ns Ls
theorem TS.kp {w w' : World} {r : Nat} {nv : Value} {ns : List ND} {Ls : List Lang} (h : TS w r nv ns Ls) (hk : Kp [] w w') : TS w' r nv ns Ls := by
  obtain ⟨s, i, e, pl, top, h1⟩ := h.rd
  exact ⟨⟨s, i, e, pl, top, hk.keep h1 (by simp)⟩, owns_kp h.own hk (by simp), h.tr.keep hk (Far.nil _)⟩
theorem flatN_get : ∀ (ns : List ND) (k : Nat) (nd : ND), ns[k]? = some nd → ∀ i, i < 4 → (flatN ns)[k * 4 + i]? = (ndC nd)[i]? := by
  intro ns
  induction ns with
  | nil => intro k nd h; simp at h
  | cons n ns ih =>
    intro k nd h i hi
    have e : flatN (n :: ns) = ndC n ++ flatN ns := by simp [flatN]
    rw [e]
    cases k with
    | zero =>
      simp only [List.getElem?_cons_zero, Option.some.injEq] at h
      subst h
      rw [List.getElem?_append_left (by simp [ndC]; omega)]; simp
    | succ k =>
      rw [List.getElem?_cons_succ] at h
      rw [List.getElem?_append_right (by simp [ndC]; omega), show (k + 1) * 4 + i - (ndC n).length = k * 4 + i by simp [ndC]; omega]
      exact ih k nd h i hi
theorem TS.row {w : World} {r : Nat} {nv : Value} {ns : List ND} {Ls : List Lang} (h : TS w r nv ns Ls) {k : Nat} {nd : ND} (hk : ns[k]? = some nd) :
    ∃ g cap, nv = .slice (some ⟨g, 0, none⟩) ns.length cap ∧ g < w.heap.size ∧ w.cell? ⟨g, k * 4, none⟩ = some (.int .u8 nd.kind) ∧ w.cell? ⟨g, k * 4 + 1, none⟩ = some nd.hv ∧ w.cell? ⟨g, k * 4 + 2, none⟩ = some nd.pv ∧ w.cell? ⟨g, k * 4 + 3, none⟩ = some (.int .i64 0) := by
  have hlt : k < ns.length := by
    rcases Nat.lt_or_ge k ns.length with a | a
    · exact a
    · rw [List.getElem?_eq_none a] at hk; cases hk
  rcases h.own.2 with ⟨_, e⟩ | ⟨g, cap, cur, e, _, hc, _⟩
  · omega
  · subst e
    have c : ∀ i, i < 4 → w.cell? ⟨g, k * 4 + i, none⟩ = (ndC nd)[i]? := fun i hi => by
      rw [h.own.cellAt (k * 4 + i) (by omega)]; exact flatN_get ns k nd hk i hi
    exact ⟨g, cap, rfl, lt_of_block hc, c 0 (by omega), c 1 (by omega), c 2 (by omega), c 3 (by omega)⟩

/- What ends leaves behind. -/
def EPost (L : Lang) (t : ByteArray) (lf : List Bool) (w : World) (x : Ending) (w' : World) : Prop :=
  ∃ bo lo, x = .returned (.slice (some ⟨bo, 0, none⟩) (t.size + 1) (t.size + 1)) ∧ w'.heap[bo]? = some (boolsO lo) ∧ w.heap.size ≤ bo ∧ EndsOk L (tx t) lf lo ∧ Kp [] w w'
theorem tx_get (t : ByteArray) (k : Nat) : (tx t).getD k 0 = gt t k := by
  unfold tx gt
  rw [List.getD_eq_getElem?_getD, List.getElem?_map]
  simp only [Array.getElem?_toList]
  cases t.data[k]? <;> rfl

theorem wrap1' (i : Nat) (hi : i ≤ 1000000) : IntKind.i64.wrap ((i : Int) + 1) = ((i + 1 : Nat) : Int) := by simp [IntKind.wrap, IntKind.bits, IntKind.signed]; omega
abbrev nodeO (nd : ND) : Obj := .cells #[.int .u8 nd.kind, nd.hv, nd.pv, .int .i64 0] 104 (0, 0)

set_option maxRecDepth 100000 in
set_option maxHeartbeats 4000000 in
theorem ends_byte (r k bf b : Nat) (nv : Value) (ns : List ND) (Ls : List Lang) (t : ByteArray) (lf : List Bool) (nd : ND) (q : Nat) (w : World) (h : TS w r nv ns Ls) (hk : ns[k]? = some nd) (hl : lf.length = t.size + 1) (hf : w.heap[bf]? = some (boolsO lf)) (ht : t.size ≤ 100000)
    (h1 : nd.kind = 98) (h2 : nd.hv = .slice (some ⟨b, 0, none⟩) 256 256) (h4 : nd.pv = .slice none 0 0) (h3 : w.heap[b]? = some (boolsO (bitsL q))) :
    Calls Tryz.prog 41 #[.pointer (some ⟨r, 4, none⟩), .int .i64 k, .string t, .slice (some ⟨bf, 0, none⟩) (t.size + 1) (t.size + 1)] w (EPost (lSet q) t lf w) := by
  obtain ⟨s, i, e, pl, top, rd⟩ := h.rd
  obtain ⟨g, cap, rfl, hg, n0, n1, n2, n3⟩ := h.row hk
  have hkl : k < ns.length := by
    rcases Nat.lt_or_ge k ns.length with a | a
    · exact a
    · rw [List.getElem?_eq_none a] at hk; cases hk
  have hkl' : (k : Int) < ns.length := by omega
  obtain ⟨_, _, _, _, c4, _⟩ := six rd
  have hm : ∀ w, (Instr.makeSlice 80 (.int .i64 ((t.size : Int) + 1)) (.int .i64 ((t.size : Int) + 1))).run Tryz.prog w = .ok (.slice (some ⟨w.heap.size, 0, none⟩) (t.size + 1) (t.size + 1)) (w.alloc (boolsO (fl (t.size + 1)))) := fun w => run_make_bools (t.size + 1) (by omega) w
  have BF := hide hf
  have B3 := hide h3
  rw [h1] at n0
  rw [h2] at n1
  rw [h4] at n2
  have HS := hide h
  clear h rd hf h3 hk
  go_enter Tryz.func41, Tryz.ntmps41
  go_upto_region 3 with fail
  have kW : Kp [] w ((w.alloc (.cells #[.int .u8 98, .slice (some ⟨b, 0, none⟩) 256 256, .slice none 0 0, .int .i64 0] 104)).alloc (boolsO (fl (t.size + 1)))) := ((Kp.refl _ _).alloc _).alloc _
  have bT : ((w.alloc (.cells #[.int .u8 98, .slice (some ⟨b, 0, none⟩) 256 256, .slice none 0 0, .int .i64 0] 104)).alloc (boolsO (fl (t.size + 1)))).heap[w.heap.size]? = some (.cells #[.int .u8 98, .slice (some ⟨b, 0, none⟩) 256 256, .slice none 0 0, .int .i64 0] 104 (0, 0)) := by
    rw [blk_alloc, size_alloc, if_neg (by omega), blk_alloc, if_pos rfl]
  have bO : ((w.alloc (.cells #[.int .u8 98, .slice (some ⟨b, 0, none⟩) 256 256, .slice none 0 0, .int .i64 0] 104)).alloc (boolsO (fl (t.size + 1)))).heap[w.heap.size + 1]? = some (boolsO (fl (t.size + 1))) := by
    rw [blk_alloc, size_alloc, if_pos rfl]
  generalize (w.alloc (.cells #[.int .u8 98, .slice (some ⟨b, 0, none⟩) 256 256, .slice none 0 0, .int .i64 0] 104)).alloc (boolsO (fl (t.size + 1))) = W at *
  obtain ⟨d0, d1, d2, d3, _⟩ := four bT
  have KW := hide kW
  have BT := hide bT
  have BO := hide bO
  have hxl : (tx t).length = t.size := tx_len t
  clear kW bT bO hm n0 n1 n2 n3 c4
  go_wp2_with fail
  go_loopw [11] (fun c w' => ∃ j : Nat, j ≤ t.size ∧ c = .int .i64 j ∧ w'.heap[w.heap.size]? = some (.cells #[.int .u8 98, .slice (some ⟨b, 0, none⟩) 256 256, .slice none 0 0, .int .i64 0] 104 (0, 0)) ∧ w'.heap[w.heap.size + 1]? = some (boolsO (byteTo q (tx t) lf j)) ∧ Kp [] w w')
    (fun c _ => t.size - (intOf c).toNat)
  case atStart => exact ⟨0, by omega, rfl, BT.out, by rw [byteTo, hxl]; exact BO.out, KW.out⟩
  case round =>
    clear d0 d1 d2 d3
    obtain ⟨j, hj, rfl, bt, bo, kk⟩ := hrel
    have BTr := hide bt
    have BOr := hide bo
    have KKr := hide kk
    obtain ⟨d0, d1, d2, d3, _⟩ := four bt
    by_cases hlt : j < t.size
    · have hlt' : (j : Int) < t.size := by omega
      have hlt2 : (j : Int) < (t.size : Int) + 1 := by omega
      have cf0 := bcell (kk.keep BF.out (by simp)) j (by omega)
      have hgj := gt_at t j hlt
      have hg8 := gt_lt t j
      rw [hgj] at hg8
      have cb := bcell (kk.keep B3.out (by simp)) (t[j].toNat) (by rw [bitsL_len]; exact hg8)
      rw [bitsL_get _ _ hg8] at cb
      have hg8' : (t[j].toNat : Int) < 256 := by omega
      have hw8 : IntKind.i64.wrap (t[j].toNat : Int) = t[j].toNat := by simp [IntKind.wrap, IntKind.bits, IntKind.signed]; omega
      have co := bcell bo (j + 1) (by rw [byteTo_len, hxl]; omega)
      have fo := bfroz bo (j + 1)
      have hwj := wrap1' j (by omega)
      have hbt : Hid (byteTo q (tx t) lf (j + 1) = if (lf.getD j false && q.testBit (t[j].toNat)) = true then (byteTo q (tx t) lf j).set (j + 1) true else byteTo q (tx t) lf j) := by
        show _ = _; rw [byteTo, tx_get, hgj]
      generalize (byteTo q (tx t) lf j).getD (j + 1) false = ov at co
      generalize hbq : q.testBit (t[j].toNat) = bq at *
      generalize hbl : lf.getD j false = bl at *
      clear bt bo kk hgj hbq hbl
      cases bl
      · go_wp2_with fail
        go_quiet (fail)
        go_wp2
        refine ⟨⟨j + 1, by omega, by go_num, BTr.out, ?_, KKr.out.drewN _⟩, by simp [intOf]; omega⟩
        rw [hbt.out, if_neg (by simp)]; exact BOr.out
      · cases bq
        · go_wp2_with fail
          go_quiet (fail)
          go_wp2
          refine ⟨⟨j + 1, by omega, by go_num, BTr.out, ?_, KKr.out.drewN _⟩, by simp [intOf]; omega⟩
          rw [hbt.out, if_neg (by simp)]; exact BOr.out
        · go_wp2_with fail
          go_quiet (fail)
          go_wp2
          refine ⟨⟨j + 1, by omega, by go_num, ?_, ?_, (KKr.out.drewN _).set (.inr (by omega)) _ _⟩, by simp [intOf]; omega⟩
          · rw [blk_set, if_neg (by omega)]; exact BTr.out
          · rw [hbt.out, if_pos (by simp)]; exact bset (by exact BOr.out) (j + 1) true
    · have hjE : j = t.size := by omega
      subst hjE
      clear bt bo kk hlt
      go_wp2
      go_ret
      exact ⟨w.heap.size + 1, byteTo q (tx t) lf t.size, rfl, BOr.out, by omega, by have := EndsOk.byte q (tx t) lf; rw [hxl] at this; exact this, KKr.out⟩
end Go.Proofs.YtbjdkbcfpmeneaaGreat
