/- What is proved here: what Count, Member, Put and Take of states do: things numbered as they come, given out once each. -/
import Derived.Test.YtbjdkbcfpmeneaaM11
import Derived.Test.YtbjdkbcfpmeneaaM02
import Derived.Deep.RegionWith
import Derived.Test.YtbjdkbcfpmeneaaM10
import Derived.Test.YtbjdkbcfpmeneaaM08
import Derived.Test.YtbjdkbcfpmeneaaM09
namespace Go.Proofs.Ytbjdkbcfpmeneaa
set_option linter.unusedVariables false
set_option linter.unusedSimpArgs false
open Go.RowKit Go.ChangeMaps

theorem slice_of {w : World} {T : TypeId} {sz : Nat} {vm vs : Value} {ks : List Value} (h : NumOk w T sz vm vs ks) : ∃ a cap, vs = .slice a ks.length cap := by
  rcases h.row.2 with ⟨rfl, e⟩ | ⟨g, cap, cur, rfl, _⟩
  · rw [e]; exact ⟨_, _, rfl⟩
  · exact ⟨_, _, rfl⟩

/- Where a member lies. -/
theorem member_at {w : World} {T : TypeId} {sz : Nat} {vm vs : Value} {ks : List Value} (hN : NumOk w T sz vm vs ks) {i : Nat} {x : Value} (hi : ks[i]? = some x) : ∃ g cap, vs = .slice (some ⟨g, 0, none⟩) ks.length cap ∧ g < w.heap.size ∧ g ∈ nfoot vm vs ∧ ∀ j, j < sz → w.cell? ⟨g, i * sz + j, none⟩ = x.cells[j]? := by
  have hil : i < ks.length := (List.getElem?_eq_some_iff.1 hi).1
  have hr := hN.row
  rcases hr.2 with ⟨_, e⟩ | ⟨g, cap, cur, rfl, _⟩
  · omega
  · refine ⟨g, cap, rfl, (hr.lt g rfl).2, nfoot_mem.2 (.inr rfl), fun j hj => ?_⟩
    rw [hr.cellAt (i * sz + j) (by have : (i + 1) * sz ≤ ks.length * sz := Nat.mul_le_mul_right _ hil; rw [Nat.add_mul, Nat.one_mul] at this; omega)]
    exact cellsAll_get hN.sizes hi hj

theorem res_cell {fn : Func} {t b : Nat} {T : TypeId} {tmps : Array Value} {w : World} {c : Array Value} {e : TypeId} (hf : fn.results = #[.cell t T]) (ht : tmps.getD t undef = .pointer (some ⟨b, 0, none⟩))
    (hw : w.heap[b]? = some (.cells c e (0, 0))) (d : TypeDesc) (hu : Try.prog.underlying T = some d) (hd : d.isRow = true) (hi : (Try.prog.info? T).map (·.size) = some c.size) : (results fn tmps).run Try.prog w = .ok (.agg c) w := by
  have ht' : tmps[t]?.getD undef = .pointer (some ⟨b, 0, none⟩) := by rw [← ht]; simp
  have hl := run_loadVar_mid (P := Try.prog) w b 0 T c.toList d (rangeB hw) hu hd (by simpa using hi)
  simp only [results, hf]
  simp [ht', hl, Sem.run_bind, asAddr]

set_option maxRecDepth 100000 in
theorem cntState_code (B off : Nat) (c : Array Value) (tB : TypeId) (vm vs : Value) (ks : List Value) (w : World) (hB : w.heap[B]? = some (.cells c tB (0, 0))) (h1 : c[off + 1]? = some vs) (hN : NumOk w 96 8 vm vs ks) :
    Calls Try.prog 55 #[.pointer (some ⟨B, off, none⟩)] w fun e w' => e = .returned (.int .i64 ks.length) ∧ w' = w := by
  obtain ⟨av, capv, rfl⟩ := slice_of hN
  have b1 : w.cell? ⟨B, off + 1, none⟩ = some (.slice av ks.length capv) := by rw [cell_of_block hB]; exact h1
  clear hB h1 hN
  go_enter Try.func55, Try.ntmps55
  go_wp2
  go_ret
  exact ⟨rfl, rfl⟩

theorem infoState1 : (Try.prog.info? 96).map (·.size) = some 8 := by kernel_rfl
theorem bkeepc {w w1 : World} (h : Below w.heap.size w w1) {b o : Nat} (hb : b < w.heap.size) : w1.cell? ⟨b, o, none⟩ = w.cell? ⟨b, o, none⟩ := h.cell (p := ⟨b, o, none⟩) hb

set_option maxRecDepth 100000 in
set_option maxHeartbeats 1000000 in
theorem memState_code (B off : Nat) (c : Array Value) (tB : TypeId) (vm vs : Value) (ks : List Value) (w : World) (hB : w.heap[B]? = some (.cells c tB (0, 0))) (h1 : c[off + 1]? = some vs) (hN : NumOk w 96 8 vm vs ks) (i a b : Nat) (hi : ks[i]? = some (stateV a b)) :
    Calls Try.prog 56 #[.pointer (some ⟨B, off, none⟩), .int .i64 i] w fun e w' => e = .returned (stateV a b) ∧ Below w.heap.size w w' := by
  have hil : i < ks.length := (List.getElem?_eq_some_iff.1 hi).1
  obtain ⟨g, cap, rfl, lg, _, hc⟩ := member_at hN hi
  have lB := lt_of_block hB
  have hi' : (i : Int) < ks.length := by omega
  have HB := hide hB
  have HC := hide hc
  clear hB hN hi hc
  go_enter Try.func56, Try.ntmps56
  go_upto_region 1 with fail
  have kW : Kp [] w (w.alloc (.cells #[.int .u64 0, .int .u64 0, .int .u64 0, .int .u64 0, .int .u64 0, .int .u64 0, .int .u64 0, .int .u64 0] 96)) := (Kp.refl _ w).alloc _
  have bR : (w.alloc (.cells #[.int .u64 0, .int .u64 0, .int .u64 0, .int .u64 0, .int .u64 0, .int .u64 0, .int .u64 0, .int .u64 0] 96)).heap[w.heap.size]? = some (.cells #[.int .u64 0, .int .u64 0, .int .u64 0, .int .u64 0, .int .u64 0, .int .u64 0, .int .u64 0, .int .u64 0] 96 (0, 0)) := by rw [blk_alloc, if_pos rfl]
  generalize (w.alloc (.cells #[.int .u64 0, .int .u64 0, .int .u64 0, .int .u64 0, .int .u64 0, .int .u64 0, .int .u64 0, .int .u64 0] 96)) = W at *
  have b1 : W.cell? ⟨B, off + 1, none⟩ = some (.slice (some ⟨g, 0, none⟩) ks.length cap) := by rw [cell_of_block (kW.keep HB.out (by simp))]; exact h1
  have KW := hide kW
  have BR := hide bR
  clear kW bR
  apply wp_region_lit
  iterate 18 go_step
  refine loadMid rfl _ _ rfl (b := g) (o := i * 8) (stateV a b).cells (fun j hj => ?_) rfl _ Try.underlying96 rfl infoState1 ?_
  · rw [← HC.out j hj]; exact (bkeepc KW.out.toBelow lg)
  refine storeAll rfl _ _ _ rfl BR.out rfl rfl rfl infoState1 (by simp [Value.oneCell', Value.cells]) ?_
  intro w2 b2 k2 s2
  go_wp2
  refine bodyPost_ret (v := stateV a b) (res_cell Try.results56 rfl b2 _ Try.underlying96 rfl infoState1) rfl ⟨rfl, (KW.out.trans k2 (by simp)).toBelow⟩

set_option maxRecDepth 100000 in
set_option maxHeartbeats 1000000 in
theorem putState_code (B off : Nat) (c : Array Value) (tB : TypeId) (vm vs : Value) (ks : List Value) (a b : Nat) (w : World) (hB : w.heap[B]? = some (.cells c tB (0, 0))) (h0 : c[off]? = some vm) (h1 : c[off + 1]? = some vs)
    (hN : NumOk w 96 8 vm vs ks) (hBn : B ∉ nfoot vm vs) (hlen : ks.length < 100000) :
    Calls Try.prog 33 #[.pointer (some ⟨B, off, none⟩), stateV a b] w fun e w' => ∃ (i : Nat) (vm' vs' : Value), e = .returned (.int .i64 i) ∧ (addK ks (stateV a b))[i]? = some (stateV a b) ∧
      NumPost B off c tB 96 8 vm vs ks w vm' vs' (addK ks (stateV a b)) w' := by
  have lB := lt_of_block hB
  have HB := hide hB
  have HN := hide hN
  have H0 := hide h0
  have H1 := hide h1
  have HF : Hid (∀ g ∈ nfoot vm vs, g < w.heap.size) := hN.lt
  clear hB hN h0 h1
  go_enter Try.func33, Try.ntmps33
  go_upto_region 1 with fail
  have kW : Kp [] w (w.alloc (stateO a b)) := (Kp.refl _ w).alloc _
  have bX : (w.alloc (stateO a b)).heap[w.heap.size]? = some (stateO a b) := by rw [blk_alloc, if_pos rfl]
  generalize (w.alloc (stateO a b)) = W at *
  obtain ⟨x0, x1, x2, x3, x4, x5, x6, x7, _⟩ := eight bX
  have KW := hide kW
  have BX := hide bX
  clear kW bX
  go_region_with ((go_at_call 53; refine (numState_code B off c tB vm vs ks a b _ ((KW.out.drew).keep HB.out (by simp)) H0.out H1.out (HN.out.kp KW.out.drew (by simp)) (state_key a b) hBn hlen).mono ?_; rintro _ w2 ⟨i, vm', vs', rfl, hi, hp⟩))
  all_goals
    go_wp2
    go_ret
    refine ⟨i, vm', vs', rfl, hi, hp.blk, hp.ok, ?_, ?_⟩
    · exact (KW.out.drew.mono (by simp)).trans hp.kp (by intro y hy; exact .inl hy)
    · intro g hg
      rcases hp.foot g hg with e | e
      · exact .inl e
      · exact .inr (Nat.le_trans KW.out.size e)

theorem res_cell_tmp {fn : Func} {t b u : Nat} {T : TypeId} {tmps : Array Value} {w : World} {c : Array Value} {e : TypeId} (hf : fn.results = #[.cell t T, .tmp u]) (ht : tmps.getD t undef = .pointer (some ⟨b, 0, none⟩)) {v : Value} (hv : tmps.getD u undef = v)
    (hw : w.heap[b]? = some (.cells c e (0, 0))) (d : TypeDesc) (hu : Try.prog.underlying T = some d) (hd : d.isRow = true) (hi : (Try.prog.info? T).map (·.size) = some c.size) : (results fn tmps).run Try.prog w = .ok (.tuple #[.agg c, v]) w := by
  have ht' : tmps[t]?.getD undef = .pointer (some ⟨b, 0, none⟩) := by rw [← ht]; simp
  have hv' : tmps[u]?.getD undef = v := by rw [← hv]; simp
  have hl := run_loadVar_mid (P := Try.prog) w b 0 T c.toList d (rangeB hw) hu hd (by simpa using hi)
  simp only [results, hf]
  simp [ht', hv', hl, Sem.run_bind, asAddr]

theorem blk_set8 {w : World} {b : Nat} {x0 x1 x2 x3 x4 x5 x6 x7 : Value} {e : TypeId} (h : w.heap[b]? = some (.cells #[x0, x1, x2, x3, x4, x5, x6, x7] e (0, 0))) (v0 v1 v2 v3 v4 v5 v6 v7 : Value) :
    ((((((((w.setCell ⟨b, 0, none⟩ v0).setCell ⟨b, 1, none⟩ v1).setCell ⟨b, 2, none⟩ v2).setCell ⟨b, 3, none⟩ v3).setCell ⟨b, 4, none⟩ v4).setCell ⟨b, 5, none⟩ v5).setCell ⟨b, 6, none⟩ v6).setCell ⟨b, 7, none⟩ v7).heap[b]? = some (.cells #[v0, v1, v2, v3, v4, v5, v6, v7] e (0, 0)) := by
  simp only [blk_set, h]; simp [setObj_cells]
theorem Kp.set8 {xs : List Nat} {w w1 : World} (h : Kp xs w w1) {b : Nat} (hb : b ∈ xs ∨ w.heap.size ≤ b) (v0 v1 v2 v3 v4 v5 v6 v7 : Value) : Kp xs w ((((((((w1.setCell ⟨b, 0, none⟩ v0).setCell ⟨b, 1, none⟩ v1).setCell ⟨b, 2, none⟩ v2).setCell ⟨b, 3, none⟩ v3).setCell ⟨b, 4, none⟩ v4).setCell ⟨b, 5, none⟩ v5).setCell ⟨b, 6, none⟩ v6).setCell ⟨b, 7, none⟩ v7) :=
  (((((((h.set hb _ _).set hb _ _).set hb _ _).set hb _ _).set hb _ _).set hb _ _).set hb _ _).set hb _ _

abbrev zState : Obj := .cells #[.int .u64 0, .int .u64 0, .int .u64 0, .int .u64 0, .int .u64 0, .int .u64 0, .int .u64 0, .int .u64 0] 96 (0, 0)

set_option maxRecDepth 100000 in
set_option maxHeartbeats 1000000 in
theorem takeState_end (B off : Nat) (c : Array Value) (tB : TypeId) (vm vs : Value) (ks : List Value) (w : World) (hB : w.heap[B]? = some (.cells c tB (0, 0))) (h1 : c[off + 1]? = some vs)
    (hN : NumOk w 96 8 vm vs ks) (h2 : c[off + 2]? = some (.int .i64 ks.length)) :
    Calls Try.prog 35 #[.pointer (some ⟨B, off, none⟩)] w fun e w' => e = .returned (.tuple #[stateV 0 0, .bool false]) ∧ Below w.heap.size w w' := by
  have lB := lt_of_block hB
  have HB := hide hB
  have HN := hide hN
  have H1 := hide h1
  have H2 := hide h2
  clear hB hN h1 h2
  go_enter Try.func35, Try.ntmps35
  go_upto_region 1 with fail
  have kW : Kp [] w (w.alloc zState) := (Kp.refl _ w).alloc _
  have bR : (w.alloc zState).heap[w.heap.size]? = some zState := by rw [blk_alloc, if_pos rfl]
  generalize (w.alloc zState) = W at *
  have lR := lt_of_block bR
  have c2 : W.cell? ⟨B, off + 2, none⟩ = some (.int .i64 ks.length) := by rw [cell_of_block (kW.keep HB.out (by simp))]; exact H2.out
  have KW := hide kW
  have BR := hide bR
  clear kW bR
  go_quiet ((go_at_call 55; exact Calls.quiet_of_same (cntState_code B off c tB vm vs ks _ (by exact KW.out.keep HB.out (by simp)) H1.out (HN.out.kp (KW.out.drewN _) (by simp)))))
  go_upto_region 3 with fail
  apply wp_region_lit
  have bT : ((W.drewN nq).alloc zState).heap[W.heap.size]? = some zState := by rw [blk_alloc, World.heap_drewN, if_pos rfl]
  have bZ : ((W.drewN nq).alloc zState).heap[w.heap.size]? = some zState := by rw [blk_alloc, World.heap_drewN, if_neg (Nat.ne_of_lt lR)]; exact BR.out
  refine loadAll rfl _ _ rfl bT rfl _ Try.underlying96 rfl infoState1 ?_
  refine storeAll rfl _ _ _ rfl bZ rfl rfl rfl infoState1 (by simp [Value.oneCell']) ?_
  intro w2 b2 k2 s2
  go_wp2
  exact bodyPost_ret (v := .tuple #[stateV 0 0, .bool false]) (res_cell_tmp Try.results35 rfl rfl b2 _ Try.underlying96 rfl infoState1) rfl ⟨by simp [wd_zero], (((KW.out.drewN _).alloc _).trans k2 (by simp)).toBelow⟩

set_option maxRecDepth 100000 in
set_option maxHeartbeats 2000000 in
theorem takeState_more (B off : Nat) (c : Array Value) (tB : TypeId) (vm vs : Value) (ks : List Value) (k a b : Nat) (w : World) (hB : w.heap[B]? = some (.cells c tB (0, 0))) (h1 : c[off + 1]? = some vs)
    (hN : NumOk w 96 8 vm vs ks) (h2 : c[off + 2]? = some (.int .i64 k)) (hk : ks[k]? = some (stateV a b)) (hlen : ks.length < 100000) :
    Calls Try.prog 35 #[.pointer (some ⟨B, off, none⟩)] w fun e w' => e = .returned (.tuple #[stateV a b, .bool true]) ∧ w'.heap[B]? = some (.cells (c.setIfInBounds (off + 2) (.int .i64 (k + 1 : Nat))) tB (0, 0)) ∧ Kp [B] w w' := by
  have lB := lt_of_block hB
  have hkl : k < ks.length := (List.getElem?_eq_some_iff.1 hk).1
  have hne : ((k : Int) == ks.length) = false := by simp; omega
  have HB := hide hB
  have HN := hide hN
  have H1 := hide h1
  have H2 := hide h2
  have HK := hide hk
  clear hB hN h1 h2 hk
  go_enter Try.func35, Try.ntmps35
  go_upto_region 1 with fail
  have kW : Kp [] w (w.alloc zState) := (Kp.refl _ w).alloc _
  have bR : (w.alloc zState).heap[w.heap.size]? = some zState := by rw [blk_alloc, if_pos rfl]
  generalize (w.alloc zState) = W at *
  have lR := lt_of_block bR
  have c2 : W.cell? ⟨B, off + 2, none⟩ = some (.int .i64 k) := by rw [cell_of_block (kW.keep HB.out (by simp))]; exact H2.out
  have KW := hide kW
  have BR := hide bR
  clear kW bR
  go_quiet ((go_at_call 55; exact Calls.quiet_of_same (cntState_code B off c tB vm vs ks _ (by exact KW.out.keep HB.out (by simp)) H1.out (HN.out.kp (KW.out.drewN _) (by simp)))))
  go_upto_region 4 with fail
  have kW : Kp [] w (W.drewN nq) := KW.out.drewN _
  have bR : (W.drewN nq).heap[w.heap.size]? = some zState := BR.out
  have c2' : (W.drewN nq).cell? ⟨B, off + 2, none⟩ = some (.int .i64 k) := c2
  clear c2 KW BR lR
  generalize W.drewN nq = W1 at *
  have lR := lt_of_block bR
  have BR := hide bR
  have KW := hide kW
  have lB1 : B < W1.heap.size := Nat.lt_of_lt_of_le lB kW.size
  have nB1 : B ≠ W1.heap.size := Nat.ne_of_lt lB1
  clear kW bR
  go_region_with ((go_at_call 56; (first | (refine (memState_code B off c tB vm vs ks _ (by exact KW.out.drew.keep HB.out (by simp)) H1.out (HN.out.kp KW.out.drew (by simp)) k a b HK.out).mono ?_; rintro _ w2 ⟨rfl, h2⟩; have kA := (Kp.refl [] W1).drew.below h2; have sA := kA.size) | (refine (memState_code B off c tB vm vs ks _ (by exact (KW.out.drew.alloc _).keep HB.out (by simp)) H1.out (HN.out.kp (KW.out.drew.alloc _) (by simp)) k a b HK.out).mono ?_; rintro _ w2 ⟨rfl, h2⟩; have kA := ((Kp.refl [] W1).drew.alloc _).below h2; have bA : w2.heap[W1.heap.size]? = some zState := bkeep h2 (by rw [blk_alloc, size_drew, if_pos rfl]); obtain ⟨x0, x1, x2, x3, x4, x5, x6, x7, f0, f1, f2, f3, f4, f5, f6, f7⟩ := eight bA; have BA := hide bA; have sA := kA.size; clear bA))))
  all_goals
    try simp only [size_drew]
    first
      | (have kX : Kp [] W1 ((((((((w2.setCell ⟨W1.heap.size, 0, none⟩ (.int .u64 (wd a 0))).setCell ⟨W1.heap.size, 1, none⟩ (.int .u64 (wd a 1))).setCell ⟨W1.heap.size, 2, none⟩ (.int .u64 (wd a 2))).setCell ⟨W1.heap.size, 3, none⟩ (.int .u64 (wd a 3))).setCell ⟨W1.heap.size, 4, none⟩ (.int .u64 (wd b 0))).setCell ⟨W1.heap.size, 5, none⟩ (.int .u64 (wd b 1))).setCell ⟨W1.heap.size, 6, none⟩ (.int .u64 (wd b 2))).setCell ⟨W1.heap.size, 7, none⟩ (.int .u64 (wd b 3))) := kA.set8 (.inr (Nat.le_refl _)) _ _ _ _ _ _ _ _
         have bX : ((((((((w2.setCell ⟨W1.heap.size, 0, none⟩ (.int .u64 (wd a 0))).setCell ⟨W1.heap.size, 1, none⟩ (.int .u64 (wd a 1))).setCell ⟨W1.heap.size, 2, none⟩ (.int .u64 (wd a 2))).setCell ⟨W1.heap.size, 3, none⟩ (.int .u64 (wd a 3))).setCell ⟨W1.heap.size, 4, none⟩ (.int .u64 (wd b 0))).setCell ⟨W1.heap.size, 5, none⟩ (.int .u64 (wd b 1))).setCell ⟨W1.heap.size, 6, none⟩ (.int .u64 (wd b 2))).setCell ⟨W1.heap.size, 7, none⟩ (.int .u64 (wd b 3))).heap[W1.heap.size]? = some (stateO a b) := blk_set8 BA.out _ _ _ _ _ _ _ _
         generalize ((((((((w2.setCell ⟨W1.heap.size, 0, none⟩ (.int .u64 (wd a 0))).setCell ⟨W1.heap.size, 1, none⟩ (.int .u64 (wd a 1))).setCell ⟨W1.heap.size, 2, none⟩ (.int .u64 (wd a 2))).setCell ⟨W1.heap.size, 3, none⟩ (.int .u64 (wd a 3))).setCell ⟨W1.heap.size, 4, none⟩ (.int .u64 (wd b 0))).setCell ⟨W1.heap.size, 5, none⟩ (.int .u64 (wd b 1))).setCell ⟨W1.heap.size, 6, none⟩ (.int .u64 (wd b 2))).setCell ⟨W1.heap.size, 7, none⟩ (.int .u64 (wd b 3))) = W3 at *
         clear x0 x1 x2 x3 x4 x5 x6 x7 f0 f1 f2 f3 f4 f5 f6 f7
         clear BA
         have sA : W1.heap.size ≤ W1.heap.size := Nat.le_refl _
         generalize hX : W1.heap.size = X at *)
      | (have kX : Kp [] W1 (w2.alloc (stateO a b)) := kA.alloc _
         have bX : (w2.alloc (stateO a b)).heap[w2.heap.size]? = some (stateO a b) := by rw [blk_alloc, if_pos rfl]
         generalize (w2.alloc (stateO a b)) = W3 at *
         generalize w2.heap.size = X at *)
    have b3 : W3.heap[B]? = some (.cells c tB (0, 0)) := (KW.out.trans kX (by simp)).keep HB.out (by simp)
    have c3 : W3.cell? ⟨B, off + 2, none⟩ = some (.int .i64 k) := by rw [cell_of_block b3]; exact H2.out
    have f3 := frozen_of_block b3 (off + 2)
    have bR := kX.keep BR.out (by simp)
    have K3 := hide (KW.out.trans kX (by simp))
    have BX := hide bX
    have B3 := hide b3
    have BR3 := hide bR
    clear kX bX b3 bR c2' h2 kA
    have nX : X ≠ B := by omega
    have nR : w.heap.size ≠ B := by omega
    try clear hX
    clear sA nB1 lB1 lR
    go_upto_region 6 with fail
    apply wp_region_lit
    refine loadAll rfl _ _ rfl (b := X) (c := #[.int .u64 (wd a 0), .int .u64 (wd a 1), .int .u64 (wd a 2), .int .u64 (wd a 3), .int .u64 (wd b 0), .int .u64 (wd b 1), .int .u64 (wd b 2), .int .u64 (wd b 3)]) (by rw [blk_set, if_neg nX]; exact BX.out) rfl _ Try.underlying96 rfl infoState1 ?_
    refine storeAll rfl _ _ _ rfl (b := w.heap.size) (c := #[.int .u64 0, .int .u64 0, .int .u64 0, .int .u64 0, .int .u64 0, .int .u64 0, .int .u64 0, .int .u64 0]) (e := 96) (by rw [blk_set, if_neg nR]; exact BR3.out) rfl rfl rfl infoState1 (by simp [Value.oneCell']) ?_
    intro w4 b4 k4 s4
    go_wp2
    refine bodyPost_ret (v := .tuple #[stateV a b, .bool true]) (res_cell_tmp Try.results35 rfl rfl b4 _ Try.underlying96 rfl infoState1) rfl ⟨rfl, ?_, ((K3.out.mono (by simp)).set (by simp) _ _).trans k4 (by intro y hy; simp at hy; omega)⟩
    refine k4.keep ?_ (by simp; omega)
    rw [blk_set, if_pos rfl, B3.out]
    rfl
end Go.Proofs.Ytbjdkbcfpmeneaa

/- What is proved here: what Count and Member of sets do. -/
namespace Go.Proofs.Ytbjdkbcfpmeneaa
set_option linter.unusedVariables false
set_option linter.unusedSimpArgs false
open Go.RowKit Go.ChangeMaps

set_option maxRecDepth 100000 in
theorem cntSet_code (B off : Nat) (c : Array Value) (tB : TypeId) (vm vs : Value) (ks : List Value) (w : World) (hB : w.heap[B]? = some (.cells c tB (0, 0))) (h1 : c[off + 1]? = some vs) (hN : NumOk w 62 4 vm vs ks) :
    Calls Try.prog 57 #[.pointer (some ⟨B, off, none⟩)] w fun e w' => e = .returned (.int .i64 ks.length) ∧ w' = w := by
  obtain ⟨av, capv, rfl⟩ := slice_of hN
  have b1 : w.cell? ⟨B, off + 1, none⟩ = some (.slice av ks.length capv) := by rw [cell_of_block hB]; exact h1
  clear hB h1 hN
  go_enter Try.func57, Try.ntmps57
  go_wp2
  go_ret
  exact ⟨rfl, rfl⟩

set_option maxRecDepth 100000 in
set_option maxHeartbeats 1000000 in
theorem memSet_code (B off : Nat) (c : Array Value) (tB : TypeId) (vm vs : Value) (ks : List Value) (w : World) (hB : w.heap[B]? = some (.cells c tB (0, 0))) (h1 : c[off + 1]? = some vs) (hN : NumOk w 62 4 vm vs ks) (i s : Nat) (hi : ks[i]? = some (setV s)) :
    Calls Try.prog 60 #[.pointer (some ⟨B, off, none⟩), .int .i64 i] w fun e w' => e = .returned (setV s) ∧ Below w.heap.size w w' := by
  have hil : i < ks.length := (List.getElem?_eq_some_iff.1 hi).1
  obtain ⟨g, cap, rfl, lg, _, hc⟩ := member_at hN hi
  have lB := lt_of_block hB
  have hi' : (i : Int) < ks.length := by omega
  have HB := hide hB
  have HC := hide hc
  clear hB hN hi hc
  go_enter Try.func60, Try.ntmps60
  go_upto_region 1 with fail
  have kW : Kp [] w (w.alloc zeroSet) := (Kp.refl _ w).alloc _
  have bR : (w.alloc zeroSet).heap[w.heap.size]? = some zeroSet := by rw [blk_alloc, if_pos rfl]
  generalize (w.alloc zeroSet) = W at *
  have b1 : W.cell? ⟨B, off + 1, none⟩ = some (.slice (some ⟨g, 0, none⟩) ks.length cap) := by rw [cell_of_block (kW.keep HB.out (by simp))]; exact h1
  have KW := hide kW
  have BR := hide bR
  clear kW bR
  apply wp_region_lit
  iterate 18 go_step
  refine loadMid rfl _ _ rfl (b := g) (o := i * 4) (setV s).cells (fun j hj => ?_) rfl _ Try.underlying62 rfl infoSet4 ?_
  · rw [← HC.out j hj]; exact (bkeepc KW.out.toBelow lg)
  refine storeAll rfl _ _ _ rfl BR.out rfl rfl rfl infoSet4 (by simp [Value.oneCell', Value.cells]) ?_
  intro w2 b2 k2 s2
  go_wp2
  refine bodyPost_ret (v := setV s) (res_cell Try.results60 rfl b2 _ Try.underlying62 rfl infoSet4) rfl ⟨rfl, (KW.out.trans k2 (by simp)).toBelow⟩
end Go.Proofs.Ytbjdkbcfpmeneaa

/- What is proved here: to which state a text leads that is read by several rules at once: the positions that may come next, and the rules that match it. No program is named. -/
namespace Go.Proofs.Ytbjdkbcfpmeneaa
set_option linter.unusedVariables false
set_option linter.unusedSimpArgs false

/- The positions that may come next, byte by byte. -/
def opens (bs fs : List Nat) : Nat → List Nat → Nat
  | op, [] => op
  | op, c :: cs => opens bs fs (behN fs (op &&& takN bs c bs.length) fs.length) cs

theorem opens_snoc (bs fs : List Nat) (c : Nat) : ∀ (y : List Nat) (op : Nat), opens bs fs op (y ++ [c]) = behN fs (opens bs fs op y &&& takN bs c bs.length) fs.length := by
  intro y
  induction y with
  | nil => intro op; rfl
  | cons d y ih => intro op; exact ih _

theorem hit_bit (bs : List Nat) (op c q : Nat) : (op &&& takN bs c bs.length).testBit q = true ↔ op.testBit q = true ∧ (bs.getD q 0).testBit c = true := by
  rw [Nat.testBit_and, Bool.and_eq_true, takN_bit]
  constructor
  · rintro ⟨a, _, b⟩; exact ⟨a, b⟩
  · rintro ⟨a, b⟩; exact ⟨a, getD_bit_lt b, b⟩

/- What is read on from where a text has led. -/
theorem rd_opens (bs fs : List Nat) (last : Nat) (z : List Nat) (hz : z ≠ []) : ∀ (y : List Nat) (op : Nat),
    (∃ q, op.testBit q = true ∧ rd (fun q => bs.getD q 0) (fun q => fs.getD q 0) last q (y ++ z)) ↔ ∃ q, (opens bs fs op y).testBit q = true ∧ rd (fun q => bs.getD q 0) (fun q => fs.getD q 0) last q z := by
  intro y
  induction y with
  | nil => intro op; exact Iff.rfl
  | cons c y ih =>
    intro op
    rw [opens, ← ih]
    constructor
    · rintro ⟨q, a, b, ⟨e, _⟩ | ⟨r, e, g⟩⟩
      · exact absurd (List.append_eq_nil_iff.1 e).2 hz
      · exact ⟨r, (behN_bit fs _ r _).2 ⟨q, getD_bit_lt e, (hit_bit bs op c q).2 ⟨a, b⟩, e⟩, g⟩
    · rintro ⟨r, a, g⟩
      obtain ⟨q, hq, h1, h2⟩ := (behN_bit fs _ r _).1 a
      have := (hit_bit bs op c q).1 h1
      exact ⟨q, this.1, this.2, .inr ⟨r, h2, g⟩⟩

theorem rd_one {B F : Nat → Nat} {last q c : Nat} : rd B F last q [c] ↔ (B q).testBit c = true ∧ last.testBit q = true := by
  constructor
  · rintro ⟨a, ⟨_, b⟩ | ⟨r, _, b⟩⟩
    · exact ⟨a, b⟩
    · exact b.elim
  · rintro ⟨a, b⟩; exact ⟨a, .inl ⟨rfl, b⟩⟩

theorem rd_last (bs fs : List Nat) (last : Nat) (y : List Nat) (c op : Nat) :
    (∃ q, op.testBit q = true ∧ rd (fun q => bs.getD q 0) (fun q => fs.getD q 0) last q (y ++ [c])) ↔ (opens bs fs op y &&& takN bs c bs.length) &&& last ≠ 0 := by
  rw [rd_opens bs fs last [c] (by simp)]
  constructor
  · rintro ⟨q, a, b⟩ e
    have b' := rd_one.1 b
    have : ((opens bs fs op y &&& takN bs c bs.length) &&& last).testBit q = true := by rw [Nat.testBit_and, (hit_bit bs _ c q).2 ⟨a, b'.1⟩, b'.2]; rfl
    rw [e] at this; simp at this
  · intro h
    obtain ⟨q, hq⟩ := ne_zero_bit h
    rw [Nat.testBit_and, Bool.and_eq_true] at hq
    have := (hit_bit bs _ c q).1 hq.1
    exact ⟨q, this.1, rd_one.2 ⟨this.2, hq.2⟩⟩

/- Several rules, each with positions of its own. -/
structure Rules (B F : Nat → Nat) (n : Nat) (lo : Nat → Nat) (e : Nat → Bool) (f l : Nat → Nat) (L : Nat → Lang) : Prop where
  part : ∀ i, i < n → Part B F (lo i) (lo (i + 1)) (e i) (f i) (l i) (L i)
  mono : ∀ i j, i ≤ j → j ≤ n → lo i ≤ lo j

/- The first positions of all of them; the rules of which a last position was hit. -/
def firsts (f : Nat → Nat) : Nat → Nat
  | 0 => 0
  | n + 1 => firsts f n ||| f n
def wholes (l : Nat → Nat) (h : Nat) : Nat → Nat
  | 0 => 0
  | n + 1 => if h &&& l n ≠ 0 then wholes l h n ||| (1 <<< n) else wholes l h n

theorem firsts_bit (f : Nat → Nat) (q : Nat) : ∀ n, (firsts f n).testBit q = true ↔ ∃ i, i < n ∧ (f i).testBit q = true := by
  intro n
  induction n with
  | zero => simp [firsts]
  | succ n ih =>
    rw [firsts, Nat.testBit_or, Bool.or_eq_true, ih]
    constructor
    · rintro (⟨i, a, b⟩ | b)
      · exact ⟨i, by omega, b⟩
      · exact ⟨n, by omega, b⟩
    · rintro ⟨i, a, b⟩
      by_cases e : i = n
      · subst e; exact .inr b
      · exact .inl ⟨i, by omega, b⟩

theorem wholes_bit (l : Nat → Nat) (h q : Nat) : ∀ n, (wholes l h n).testBit q = true ↔ q < n ∧ h &&& l q ≠ 0 := by
  intro n
  induction n with
  | zero => simp [wholes]
  | succ n ih =>
    rw [wholes]
    have one : (1 <<< n).testBit q = true ↔ q = n := by rw [Nat.one_shiftLeft, Nat.testBit_two_pow, decide_eq_true_eq]; exact eq_comm
    by_cases g : h &&& l n ≠ 0
    · rw [if_pos g, Nat.testBit_or, Bool.or_eq_true, ih, one]
      constructor
      · rintro (⟨a, b⟩ | rfl)
        · exact ⟨by omega, b⟩
        · exact ⟨by omega, g⟩
      · rintro ⟨a, b⟩
        by_cases e : q = n
        · exact .inr e
        · exact .inl ⟨by omega, b⟩
    · rw [if_neg g, ih]
      constructor
      · rintro ⟨a, b⟩; exact ⟨by omega, b⟩
      · rintro ⟨a, b⟩
        have : q ≠ n := by rintro rfl; exact g b
        exact ⟨by omega, b⟩

/- What is read stays among the rule's own positions. -/
theorem rd_in {B F : Nat → Nat} {lo hi last : Nat} (ho : ∀ q, lo ≤ q → q < hi → In lo hi (F q)) : ∀ (x : List Nat) (q : Nat), lo ≤ q → q < hi → rd B F last q x → ∃ p, lo ≤ p ∧ p < hi ∧ last.testBit p = true := by
  intro x
  induction x with
  | nil => intro q _ _ h; exact h.elim
  | cons c cs ih =>
    rintro q h1 h2 ⟨_, ⟨_, b⟩ | ⟨r, e, g⟩⟩
    · exact ⟨q, h1, h2, b⟩
    · have := ho q h1 h2 r e
      exact ih r this.1 this.2 g

theorem Rules.rd {B F : Nat → Nat} {n : Nat} {lo : Nat → Nat} {e : Nat → Bool} {f l : Nat → Nat} {L : Nat → Lang} (h : Rules B F n lo e f l L) (i : Nat) (hi : i < n) (x : List Nat) (hx : x ≠ []) :
    (∃ q, (firsts f n).testBit q = true ∧ rd B F (l i) q x) ↔ L i x := by
  rw [← (h.part i hi).eq x]
  constructor
  · rintro ⟨q, a, b⟩
    obtain ⟨j, hj, hq⟩ := (firsts_bit f q n).1 a
    have pj := h.part j hj
    have hr := pj.fi q hq
    obtain ⟨p, p1, p2, p3⟩ := rd_in pj.fo x q hr.1 hr.2 b
    have pi := (h.part i hi).la p p3
    have : i = j := by
      rcases Nat.lt_trichotomy i j with c | c | c
      · have := h.mono (i + 1) j (by omega) (by omega); omega
      · exact c
      · have := h.mono (j + 1) i (by omega) (by omega); omega
    subst this
    exact .inr ⟨q, hq, b⟩
  · rintro (⟨a, _⟩ | ⟨q, a, b⟩)
    · exact absurd a hx
    · exact ⟨q, (firsts_bit f q n).2 ⟨i, hi, a⟩, b⟩

/- A state, and the one behind it by a byte. -/
def stepS (bs fs : List Nat) (l : Nat → Nat) (n : Nat) (s : Nat × Nat) (c : Nat) : Nat × Nat := (behN fs (s.1 &&& takN bs c bs.length) fs.length, wholes l (s.1 &&& takN bs c bs.length) n)
def walkS (bs fs : List Nat) (l : Nat → Nat) (n : Nat) (s : Nat × Nat) (x : List Nat) : Nat × Nat := x.foldl (stepS bs fs l n) s

theorem walkS_fst (bs fs : List Nat) (l : Nat → Nat) (n : Nat) : ∀ (x : List Nat) (s : Nat × Nat), (walkS bs fs l n s x).1 = opens bs fs s.1 x := by
  intro x
  induction x with
  | nil => intro s; rfl
  | cons c x ih => intro s; exact ih _
theorem walkS_snoc (bs fs : List Nat) (l : Nat → Nat) (n : Nat) (s : Nat × Nat) (y : List Nat) (c : Nat) : walkS bs fs l n s (y ++ [c]) = stepS bs fs l n (walkS bs fs l n s y) c := by
  unfold walkS; rw [List.foldl_append]; rfl

theorem snoc_of {x : List Nat} (h : x ≠ []) : ∃ y c, x = y ++ [c] := ⟨x.dropLast, x.getLast h, (List.dropLast_concat_getLast h).symm⟩

/- The rules that a state names are those that match the text. -/
theorem walkS_whole {bs fs : List Nat} {n : Nat} {lo : Nat → Nat} {e : Nat → Bool} {f l : Nat → Nat} {L : Nat → Lang} (h : Rules (fun q => bs.getD q 0) (fun q => fs.getD q 0) n lo e f l L) (x : List Nat) (hx : x ≠ []) (i : Nat) :
    (walkS bs fs l n (firsts f n, 0) x).2.testBit i = true ↔ i < n ∧ L i x := by
  obtain ⟨y, c, rfl⟩ := snoc_of hx
  rw [walkS_snoc, stepS, walkS_fst]
  show (wholes l (opens bs fs (firsts f n) y &&& takN bs c bs.length) n).testBit i = true ↔ _
  rw [wholes_bit]
  constructor
  · rintro ⟨a, b⟩; exact ⟨a, (h.rd i a _ hx).1 ((rd_last bs fs (l i) y c _).2 b)⟩
  · rintro ⟨a, b⟩; exact ⟨a, (rd_last bs fs (l i) y c _).1 ((h.rd i a _ hx).2 b)⟩

/- Where nothing may come next and no rule matches, none matches any text that goes on so. -/
theorem walkS_dead {bs fs : List Nat} {n : Nat} {lo : Nat → Nat} {e : Nat → Bool} {f l : Nat → Nat} {L : Nat → Lang} (h : Rules (fun q => bs.getD q 0) (fun q => fs.getD q 0) n lo e f l L) (x : List Nat) (hx : x ≠ []) (h0 : walkS bs fs l n (firsts f n, 0) x = (0, 0)) (z : List Nat) (i : Nat) (hi : i < n) : ¬ L i (x ++ z) := by
  intro hL
  by_cases hz : z = []
  · rw [hz, List.append_nil] at hL
    have := (walkS_whole h x hx i).2 ⟨hi, hL⟩
    rw [h0] at this; simp at this
  · have h1 := (h.rd i hi (x ++ z) (by simp [hx])).2 hL
    obtain ⟨q, a, _⟩ := (rd_opens bs fs (l i) z hz x _).1 h1
    have e1 : opens bs fs (firsts f n) x = 0 := by have := walkS_fst bs fs l n x (firsts f n, 0); rw [h0] at this; exact this.symm
    rw [e1] at a; simp at a
end Go.Proofs.Ytbjdkbcfpmeneaa
