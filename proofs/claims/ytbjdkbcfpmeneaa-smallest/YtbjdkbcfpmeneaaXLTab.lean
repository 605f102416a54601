/- What is proved here: what Table answers: a table of its own, as the lexer's. -/
import Derived.Test.YtbjdkbcfpmeneaaRows
import Derived.Test.YtbjdkbcfpmeneaaXTabQ
import Derived.Test.YtbjdkbcfpmeneaaM25
import Derived.Deep.RegionHeld3
namespace Go.Proofs.Ytbjdkbcfpmeneaa
set_option linter.unusedVariables false
set_option linter.unusedSimpArgs false
open Go.RowKit Go.ChangeMaps

theorem wp_allocZ {op : Oper} {a : Act} {w : World} {K : Act → World → Prop} {Q : Exit → Act → World → Prop} (ty : TypeId) (ho : op.op = .alloc ty) (z : Value) (hz : (Try.prog.info? ty).map (fun i => i.zero) = some (some z))
    (h : K (a.put op.dst (.pointer (some ⟨w.heap.size, 0, none⟩))) (w.alloc (.cells z.cells ty (0, 0)))) : op.wp Try.prog a w K Q := by
  cases hq : Try.prog.info? ty with
  | none => simp [hq] at hz
  | some i =>
    have hz' : i.zero = some z := by simpa [hq] using hz
    unfold Oper.wp execOp
    simp only [ho]
    simp [go_sem, zeroValue, typeInfo, hq, hz']
    exact h
theorem ite_wanted {P : Program} {ops : Array Oper} {o : Oper} {a : Act} {w : World} {K : Act → World → Prop} {Q : Exit → Act → World → Prop} {E : Prop} (hg : o.guard = none) (h : Oper.wp P o a w K Q) : if Region.wanted o (yielded ops a.tmps) = true then Oper.wp P o a w K Q else E := by
  rw [if_pos (by simp [Region.wanted, hg])]; exact h
theorem yieldsIf_arr {ops : Array Oper} {S : World → Prop} {op : Oper} {a : Act} (hw : Region.wanted op (yielded ops a.tmps) = true) (ty : TypeId) (x : Operand) (ho : op.op = .load ty x)
    (b o : Nat) (hx : a.eval x = .pointer (some ⟨b, o, none⟩)) (ys : Array Value) (d : TypeDesc) (hS : ∀ w, S w → ∀ j, j < ys.size → w.cell? ⟨b, o + j, none⟩ = ys[j]?)
    (hu : Try.prog.underlying ty = some d) (hd : d.isRow = true) (hi : (Try.prog.info? ty).map (·.size) = some ys.size) : YieldsIf Try.prog ops S op (.agg ys) a := by
  have := yieldsIf_load_mid (P := Try.prog) (S := S) hw ty x ho b o hx ys.toList d (fun w h j v hv => by
    have hj : j < ys.size := by have := (List.getElem?_eq_some_iff.1 hv).1; simpa using this
    rw [hS w h j hj, ← Array.getElem?_toList]; exact hv) hu hd (by rw [Array.length_toList]; exact hi)
  rwa [Array.toArray_toList] at this
theorem wp_buildTab {op : Oper} {a : Act} {w : World} {K : Act → World → Prop} {Q : Exit → Act → World → Prop} (parts : List (Nat × Operand)) (ho : op.op = .build 46 parts.toArray) (cells : Array Value) (hf : Instr.fill tabPlace (tabArr z256 (.slice none 0 0) (.slice none 0 0)) (parts.map fun q => (q.1, a.eval q.2)) = some cells)
    (h : K (a.put op.dst (.agg cells)) w) : op.wp Try.prog a w K Q := by
  have e : (parts.toArray.map fun (i, x) => (i, a.eval x)).toList = parts.map fun q => (q.1, a.eval q.2) := by simp
  refine wp_build 46 parts.toArray ho ?_ ?_
  · rw [built_tab, e, hf]; rfl
  · rw [built_tab, e, hf]; exact h

theorem yieldsIf_buildTab {ops : Array Oper} {S : World → Prop} {op : Oper} {a : Act} (hw : Region.wanted op (yielded ops a.tmps) = true) (parts : List (Nat × Operand)) (ho : op.op = .build 46 parts.toArray) (cells : Array Value) (hf : Instr.fill tabPlace (tabArr z256 (.slice none 0 0) (.slice none 0 0)) (parts.map fun q => (q.1, a.eval q.2)) = some cells) : YieldsIf Try.prog ops S op (.agg cells) a :=
  .inl ⟨hw, fun w _ => by
    have e : (parts.toArray.map fun (i, x) => (i, a.eval x)).toList = parts.map fun q => (q.1, a.eval q.2) := by simp
    have hc : Try.prog.built 46 (parts.toArray.map fun (i, x) => (i, a.eval x)).toList = some cells := by rw [built_tab, e, hf]
    unfold execOp
    simp only [ho, Sem.run_bind, run_build w 46 _ cells hc, Result.andThen_ok, Sem.run_pure]⟩

def acL (U : Tab) : List Int := (List.range U.N).map U.ac
theorem acL_len (U : Tab) : (acL U).length = U.N := by simp [acL]
theorem acL_get (U : Tab) (i : Nat) (hi : i < U.N) : (acL U).getD i 0 = U.ac i := by
  rw [List.getD_eq_getElem?_getD, acL, List.getElem?_map, List.getElem?_range hi]; rfl
theorem clone_ac (ga capa : Nat) (U : Tab) (w : World) (h0 : 0 < U.N) (hN : U.N ≤ 250) (hc : ∀ i, i < U.N → w.cell? ⟨ga, i, none⟩ = some (.int .i64 (U.ac i))) (hg : ga < w.heap.size) :
    Calls Try.prog 24 #[.slice (some ⟨ga, 0, none⟩) U.N capa] w fun e w' => ∃ g1 cap1, e = .returned (.slice (some ⟨g1, 0, none⟩) U.N cap1) ∧ w.heap.size ≤ g1 ∧ w'.ownsRow 0 3 1 (.slice (some ⟨g1, 0, none⟩) U.N cap1) U.N (iv (acL U)) ∧ Below w.heap.size w w' := by
  have := clone_code ga capa (acL U) w (by rw [acL_len]; exact h0) (by rw [acL_len]; omega) (fun i hi => by rw [acL_len] at hi; rw [hc i hi, acL_get U i hi]) hg
  rw [acL_len] at this
  exact this
def rwL (U : Tab) (j : Nat) : List Int := (List.range U.C).map (U.nx j)
theorem rwL_len (U : Tab) (j : Nat) : (rwL U j).length = U.C := by simp [rwL]
theorem rwL_get (U : Tab) (j k : Nat) (hk : k < U.C) : (rwL U j).getD k 0 = U.nx j k := by
  rw [List.getD_eq_getElem?_getD, rwL, List.getElem?_map, List.getElem?_range hk]; rfl
theorem clone_row (g0 c0 : Nat) (U : Tab) (j : Nat) (w : World) (h0 : 0 < U.C) (hC : U.C ≤ 256) (hc : ∀ i, i < U.C → w.cell? ⟨g0, i, none⟩ = some (.int .i64 (U.nx j i))) (hg : g0 < w.heap.size) :
    Calls Try.prog 24 #[.slice (some ⟨g0, 0, none⟩) U.C c0] w fun e w' => ∃ g1 cap1, e = .returned (.slice (some ⟨g1, 0, none⟩) U.C cap1) ∧ w.heap.size ≤ g1 ∧ w'.ownsRow 0 3 1 (.slice (some ⟨g1, 0, none⟩) U.C cap1) U.C (iv (rwL U j)) ∧ Below w.heap.size w w' := by
  have := clone_code g0 c0 (rwL U j) w (by rw [rwL_len]; exact h0) (by rw [rwL_len]; omega) (fun i hi => by rw [rwL_len] at hi; rw [hc i hi, rwL_get U j i hi]) hg
  rw [rwL_len] at this
  exact this

set_option maxRecDepth 100000 in
set_option maxHeartbeats 4000000 in
theorem ltable_code (lb : Nat) (U : Tab) (w : World) (hL : ∃ vn va, w.heap[lb]? = some (.cells (tabArr (clArr U.cls 256) vn va) 56 (0, 0)) ∧ TabR w vn va U) (hN0 : 0 < U.N) (hN : U.N ≤ 250) (hC0 : 0 < U.C) (hC : U.C ≤ 256) :
    Calls Try.prog 17 #[.pointer (some ⟨lb, 0, none⟩)] w fun e w' => Below w.heap.size w w' ∧ ∃ vn va, e = .returned (.agg (tabArr (clArr U.cls 256) vn va)) ∧ TabR w' vn va U := by
  obtain ⟨_, _, bL, ⟨⟨gn, cap, rfl, lgn, hrow⟩, ⟨ga, capa, rfl, lga, hacc⟩⟩⟩ := hL
  have BL := hide bL
  have HROW := hide hrow
  have HACC := hide hacc
  have llb := lt_of_block bL
  clear bL hrow hacc
  have hcs : (clArr U.cls 256).size = 256 := clArr_size _ _
  go_enter Try.func17, Try.ntmps17
  go_upto_region 0 with fail
  apply wp_region_lit
  refine allocZ rfl _ rfl _ infoTab ?_
  simp only [Act.put, List.setIfInBounds_toArray, List.set_cons_zero, List.set_cons_succ]
  have k1 : Kp [] w (w.alloc (.cells (Value.agg (tabArr z256 nilV nilV)).cells 46 (0, 0))) := (Kp.refl [] w).alloc _
  have b1 : (w.alloc (.cells (Value.agg (tabArr z256 nilV nilV)).cells 46 (0, 0))).heap[w.heap.size]? = some (.cells (tabArr z256 nilV nilV) 46 (0, 0)) := by rw [blk_alloc, if_pos rfl]; rfl
  have s1 : (w.alloc (.cells (Value.agg (tabArr z256 nilV nilV)).cells 46 (0, 0))).heap.size = w.heap.size + 1 := size_alloc _ _
  generalize w.alloc (.cells (Value.agg (tabArr z256 nilV nilV)).cells 46 (0, 0)) = W at *
  have K1 := hide k1
  have B1 := hide b1
  have bLW := hide (k1.keep BL.out (by simp))
  clear k1 b1
  go_upto_region 1 with fail
  rename_i K HK
  have rest : ∀ (W9 : World) (tb g1 cap1 : Nat), TabQ W9 tb (clArr U.cls 256) nilV (.slice (some ⟨g1, 0, none⟩) U.N cap1) U.C [] [] (acL U) → Kp [] W W9 → W.heap.size ≤ tb → K ⟨#[.pointer (some ⟨lb, 0, none⟩), undef, .pointer (some ⟨w.heap.size, 0, none⟩), .pointer (some ⟨tb, 0, none⟩), undef, undef, .pointer (some ⟨lb, 0, none⟩), .pointer (some ⟨lb, 0, none⟩), .pointer (some ⟨lb, 0, none⟩), .pointer (some ⟨lb, 0, none⟩), .agg (clArr U.cls 256), .pointer (some ⟨lb, 0, none⟩), .pointer (some ⟨lb, 0, none⟩), .pointer (some ⟨lb, 0, none⟩), .pointer (some ⟨lb, 257, none⟩), .slice (some ⟨ga, 0, none⟩) U.N capa, .slice (some ⟨g1, 0, none⟩) U.N cap1, .agg (tabArr (clArr U.cls 256) nilV (.slice (some ⟨g1, 0, none⟩) U.N cap1)), undef, undef, undef, undef, undef, undef, undef, undef, undef, undef, undef, undef, undef, undef, undef, undef, undef, undef, undef], []⟩ W9 := by
    intro W9 tb g1 cap1 tq k9 ltb
    refine HK _ _ ?_
    clear HK
    have TQ := hide tq
    have K9 := hide k9
    have e256 : W9.cell? ⟨lb, 256, none⟩ = some (.slice (some ⟨gn, 0, none⟩) U.N cap) := by rw [cell_of_block (k9.keep bLW.out (by simp)), tabArr_256 hcs]
    clear tq k9
    go_wp2_with fail
    clear e256
    go_loopw [24] (fun s w' => ∃ (gs : List (Nat × Nat)) (rows : List (List Int)) (vn' : Value), s = .int .i64 gs.length ∧ gs.length ≤ U.N ∧ TabQ w' tb (clArr U.cls 256) vn' (.slice (some ⟨g1, 0, none⟩) U.N cap1) U.C gs rows (acL U) ∧ (∀ j, j < gs.length → ∀ k, k < U.C → (rows.getD j []).getD k 0 = U.nx j k) ∧ Kp [] W w' ∧ (∀ g, vn'.ownBlock = some g → W.heap.size ≤ g))
      (fun s _ => U.N - (intOf s).toNat)
    case atStart => exact ⟨[], [], nilV, rfl, by simp, TQ.out, by simp, K9.out, fun g e => by simp [Value.ownBlock] at e⟩
    case round =>
      obtain ⟨gs, rows, vn', rfl, hgl, tp, hrw, kp, hfn⟩ := hrel
      have TP' := hide tp
      have KP' := hide kp
      have HRW := hide hrw
      have HFN := hide hfn
      clear tp kp hrw hfn TQ K9
      by_cases hlt : gs.length < U.N
      · have hlt' : (gs.length : Int) < U.N := by omega
        obtain ⟨g0, c0, q1, q2, q3⟩ := HROW.out gs.length hlt
        have kw : Kp [] w wr := K1.out.trans KP'.out (by simp)
        have crow : wr.cell? ⟨gn, gs.length, none⟩ = some (.slice (some ⟨g0, 0, none⟩) U.C c0) := by rw [kw.cell lgn]; exact q1
        have KW := hide kw
        have Q3 := hide q3
        clear q1 q3 kw
        go_upto_region 5 with fail
        clear crow
        have c256 : wr.cell? ⟨tb, 256, none⟩ = some vn' := by rw [cell_of_block TP'.out.blk, tabArr_256 hcs]
        have ROW : Hid (∀ k, k < U.C → wr.drew.cell? ⟨g0, k, none⟩ = some (.int .i64 (U.nx gs.length k))) := fun k hk => by rw [KW.out.drew.cell q2]; exact Q3.out k hk
        have hg0 : g0 < wr.drew.heap.size := by have := KW.out.size; show g0 < wr.heap.size; omega
        obtain ⟨i0, hi0, hz0, hz1, hz2⟩ := info_parts infoRow
        have I0 := hide hi0
        have Z0 := hide hz0
        have Z1 := hide hz1
        have Z2 := hide hz2
        clear hi0 hz0 hz1 hz2
        go_region_law ((first | (refine step_append_lies _ (by rfl) _ _ _ (by rfl) 0 44 i0 _ 1 24 Try.underlying43 I0.out Z0.out Z1.out Z2.out rfl (by omega) vn' gs.length (gs.map (rq U.C)) (by rfl) (OWN2.out.alloc _) ⟨w2.heap.size, 0, none⟩ 1 1 [rq U.C (g, cp)] (by rfl) (by rfl) (World.news_of_block (cs := #[rq U.C (g, cp)]) (t := 44) (fr := (0, 0)) (heap_alloc_new w2 _)) (by simp [Value.oneCell']) (by omega) (by unfold maxLen; omega) (by omega) (by simp) (w2.heap.size + 1) (by simp) ?_; intro g2 cap2 w3 own1 grow1 at1 lt1; have B3 : w3.heap[tb]? = some (.cells (tabArr (clArr U.cls 256) vn' (.slice (some ⟨g1, 0, none⟩) U.N cap1)) 46 (0, 0)) := gkeep grow1 (b := tb) (by rw [blk_alloc, if_neg ntb2]; exact tab2.blk) (fun e => tab2.tbn e); have e256 : w3.cell? ⟨tb, 256, none⟩ = some vn' := (by rw [cell_of_block B3, tabArr_256 hcs]); have f256 := frozen_of_block B3 256) | (go_simp; go_at_call 24; refine (clone_row g0 c0 U gs.length _ hC0 hC ROW.out hg0).mono ?_; rintro _ w2 ⟨g, cp, rfl, hgb, hgo, h2⟩; have kp2 : Kp [] wr w2 := ((Kp.refl [] wr).drew).below h2; have tab2 := TP'.out.keep kp2; have d256 : w2.cell? ⟨tb, 256, none⟩ = some vn' := (by rw [cell_of_block tab2.blk, tabArr_256 hcs]); have ltb2 := lt_of_block tab2.blk; have ntb2 : tb ≠ w2.heap.size := Nat.ne_of_lt ltb2; have OWN2 := hide tab2.next)))
        all_goals
          have t3 := tab2.addRow hgo (rwL_len U gs.length) own1 grow1
          have k3 : Kp [] W (w3.setCell ⟨tb, 256, none⟩ (.slice (some ⟨g2, 0, none⟩) (gs.length + 1) cap2)) :=
            ((((KP'.out.trans kp2 (by simp)).alloc _).grew grow1 (fun k e => .inr (HFN.out k e)))).set (.inr ltb) _ _
          have hg2 : W.heap.size ≤ g2 := by
            rcases at1 with e | e
            · exact HFN.out _ e
            · have := KP'.out.size; have := kp2.size; omega
          have HT3 := hide t3
          have K3 := hide k3
          clear t3 k3 kp2 tab2 d256 ltb2 ntb2 OWN2 own1 grow1 at1 lt1 B3 e256 f256 c256 I0 Z0 Z1 Z2 hgo h2
          go_wp2
          refine ⟨⟨gs ++ [(g, cp)], rows ++ [rwL U gs.length], _, by simp, by simp; omega, HT3.out, fun j hj k hk => ?_, K3.out, fun x e => by simp [Value.ownBlock] at e; omega⟩, by simp [intOf]; omega⟩
          rw [List.length_append, List.length_singleton] at hj
          have hrl := TP'.out.len
          by_cases e : j = gs.length
          · rw [e, ← hrl, getD_snoc_eq, hrl]; exact rwL_get U _ k hk
          · rw [getD_snoc_lt (by omega)]; exact HRW.out j (by omega) k hk
      · have hlt' : ¬ (gs.length : Int) < U.N := by omega
        have hge : gs.length = U.N := by omega
        go_upto_region 7 with fail
        apply wp_region_lit
        have hts2 : (tabArr (clArr U.cls 256) vn' (.slice (some ⟨g1, 0, none⟩) U.N cap1)).size = 258 := tabArr_size hcs _ _
        refine loadAll rfl _ _ rfl TP'.out.blk rfl _ Try.underlying46 rfl (by rw [hts2]; exact infoTabS) ?_
        have bA : wr.heap[w.heap.size]? = some (.cells (tabArr z256 nilV nilV) 46 (0, 0)) := KP'.out.keep B1.out (by simp)
        refine storeAll rfl _ _ _ rfl bA rfl rfl (by rw [hts2, tabArr_size z256_size]) (by rw [hts2]; exact infoTabS) (tabArr_one' (clArr_one _ _) (own_oneCell' TP'.out.next) rfl) ?_
        intro w9 b9 k9 s9
        go_wp2
        have tp9 := TP'.out.kp k9 (by simp; omega) (other_of bA (by decide)) (other_of bA (by decide))
        have k9' : Kp [] w w9 := (K1.out.trans KP'.out (by simp)).trans k9 (by simp)
        refine bodyPost_ret (v := .agg (tabArr (clArr U.cls 256) vn' (.slice (some ⟨g1, 0, none⟩) U.N cap1))) (res_cell Try.results17 rfl b9 _ Try.underlying46 rfl (by rw [hts2]; exact infoTabS)) rfl ?_
        exact ⟨k9'.toBelow, vn', _, rfl, tp9.tabR hge (acL_len U) hN0 (fun j hj => acL_get U j hj) (fun j k hj hk => HRW.out j (by omega) k hk)⟩
  have REST := hide rest
  have LB := hide llb
  clear rest HK
  refine wp_region_held_drew (S := fun w' => w'.heap[lb]? = some (.cells (tabArr (clArr U.cls 256) (.slice (some ⟨gn, 0, none⟩) U.N cap) (.slice (some ⟨ga, 0, none⟩) U.N capa)) 56 (0, 0))) (by kernel_rfl) bLW.out (fun hHeld => ?_)
  refine wpAnyH_take (i := 0) (v := ?v0) rfl (by kernel_rfl) (by kernel_rfl) (by kernel_rfl) (fun _ _ _ h => h) (Or.inl ⟨by rfl, ?y0⟩) (by assumption) ?r0
  case y0 => intro w hSw; (try dsimp only at hSw); go_simp; first | done | with_reducible rfl
  case' r0 => simp only [Act.put, List.getElem_toArray, List.getElem_cons_zero, List.getElem_cons_succ, List.setIfInBounds_toArray, List.set_cons_zero, List.set_cons_succ]
  refine wpAnyH_take (i := 1) (v := ?v1) rfl (by kernel_rfl) (by kernel_rfl) (by kernel_rfl) (fun _ _ _ h => h) (Or.inl ⟨by rfl, ?y1⟩) (by assumption) ?r1
  case y1 => intro w hSw; (try dsimp only at hSw); go_simp; first | done | with_reducible rfl
  case' r1 => simp only [Act.put, List.getElem_toArray, List.getElem_cons_zero, List.getElem_cons_succ, List.setIfInBounds_toArray, List.set_cons_zero, List.set_cons_succ]
  refine wpAnyH_take (i := 2) (v := ?v2) rfl (by kernel_rfl) (by kernel_rfl) (by kernel_rfl) (fun _ _ _ h => h) (Or.inl ⟨by rfl, ?y2⟩) (by assumption) ?r2
  case y2 => intro w hSw; (try dsimp only at hSw); go_simp; first | done | with_reducible rfl
  case' r2 => simp only [Act.put, List.getElem_toArray, List.getElem_cons_zero, List.getElem_cons_succ, List.setIfInBounds_toArray, List.set_cons_zero, List.set_cons_succ]
  refine wpAnyH_take (i := 3) (v := ?v3) rfl (by kernel_rfl) (by kernel_rfl) (by kernel_rfl) (fun _ _ _ h => h) (Or.inl ⟨by rfl, ?y3⟩) (by assumption) ?r3
  case y3 => intro w hSw; (try dsimp only at hSw); go_simp; first | done | with_reducible rfl
  case' r3 => simp only [Act.put, List.getElem_toArray, List.getElem_cons_zero, List.getElem_cons_succ, List.setIfInBounds_toArray, List.set_cons_zero, List.set_cons_succ]
  refine wpAnyH_take (i := 4) (v := .agg (clArr U.cls 256)) rfl (by kernel_rfl) (by kernel_rfl) (by kernel_rfl) (fun _ _ _ h => h) (yieldsIf_arr rfl _ _ rfl lb 0 rfl (clArr U.cls 256) _ (fun w' h' j hj => by rw [cell_of_block h', Nat.zero_add, tabArr_lo hcs _ _ (by rw [hcs] at hj; exact hj)]) Try.underlying42 rfl (by rw [hcs]; exact infoClsS)) (by assumption) ?_
  simp only [Act.put, List.getElem_toArray, List.getElem_cons_zero, List.getElem_cons_succ, List.setIfInBounds_toArray, List.set_cons_zero, List.set_cons_succ]
  refine wpAnyH_take (i := 5) (v := ?v5) rfl (by kernel_rfl) (by kernel_rfl) (by kernel_rfl) (fun _ _ _ h => h) (Or.inl ⟨by rfl, ?y5⟩) (by assumption) ?r5
  case y5 => intro w hSw; (try dsimp only at hSw); go_simp; first | done | with_reducible rfl
  case' r5 => simp only [Act.put, List.getElem_toArray, List.getElem_cons_zero, List.getElem_cons_succ, List.setIfInBounds_toArray, List.set_cons_zero, List.set_cons_succ]
  refine wpAnyH_take (i := 6) (v := ?v6) rfl (by kernel_rfl) (by kernel_rfl) (by kernel_rfl) (fun _ _ _ h => h) (Or.inl ⟨by rfl, ?y6⟩) (by assumption) ?r6
  case y6 => intro w hSw; (try dsimp only at hSw); go_simp; first | done | with_reducible rfl
  case' r6 => simp only [Act.put, List.getElem_toArray, List.getElem_cons_zero, List.getElem_cons_succ, List.setIfInBounds_toArray, List.set_cons_zero, List.set_cons_succ]
  refine wpAnyH_take (i := 7) (v := ?v7) rfl (by kernel_rfl) (by kernel_rfl) (by kernel_rfl) (fun _ _ _ h => h) (Or.inl ⟨by rfl, ?y7⟩) (by assumption) ?r7
  case y7 => intro w hSw; (try dsimp only at hSw); go_simp; first | done | with_reducible rfl
  case' r7 => simp only [Act.put, List.getElem_toArray, List.getElem_cons_zero, List.getElem_cons_succ, List.setIfInBounds_toArray, List.set_cons_zero, List.set_cons_succ]
  refine wpAnyH_take (i := 8) (v := ?v8) rfl (by kernel_rfl) (by kernel_rfl) (by kernel_rfl) (fun _ _ _ h => h) (Or.inl ⟨by rfl, ?y8⟩) (by assumption) ?r8
  case y8 => intro w hSw; (try dsimp only at hSw); go_simp; first | done | with_reducible rfl
  case' r8 => simp only [Act.put, List.getElem_toArray, List.getElem_cons_zero, List.getElem_cons_succ, List.setIfInBounds_toArray, List.set_cons_zero, List.set_cons_succ]
  refine wpAnyH_take (i := 9) (v := ?v9) rfl (by kernel_rfl) (by kernel_rfl) (by kernel_rfl) (fun _ _ _ h => h) (Or.inl ⟨by rfl, ?y9⟩) (by assumption) ?r9
  case y9 => intro w hSw; have e257 : w.cell? ⟨lb, 257, none⟩ = some (.slice (some ⟨ga, 0, none⟩) U.N capa) := (by rw [cell_of_block hSw, tabArr_257 hcs]); (try dsimp only at hSw); go_simp; first | done | with_reducible rfl
  case' r9 => simp only [Act.put, List.getElem_toArray, List.getElem_cons_zero, List.getElem_cons_succ, List.setIfInBounds_toArray, List.set_cons_zero, List.set_cons_succ]
  refine wpAnyH_ready (rs := [10, 12]) (by kernel_rfl) (by simp) ?_
  refine AllReadyH.cons rfl (fun K9 hK => ?_) (AllReadyH.cons rfl (fun K9 hK => ?_) AllReadyH.nil)
  · go_simp
    refine (clone_ac ga capa U _ hN0 hN (fun i hi => by rw [K1.out.drew.cell lga]; exact HACC.out i hi) (by show ga < W.heap.size; omega)).mono ?_
    rintro _ w2 ⟨g1, cap1, rfl, hg1, hown, b2⟩
    have k2 : Kp [] W w2 := ((Kp.refl [] W).drew).below b2
    go_wp2_with fail
    refine hK.out _ _ ?hS (fun hHeld2 => ?_)
    case hS => exact k2.keep bLW.out (by simp)
    clear hK K9 hHeld
    refine wpAnyH_take (i := 11) (v := .agg (tabArr (clArr U.cls 256) nilV (.slice (some ⟨g1, 0, none⟩) U.N cap1))) rfl (by kernel_rfl) (by kernel_rfl) (by kernel_rfl) (fun _ _ _ h => h) (yieldsIf_buildTab rfl [(0, .tmp 10), (2, .tmp 16)] rfl _ (by show Instr.fill tabPlace (tabArr z256 nilV nilV) [(0, .agg (clArr U.cls 256)), (2, .slice (some ⟨g1, 0, none⟩) U.N cap1)] = some _; rw [fill_cls hcs z256_size, fill_acc hcs _ _ _ rfl]; rfl)) (by assumption) ?_
    simp only [Act.put, List.getElem_toArray, List.getElem_cons_zero, List.getElem_cons_succ, List.setIfInBounds_toArray, List.set_cons_zero, List.set_cons_succ]
    refine wpAnyH_ready (rs := [12]) (by kernel_rfl) (by simp) ?_
    refine AllReadyH.cons rfl (fun K9 hK => ?_) AllReadyH.nil
    refine ite_wanted rfl ?_
    refine wp_allocZ 46 rfl _ infoTab ?_
    simp only [Act.put, List.getElem_toArray, List.getElem_cons_zero, List.getElem_cons_succ, List.setIfInBounds_toArray, List.set_cons_zero, List.set_cons_succ]
    have k3 : Kp [] W (w2.alloc (.cells (Value.agg (tabArr z256 nilV nilV)).cells 46 (0, 0))) := k2.alloc _
    have bT : (w2.alloc (.cells (Value.agg (tabArr z256 nilV nilV)).cells 46 (0, 0))).heap[w2.heap.size]? = some (.cells (tabArr z256 nilV nilV) 46 (0, 0)) := by rw [blk_alloc, if_pos rfl]; rfl
    have own3 := owns_kp hown ((Kp.refl [] w2).alloc (.cells (Value.agg (tabArr z256 nilV nilV)).cells 46 (0, 0))) (by simp)
    have szT : W.heap.size ≤ w2.heap.size := k2.size
    refine hK.out _ _ ?hS (fun hHeld3 => ?_)
    case hS => exact k3.keep bLW.out (by simp)
    clear hK K9 hHeld2
    generalize w2.alloc (.cells (Value.agg (tabArr z256 nilV nilV)).cells 46 (0, 0)) = w3 at *
    generalize w2.heap.size = TB at *
    refine wpAnyH_ready (rs := [13]) (by kernel_rfl) (by simp) ?_
    refine AllReadyH.cons rfl (fun K9 hK => ?_) AllReadyH.nil
    refine ite_wanted rfl ?_
    refine wp_store_mid 46 (.tmp 3) (.tmp 17) rfl TB 0 (tabArr (clArr U.cls 256) nilV (.slice (some ⟨g1, 0, none⟩) U.N cap1)) rfl rfl (thereB bT 0 _ (by rw [tabArr_size hcs, tabArr_size z256_size]; omega)) (by rw [tabArr_size hcs]; exact infoTabS) (tabArr_one' (clArr_one _ _) rfl rfl) ?_
    have b4 : (w3.setCells TB 0 (tabArr (clArr U.cls 256) nilV (.slice (some ⟨g1, 0, none⟩) U.N cap1)).toList).heap[TB]? = some (.cells (tabArr (clArr U.cls 256) nilV (.slice (some ⟨g1, 0, none⟩) U.N cap1)) 46 (0, 0)) := by
      rw [blk_setCells TB _ 0 w3 _ _ _ bT, layAt_all _ _ (by rw [tabArr_size hcs, tabArr_size z256_size])]
    have k4 : Kp [TB] w3 (w3.setCells TB 0 (tabArr (clArr U.cls 256) nilV (.slice (some ⟨g1, 0, none⟩) U.N cap1)).toList) := kp_setCells TB _ 0 w3 w3 [TB] (by simp) (Kp.refl _ _)
    have own4 := owns_other own3 k4 (other_of bT (by decide))
    generalize w3.setCells TB 0 (tabArr (clArr U.cls 256) nilV (.slice (some ⟨g1, 0, none⟩) U.N cap1)).toList = w4 at *
    have k5 : Kp [] W w4 := k3.trans k4 (by simp; omega)
    refine hK.out _ _ ?hS (fun hHeld4 => ?_)
    case hS => exact k5.keep bLW.out (by simp)
    refine wpAnyH_done (by kernel_rfl) ?_ _
    exact REST.out w4 TB g1 cap1 ⟨hcs, b4, World.ownsRow_nil _ _ _ _, by rw [acL_len]; exact own4, rfl, fun i hi => by simp at hi⟩ k5 (by omega)
  · refine ite_wanted rfl ?_
    refine wp_allocZ 46 rfl _ infoTab ?_
    simp only [Act.put, List.getElem_toArray, List.getElem_cons_zero, List.getElem_cons_succ, List.setIfInBounds_toArray, List.set_cons_zero, List.set_cons_succ]
    have k2 : Kp [] W (W.drew.alloc (.cells (Value.agg (tabArr z256 nilV nilV)).cells 46 (0, 0))) := ((Kp.refl [] W).drew).alloc _
    have bT0 : (W.drew.alloc (.cells (Value.agg (tabArr z256 nilV nilV)).cells 46 (0, 0))).heap[W.heap.size]? = some (.cells (tabArr z256 nilV nilV) 46 (0, 0)) := by
      rw [blk_alloc, if_pos (show W.heap.size = W.drew.heap.size from rfl)]; rfl
    refine hK.out _ _ ?hS (fun hHeld2 => ?_)
    case hS => exact k2.keep bLW.out (by simp)
    clear hK K9 hHeld
    have es : W.drew.heap.size = W.heap.size := rfl
    rw [es]
    generalize W.drew.alloc (.cells (Value.agg (tabArr z256 nilV nilV)).cells 46 (0, 0)) = w2 at *
    refine wpAnyH_ready (rs := [10]) (by kernel_rfl) (by simp) ?_
    refine AllReadyH.cons rfl (fun K9 hK => ?_) AllReadyH.nil
    go_simp
    refine (clone_ac ga capa U _ hN0 hN (fun i hi => by rw [(K1.out.trans k2 (by simp)).cell lga]; exact HACC.out i hi) (by have := (K1.out.trans k2 (by simp)).size; omega)).mono ?_
    rintro _ w3 ⟨g1, cap1, rfl, hg1, hown, b2⟩
    have k3 : Kp [] W w3 := k2.below b2
    have bT : w3.heap[W.heap.size]? = some (.cells (tabArr z256 nilV nilV) 46 (0, 0)) := bkeep b2 bT0
    go_wp2_with fail
    refine hK.out _ _ ?hS (fun hHeld3 => ?_)
    case hS => exact k3.keep bLW.out (by simp)
    clear hK K9 hHeld2
    have own3 := hown
    have szT : W.heap.size ≤ W.heap.size := Nat.le_refl _
    refine wpAnyH_take (i := 11) (v := .agg (tabArr (clArr U.cls 256) nilV (.slice (some ⟨g1, 0, none⟩) U.N cap1))) rfl (by kernel_rfl) (by kernel_rfl) (by kernel_rfl) (fun _ _ _ h => h) (yieldsIf_buildTab rfl [(0, .tmp 10), (2, .tmp 16)] rfl _ (by show Instr.fill tabPlace (tabArr z256 nilV nilV) [(0, .agg (clArr U.cls 256)), (2, .slice (some ⟨g1, 0, none⟩) U.N cap1)] = some _; rw [fill_cls hcs z256_size, fill_acc hcs _ _ _ rfl]; rfl)) (by assumption) ?_
    simp only [Act.put, List.getElem_toArray, List.getElem_cons_zero, List.getElem_cons_succ, List.setIfInBounds_toArray, List.set_cons_zero, List.set_cons_succ]
    rw [s1] at bT szT
    generalize w.heap.size + 1 = TB at *
    refine wpAnyH_ready (rs := [13]) (by kernel_rfl) (by simp) ?_
    refine AllReadyH.cons rfl (fun K9 hK => ?_) AllReadyH.nil
    refine ite_wanted rfl ?_
    refine wp_store_mid 46 (.tmp 3) (.tmp 17) rfl TB 0 (tabArr (clArr U.cls 256) nilV (.slice (some ⟨g1, 0, none⟩) U.N cap1)) rfl rfl (thereB bT 0 _ (by rw [tabArr_size hcs, tabArr_size z256_size]; omega)) (by rw [tabArr_size hcs]; exact infoTabS) (tabArr_one' (clArr_one _ _) rfl rfl) ?_
    have b4 : (w3.setCells TB 0 (tabArr (clArr U.cls 256) nilV (.slice (some ⟨g1, 0, none⟩) U.N cap1)).toList).heap[TB]? = some (.cells (tabArr (clArr U.cls 256) nilV (.slice (some ⟨g1, 0, none⟩) U.N cap1)) 46 (0, 0)) := by
      rw [blk_setCells TB _ 0 w3 _ _ _ bT, layAt_all _ _ (by rw [tabArr_size hcs, tabArr_size z256_size])]
    have k4 : Kp [TB] w3 (w3.setCells TB 0 (tabArr (clArr U.cls 256) nilV (.slice (some ⟨g1, 0, none⟩) U.N cap1)).toList) := kp_setCells TB _ 0 w3 w3 [TB] (by simp) (Kp.refl _ _)
    have own4 := owns_other own3 k4 (other_of bT (by decide))
    generalize w3.setCells TB 0 (tabArr (clArr U.cls 256) nilV (.slice (some ⟨g1, 0, none⟩) U.N cap1)).toList = w4 at *
    have k5 : Kp [] W w4 := k3.trans k4 (by simp; omega)
    refine hK.out _ _ ?hS (fun hHeld4 => ?_)
    case hS => exact k5.keep bLW.out (by simp)
    refine wpAnyH_done (by kernel_rfl) ?_ _
    exact REST.out w4 TB g1 cap1 ⟨hcs, b4, World.ownsRow_nil _ _ _ _, by rw [acL_len]; exact own4, rfl, fun i hi => by simp at hi⟩ k5 (by omega)
end Go.Proofs.Ytbjdkbcfpmeneaa
