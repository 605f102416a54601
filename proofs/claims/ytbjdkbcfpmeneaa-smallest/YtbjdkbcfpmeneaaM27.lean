/- What is proved here: what the merger's walk does. -/
import Derived.Test.YtbjdkbcfpmeneaaRows
import Derived.Test.YtbjdkbcfpmeneaaM26
namespace Go.Proofs.Ytbjdkbcfpmeneaa
set_option linter.unusedVariables false
set_option linter.unusedSimpArgs false
open Go.RowKit Go.ChangeMaps

theorem getD_el {l : List Int} {k : Nat} (h : k < l.length) : l.getD k 0 = l[k] := by rw [List.getD_eq_getElem?_getD, List.getElem?_eq_getElem h]; rfl
abbrev nilV : Value := .slice none 0 0
structure Wk (w : World) (vr va : Value) (C : Nat) (rvs : List Value) (rows : List (List Int)) (accs : List Int) : Prop where
  next : w.ownsRow 0 44 1 vr rvs.length rvs
  acc : w.ownsRow 0 3 1 va accs.length (iv accs)
  len : rows.length = rvs.length
  row : ∀ j, j < rvs.length → ∃ g cap, rvs.getD j nilV = .slice (some ⟨g, 0, none⟩) C cap ∧ w.ownsRow 0 3 1 (.slice (some ⟨g, 0, none⟩) C cap) C (iv (rows.getD j [])) ∧ va.ownBlock ≠ some g
def InW (vr va : Value) (rvs : List Value) (g : Nat) : Prop := vr.ownBlock = some g ∨ va.ownBlock = some g ∨ ∃ j, j < rvs.length ∧ (rvs.getD j nilV).ownBlock = some g
section
variable {w : World} {vr va : Value} {C : Nat} {rvs : List Value} {rows : List (List Int)} {accs : List Int}
theorem Wk.kp {w' : World} {xs : List Nat} (h : Wk w vr va C rvs rows accs) (hk : Kp xs w w') (hx : ∀ x ∈ xs, ¬ InW vr va rvs x) : Wk w' vr va C rvs rows accs := by
  refine ⟨owns_kp h.next hk (fun g e hm => hx g hm (.inl e)), owns_kp h.acc hk (fun g e hm => hx g hm (.inr (.inl e))), h.len, fun j hj => ?_⟩
  obtain ⟨g, cap, e, o, n⟩ := h.row j hj
  exact ⟨g, cap, e, owns_kp o hk (fun g' e' hm => hx g' hm (.inr (.inr ⟨j, hj, by rw [e]; exact e'⟩))), n⟩
theorem Wk.lt (h : Wk w vr va C rvs rows accs) {g : Nat} (hg : InW vr va rvs g) : g < w.heap.size := by
  rcases hg with e | e | ⟨j, hj, e⟩
  · exact (h.next.lt g e).2
  · exact (h.acc.lt g e).2
  · obtain ⟨g', cap, e', o, n⟩ := h.row j hj
    rw [e'] at e
    exact (o.lt g e).2
theorem Wk.addRow {w3 : World} {o : Obj} {g cap g1 cap1 : Nat} {r : List Int} (h : Wk w vr va C rvs rows accs) (hr : w.ownsRow 0 3 1 (.slice (some ⟨g, 0, none⟩) C cap) C (iv r)) (hva : va.ownBlock ≠ some g)
    (own1 : w3.ownsRow 0 44 1 (.slice (some ⟨g1, 0, none⟩) (rvs.length + 1) cap1) (rvs.length + 1) (rvs ++ [.slice (some ⟨g, 0, none⟩) C cap])) (grow1 : (w.alloc o).grownBy w3 vr.ownBlock) :
    Wk w3 (.slice (some ⟨g1, 0, none⟩) (rvs.length + 1) cap1) va C (rvs ++ [.slice (some ⟨g, 0, none⟩) C cap]) (rows ++ [r]) accs ∧ Kp vr.ownBlock.toList w w3 := by
  have kA : Kp vr.ownBlock.toList w w3 := (((Kp.refl _ w).alloc o).grew grow1 (fun k e => .inl (by simp [e])))
  have ne : ∀ {v : Value} {n : Nat} {xs : List Value} {x : Nat}, w.ownsRow 0 3 1 v n xs → v.ownBlock = some x → x ∉ vr.ownBlock.toList := fun {v n xs x} q e hm => by
    simp at hm
    obtain ⟨c1, f1, q1⟩ := own_kind h.next hm
    obtain ⟨c2, f2, q2⟩ := own_kind q e
    exact ne_of_kind q1 q2 (by decide) rfl
  refine ⟨⟨by rw [List.length_append, List.length_singleton]; exact own1, owns_kp h.acc kA (fun g e hm => ne h.acc e hm), by simp [h.len], fun j hj => ?_⟩, kA⟩
  rw [List.length_append, List.length_singleton] at hj
  by_cases e : j = rvs.length
  · subst e
    refine ⟨g, cap, getD_snoc_eq, ?_, hva⟩
    rw [← h.len, getD_snoc_eq]
    exact owns_kp hr kA (fun g e hm => ne hr e hm)
  · obtain ⟨g', cap', e1, o1, n1⟩ := h.row j (by omega)
    refine ⟨g', cap', by rw [getD_snoc_lt (by omega)]; exact e1, ?_, n1⟩
    rw [getD_snoc_lt (by rw [h.len]; omega)]
    exact owns_kp o1 kA (fun g e hm => ne o1 e hm)
theorem Wk.addAcc {w3 : World} {o : Obj} {g1 cap1 : Nat} {r : Int} (h : Wk w vr va C rvs rows accs)
    (own1 : w3.ownsRow 0 3 1 (.slice (some ⟨g1, 0, none⟩) (accs.length + 1) cap1) (accs.length + 1) (iv accs ++ [.int .i64 r])) (grow1 : (w.alloc o).grownBy w3 va.ownBlock) (at1 : va.ownBlock = some g1 ∨ g1 = w.heap.size + 1) :
    Wk w3 vr (.slice (some ⟨g1, 0, none⟩) (accs.length + 1) cap1) C rvs rows (accs ++ [r]) ∧ Kp va.ownBlock.toList w w3 := by
  have kA : Kp va.ownBlock.toList w w3 := (((Kp.refl _ w).alloc o).grew grow1 (fun k e => .inl (by simp [e])))
  refine ⟨⟨owns_kp h.next kA (fun g e hm => ?_), ?_, h.len, fun j hj => ?_⟩, kA⟩
  · simp at hm
    obtain ⟨c1, f1, q1⟩ := own_kind h.next e
    obtain ⟨c2, f2, q2⟩ := own_kind h.acc hm
    exact ne_of_kind q1 q2 (by decide) rfl
  · rw [List.length_append, List.length_singleton, show iv (accs ++ [r]) = iv accs ++ [.int .i64 r] by simp [iv]]; exact own1
  · obtain ⟨g', cap', e1, o1, n1⟩ := h.row j hj
    refine ⟨g', cap', e1, owns_kp o1 kA (fun g e hm => ?_), ?_⟩
    · simp only [Value.ownBlock, Option.some.injEq] at e
      subst e
      simp at hm
      exact n1 hm
    · intro e
      simp only [Value.ownBlock, Option.some.injEq] at e
      subst e
      rcases at1 with q | q
      · exact n1 q
      · have := (o1.lt g1 rfl).2; omega
theorem Wk.rowsR (h : Wk w vr va C rvs rows accs) {nx : Nat → Nat → Int} (hpos : 0 < rvs.length) (hrl : ∀ j, j < rvs.length → (rows.getD j []).length = C) (hnx : ∀ j k, j < rvs.length → k < C → (rows.getD j []).getD k 0 = nx j k) : RowsR w vr rvs.length C nx := by
  obtain ⟨g, cap, e⟩ : ∃ g cap, vr = .slice (some ⟨g, 0, none⟩) rvs.length cap := by
    rcases h.next.2 with ⟨_, e⟩ | ⟨g, cap, cur, e, _⟩
    · omega
    · exact ⟨g, cap, e⟩
  subst e
  refine ⟨g, cap, rfl, (h.next.lt g rfl).2, fun i hi => ?_⟩
  obtain ⟨g', cap', e1, o1, _⟩ := h.row i hi
  refine ⟨g', cap', ?_, (o1.lt g' rfl).2, fun k hk => ?_⟩
  · rw [h.next.cellAt i (by omega), ← e1, List.getD_eq_getElem?_getD, List.getElem?_eq_getElem hi]; rfl
  · have hkl : k < (rows.getD i []).length := by rw [hrl i hi]; exact hk
    rw [o1.cellAt k (by omega), List.getElem?_map, List.getElem?_eq_getElem hkl, ← hnx i k hi hk, getD_el hkl]; rfl
end

abbrev iN (n : Nat) : Value := intV n
theorem iN_inj {a b : Nat} (h : iN a = iN b) : a = b := by simp only [iN, intV, Value.int.injEq, true_and] at h; omega
theorem addK_ws (ws : List Nat) (v : Nat) : ∃ ws', addK (ws.map iN) (iN v) = ws'.map iN ∧ ((v ∈ ws ∧ ws' = ws) ∨ (v ∉ ws ∧ ws' = ws ++ [v])) := by
  by_cases h : v ∈ ws
  · exact ⟨ws, addK_old (List.mem_map.2 ⟨v, h, rfl⟩), .inl ⟨h, rfl⟩⟩
  · refine ⟨ws ++ [v], ?_, .inr ⟨h, rfl⟩⟩
    rw [addK_new, List.map_append]
    · rfl
    · intro hm
      obtain ⟨u, hu, e⟩ := List.mem_map.1 hm
      exact h (iN_inj e ▸ hu)
theorem ws_at {ws : List Nat} {i v : Nat} (h : (ws.map iN)[i]? = some (iN v)) : ws[i]? = some v := by
  rw [List.getElem?_map] at h
  cases e : ws[i]? with
  | none => rw [e] at h; cases h
  | some u => rw [e] at h; rw [iN_inj (Option.some.inj h)]
theorem ws_few {ws : List Nat} {N : Nat} (hn : ws.Nodup) (h : ∀ s ∈ ws, s < N) : ws.length ≤ N := few_nats N ws hn h

/- What walk hands out. -/
structure WEnd (T : Tab) (ls : List Int) (ws : List Nat) (nx : Nat → Nat → Int) (lo : Nat) (vr va : Value) (w : World) : Prop where
  inv : WInv T ls ws nx ws.length 0
  rows : RowsR w vr ws.length T.C nx
  acc : ∃ accs : List Int, accs.length = ws.length ∧ w.ownsRow 0 3 1 va accs.length (iv accs) ∧ ∀ j, j < ws.length → accs.getD j 0 = T.ac (ws.getD j 0)
  fra : ∀ g, va.ownBlock = some g → lo ≤ g

set_option maxRecDepth 100000 in
set_option maxHeartbeats 4000000 in
theorem walk_code (M gl : Nat) (vn va0 vo : Value) (T : Tab) (ls : List Int) (w : World) (hM : ∀ w', Kp [] w w' → MgR w' M vn va0 vo) (hT : TabR w vn va0 T) (hpl : Plain T) (hN : T.N ≤ 250) (hC : T.C ≤ 256) (hC0 : 0 < T.C) (hl : ls.length = T.N) (hgl : w.heap[gl]? = some (iO ls)) (hls : ∀ s, s < T.N → -1 ≤ ls.getD s 0 ∧ ls.getD s 0 ≤ s) :
    Calls Try.prog 41 #[.pointer (some ⟨M, 0, none⟩), .slice (some ⟨gl, 0, none⟩) T.N T.N] w fun e w' => ∃ (vr va : Value) (ws : List Nat) (nx : Nat → Nat → Int), e = .returned (.tuple #[vr, va]) ∧ WEnd T ls ws nx w.heap.size vr va w' ∧ Below w.heap.size w w' := by
  have HM := hide hM
  have HT := hide hT
  have HGL := hide hgl
  have HLS := hide hls
  have HLL := hide hl
  have hpos := hpl.pos
  have lgl := lt_of_block hgl
  clear hM hT hgl hls hl
  go_enter Try.func41, Try.ntmps41
  go_upto_region 4 with fail
  have kW : Kp [] w (w.alloc (.cells #[.map none, nilV, .int .i64 0] 143 (0, 0))) := (Kp.refl _ w).alloc _
  have bW : WlI (w.alloc (.cells #[.map none, nilV, .int .i64 0] 143 (0, 0))) w.heap.size [w.heap.size] [] 0 :=
    ⟨.map none, nilV, by rw [blk_alloc, if_pos rfl]; rfl, ⟨.inl ⟨rfl, rfl⟩, World.ownsRow_nil _ _ _ _, by simp, by simp, by simp⟩, by simp [nfoot, mapBlock, Value.ownBlock], by simp [nfoot, mapBlock, Value.ownBlock]⟩
  generalize (w.alloc (.cells #[.map none, nilV, .int .i64 0] 143 (0, 0))) = W at *
  have KW := hide kW
  have BW := hide bW
  have hB : w.heap.size < W.heap.size := bW.lt _ (by simp)
  clear kW bW
  go_wp2_with fail
  refine (BW.out.put 0 (int_key (wf64 (by omega) (by omega))) (by simp)).mono ?_
  rintro _ w1 ⟨i1, F1, rfl, hi1, wl1, kp1, fr1⟩
  rw [addK_new (by simp)] at wl1
  have F1s : ∀ g ∈ F1, w.heap.size ≤ g := fun g hg => by
    rcases fr1 g hg with e | e
    · rw [List.mem_singleton.1 e]; exact Nat.le_refl _
    · omega
  have K1 : Hid (Kp [] w w1) := KW.out.trans kp1 (by simp)
  have WL1 : Hid (WlI w1 w.heap.size F1 ([0].map iN) 0) := wl1
  have HF1 := hide F1s
  clear kp1 wl1 F1s hi1 fr1
  go_wp2_with fail
  refine (WL1.out.take (by simp) (by intro x hx; simp at hx; exact ⟨0, hx⟩) (by simp)).mono ?_
  rintro _ w2 ⟨a2, more2b, rfl, k2, hm2⟩
  have hm2' : more2b = true ∧ a2 = 0 ∧ WlI w2 w.heap.size F1 ([0].map iN) 1 := by
    rcases hm2 with ⟨e, h1, h2⟩ | ⟨e, h1, h2⟩
    · have h1' : intV 0 = intV a2 := by simpa using h1
      refine ⟨e, ?_, h2⟩
      have : iN 0 = iN a2 := h1'
      exact (iN_inj this).symm
    · simp at h1
  obtain ⟨rfl, rfl, wl2⟩ := hm2'
  have WL2 := hide wl2
  have K2 : Hid (Kp [] w w2) := K1.out.trans k2 (by simp)
  clear wl2 k2 hm2
  go_wp2_with fail
  go_loopw [6, 7, 9, 10] (fun s6 s7 s9 s10 w' => ∃ (vr va : Value) (st : Nat) (more : Bool) (F' : List Nat) (ws : List Nat) (tk : Nat) (rvs : List Value) (rows : List (List Int)) (accs : List Int) (nx : Nat → Nat → Int), s6 = vr ∧ s7 = va ∧ s9 = .int .i64 st ∧ s10 = .bool more ∧ WlI w' w.heap.size F' (ws.map iN) tk ∧ Wk w' vr va T.C rvs rows accs ∧ accs.length = rvs.length ∧ (∀ j, j < rvs.length → (rows.getD j []).length = T.C ∧ ∀ k, k < T.C → (rows.getD j []).getD k 0 = nx j k) ∧ (∀ j, j < rvs.length → accs.getD j 0 = T.ac (ws.getD j 0)) ∧ WInv T ls ws nx rvs.length 0 ∧ (∀ g, InW vr va rvs g → w.heap.size ≤ g ∧ g ∉ F') ∧ (∀ g ∈ F', w.heap.size ≤ g) ∧ Kp [] w w' ∧
      ((more = true ∧ tk = rvs.length + 1 ∧ ws[rvs.length]? = some st) ∨ (more = false ∧ tk = rvs.length ∧ rvs.length = ws.length)))
    (fun _ _ _ s10 w' => 2 * (300 - (intOf ((w'.cell? ⟨w.heap.size, 2, none⟩).getD undef)).toNat) + more2 s10)
  case atStart =>
    refine ⟨nilV, nilV, 0, true, F1, [0], 1, [], [], [], fun _ _ => 0, rfl, rfl, rfl, rfl, WL2.out, ⟨World.ownsRow_nil _ _ _ _, World.ownsRow_nil _ _ _ _, rfl, fun j hj => by simp at hj⟩, rfl, fun j hj => by simp at hj, fun j hj => by simp at hj, ?_, ?_, HF1.out, K2.out, .inl ⟨rfl, rfl, rfl⟩⟩
    · refine ⟨rfl, by simp, ?_, ?_, ?_, ?_, ?_⟩
      · intro s hs; rw [List.mem_singleton.1 hs]; exact hpos
      · rintro j k (z | ⟨_, z⟩)
        · simp at z
        · omega
      · intro i h1 h2; simp at h2; omega
      · intro t h1 h2; simp at h2; omega
      · rintro s k t u (z | ⟨_, z⟩)
        · simp at z
        · omega
    · intro g hg
      rcases hg with e | e | ⟨j, hj, _⟩
      · simp [Value.ownBlock] at e
      · simp [Value.ownBlock] at e
      · simp at hj
  case round =>
    obtain ⟨vr, va, st, more, F2, ws, tk, rvs, rows, accs, nx, e6, e7, rfl, rfl, wl, wk, hal, hrw, hac, winv, hdj, hF, kp, hm⟩ := hrel
    rw [e6, e7]
    clear e6 e7
    have WL := hide wl
    have WK := hide wk
    have HAL := hide hal
    have HRW := hide hrw
    have HAC := hide hac
    have WI := hide winv
    have HDJ := hide hdj
    have HF := hide hF
    have KP := hide kp
    have HTK := hide wl.taken
    have hfew := ws_few winv.nodup winv.lt
    clear wl wk hal hrw hac winv hdj hF kp
    rcases hm with ⟨rfl, htk, hx⟩ | ⟨rfl, htk, hn⟩
    · have HTK2 := hide htk
      have HX := hide hx
      have hnl : rvs.length < ws.length := (List.getElem?_eq_some_iff.1 hx).1
      have hst : st < T.N := WI.out.lt st (List.mem_of_getElem? hx)
      have mg := HM.out wr KP.out
      have c256 := mg.c256
      have c257 := mg.c257
      obtain ⟨⟨gn, capn, rfl, lgn, hrow⟩, ⟨ga, capa, rfl, lga, hacc⟩⟩ := HT.out.kp KP.out
      obtain ⟨gs, cs, r1, r2, r3⟩ := hrow st hst
      have hst' : (st : Int) < T.N := by omega
      have ca := hacc st hst
      have R3 := hide r3
      have CA := hide ca
      have htl : ((List.range T.C).map fun k => T.nx st k).length = T.C := by simp
      have hcl := clone_code gs cs ((List.range T.C).map fun k => T.nx st k) wr (by rw [htl]; exact hC0) (by rw [htl]; omega) (fun i hi => by
        rw [htl] at hi
        rw [r3 i hi, List.getD_eq_getElem?_getD]
        simp [hi]) r2
      rw [htl] at hcl
      have HCL := hide hcl
      clear htk hx mg hrow hacc r3 ca hcl htl
      go_wp2_with fail
      refine HCL.out.mono ?_
      rintro _ w3 ⟨gr, capr, rfl, lgr, own3, h3⟩
      have k3 : Kp [] wr w3 := (Kp.refl [] wr).below h3
      have OWN3 := hide own3
      have WL3 := hide (WL.out.kp k3 (by simp))
      have WK3 := hide (WK.out.kp k3 (by simp))
      have K3 : Hid (Kp [] w w3) := KP.out.trans k3 (by simp)
      have ngF : gr ∉ F2 := fun hm => by have := WL.out.lt _ hm; omega
      have ngW : ¬ InW vr va rvs gr := fun hm => by have := WK.out.lt hm; omega
      have hwg : w.heap.size ≤ gr := Nat.le_trans KP.out.size lgr
      clear own3 h3 k3 c256 r1
      go_wp2_with fail
      go_loopw [35] (fun s w' => ∃ (c : Nat) (F' : List Nat) (ws' : List Nat) (nx' : Nat → Nat → Int) (l : List Int), c ≤ T.C ∧ s = .int .i64 c ∧ WlI w' w.heap.size F' (ws'.map iN) tk ∧ Wk w' vr va T.C rvs rows accs ∧ l.length = T.C ∧ w'.ownsRow 0 3 1 (.slice (some ⟨gr, 0, none⟩) T.C capr) T.C (iv l) ∧ (∀ k, k < c → l.getD k 0 = nx' rvs.length k) ∧ (∀ k, c ≤ k → k < T.C → l.getD k 0 = T.nx st k) ∧ (∀ j k, j < rvs.length → nx' j k = nx j k) ∧ WInv T ls ws' nx' rvs.length c ∧ ws <+: ws' ∧ gr ∉ F' ∧ (∀ g, InW vr va rvs g → g ∉ F') ∧ (∀ g ∈ F', w.heap.size ≤ g) ∧ Kp [] w w')
        (fun s _ => T.C - (intOf s).toNat)
      case atStart =>
        refine ⟨0, F2, ws, nx, (List.range T.C).map fun k => T.nx st k, by omega, rfl, WL3.out, WK3.out, by simp, OWN3.out, fun k hk => by omega, fun k _ hk => ?_, fun j k _ => rfl, WI.out, ⟨[], by simp⟩, ngF, fun g hg => (HDJ.out g hg).2, HF.out, K3.out⟩
        rw [List.getD_eq_getElem?_getD]; simp [hk]
      case round =>
        obtain ⟨c, F4, ws4, nx4, l, hc, rfl, wl4, wk4, hll4, own4, hd1, hd2, hd3, wi4, pre4, ng4, nw4, hf4, k4⟩ := hrel
        have WL4 := hide wl4
        have WK4 := hide wk4
        have HLL4 := hide hll4
        have OWN4 := hide own4
        have HD1 := hide hd1
        have HD2 := hide hd2
        have HD3 := hide hd3
        have WI4 := hide wi4
        have PRE4 := hide pre4
        have NG4 := hide ng4
        have NW4 := hide nw4
        have HF4 := hide hf4
        have K4 := hide k4
        have hn4 : rvs.length < ws4.length := by
          have := pre4.length_le
          omega
        have hst4 : ws4.getD rvs.length 0 = st := by
          obtain ⟨t, rfl⟩ := pre4
          rw [List.getD_eq_getElem?_getD, List.getElem?_append_left hnl, HX.out]; rfl
        have HST4 := hide hst4
        have hfew4 := ws_few wi4.nodup wi4.lt
        clear hst4 wl4 wk4 hd1 hd3 wi4 pre4 ng4 nw4 hf4
        by_cases hcl : c < T.C
        · have hcl' : (c : Int) < T.C := by omega
          have ec := hd2 c (Nat.le_refl _) hcl
          have cr : wr.cell? ⟨gr, c, none⟩ = some (.int .i64 (T.nx st c)) := by
            have hcl2 : c < l.length := by rw [hll4]; exact hcl
            rw [own4.cellAt c (by omega), List.getElem?_map, List.getElem?_eq_getElem hcl2, ← ec, getD_el hcl2]; rfl
          have fr4 := own4.frozenAt c
          have rg := hpl.rng st c hst hcl
          clear hd2 ec own4 hll4
          by_cases hneg : T.nx st c = -1
          · have HNEG := hide hneg
            rw [hneg] at cr
            clear hneg rg k4
            go_wp2
            have kS : Kp [gr] wr (wr.setCell ⟨gr, c, none⟩ (.int .i64 (-1))) := (Kp.refl [gr] wr).set (by simp) _ _
            refine ⟨⟨c + 1, F4, ws4, upd nx4 rvs.length c (-1), l.set c (-1), by omega, by go_num, (WL4.out.kp kS (by intro x hx; rw [List.mem_singleton.1 hx]; exact NG4.out)), (WK4.out.kp kS (by intro x hx; rw [List.mem_singleton.1 hx]; exact ngW)), by rw [List.length_set]; exact HLL4.out, ?_, ?_, ?_, ?_, ?_, ?_, NG4.out, NW4.out, HF4.out, K4.out.set (.inr hwg) _ _⟩, by simp [intOf]; omega⟩
            · have := (OWN4.out.stored c (.int .i64 (-1))).1
              rw [show (iv l).set c (.int .i64 (-1)) = iv (l.set c (-1)) by simp [iv, List.map_set]] at this
              exact this
            · intro k hk
              by_cases e : k = c
              · subst e; rw [upd_same, getD_set_self _ _ _ (by rw [HLL4.out]; exact hcl)]
              · rw [upd_other _ _ (.inr e), getD_set_other _ _ _ _ (fun q => e q.symm)]; exact HD1.out k (by omega)
            · intro k hk hkC
              rw [getD_set_other _ _ _ _ (by omega)]; exact HD2.out k (by omega) hkC
            · intro j k hj
              rw [upd_other _ _ (.inl (by omega))]; exact HD3.out j k hj
            · exact WI4.out.stepN hn4 (by rw [HST4.out]; unfold leadTo; rw [if_pos HNEG.out]) (upd_same _ _ _ _) (fun j k hp => by
              rw [upd_other]
              rcases hp with z | ⟨_, z⟩
              · exact .inl (by omega)
              · exact .inr (by omega))
            · exact PRE4.out
          · obtain ⟨m, hm⟩ : ∃ m : Nat, T.nx st c = m := ⟨(T.nx st c).toNat, by omega⟩
            rw [hm] at cr
            have hmN : m < T.N := by omega
            have hmN' : (m : Int) < T.N := by omega
            have HM4 := hide hm
            have hmne : ((m : Int) != -1) = true := by simp <;> omega
            have bl := k4.keep HGL.out (by simp)
            have cl := icell bl m (by rw [HLL.out]; exact hmN)
            have hlm := HLS.out m hmN
            clear hm hneg rg bl k4
            by_cases hv : ls.getD m 0 = -1
            · rw [hv] at cl
              have HV4 := hide hv
              clear hv hlm
              go_wp2
              have kS : Kp [gr] wr (wr.setCell ⟨gr, c, none⟩ (.int .i64 (-1))) := (Kp.refl [gr] wr).set (by simp) _ _
              refine ⟨⟨c + 1, F4, ws4, upd nx4 rvs.length c (-1), l.set c (-1), by omega, by go_num, (WL4.out.kp kS (by intro x hx; rw [List.mem_singleton.1 hx]; exact NG4.out)), (WK4.out.kp kS (by intro x hx; rw [List.mem_singleton.1 hx]; exact ngW)), by rw [List.length_set]; exact HLL4.out, ?_, ?_, ?_, ?_, ?_, ?_, NG4.out, NW4.out, HF4.out, K4.out.set (.inr hwg) _ _⟩, by simp [intOf]; omega⟩
              · have := (OWN4.out.stored c (.int .i64 (-1))).1
                rw [show (iv l).set c (.int .i64 (-1)) = iv (l.set c (-1)) by simp [iv, List.map_set]] at this
                exact this
              · intro k hk
                by_cases e : k = c
                · subst e; rw [upd_same, getD_set_self _ _ _ (by rw [HLL4.out]; exact hcl)]
                · rw [upd_other _ _ (.inr e), getD_set_other _ _ _ _ (fun q => e q.symm)]; exact HD1.out k (by omega)
              · intro k hk hkC
                rw [getD_set_other _ _ _ _ (by omega)]; exact HD2.out k (by omega) hkC
              · intro j k hj
                rw [upd_other _ _ (.inl (by omega))]; exact HD3.out j k hj
              · exact WI4.out.stepN hn4 (by rw [HST4.out]; unfold leadTo; rw [if_neg (by rw [HM4.out]; omega), HM4.out, Int.toNat_natCast]; exact HV4.out) (upd_same _ _ _ _) (fun j k hp => by
                rw [upd_other]
                rcases hp with z | ⟨_, z⟩
                · exact .inl (by omega)
                · exact .inr (by omega))
              · exact PRE4.out
            · obtain ⟨v, hv2⟩ : ∃ v : Nat, ls.getD m 0 = v := ⟨(ls.getD m 0).toNat, by omega⟩
              rw [hv2] at cl
              have hvN : v < T.N := by omega
              have HV4 := hide hv2
              have hvne : ((v : Int) != -1) = true := by simp <;> omega
              clear hv hv2 hlm
              go_wp2_with fail
              refine (WL4.out.put (v : Int) (int_key (wf64 (by omega) (by omega))) (by rw [List.length_map]; omega)).mono ?_
              rintro _ w5 ⟨i5, F5, rfl, hi5, wl5, kp5, fr5⟩
              obtain ⟨ws5, e5, hw5⟩ := addK_ws ws4 v
              have e5' : addK (ws4.map iN) (intV v) = ws5.map iN := e5
              rw [e5'] at hi5 wl5
              have hi5' : ws5[i5]? = some v := ws_at hi5
              have HI5 := hide hi5'
              have HW5 := hide hw5
              have WL5 := hide wl5
              have WK5 := hide (WK4.out.kp kp5 (fun x hx hm => NW4.out x hm hx))
              have own5 := owns_kp OWN4.out kp5 (by intro g e hm; simp only [Value.ownBlock, Option.some.injEq] at e; subst e; exact NG4.out hm)
              have OWN5 := hide own5
              have K5 : Hid (Kp [] w w5) := K4.out.trans kp5 (fun y hy => .inr (HF4.out y hy))
              have s5 := K4.out.size
              have lgr4 : gr < wr.heap.size := (OWN4.out.lt gr rfl).2
              have NG5 : Hid (gr ∉ F5) := fun hm => by
                rcases fr5 gr hm with e | e
                · exact NG4.out e
                · omega
              have NW5 : Hid (∀ g, InW vr va rvs g → g ∉ F5) := fun g hg hm => by
                rcases fr5 g hm with e | e
                · exact NW4.out g hg e
                · have := WK4.out.lt hg; omega
              have HF5 : Hid (∀ g ∈ F5, w.heap.size ≤ g) := fun g hg => by
                rcases fr5 g hg with e | e
                · exact HF4.out g e
                · omega
              have c5 : w5.cell? ⟨gr, c, none⟩ = some (.int .i64 (l.getD c 0)) := by
                have hcl2 : c < l.length := by rw [HLL4.out]; exact hcl
                rw [own5.cellAt c (by omega), List.getElem?_map, List.getElem?_eq_getElem hcl2, getD_el hcl2]; rfl
              have f5 := own5.frozenAt c
              clear hi5 wl5 kp5 fr5 own5 e5 e5' hi5' hw5 cr fr4
              go_wp2
              have kS : Kp [gr] w5 (w5.setCell ⟨gr, c, none⟩ (.int .i64 (i5 : Int))) := (Kp.refl [gr] w5).set (by simp) _ _
              refine ⟨⟨c + 1, F5, ws5, upd nx4 rvs.length c (i5 : Int), l.set c (i5 : Int), by omega, by go_num, (WL5.out.kp kS (by intro x hx; rw [List.mem_singleton.1 hx]; exact NG5.out)), (WK5.out.kp kS (by intro x hx; rw [List.mem_singleton.1 hx]; exact ngW)), by rw [List.length_set]; exact HLL4.out, ?_, ?_, ?_, ?_, ?_, ?_, NG5.out, NW5.out, HF5.out, K5.out.set (.inr hwg) _ _⟩, by simp [intOf]; omega⟩
              · have := (OWN5.out.stored c (.int .i64 (i5 : Int))).1
                rw [show (iv l).set c (.int .i64 (i5 : Int)) = iv (l.set c (i5 : Int)) by simp [iv, List.map_set]] at this
                exact this
              · intro k hk
                by_cases e : k = c
                · subst e; rw [upd_same, getD_set_self _ _ _ (by rw [HLL4.out]; exact hcl)]
                · rw [upd_other _ _ (.inr e), getD_set_other _ _ _ _ (fun q => e q.symm)]; exact HD1.out k (by omega)
              · intro k hk hkC
                rw [getD_set_other _ _ _ _ (by omega)]; exact HD2.out k (by omega) hkC
              · intro j k hj
                rw [upd_other _ _ (.inl (by omega))]; exact HD3.out j k hj
              · exact WI4.out.stepS hn4 hcl (by rw [HST4.out]; unfold leadTo; rw [if_neg (by rw [HM4.out]; omega), HM4.out, Int.toNat_natCast, HV4.out]) ⟨m, hmN, HV4.out⟩ hvN HW5.out HI5.out (upd_same _ _ _ _) (fun j k hp => by
                rw [upd_other]
                rcases hp with z | ⟨_, z⟩
                · exact .inl (by omega)
                · exact .inr (by omega))
              · refine PRE4.out.trans ?_
                rcases HW5.out with ⟨_, e⟩ | ⟨_, e⟩
                · rw [e]; exact ⟨[], by simp⟩
                · rw [e]; exact ⟨_, rfl⟩
        · have hcN : c = T.C := by omega
          subst hcN
          obtain ⟨i0, hi0, hz0, hz1, hz2⟩ := info_parts infoRow1
          obtain ⟨j0, hj0, hy0, hy1, hy2⟩ := info_parts infoInt
          have I0 := hide hi0
          have Z0 := hide hz0
          have Z1 := hide hz1
          have Z2 := hide hz2
          have J0 := hide hj0
          have Y0 := hide hy0
          have Y1 := hide hy1
          have Y2 := hide hy2
          have hrl : rvs.length ≤ 250 := by omega
          have lgr4 : gr < wr.heap.size := (OWN4.out.lt gr rfl).2
          have sw4 := K4.out.size
          clear hi0 hz0 hz1 hz2 hj0 hy0 hy1 hy2 hd2 own4 hll4 k4 c257
          go_upto_region 18 with fail
          apply wp_region_lit
          iterate 9 go_step
          refine appendL rfl _ _ _ rfl 44 i0 _ 1 24 Try.underlying43 I0.out Z0.out Z1.out Z2.out rfl (by omega) vr rvs.length rvs rfl (WK4.out.next.alloc _) ⟨wr.heap.size, 0, none⟩ 1 1 [.slice (some ⟨gr, 0, none⟩) T.C capr] rfl rfl (World.news_of_block (cs := #[.slice (some ⟨gr, 0, none⟩) T.C capr]) (t := 44) (fr := (0, 0)) (heap_alloc_new wr _)) (by simp [Value.oneCell']) (by omega) (by unfold maxLen; omega) (by omega) (wr.heap.size + 1) (by simp) ?_
          intro g1 cap1 w6 own6 grow6 at6 lt6
          obtain ⟨wk6, k6⟩ := WK4.out.addRow OWN4.out (fun e => ngW (.inr (.inl e))) own6 grow6
          have hvr : ∀ x ∈ vr.ownBlock.toList, InW vr va rvs x := fun x hx => .inl (by simpa using hx)
          have WK6 := hide wk6
          have WL6 := hide (WL4.out.kp k6 (fun x hx => NW4.out x (hvr x hx)))
          have K6 : Hid (Kp [] w w6) := K4.out.trans k6 (fun y hy => .inr (HDJ.out y (hvr y hy)).1)
          have s6 := k6.size
          have IN6 : Hid (∀ g, InW (.slice (some ⟨g1, 0, none⟩) (rvs.length + 1) cap1) va (rvs ++ [.slice (some ⟨gr, 0, none⟩) T.C capr]) g → w.heap.size ≤ g ∧ g ∉ F4) := fun g hg => by
            rcases hg with e | e | ⟨j, hj, e⟩
            · simp only [Value.ownBlock, Option.some.injEq] at e
              subst e
              rcases at6 with q | q
              · exact ⟨(HDJ.out g1 (.inl q)).1, NW4.out g1 (.inl q)⟩
              · exact ⟨by omega, fun hm => by have := WL4.out.lt _ hm; omega⟩
            · exact ⟨(HDJ.out g (.inr (.inl e))).1, NW4.out g (.inr (.inl e))⟩
            · rw [List.length_append, List.length_singleton] at hj
              by_cases ej : j = rvs.length
              · subst ej
                rw [getD_snoc_eq] at e
                simp only [Value.ownBlock, Option.some.injEq] at e
                subst e
                exact ⟨hwg, NG4.out⟩
              · rw [getD_snoc_lt (by omega)] at e
                have hin : InW vr va rvs g := .inr (.inr ⟨j, by omega, e⟩)
                exact ⟨(HDJ.out g hin).1, NW4.out g hin⟩
          have c257 := (HM.out w6 K6.out).c257
          have ca6 : w6.cell? ⟨ga, st, none⟩ = some (.int .i64 (T.ac st)) := by
            obtain ⟨_, ⟨ga', capa', e', _, h'⟩⟩ := HT.out.kp K6.out
            cases e'
            exact h' st hst
          clear own6 grow6 at6 lt6 wk6 k6 hvr
          generalize hac6 : T.ac st = ac6 at *
          have HAC6 := hide hac6
          clear hac6
          go_upto_region 19 with fail
          apply wp_region_lit
          iterate 30 go_step
          refine appendL rfl _ _ _ rfl 3 j0 _ 1 8 Try.underlying44 J0.out Y0.out Y1.out Y2.out rfl (by omega) va accs.length (iv accs) rfl (WK6.out.acc.alloc _) ⟨w6.heap.size, 0, none⟩ 1 1 [.int .i64 ac6] rfl rfl (World.news_of_block (cs := #[.int .i64 ac6]) (t := 3) (fr := (0, 0)) (heap_alloc_new w6 _)) (by simp [Value.oneCell']) (by omega) (by rw [HAL.out]; unfold maxLen; omega) (by rw [HAL.out]; omega) (w6.heap.size + 1) (by simp) ?_
          intro g2 cap2 w7 own7 grow7 at7 lt7
          obtain ⟨wk7, k7⟩ := WK6.out.addAcc own7 grow7 at7
          have hva : ∀ x ∈ va.ownBlock.toList, InW (.slice (some ⟨g1, 0, none⟩) (rvs.length + 1) cap1) va (rvs ++ [.slice (some ⟨gr, 0, none⟩) T.C capr]) x := fun x hx => .inr (.inl (by simpa using hx))
          have WK7 := hide wk7
          have WL7 := hide (WL6.out.kp k7 (fun x hx => (IN6.out x (hva x hx)).2))
          have K7 : Hid (Kp [] w w7) := K6.out.trans k7 (fun y hy => .inr (IN6.out y (hva y hy)).1)
          have IN7 : Hid (∀ g, InW (.slice (some ⟨g1, 0, none⟩) (rvs.length + 1) cap1) (.slice (some ⟨g2, 0, none⟩) (accs.length + 1) cap2) (rvs ++ [.slice (some ⟨gr, 0, none⟩) T.C capr]) g → w.heap.size ≤ g ∧ g ∉ F4) := fun g hg => by
            rcases hg with e | e | e
            · exact IN6.out g (.inl e)
            · simp only [Value.ownBlock, Option.some.injEq] at e
              subst e
              rcases at7 with q | q
              · exact IN6.out g2 (.inr (.inl q))
              · exact ⟨by have := K6.out.size; omega, fun hm => by have := WL6.out.lt _ hm; omega⟩
            · exact IN6.out g (.inr (.inr e))
          clear own7 grow7 at7 lt7 wk7 k7 hva c257 ca6
          have hlw : rvs.length + 1 ≤ ws4.length := hn4
          go_wp2_with fail
          refine (WL7.out.take (by rw [List.length_map, HTK2.out]; exact hlw) (by intro x hx; obtain ⟨u, _, rfl⟩ := List.mem_map.1 hx; exact ⟨u, rfl⟩) (by rw [List.length_map]; omega)).mono ?_
          rintro _ w8 ⟨a8, more8, rfl, k8, hm8⟩
          have K8 : Hid (Kp [] w w8) := K7.out.trans k8 (by simp)
          have nBW : ∀ x ∈ [w.heap.size], ¬ InW (.slice (some ⟨g1, 0, none⟩) (rvs.length + 1) cap1) (.slice (some ⟨g2, 0, none⟩) (accs.length + 1) cap2) (rvs ++ [.slice (some ⟨gr, 0, none⟩) T.C capr]) x := fun x hx hm => by
            rw [List.mem_singleton.1 hx] at hm
            exact (IN7.out _ hm).2 WL7.out.mem
          have WK8 := hide (WK7.out.kp k8 nBW)
          have HM8 := hide hm8
          clear k8 hm8 nBW
          go_wp2
          have e1 := HTK.out
          have e2 := HTK2.out
          have rwT : ∀ j, j < (rvs ++ [Value.slice (some ⟨gr, 0, none⟩) T.C capr]).length → ((rows ++ [l]).getD j []).length = T.C ∧ ∀ k, k < T.C → ((rows ++ [l]).getD j []).getD k 0 = nx4 j k := fun j hj => by
            rw [List.length_append, List.length_singleton] at hj
            by_cases e : j = rvs.length
            · subst e
              rw [← WK.out.len, getD_snoc_eq]
              refine ⟨HLL4.out, fun k hk => ?_⟩
              rw [WK.out.len]; exact HD1.out k hk
            · rw [getD_snoc_lt (by rw [WK.out.len]; omega)]
              refine ⟨(HRW.out j (by omega)).1, fun k hk => ?_⟩
              rw [HD3.out j k (by omega)]; exact (HRW.out j (by omega)).2 k hk
          have acT : ∀ j, j < (rvs ++ [Value.slice (some ⟨gr, 0, none⟩) T.C capr]).length → (accs ++ [ac6]).getD j 0 = T.ac (ws4.getD j 0) := fun j hj => by
            rw [List.length_append, List.length_singleton] at hj
            by_cases e : j = rvs.length
            · subst e
              rw [HST4.out, HAC6.out, ← HAL.out, getD_snoc_eq]
            · rw [getD_snoc_lt (by rw [HAL.out]; omega), HAC.out j (by omega)]
              obtain ⟨t, et⟩ := PRE4.out
              rw [← et, List.getD_eq_getElem?_getD, List.getD_eq_getElem?_getD, List.getElem?_append_left (by omega)]
          have wiT : WInv T ls ws4 nx4 (rvs ++ [Value.slice (some ⟨gr, 0, none⟩) T.C capr]).length 0 := by
            rw [List.length_append, List.length_singleton]; exact WI4.out.next
          have lenT : (rvs ++ [Value.slice (some ⟨gr, 0, none⟩) T.C capr]).length = rvs.length + 1 := by simp
          rcases HM8.out with ⟨rfl, q1, q2⟩ | ⟨rfl, q1, q2⟩
          · refine ⟨⟨_, _, a8, true, F4, ws4, tk + 1, rvs ++ [.slice (some ⟨gr, 0, none⟩) T.C capr], rows ++ [l], accs ++ [ac6], nx4, rfl, rfl, rfl, rfl, q2, WK8.out, by simp [HAL.out], rwT, acT, wiT, IN7.out, HF4.out, K8.out, .inl ⟨rfl, by rw [lenT, e2], ?_⟩⟩, ?_⟩
            · rw [lenT, ← e2]; exact ws_at q1
            · have ql := (List.getElem?_eq_some_iff.1 q1).1
              rw [List.length_map] at ql
              rw [q2.taken, e1]
              simp [intOf, more2]
              omega
          · refine ⟨⟨_, _, a8, false, F4, ws4, tk, rvs ++ [.slice (some ⟨gr, 0, none⟩) T.C capr], rows ++ [l], accs ++ [ac6], nx4, rfl, rfl, rfl, rfl, q2, WK8.out, by simp [HAL.out], rwT, acT, wiT, IN7.out, HF4.out, K8.out, .inr ⟨rfl, by rw [lenT, e2], ?_⟩⟩, ?_⟩
            · rw [lenT, ← e2, q1, List.length_map]
            · rw [q2.taken, e1]
              simp [intOf, more2]
    · clear htk
      go_wp2
      go_ret2
      refine ⟨_, _, ws, nx, rfl, ⟨?_, ?_, ⟨accs, by rw [HAL.out, hn], WK.out.acc, fun j hj => HAC.out j (by omega)⟩, fun g e => (HDJ.out g (.inr (.inl e))).1⟩, KP.out.toBelow⟩
      · rw [← hn]; exact WI.out
      · rw [← hn]
        refine WK.out.rowsR ?_ (fun j hj => (HRW.out j hj).1) (fun j k hj hk => (HRW.out j hj).2 k hk)
        rw [hn]; exact (List.getElem?_eq_some_iff.1 WI.out.first).1
end Go.Proofs.Ytbjdkbcfpmeneaa
