/- What is proved here: what smallest.Table answers: the smallest table by which all texts lead to the same rules. -/
import Derived.Test.YtbjdkbcfpmeneaaRows
import Derived.Test.YtbjdkbcfpmeneaaM27
import Derived.Test.YtbjdkbcfpmeneaaM28
import Derived.Test.YtbjdkbcfpmeneaaM15
namespace Go.Proofs.Ytbjdkbcfpmeneaa
set_option linter.unusedVariables false
set_option linter.unusedSimpArgs false
open Go.RowKit Go.ChangeMaps

theorem z256_one' : z256.all (·.oneCell') = true := by
  have := clArr_one (fun _ => 0) 0
  rw [clArr_zero] at this
  exact this
theorem tabArr_one' {c : Array Value} {vn va : Value} (h : c.all (·.oneCell') = true) (h1 : vn.oneCell' = true) (h2 : va.oneCell' = true) : (tabArr c vn va).all (·.oneCell') = true := by
  unfold tabArr; rw [Array.all_append, h]; simp [h1, h2]
theorem mArr_one {c : Array Value} {vn va vo vm vs tk : Value} (h : c.all (·.oneCell') = true) (h1 : vn.oneCell' = true) (h2 : va.oneCell' = true) (h3 : vo.oneCell' = true) (h4 : vm.oneCell' = true) (h5 : vs.oneCell' = true) (h6 : tk.oneCell' = true) : (mArr c vn va vo vm vs tk).all (·.oneCell') = true := by
  unfold mArr; rw [Array.all_append, h]; simp [h1, h2, h3, h4, h5, h6]
theorem max_of (f : Nat → Nat) : ∀ n, 0 < n → ∃ m, (∀ k, k < n → f k < m) ∧ ∃ k, k < n ∧ f k + 1 = m := by
  intro n
  induction n with
  | zero => intro h; omega
  | succ n ih =>
    intro _
    by_cases h0 : n = 0
    · subst h0
      exact ⟨f 0 + 1, fun k hk => by rw [show k = 0 by omega]; omega, 0, by omega, rfl⟩
    · obtain ⟨m, h1, k0, h2, h3⟩ := ih (by omega)
      by_cases e : f n < m
      · refine ⟨m, fun k hk => ?_, k0, by omega, h3⟩
        by_cases q : k = n
        · rw [q]; exact e
        · exact h1 k (by omega)
      · refine ⟨f n + 1, fun k hk => ?_, n, by omega, rfl⟩
        by_cases q : k = n
        · rw [q]; omega
        · have := h1 k (by omega); omega
theorem JInv.joined {N C : Nat} {nx : Nat → Nat → Int} {num : Nat → Nat} {m : Nat} (h : JInv C nx N num) (h1 : ∀ k, k < C → num k < m) (h2 : ∃ k, k < C ∧ num k + 1 = m) : Joined N C nx num m := by
  refine ⟨h1, fun q hq => ?_, h.eq, h.ord⟩
  obtain ⟨k, hk, e⟩ := h2
  by_cases z : q = num k
  · exact ⟨k, hk, z.symm⟩
  · obtain ⟨k', a, b⟩ := h.ord k q hk (by omega)
    exact ⟨k', by omega, b⟩
/- One class of a table is set. -/
theorem TabP.setCls {w : World} {tb : Nat} {c : Array Value} {vn va : Value} {C : Nat} {gs : List Nat} {rows : List (List Int)} {accs : List Int} (h : TabP w tb c vn va C gs rows accs) {k : Nat} (hk : k < 256) (v : Value) : TabP (w.setCell ⟨tb, k, none⟩ v) tb (c.setIfInBounds k v) vn va C gs rows accs := by
  have kS : Kp [tb] w (w.setCell ⟨tb, k, none⟩ v) := (Kp.refl [tb] w).set (by simp) _ _
  refine ⟨by simp [h.cs], ?_, owns_kp h.next kS (fun g e hm => ?_), owns_kp h.acc kS (fun g e hm => ?_), h.len, fun i hi => ?_, h.dj⟩
  · rw [blk_set, if_pos rfl, h.blk]
    show some (Obj.cells ((tabArr c vn va).setIfInBounds k v) _ _) = _
    rw [tabArr_setLo h.cs _ _ _ hk]
  · rw [List.mem_singleton.1 hm] at e; exact h.tbn e
  · rw [List.mem_singleton.1 hm] at e; exact h.tba e
  · obtain ⟨a, b⟩ := h.row i hi
    refine ⟨kS.keep a (by simpa using (h.gn hi).2), b⟩
theorem clArr_next (cl : Nat → Nat) {k : Nat} (hk : k < 256) : (clArr cl k).setIfInBounds k (.int .i64 (cl k)) = clArr cl (k + 1) := by
  rw [clArr_set _ _ _ hk]
  congr 1
  funext c
  by_cases e : c = k
  · rw [if_pos e, e]
  · rw [if_neg e]
theorem own_oneCell' {w : World} {e : TypeId} {sz : Nat} {v : Value} {n : Nat} {xs : List Value} (h : w.ownsRow 0 e sz v n xs) : v.oneCell' = true := by
  rcases h.2 with ⟨rfl, _⟩ | ⟨g, cap, cur, rfl, _⟩
  · rfl
  · rfl
theorem infoRow : (Try.prog.info? 44).map (fun i => (i.zero, i.size, i.bytes)) = some (some (.slice none 0 0), 1, 24) := by kernel_rfl
abbrev zTb : Obj := .cells (tabArr z256 nilV nilV) 46 (0, 0)

/- A row of the table, made narrow. -/
theorem narrowed_row (g cap h capn r N C C' : Nat) (nx : Nat → Nat → Int) (num : Nat → Nat) (w : World) (hC0 : 0 < C) (hC : C ≤ 256) (hC' : 0 < C') (hCC : C' ≤ C) (hg : g < w.heap.size)
    (hc : ∀ k, k < C → w.cell? ⟨g, k, none⟩ = some (.int .i64 (nx r k))) (hd : w.heap[h]? = some (iO (numL C num))) (hr : r < N) (hJ : Joined N C nx num C') (h1 : ∀ k, k < C → num k < C') (h2 : ∃ k, k < C ∧ num k + 1 = C') :
    Calls Try.prog 44 #[.slice (some ⟨g, 0, none⟩) C cap, .slice (some ⟨h, 0, none⟩) C capn] w fun e w' => ∃ (b : Nat) (nl : List Int), e = .returned (rv C' b) ∧ w.heap.size ≤ b ∧ w'.heap[b]? = some (iO nl) ∧ nl.length = C' ∧ (∀ k, k < C → nl.getD (num k) 0 = nx r k) ∧ Below w.heap.size w w' := by
  have hl : ((List.range C).map (nx r)).length = C := by simp
  have hgl : ∀ k, k < C → ((List.range C).map (nx r)).getD k 0 = nx r k := fun k hk => by simp [List.getD, hk]
  have hnl : (numL C num).length = C := numL_len _ _
  have hng : ∀ k, k < C → (numL C num).getD k 0 = (num k : Int) := fun k hk => numL_get _ _ hk
  have q := narrowed_code g cap h capn ((List.range C).map (nx r)) (numL C num) C' w (by omega) (by omega) (by omega) hC' (by omega) hg (lt_of_block hd)
    (fun i hi => by rw [hl] at hi; rw [hgl i hi]; exact hc i hi) (fun i hi => by rw [hl] at hi; exact icell hd i (by omega))
    (fun i hi => by rw [hl] at hi; rw [hng i hi]; have := h1 i hi; omega)
    (by obtain ⟨k, hk, e⟩ := h2; exact ⟨k, by omega, by rw [hng k hk]; omega⟩)
    (fun i j hi hj e => by
      rw [hl] at hi hj
      rw [hng i hi, hng j hj] at e
      rw [hgl i hi, hgl j hj]
      exact (hJ.eq i j hi hj).1 (by omega) r hr)
  rw [hl] at q
  refine q.mono ?_
  rintro _ w' ⟨b, nl, rfl, hb, hbl, hlen, hv, hB⟩
  refine ⟨b, nl, rfl, hb, hbl, hlen, fun k hk => ?_, hB⟩
  have := hv k hk
  rw [hng k hk, hgl k hk] at this
  exact this

theorem own_cellAt {w : World} {e : TypeId} {v : Value} {n : Nat} {xs : List Value} (h : w.ownsRow 0 e 1 v n xs) {g : Nat} (hg : v.ownBlock = some g) {j : Nat} {u : Value} (hu : xs[j]? = some u) : w.cell? ⟨g, j, none⟩ = some u := by
  rcases h.2 with ⟨rfl, _⟩ | ⟨g', cap, cur, rfl, _, hb, _, _, _, ht⟩
  · simp [Value.ownBlock] at hg
  · simp [Value.ownBlock] at hg
    subst hg
    rw [cell_of_block hb, ← Array.getElem?_toList]
    rw [← ht, List.getElem?_take] at hu
    by_cases q : j < n * 1
    · rw [if_pos q] at hu; exact hu
    · rw [if_neg q] at hu; simp at hu
/- A grown table, as it is read. -/
theorem TabP.tabR {w : World} {tb : Nat} {c : Array Value} {vn va : Value} {C : Nat} {gs : List Nat} {rows : List (List Int)} {accs : List Int} {N : Nat} {cls : Nat → Nat} {ac : Nat → Int} (h : TabP w tb c vn va C gs rows accs) (hN : gs.length = N) (hA : accs.length = N) (hpos : 0 < N) (hac : ∀ j, j < N → accs.getD j 0 = ac j) :
    TabR w vn va ⟨cls, fun j m => (rows.getD j []).getD m 0, ac, N, C⟩ := by
  subst hN
  constructor
  · obtain ⟨g, cap, e⟩ : ∃ g cap, vn = .slice (some ⟨g, 0, none⟩) gs.length cap := by
      rcases h.next.2 with ⟨_, e⟩ | ⟨g, cap, cur, e, _⟩
      · omega
      · exact ⟨g, cap, e⟩
    subst e
    refine ⟨g, cap, rfl, (h.next.lt g rfl).2, fun i hi => ?_⟩
    obtain ⟨a, b⟩ := h.row i hi
    refine ⟨gs.getD i 0, C, own_cellAt h.next rfl ?_, lt_of_block a, fun k hk => icell a k (by rw [b]; exact hk)⟩
    have hi' : i < gs.length := hi
    simp [List.getD, hi']
  · obtain ⟨g, cap, e⟩ : ∃ g cap, va = .slice (some ⟨g, 0, none⟩) accs.length cap := by
      rcases h.acc.2 with ⟨_, e⟩ | ⟨g, cap, cur, e, _⟩
      · omega
      · exact ⟨g, cap, e⟩
    subst e
    refine ⟨g, cap, by rw [hA], (h.acc.lt g rfl).2, fun i hi => own_cellAt h.acc rfl ?_⟩
    have hi' : i < gs.length := hi
    have hi2 : i < accs.length := by omega
    show _ = some (Value.int .i64 (ac i))
    rw [← hac i hi']
    simp [iv, List.getD, hi2]

set_option maxRecDepth 100000 in
set_option maxHeartbeats 4000000 in
theorem smTable_code (vn va : Value) (T : Tab) (w : World) (hT : TabR w vn va T) (hpl : Plain T) (hN : T.N ≤ 250) (hC : T.C ≤ 256) (hC0 : 0 < T.C) :
    Calls Try.prog 27 #[.agg (tabArr (clArr T.cls 256) vn va)] w fun e w' => Below w.heap.size w w' ∧ ∃ (vn' va' : Value) (U : Tab), e = .returned (.agg (tabArr (clArr U.cls 256) vn' va')) ∧ TabR w' vn' va' U ∧ Canon U (fun x => T.out 0 x) ∧ U.N ≤ T.N ∧ U.C ≤ T.C := by
  have HT := hide hT
  have hcs := clArr_size T.cls 256
  obtain ⟨⟨gn, capn, rfl, lgn, _⟩, ⟨ga, capa, rfl, lga, _⟩⟩ := hT
  go_enter Try.func27, Try.ntmps27
  go_upto_region 0 with fail
  apply wp_region_lit
  refine boxB rfl _ _ rfl (.agg (tabArr (clArr T.cls 256) (.slice (some ⟨gn, 0, none⟩) T.N capn) (.slice (some ⟨ga, 0, none⟩) T.N capa))) rfl ?_
  refine allocZ rfl _ rfl _ infoTab ?_
  simp only [Act.put, List.setIfInBounds_toArray, List.set_cons_zero, List.set_cons_succ, size_alloc, Value.cells]
  have kW : Kp [] w ((w.alloc (.cells (tabArr (clArr T.cls 256) (.slice (some ⟨gn, 0, none⟩) T.N capn) (.slice (some ⟨ga, 0, none⟩) T.N capa)) 46 (0, 0))).alloc zTb) := ((Kp.refl _ w).alloc _).alloc _
  have bT : ((w.alloc (.cells (tabArr (clArr T.cls 256) (.slice (some ⟨gn, 0, none⟩) T.N capn) (.slice (some ⟨ga, 0, none⟩) T.N capa)) 46 (0, 0))).alloc zTb).heap[w.heap.size]? = some (.cells (tabArr (clArr T.cls 256) (.slice (some ⟨gn, 0, none⟩) T.N capn) (.slice (some ⟨ga, 0, none⟩) T.N capa)) 46 (0, 0)) := by
    rw [blk_alloc, size_alloc, if_neg (by omega), blk_alloc, if_pos rfl]
  have bR : ((w.alloc (.cells (tabArr (clArr T.cls 256) (.slice (some ⟨gn, 0, none⟩) T.N capn) (.slice (some ⟨ga, 0, none⟩) T.N capa)) 46 (0, 0))).alloc zTb).heap[w.heap.size + 1]? = some zTb := by
    rw [blk_alloc, size_alloc, if_pos rfl]
  have sW : ((w.alloc (.cells (tabArr (clArr T.cls 256) (.slice (some ⟨gn, 0, none⟩) T.N capn) (.slice (some ⟨ga, 0, none⟩) T.N capa)) 46 (0, 0))).alloc zTb).heap.size = w.heap.size + 2 := by rw [size_alloc, size_alloc]
  generalize ((w.alloc (.cells (tabArr (clArr T.cls 256) (.slice (some ⟨gn, 0, none⟩) T.N capn) (.slice (some ⟨ga, 0, none⟩) T.N capa)) 46 (0, 0))).alloc zTb) = W at *
  have KW := hide kW
  have BT := hide bT
  have BR := hide bR
  have SW := hide sW
  clear kW bT bR sW
  go_upto_region 1 with fail
  apply wp_region_lit
  have hts : (tabArr (clArr T.cls 256) (.slice (some ⟨gn, 0, none⟩) T.N capn) (.slice (some ⟨ga, 0, none⟩) T.N capa)).size = 258 := tabArr_size hcs _ _
  refine loadAll rfl _ _ rfl BT.out rfl _ Try.underlying46 rfl (by rw [hts]; exact infoTabS) ?_
  refine buildMrg rfl [(0, .tmp 12)] rfl (mArr (clArr T.cls 256) (.slice (some ⟨gn, 0, none⟩) T.N capn) (.slice (some ⟨ga, 0, none⟩) T.N capa) nilV (.map none) nilV (.int .i64 0)) (fill_mrg hcs _ _) ?_
  refine allocZ rfl _ rfl _ infoMrg ?_
  refine storeAll rfl _ _ _ rfl (b := W.heap.size) (c := mArr z256 nilV nilV nilV (.map none) nilV (.int .i64 0)) (e := 110) (by rw [blk_alloc, if_pos rfl]; rfl) rfl rfl (by rw [mArr_size hcs, mArr_size z256_size]) (by rw [mArr_size hcs]; exact infoMrgS) (mArr_one (clArr_one _ _) rfl rfl rfl rfl rfl rfl) ?_
  intro w1 b1 k1 s1
  simp only [Act.put, List.setIfInBounds_toArray, List.set_cons_zero, List.set_cons_succ]
  have k1' : Kp [] W w1 := (((Kp.refl [] W).alloc _).trans k1 (by simp))
  have BM1 := hide b1
  have K1 : Hid (Kp [] w w1) := KW.out.trans k1' (by simp)
  have BT1 := hide (k1'.keep BT.out (by simp))
  have BR1 := hide (k1'.keep BR.out (by simp))
  have hM : W.heap.size = w.heap.size + 2 := SW.out
  generalize W.heap.size = M at *
  have HMM := hide hM
  have hwM : w.heap.size + 1 < M := by omega
  clear b1 k1 s1 k1' BT BR KW SW hM
  go_wp2_with fail
  refine (trace_code M (clArr T.cls 256) (.slice (some ⟨gn, 0, none⟩) T.N capn) (.slice (some ⟨ga, 0, none⟩) T.N capa) (.map none) nilV (.int .i64 0) T w1 hcs BM1.out (fun w' k' => HT.out.kp (K1.out.trans k' (by simp; omega))) hpl hN hC).mono ?_
  rintro _ w2 ⟨rfl, vo, bks, V, L, hbl, og2, hL, bM2, kp2, fr2⟩
  have hM1 : M < w1.heap.size := lt_of_block BM1.out
  have nMO : ∀ x ∈ [M], ¬ InO vo T.C bks V x := fun x hx hm => by rw [List.mem_singleton.1 hx] at hm; have := fr2 _ hm; omega
  have K2 : Hid (Kp [] w w2) := K1.out.trans kp2 (by simp; omega)
  have AP2 : Hid (Apt w2 M (clArr T.cls 256) (.slice (some ⟨gn, 0, none⟩) T.N capn) (.slice (some ⟨ga, 0, none⟩) T.N capa) vo [M] [] 0) := ⟨.map none, nilV, bM2, ⟨.inl ⟨rfl, rfl⟩, World.ownsRow_nil _ _ _ _, by simp, by simp, by simp⟩, by simp [nfoot, mapBlock, Value.ownBlock], by simp [nfoot, mapBlock, Value.ownBlock]⟩
  have BT2 := hide (kp2.keep BT1.out (by simp; omega))
  have BR2 := hide (kp2.keep BR1.out (by simp; omega))
  have OG2 := hide og2
  have HL := hide hL
  have NMO := hide nMO
  have HBL := hide hbl
  clear og2 hL bM2 kp2 fr2 nMO hbl BM1 K1 BT1 BR1
  go_wp2_with fail
  refine (part_code M (clArr T.cls 256) (.slice (some ⟨gn, 0, none⟩) T.N capn) (.slice (some ⟨ga, 0, none⟩) T.N capa) vo T bks V L [M] w2 hcs AP2.out (fun w' k' => OG2.out.kp k' NMO.out) (fun w' k' => HT.out.kp (K2.out.trans k' (by simp; omega))) HBL.out HL.out hpl hN hC).mono ?_
  rintro _ w3 ⟨rfl, F3, ks3, tk3, hpt, hpin, ap3, kp3, fr3⟩
  have K3 : Hid (Kp [] w w3) := K2.out.trans kp3 (by simp; omega)
  have AP3 := hide ap3
  have BT3 := hide (kp3.keep BT2.out (by simp; omega))
  have BR3 := hide (kp3.keep BR2.out (by simp; omega))
  have HPT := hide hpt
  have HPIN := hide hpin
  clear hpt hpin ap3 kp3 fr3 AP2 OG2 HL NMO HBL BT2 BR2 K2
  go_wp2_with fail
  refine (leasts_code M (clArr T.cls 256) (.slice (some ⟨gn, 0, none⟩) T.N capn) (.slice (some ⟨ga, 0, none⟩) T.N capa) vo T.N capn gn F3 ks3 tk3 w3 hcs AP3.out HPIN.out hN).mono ?_
  rintro _ w4 ⟨gl, ls, rfl, lgl, bl4, hll, hls, h4⟩
  have k4 : Kp [] w3 w4 := (Kp.refl [] w3).below h4
  have K4 : Hid (Kp [] w w4) := K3.out.trans k4 (by simp)
  have AP4 := hide (AP3.out.kp k4 (by simp))
  have BT4 := hide (k4.keep BT3.out (by simp))
  have BR4 := hide (k4.keep BR3.out (by simp))
  have BL4 := hide bl4
  have HLL := hide hll
  have HLS := hide hls
  clear bl4 hll hls h4 k4 AP3 BT3 BR3 K3
  go_wp2_with fail
  refine (walk_code M gl (.slice (some ⟨gn, 0, none⟩) T.N capn) (.slice (some ⟨ga, 0, none⟩) T.N capa) vo T ls w4 (fun w' k' => (AP4.out.kp k' (by simp)).mgr hcs) (HT.out.kp K4.out) hpl hN hC hC0 HLL.out BL4.out (fun s hs => ⟨(HLS.out s hs).1, (HLS.out s hs).2.1⟩)).mono ?_
  rintro _ w5 ⟨vr, va5, ws, nx, rfl, we, h5⟩
  have k5 : Kp [] w4 w5 := (Kp.refl [] w4).below h5
  have K5 : Hid (Kp [] w w5) := K4.out.trans k5 (by simp)
  have BT5 := hide (k5.keep BT4.out (by simp))
  have BR5 := hide (k5.keep BR4.out (by simp))
  have shr := we.inv.shrunk hpl HPT.out HLS.out
  have SHR := hide shr
  have wsN := ws_few we.inv.nodup we.inv.lt
  have wpos := shr.pos
  have hnx5 : ∀ j k, j < ws.length → k < T.C → -1 ≤ nx j k ∧ nx j k < 1000 := fun j k hj hk => by
    rcases shr.row j k hj hk with ⟨_, e⟩ | ⟨_, i, e, hi, _⟩
    · omega
    · omega
  have HNX := hide hnx5
  have WE := hide we
  have s45 : w.heap.size + 1 < w4.heap.size := lt_of_block BR4.out
  clear we h5 k5 shr hnx5 AP4 BL4 HLL HPT HPIN HLS BT4 BR4 K4
  go_wp2_with fail
  refine (merged_code vr ws.length T.C nx w5 WE.out.rows wpos (by omega) hC0 hC HNX.out).mono ?_
  rintro _ w6 ⟨gm, num, rfl, lgm, bm6, jv, h6⟩
  have k6 : Kp [] w5 w6 := (Kp.refl [] w5).below h6
  have K6 : Hid (Kp [] w w6) := K5.out.trans k6 (by simp)
  have BT6 := hide (k6.keep BT5.out (by simp))
  have BR6 := hide (k6.keep BR5.out (by simp))
  have BM6 := hide bm6
  have JV := hide jv
  have RR6 := hide (WE.out.rows.kp k6)
  obtain ⟨accs, hal, hown, hac⟩ := WE.out.acc
  have OWN6 := hide (owns_kp hown k6 (by simp))
  have HAL := hide hal
  have HAC := hide hac
  have s56 : w.heap.size + 1 < w6.heap.size := lt_of_block BR6.out
  have hgm6 : gm < w6.heap.size := lt_of_block bm6
  have hvo : ∃ g cap, va5 = .slice (some ⟨g, 0, none⟩) accs.length cap := by
    rcases hown.2 with ⟨_, e⟩ | ⟨g, cap, cur, e, _⟩
    · omega
    · exact ⟨g, cap, e⟩
  obtain ⟨ga5, capa5, rfl⟩ := hvo
  have HFA : Hid (w4.heap.size ≤ ga5) := WE.out.fra _ rfl
  clear bm6 jv h6 k6 hal hown hac BT5 BR5 K5
  obtain ⟨C', hmax1, hmax2⟩ := max_of num T.C hC0
  have hC'C : C' ≤ T.C := by
    obtain ⟨k, hk, e⟩ := hmax2
    have := JV.out.le k hk
    omega
  have hC'0 : 0 < C' := by obtain ⟨k, hk, e⟩ := hmax2; omega
  have HJ := hide (JV.out.joined hmax1 hmax2)
  have HMX1 := hide hmax1
  have HMX2 := hide hmax2
  clear hmax1 hmax2
  go_upto_region 6 with fail
  apply wp_region_lit
  iterate 3 go_step
  refine buildTab rfl [(2, .tmp 23)] rfl (tabArr z256 nilV (.slice (some ⟨ga5, 0, none⟩) accs.length capa5)) (by show Instr.fill tabPlace (tabArr z256 nilV nilV) [(2, .slice (some ⟨ga5, 0, none⟩) accs.length capa5)] = some _; rw [fill_acc z256_size _ _ _ rfl]; rfl) ?_
  refine allocZ rfl _ rfl _ infoTab ?_
  have hz8 : (tabArr z256 nilV (.slice (some ⟨ga5, 0, none⟩) accs.length capa5)).size = 258 := tabArr_size z256_size _ _
  refine storeAll rfl _ _ _ rfl (b := w6.heap.size) (c := tabArr z256 nilV nilV) (e := 46) (by rw [blk_alloc, if_pos rfl]; rfl) rfl rfl (by rw [hz8, tabArr_size z256_size]) (by rw [hz8]; exact infoTabS) (tabArr_one' z256_one' rfl rfl) ?_
  intro w7 b7 k7 s7
  simp only [Act.put, List.setIfInBounds_toArray, List.set_cons_zero, List.set_cons_succ]
  have k7' : Kp [] w6 w7 := (((Kp.refl [] w6).alloc _).trans k7 (by simp))
  have tp7 : TabP w7 w6.heap.size (clArr (fun b => num (T.cls b)) 0) nilV (.slice (some ⟨ga5, 0, none⟩) accs.length capa5) C' [] [] accs :=
    ⟨clArr_size _ _, by rw [clArr_zero]; exact b7, World.ownsRow_nil _ _ _ _, owns_kp OWN6.out k7' (by simp), rfl, fun i hi => by simp at hi, fun g hg => by simp at hg⟩
  have TP7 := hide tp7
  have K7 := hide k7'
  clear b7 k7 s7 k7' tp7
  have lga5 : ga5 < w6.heap.size := (OWN6.out.lt ga5 rfl).2
  obtain ⟨gr, capr, rfl, lgr, hrow⟩ := RR6.out.rows
  have HROW := hide hrow
  clear hrow
  generalize htb : w6.heap.size = tb at *
  have HTB := hide htb
  clear htb
  go_upto_region 7 with fail
  apply wp_region_lit
  iterate 3 go_step
  refine loadMid rfl _ _ rfl (b := w.heap.size) (o := 0) (clArr T.cls 256) (fun j hj => ?_) rfl _ Try.underlying42 rfl (by rw [hcs]; exact infoClsS) ?_
  · rw [hcs] at hj
    rw [cell_of_block (K7.out.keep BT6.out (by simp)), Nat.zero_add, tabArr_lo hcs _ _ hj]
  simp only [Act.put, List.setIfInBounds_toArray, List.set_cons_zero, List.set_cons_succ]
  go_wp2_with fail
  go_loopw [27] (fun s w' => ∃ k : Nat, k ≤ 256 ∧ s = .int .i64 k ∧ TabP w' tb (clArr (fun b => num (T.cls b)) k) nilV (.slice (some ⟨ga5, 0, none⟩) accs.length capa5) C' [] [] accs ∧ Kp [] w6 w')
    (fun s _ => 256 - (intOf s).toNat)
  case atStart => exact ⟨0, by omega, rfl, TP7.out, K7.out⟩
  case round =>
    obtain ⟨k, hk, rfl, tp, kp⟩ := hrel
    have TP := hide tp
    have KP := hide kp
    by_cases hkl : k < 256
    · have hkl' : (k : Int) < 256 := by omega
      have hcl := hpl.cl k hkl
      have hcl' : (T.cls k : Int) < T.C := by omega
      have cm : wr.cell? ⟨gm, T.cls k, none⟩ = some (.int .i64 (num (T.cls k) : Int)) := by
        rw [icell (kp.keep BM6.out (by simp)) (T.cls k) (by rw [numL_len]; exact hcl), numL_get _ _ hcl]
      have ct : wr.cell? ⟨tb, k, none⟩ = some (.int .i64 (0 : Nat)) := by
        rw [cell_of_block tp.blk, tabArr_lo (clArr_size _ _) _ _ hkl, clArr_get _ _ _ hkl, if_neg (by omega)]
      have ft := frozen_of_block tp.blk k
      clear tp kp
      go_upto_region 9 with fail
      apply wp_region_lit
      iterate 3 go_step
      refine indexCls rfl _ _ rfl (clArr T.cls 256) rfl k rfl hkl (.int .i64 (T.cls k)) (by rw [clArr_get _ _ _ hkl, if_pos hkl]) ?_
      simp only [Act.put, List.setIfInBounds_toArray, List.set_cons_zero, List.set_cons_succ]
      go_wp2
      refine ⟨⟨k + 1, by omega, by go_num, ?_, KP.out.set (.inr (by rw [HTB.out]; exact Nat.le_refl _)) _ _⟩, by simp [intOf]; omega⟩
      have := TP.out.setCls hkl (.int .i64 (num (T.cls k) : Int))
      rw [clArr_next (fun b => num (T.cls b)) hkl] at this
      exact this
    · have hkN : k = 256 := by omega
      subst hkN
      clear tp kp
      go_wp2_with fail
      go_loopw [41] (fun s w' => ∃ (gs : List Nat) (rows : List (List Int)) (vn' : Value), s = .int .i64 gs.length ∧ gs.length ≤ ws.length ∧ TabP w' tb (clArr (fun b => num (T.cls b)) 256) vn' (.slice (some ⟨ga5, 0, none⟩) accs.length capa5) C' gs rows accs ∧
          (∀ j, j < gs.length → ∀ k, k < T.C → (rows.getD j []).getD (num k) 0 = nx j k) ∧ Kp [] w6 w' ∧ (∀ g, vn'.ownBlock = some g → tb ≤ g) ∧ ∀ g ∈ gs, tb ≤ g)
        (fun s _ => ws.length - (intOf s).toNat)
      case atStart => exact ⟨[], [], nilV, rfl, by simp, TP.out, by simp, KP.out, fun g e => by simp [Value.ownBlock] at e, by simp⟩
      case round =>
        obtain ⟨gs, rows, vn', rfl, hgl, tp, hrw, kp, hfn, hfg⟩ := hrel
        have TP' := hide tp
        have KP' := hide kp
        have HRW := hide hrw
        have HFN := hide hfn
        have HFG := hide hfg
        clear tp kp hrw hfn hfg TP KP
        by_cases hlt : gs.length < ws.length
        · have hlt' : (gs.length : Int) < ws.length := by omega
          obtain ⟨g0, c0, q1, q2, q3⟩ := HROW.out gs.length hlt
          have crow : wr.cell? ⟨gr, gs.length, none⟩ = some (.slice (some ⟨g0, 0, none⟩) T.C c0) := by rw [bkeepc' KP'.out (by rw [HTB.out]; exact lgr)]; exact q1
          have Q3 := hide q3
          clear q1 q3
          go_upto_region 15 with fail
          clear crow
          have c256 : wr.cell? ⟨tb, 256, none⟩ = some vn' := by rw [cell_of_block TP'.out.blk, tabArr_256 (clArr_size _ _)]
          have hst : w6.heap.size ≤ wr.heap.size := KP'.out.size
          have hst' : tb < wr.heap.size := lt_of_block TP'.out.blk
          have ROW : Hid (∀ k, k < T.C → wr.drew.cell? ⟨g0, k, none⟩ = some (.int .i64 (nx gs.length k))) := fun k hk => by rw [bkeepc' KP'.out.drew (by rw [HTB.out]; exact q2)]; exact Q3.out k hk
          have HGM : Hid (wr.drew.heap[gm]? = some (iO (numL T.C num))) := KP'.out.drew.keep BM6.out (by simp)
          have hg0 : g0 < wr.drew.heap.size := by show g0 < wr.heap.size; omega
          clear hst
          obtain ⟨i0, hi0, hz0, hz1, hz2⟩ := info_parts infoRow
          have I0 := hide hi0
          have Z0 := hide hz0
          have Z1 := hide hz1
          have Z2 := hide hz2
          clear hi0 hz0 hz1 hz2
          go_region_law ((first | (refine step_append_lies _ (by rfl) _ _ _ (by rfl) 0 44 i0 _ 1 24 Try.underlying43 I0.out Z0.out Z1.out Z2.out rfl (by omega) vn' gs.length (gs.map (rv C')) (by rfl) (OWN2.out.alloc _) ⟨w2.heap.size, 0, none⟩ 1 1 [rv C' g] (by rfl) (by rfl) (World.news_of_block (cs := #[rv C' g]) (t := 44) (fr := (0, 0)) (heap_alloc_new w2 _)) (by simp [Value.oneCell']) (by omega) (by unfold maxLen; omega) (by omega) (by simp) (w2.heap.size + 1) (by simp) ?_; intro g1 cap1 w3 own1 grow1 at1 lt1; have B3 : w3.heap[tb]? = some (.cells (tabArr (clArr (fun b => num (T.cls b)) 256) vn' (.slice (some ⟨ga5, 0, none⟩) accs.length capa5)) 46 (0, 0)) := gkeep grow1 (b := tb) (by rw [blk_alloc, if_neg ntb2]; exact tab2.blk) (fun e => tab2.tbn e); have e256 : w3.cell? ⟨tb, 256, none⟩ = some vn' := (by rw [cell_of_block B3, tabArr_256 (clArr_size _ _)]); have f256 := frozen_of_block B3 256) | (go_simp; go_at_call 44; refine (narrowed_row g0 c0 gm T.C gs.length ws.length T.C C' nx num _ hC0 hC hC'0 hC'C hg0 ROW.out HGM.out hlt HJ.out HMX1.out HMX2.out).mono ?_; rintro _ w2 ⟨g, r, rfl, hgb, hgo, hrl, hrv, h2⟩; have kp2 : Kp [] wr w2 := ((Kp.refl [] wr).drew).below h2; have tab2 := TP'.out.kp kp2 (by simp); have d256 : w2.cell? ⟨tb, 256, none⟩ = some vn' := (by rw [cell_of_block tab2.blk, tabArr_256 (clArr_size _ _)]); have ltb2 := lt_of_block tab2.blk; have ntb2 : tb ≠ w2.heap.size := Nat.ne_of_lt ltb2; have OWN2 := hide tab2.next; have hgb' : wr.heap.size ≤ g := hgb)))
          all_goals
            have hva : (Value.slice (some ⟨ga5, 0, none⟩) accs.length capa5).ownBlock ≠ some g := by
              intro e
              simp [Value.ownBlock] at e
              omega
            have t3 := (tab2.addRow hgo hrl hva own1 grow1 at1).1
            have k3 : Kp [] w6 (w3.setCell ⟨tb, 256, none⟩ (.slice (some ⟨g1, 0, none⟩) (gs.length + 1) cap1)) :=
              ((((KP'.out.trans kp2 (by simp)).alloc _).grew grow1 (fun k e => .inr (by rw [HTB.out]; exact HFN.out k e)))).set (.inr (by rw [HTB.out]; exact Nat.le_refl _)) _ _
            have hg1 : tb ≤ g1 := by
              rcases at1 with e | e
              · exact HFN.out _ e
              · omega
            have HT3 := hide t3
            have K3 := hide k3
            have HRV := hide hrv
            have hgt : tb ≤ g := by omega
            clear t3 k3 hrv kp2 tab2 d256 ltb2 ntb2 OWN2 own1 grow1 at1 lt1 B3 e256 f256 c256 I0 Z0 Z1 Z2 hgo hrl hva h2
            go_wp2
            refine ⟨⟨_, _, _, _, _, _, _, _, _, _, _, _, _, _, ?rel, rfl⟩, ?mes⟩
            case mes => simp [intOf]; omega
            case rel =>
              refine ⟨gs ++ [g], rows ++ [r], _, by simp, by simp; omega, HT3.out, fun j hj k hk => ?_, K3.out, fun x e => by simp [Value.ownBlock] at e; omega, fun x hx => ?_⟩
              · rw [List.length_append, List.length_singleton] at hj
                have hrl := TP'.out.len
                by_cases e : j = gs.length
                · rw [e, ← hrl, getD_snoc_eq, hrl]; exact HRV.out k hk
                · rw [getD_snoc_lt (by omega)]; exact HRW.out j (by omega) k hk
              · rcases List.mem_append.1 hx with e | e
                · exact HFG.out x e
                · rw [List.mem_singleton.1 e]; exact hgt
        · have hlt' : ¬ (gs.length : Int) < ws.length := by omega
          have hge : gs.length = ws.length := by omega
          go_upto_region 17 with fail
          apply wp_region_lit
          have hts2 : (tabArr (clArr (fun b => num (T.cls b)) 256) vn' (.slice (some ⟨ga5, 0, none⟩) accs.length capa5)).size = 258 := tabArr_size (clArr_size _ _) _ _
          refine loadAll rfl _ _ rfl TP'.out.blk rfl _ Try.underlying46 rfl (by rw [hts2]; exact infoTabS) ?_
          refine storeAll rfl _ _ _ rfl (KP'.out.keep BR6.out (by simp)) rfl rfl (by rw [hts2, tabArr_size z256_size]) (by rw [hts2]; exact infoTabS) (tabArr_one' (clArr_one _ _) (own_oneCell' TP'.out.next) rfl) ?_
          intro w9 b9 k9 s9
          go_wp2
          have tp9 := TP'.out.kp k9 (fun x hx hm => by
            rw [List.mem_singleton.1 hx] at hm
            rcases tfoot_mem.1 hm with e | e | e | e
            · omega
            · have := HFN.out _ e; omega
            · simp [Value.ownBlock] at e; exact absurd e (by have := HFA.out; omega)
            · have := HFG.out _ e; omega)
          have k9' : Kp [] w w9 := (K6.out.trans KP'.out (by simp)).trans k9 (by simp)
          refine bodyPost_ret (v := .agg (tabArr (clArr (fun b => num (T.cls b)) 256) vn' (.slice (some ⟨ga5, 0, none⟩) accs.length capa5))) (res_cell Try.results27 rfl b9 _ Try.underlying46 rfl (by rw [hts2]; exact infoTabS)) rfl ?_
          refine ⟨k9'.toBelow, vn', _, ⟨fun b => num (T.cls b), fun j m => (rows.getD j []).getD m 0, fun j => T.ac (ws.getD j 0), ws.length, C'⟩, rfl, tp9.tabR hge (by have := HAL.out; omega) (by have := HAL.out; omega) (fun j hj => HAC.out j hj), ?_, wsN, hC'C⟩
          exact merged_canon hpl SHR.out HJ.out rfl rfl (fun c _ => rfl) (fun j k hj hk => HRW.out j (by omega) k hk) (fun j _ => rfl)
end Go.Proofs.Ytbjdkbcfpmeneaa
