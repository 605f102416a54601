/- What is proved here: what the merger's trace does. -/
import Derived.Test.YtbjdkbcfpmeneaaRows
import Derived.Test.YtbjdkbcfpmeneaaM21
import Derived.Deep.CutRange
import Derived.Test.YtbjdkbcfpmeneaaM12
namespace Go.Proofs.Ytbjdkbcfpmeneaa
set_option linter.unusedVariables false
set_option linter.unusedSimpArgs false
open Go.RowKit Go.ChangeMaps

theorem infoRows : (Try.prog.info? 43).map (fun i => (i.zero, i.size, i.bytes)) = some (some (.slice none 0 0), 1, 24) := by kernel_rfl
theorem infoRow1 : (Try.prog.info? 44).map (fun i => (i.zero, i.size, i.bytes)) = some (some (.slice none 0 0), 1, 24) := by kernel_rfl
abbrev nilRow (n : Nat) : Obj := .cells (List.replicate n (Value.slice none 0 0)).toArray 44 (0, 0)
theorem run_make_rows (n : Nat) (hn : n ≤ 1000000) (w : World) :
    (Instr.makeSlice 43 (.int .i64 (n : Int)) (.int .i64 (n : Int))).run Try.prog w = .ok (.slice (some ⟨w.heap.size, 0, none⟩) n n) (w.alloc (nilRow n)) := by
  rw [run_make_row' 43 44 (.slice none 0 0) 24 Try.underlying43 infoRow1 rfl .i64 .i64 n (by omega) (by omega) w]
  congr 3
  rw [← Array.toArray_toList (xs := madeCells #[Value.slice none 0 0] n), toList_madeCells_one]

abbrev mgO (cc : Array Value) (vn va vo vm vs tk : Value) : Obj := .cells (mArr cc vn va vo vm vs tk) 110 (0, 0)

theorem undrew {w w' : World} {r : Option Nat} (h : w.drew.grownBy w' r) : w.grownBy w' r := ⟨h.os, h.tape, h.output, h.size, h.block⟩

/- All origins of a table. -/
def OrigOf (T : Tab) (L : Nat → Nat → List Int) : Prop := ∀ s k, s < T.N + 1 → k < T.C → ∀ t : Int, t ∈ L s k ↔ -1 ≤ t ∧ t < T.N ∧ T.nxI t k + 1 = s

set_option maxRecDepth 100000 in
set_option maxHeartbeats 4000000 in
theorem trace_code (M : Nat) (cc : Array Value) (vn va vm vs tk : Value) (T : Tab) (w : World) (hcc : cc.size = 256) (hM : w.heap[M]? = some (mgO cc vn va (.slice none 0 0) vm vs tk)) (hT : ∀ w', Kp [M] w w' → TabR w' vn va T) (hpl : Plain T) (hN : T.N ≤ 250) (hC : T.C ≤ 256) :
    Calls Try.prog 39 #[.pointer (some ⟨M, 0, none⟩)] w fun e w' => e = .returned (.tuple #[]) ∧ ∃ (vo : Value) (bks : List Nat) (V : Nat → Nat → Value) (L : Nat → Nat → List Int), bks.length = T.N + 1 ∧ Orig w' vo T.C bks V L ∧ OrigOf T L ∧
      w'.heap[M]? = some (mgO cc vn va vo vm vs tk) ∧ Kp [M] w w' ∧ (∀ g, InO vo T.C bks V g → w.heap.size ≤ g) := by
  have lM := lt_of_block hM
  have HM := hide hM
  have HT := hide hT
  have hpos := hpl.pos
  obtain ⟨⟨gn, capn, rfl, lgn, hrow⟩, _⟩ := hT w (Kp.refl _ _)
  obtain ⟨g0, c0, r0, lg0, _⟩ := hrow 0 hpos
  have c256 : w.cell? ⟨M, 256, none⟩ = some (.slice (some ⟨gn, 0, none⟩) T.N capn) := by rw [cell_of_block hM, mArr_256 hcc]
  have hpos' : (0 : Int) < T.N := by omega
  have hmk := fun w => run_make_rows T.C (by omega) w
  clear hM hT hrow
  go_enter Try.func39, Try.ntmps39
  go_wp2_with fail
  go_loopw [21] (fun i w' => ∃ (k : Nat) (vo : Value) (bks : List Nat), k ≤ T.N + 1 ∧ i = .int .i64 k ∧ bks.length = k ∧ Orig w' vo T.C bks (fun _ _ => .slice none 0 0) (fun _ _ => []) ∧ w'.heap[M]? = some (mgO cc (.slice (some ⟨gn, 0, none⟩) T.N capn) va vo vm vs tk) ∧ Kp [M] w w' ∧ (∀ g, InO vo T.C bks (fun _ _ => .slice none 0 0) g → w.heap.size ≤ g))
    (fun i _ => T.N + 1 - (intOf i).toNat)
  case atStart =>
    refine ⟨0, .slice none 0 0, [], by omega, rfl, rfl, ⟨World.ownsRow_nil _ _ _ _, fun s hs => by simp at hs, fun s k hs => by simp at hs, by simp, fun s k s' k' hs => by simp at hs⟩, HM.out, Kp.refl _ _, ?_⟩
    intro g hg
    rcases hg with e | e | ⟨s, k, hs, _⟩
    · simp [Value.ownBlock] at e
    · simp at e
    · simp at hs
  case round =>
    obtain ⟨k, vo, bks, hk, rfl, hbl, og, bM, kp, fr⟩ := hrel
    subst hbl
    have OG := hide og
    have BM := hide bM
    have KP := hide kp
    have FR := hide fr
    have lMr := lt_of_block bM
    have c258 : wr.cell? ⟨M, 258, none⟩ = some vo := by rw [cell_of_block bM, mArr_258 hcc]
    have OWN := hide og.row
    have nM1 : M ≠ wr.heap.size := by omega
    have nM2 : M ≠ wr.heap.size + 1 := by omega
    clear og bM kp fr
    by_cases hlt : bks.length < T.N + 1
    · have hlt' : (bks.length : Int) < (T.N : Int) + 1 := by omega
      obtain ⟨i0, hi0, hz0, hz1, hz2⟩ := info_parts infoRows
      have I0 := hide hi0
      have Z0 := hide hz0
      have Z1 := hide hz1
      have Z2 := hide hz2
      clear hi0 hz0 hz1 hz2
      go_upto_region 3 with fail
      go_region_law ((refine step_append_lies _ (by rfl) _ _ _ (by rfl) 0 43 i0 _ 1 24 Try.underlying102 I0.out Z0.out Z1.out Z2.out rfl (by omega) vo bks.length (bks.map (rv T.C)) (by rfl) ((OWN.out.alloc _).alloc _).drew ⟨wr.heap.size + 1, 0, none⟩ 1 1 [rv T.C wr.heap.size] (by rfl) (by rfl) (World.news_of_block (cs := #[rv T.C wr.heap.size]) (t := 43) (fr := (0, 0)) (by rw [blk_drew, blk_alloc, size_alloc, if_pos rfl])) (by simp [Value.oneCell']) (by omega) (by unfold maxLen; omega) (by omega) (by simp) (wr.heap.size + 2) (by simp) ?_; intro g1 cap1 w3 own1 grow1 at1 lt1; have B3 : w3.heap[M]? = some (mgO cc (.slice (some ⟨gn, 0, none⟩) T.N capn) va vo vm vs tk) := gkeep grow1 (b := M) (by rw [blk_drew, blk_alloc, size_alloc, if_neg nM2, blk_alloc, if_neg nM1]; exact BM.out) (fun e => by have := FR.out M (.inl e); omega); have e258 : w3.cell? ⟨M, 258, none⟩ = some vo := (by rw [cell_of_block B3, mArr_258 hcc]); have f258 := frozen_of_block B3 258))
      all_goals
        obtain ⟨og3, k3⟩ := Orig.add (w := wr.alloc (nilRow T.C)) (b := wr.heap.size) (OG.out.kp ((Kp.refl [] wr).alloc _) (by simp)) (by rw [blk_alloc, if_pos rfl]) (fun hm => by have := OG.out.lt (.inr (.inl hm)); omega) own1 (undrew grow1)
        have OG3 := hide og3
        have K3 : Hid (Kp [M] w w3) := KP.out.trans (((Kp.refl (vo.ownBlock.toList) wr).alloc (nilRow T.C)).trans k3 (fun y hy => .inl hy)) (fun y hy => .inr (FR.out y (.inl (by simpa using hy))))
        have BM3 := hide B3
        have AT1 := hide at1
        have sr := KP.out.size
        clear og3 k3 B3 own1 grow1 at1 lt1 e258 f258 c258 OWN I0 Z0 Z1 Z2
        go_wp2
        have kS : Kp [M] w3 (w3.setCell ⟨M, 258, none⟩ (.slice (some ⟨g1, 0, none⟩) (bks.length + 1) cap1)) := (Kp.refl [M] w3).set (by simp) _ _
        have fr3 : ∀ g, InO (.slice (some ⟨g1, 0, none⟩) (bks.length + 1) cap1) T.C (bks ++ [wr.heap.size]) (fun _ _ => .slice none 0 0) g → w.heap.size ≤ g := fun g hg => by
          rcases hg with e | e | ⟨s, k, hs, hk, e⟩
          · simp only [Value.ownBlock, Option.some.injEq] at e
            subst e
            rcases AT1.out with q | q
            · exact FR.out _ (.inl q)
            · omega
          · rcases List.mem_append.1 e with q | q
            · exact FR.out _ (.inr (.inl q))
            · rw [List.mem_singleton.1 q]; exact sr
          · simp [Value.ownBlock] at e
        refine ⟨⟨bks.length + 1, .slice (some ⟨g1, 0, none⟩) (bks.length + 1) cap1, bks ++ [wr.heap.size], by omega, by go_num, by simp, OG3.out.kp kS (fun x hx hm => by rw [List.mem_singleton.1 hx] at hm; have := fr3 _ hm; omega), ?_, K3.out.set (by simp) _ _, fr3⟩, by simp [intOf]; omega⟩
        rw [blk_set, if_pos rfl, BM3.out]
        show some (Obj.cells ((mArr cc _ va vo vm vs tk).setIfInBounds 258 _) _ _) = _
        rw [mArr_set258 hcc]
    · have hkN : bks.length = T.N + 1 := by omega
      obtain ⟨go, capo, hvo⟩ : ∃ go capo, vo = .slice (some ⟨go, 0, none⟩) (T.N + 1) capo := by
        rcases OWN.out.2 with ⟨_, e⟩ | ⟨g, cap, cur, e, _⟩
        · omega
        · exact ⟨g, cap, by rw [e, hkN]⟩
      subst hvo
      have HKN := hide hkN
      have hlt' : ¬ (bks.length : Int) < (T.N : Int) + 1 := by omega
      clear hkN c258 OWN hk
      go_wp2_with fail
      go_loopw [3] (fun s w' => ∃ (j : Nat) (V : Nat → Nat → Value) (L : Nat → Nat → List Int), j ≤ T.N + 1 ∧ s = .int .i64 ((j : Int) - 1) ∧ Orig w' (.slice (some ⟨go, 0, none⟩) (T.N + 1) capo) T.C bks V L ∧ (∀ s k, s < T.N + 1 → k < T.C → (L s k).length ≤ j ∧ ∀ t : Int, t ∈ L s k ↔ -1 ≤ t ∧ t < (j : Int) - 1 ∧ T.nxI t k + 1 = s) ∧
          w'.heap[M]? = some (mgO cc (.slice (some ⟨gn, 0, none⟩) T.N capn) va (.slice (some ⟨go, 0, none⟩) (T.N + 1) capo) vm vs tk) ∧ Kp [M] w w' ∧ (∀ g, InO (.slice (some ⟨go, 0, none⟩) (T.N + 1) capo) T.C bks V g → w.heap.size ≤ g))
        (fun s _ => T.N + 1 - (intOf s + 1).toNat)
      case atStart => exact ⟨0, _, _, by omega, rfl, OG.out, fun s k _ _ => ⟨by simp, fun t => ⟨fun h => by simp at h, fun h => by omega⟩⟩, BM.out, KP.out, FR.out⟩
      case round =>
        obtain ⟨j, V, L, hj, rfl, og, hL, bM, kp, fr⟩ := hrel
        have OG2 := hide og
        have BM2 := hide bM
        have KP2 := hide kp
        have FR2 := hide fr
        have HL := hide hL
        have d256 : wr.cell? ⟨M, 256, none⟩ = some (.slice (some ⟨gn, 0, none⟩) T.N capn) := by rw [cell_of_block bM, mArr_256 hcc]
        clear og bM kp fr hL
        by_cases hjl : j < T.N + 1
        · have hj' : (j : Int) - 1 < T.N := by omega
          go_wp2_with fail
          go_loopw [46] (fun i w' => ∃ (q : Nat) (V : Nat → Nat → Value) (L : Nat → Nat → List Int), q ≤ T.C ∧ i = .int .i64 q ∧ Orig w' (.slice (some ⟨go, 0, none⟩) (T.N + 1) capo) T.C bks V L ∧ (∀ s k, s < T.N + 1 → k < T.C → (L s k).length ≤ j + (if k < q then 1 else 0) ∧ ∀ t : Int, t ∈ L s k ↔ -1 ≤ t ∧ (t < (j : Int) - 1 ∨ (t = (j : Int) - 1 ∧ k < q)) ∧ T.nxI t k + 1 = s) ∧
              w'.heap[M]? = some (mgO cc (.slice (some ⟨gn, 0, none⟩) T.N capn) va (.slice (some ⟨go, 0, none⟩) (T.N + 1) capo) vm vs tk) ∧ Kp [M] w w' ∧ (∀ g, InO (.slice (some ⟨go, 0, none⟩) (T.N + 1) capo) T.C bks V g → w.heap.size ≤ g))
            (fun i _ => T.C - (intOf i).toNat)
          case atStart =>
            refine ⟨0, V, L, by omega, rfl, OG2.out, fun s k hs hk => ⟨by have := (HL.out s k hs hk).1; omega, fun t => ?_⟩, BM2.out, KP2.out, FR2.out⟩
            rw [(HL.out s k hs hk).2 t]
            constructor
            · rintro ⟨a, b, c⟩; exact ⟨a, .inl b, c⟩
            · rintro ⟨a, b | ⟨_, b⟩, c⟩
              · exact ⟨a, b, c⟩
              · omega
          case round =>
            obtain ⟨q, V, L, hq, rfl, og, hL, bM, kp, fr⟩ := hrel
            have OG3 := hide og
            have BM3 := hide bM
            have KP3 := hide kp
            have FR3 := hide fr
            have HL3 := hide hL
            clear og fr hL
            by_cases hql : q < T.C
            · have hq' : (q : Int) < T.C := by omega
              have mg : MgR wr M (.slice (some ⟨gn, 0, none⟩) T.N capn) va (.slice (some ⟨go, 0, none⟩) (T.N + 1) capo) := ⟨by rw [cell_of_block bM, mArr_256 hcc], by rw [cell_of_block bM, mArr_257 hcc], by rw [cell_of_block bM, mArr_258 hcc]⟩
              have hrg := hpl.rngI (s := (j : Int) - 1) (k := q) (by omega) hj' hql
              obtain ⟨f, hf⟩ : ∃ f : Nat, T.nxI ((j : Int) - 1) q + 1 = f := ⟨(T.nxI ((j : Int) - 1) q + 1).toNat, by omega⟩
              have hfN : f < T.N + 1 := by omega
              have hfl : f < bks.length := by rw [HKN.out]; exact hfN
              have cgo : wr.cell? ⟨go, f, none⟩ = some (rv T.C (bks.getD f 0)) := by
                have hr := OG3.out.row
                have : wr.ownsRow 0 43 1 (.slice (some ⟨go, 0, none⟩) bks.length capo) bks.length (bks.map (rv T.C)) := by rw [HKN.out]; rw [HKN.out] at hr; exact hr
                rw [this.cellAt f (by omega), List.getElem?_map, List.getElem?_eq_getElem hfl, List.getD_eq_getElem?_getD, List.getElem?_eq_getElem hfl]; rfl
              have hn1 := mNext_code M (.slice (some ⟨gn, 0, none⟩) T.N capn) va (.slice (some ⟨go, 0, none⟩) (T.N + 1) capo) T ((j : Int) - 1) q wr mg (HT.out wr kp) (by omega) hj' hql (by omega) (by omega)
              have hn2 := mFrom_code M go (T.N + 1) capo (.slice (some ⟨gn, 0, none⟩) T.N capn) va (rv T.C (bks.getD f 0)) (T.nxI ((j : Int) - 1) q) wr mg (by omega) (by omega) (by omega) (by rw [hf, Int.toNat_natCast]; exact cgo)
              have bkb := OG3.out.blk f hfl
              have cV : wr.cell? ⟨bks.getD f 0, q, none⟩ = some (V f q) := by rw [cell_of_block bkb]; simp [hql]
              have lb := lt_of_block bkb
              have HN1 := hide hn1
              have HN2 := hide hn2
              have HF := hide hf
              have BKB := hide bkb
              generalize hbf : bks.getD f 0 = bf at *
              have HBF := hide hbf
              generalize hnx : T.nxI ((j : Int) - 1) q = nx0 at *
              have HNX := hide hnx
              have OWN3 := hide (OG3.out.own f q hfl hql)
              have hLl := (HL3.out f q hfN hql).1
              rw [if_neg (by omega)] at hLl
              obtain ⟨i0, hi0, hz0, hz1, hz2⟩ := info_parts infoInt
              have I0 := hide hi0
              have Z0 := hide hz0
              have Z1 := hide hz1
              have Z2 := hide hz2
              clear hi0 hz0 hz1 hz2 mg hn1 hn2 cgo bkb hbf hf hrg bM hnx
              go_wp2_with fail
              refine HN1.out.mono ?_
              rintro _ w1 ⟨rfl, rfl⟩
              go_wp2_with fail
              refine HN2.out.mono ?_
              rintro _ w2 ⟨rfl, rfl⟩
              go_upto_region 12 with fail
              apply wp_region_lit
              iterate 24 go_step
              refine appendL rfl _ _ _ rfl 3 i0 _ 1 8 Try.underlying44 I0.out Z0.out Z1.out Z2.out rfl (by omega) (V f q) (L f q).length (iv (L f q)) rfl (OWN3.out.alloc _) ⟨w2.heap.size, 0, none⟩ 1 1 [.int .i64 ((j : Int) - 1)] rfl rfl (World.news_of_block (cs := #[.int .i64 ((j : Int) - 1)]) (t := 3) (fr := (0, 0)) (heap_alloc_new w2 _)) (by simp [Value.oneCell']) (by omega) (by unfold maxLen; omega) (by omega) (w2.heap.size + 1) (by simp) ?_
              intro g1 cap1 w4 own1 grow1 at1 lt1
              have b4 : w4.heap[bf]? = some (.cells ((List.range T.C).map (V f)).toArray 44 (0, 0)) := gkeep grow1 (b := bf) (by rw [blk_alloc, if_neg (Nat.ne_of_lt lb)]; exact BKB.out) (fun e => by
                obtain ⟨c', f', q'⟩ := own_kind OWN3.out e
                exact ne_of_kind BKB.out q' (by decide) rfl)
              have c4 : w4.cell? ⟨bf, q, none⟩ = some (V f q) := by rw [cell_of_block b4]; simp [hql]
              have f4 := frozen_of_block b4 q
              obtain ⟨og4, k4, i4⟩ := OG3.out.push (s := f) (k := q) (x := (j : Int) - 1) hfl hql own1 grow1 at1
              rw [HBF.out] at og4 k4
              have OG4 := hide og4
              have K4 := hide k4
              have I4 := hide i4
              clear og4 k4 i4 own1 grow1 at1 lt1 b4 I0 Z0 Z1 Z2 HN1 HN2 cV kp
              go_wp2
              have fr4 : ∀ g, InO (.slice (some ⟨go, 0, none⟩) (T.N + 1) capo) T.C bks (upd V f q (.slice (some ⟨g1, 0, none⟩) ((L f q).length + 1) cap1)) g → w.heap.size ≤ g := fun g hg => by
                rcases I4.out g hg with e | e
                · exact FR3.out g e
                · have := KP3.out.size; omega
              have nMO : ∀ g, InO (.slice (some ⟨go, 0, none⟩) (T.N + 1) capo) T.C bks V g → M ≠ g := fun g hg e => by have := FR3.out g hg; omega
              have inb : InO (.slice (some ⟨go, 0, none⟩) (T.N + 1) capo) T.C bks V bf := .inr (.inl (by rw [← HBF.out]; exact getD_mem' hfl))
              refine ⟨⟨q + 1, upd V f q (.slice (some ⟨g1, 0, none⟩) ((L f q).length + 1) cap1), upd L f q (L f q ++ [(j : Int) - 1]), by omega, by go_num, OG4.out, ?_, ?_, ?_, fr4⟩, by simp [intOf]; omega⟩
              · intro s k hs hk
                obtain ⟨l3, m3⟩ := HL3.out s k hs hk
                by_cases e : s = f ∧ k = q
                · obtain ⟨rfl, rfl⟩ := e
                  rw [upd_same]
                  refine ⟨by rw [List.length_append, List.length_singleton, if_pos (by omega)]; omega, fun t => ?_⟩
                  rw [List.mem_append, List.mem_singleton, m3 t]
                  have e1 := HNX.out
                  have e2 := HF.out
                  constructor
                  · rintro (⟨a, b | ⟨b, b'⟩, c⟩ | rfl)
                    · exact ⟨a, .inl b, c⟩
                    · omega
                    · exact ⟨by omega, .inr ⟨rfl, by omega⟩, by rw [e1]; exact e2⟩
                  · rintro ⟨a, b | ⟨b, b'⟩, c⟩
                    · exact .inl ⟨a, .inl b, c⟩
                    · exact .inr b
                · have e' : s ≠ f ∨ k ≠ q := by
                    by_cases z : s = f
                    · exact .inr (fun r => e ⟨z, r⟩)
                    · exact .inl z
                  rw [upd_other _ _ e']
                  refine ⟨?_, fun t => ?_⟩
                  · by_cases z : k < q
                    · rw [if_pos z] at l3; rw [if_pos (by omega)]; exact l3
                    · rw [if_neg z] at l3; omega
                  · rw [m3 t]
                    have e1 := HNX.out
                    have e2 := HF.out
                    constructor
                    · rintro ⟨a, b | ⟨b, b'⟩, c⟩
                      · exact ⟨a, .inl b, c⟩
                      · exact ⟨a, .inr ⟨b, by omega⟩, c⟩
                    · rintro ⟨a, b | ⟨b, b'⟩, c⟩
                      · exact ⟨a, .inl b, c⟩
                      · refine ⟨a, .inr ⟨b, ?_⟩, c⟩
                        by_cases z : k = q
                        · exfalso
                          subst z
                          rw [b, e1] at c
                          have : s = f := by omega
                          rcases e' with y | y
                          · exact y this
                          · exact y rfl
                        · omega
              · refine K4.out.keep BM3.out ?_
                intro hm
                rcases List.mem_cons.1 hm with e | e
                · exact nMO _ inb e
                · exact nMO _ (.inr (.inr ⟨f, q, hfl, hql, by simpa using e⟩)) rfl
              · refine KP3.out.trans K4.out (fun y hy => .inr ?_)
                rcases List.mem_cons.1 hy with e | e
                · rw [e]; exact FR3.out _ inb
                · exact FR3.out _ (.inr (.inr ⟨f, q, hfl, hql, by simpa using e⟩))
            · have hqC : q = T.C := by omega
              subst hqC
              clear bM kp
              go_wp2
              refine ⟨⟨j + 1, V, L, by omega, by go_num, OG3.out, fun s k hs hk => ?_, BM3.out, KP3.out, FR3.out⟩, by simp [intOf]; omega⟩
              obtain ⟨l3, m3⟩ := HL3.out s k hs hk
              rw [if_pos hk] at l3
              refine ⟨l3, fun t => ?_⟩
              rw [m3 t]
              constructor
              · rintro ⟨a, b | ⟨b, _⟩, c⟩
                · exact ⟨a, by omega, c⟩
                · exact ⟨a, by omega, c⟩
              · rintro ⟨a, b, c⟩
                by_cases z : t = (j : Int) - 1
                · exact ⟨a, .inr ⟨z, hk⟩, c⟩
                · exact ⟨a, .inl (by omega), c⟩
        · have hjN : j = T.N + 1 := by omega
          subst hjN
          have hj' : ¬ ((T.N + 1 : Nat) : Int) - 1 < T.N := by omega
          go_wp2
          go_end0
          refine ⟨rfl, .slice (some ⟨go, 0, none⟩) (T.N + 1) capo, bks, HKN.out, V, L, OG2.out, fun s k hs hk t => ?_, BM2.out, KP2.out, FR2.out⟩
          rw [(HL.out s k hs hk).2 t]
          constructor
          · rintro ⟨a, b, c⟩; exact ⟨a, by omega, c⟩
          · rintro ⟨a, b, c⟩; exact ⟨a, by omega, c⟩
end Go.Proofs.Ytbjdkbcfpmeneaa

/- What is proved here: how many states there can be at most. No program is named. -/
namespace Go.Proofs.Ytbjdkbcfpmeneaa
set_option linter.unusedVariables false
set_option linter.unusedSimpArgs false

theorem few_nats : ∀ (M : Nat) (l : List Nat), l.Nodup → (∀ a ∈ l, a < M) → l.length ≤ M := by
  intro M
  induction M with
  | zero =>
    intro l _ h
    cases l with
    | nil => exact Nat.le_refl _
    | cons a l => have := h a (by simp); omega
  | succ M ih =>
    intro l hn h
    by_cases hm : M ∈ l
    · have := ih (l.erase M) (hn.erase M) fun a ha => by
        have := (hn.mem_erase_iff).1 ha
        have h2 := h a this.2
        have h3 := this.1
        omega
      have e := List.length_erase_of_mem hm
      omega
    · have := ih l hn fun a ha => by
        have h2 := h a ha
        have : a ≠ M := by rintro rfl; exact hm ha
        omega
      omega

theorem few_states (p n : Nat) (S : List (Nat × Nat)) (hn : S.Nodup) (h : ∀ s ∈ S, s.1 < 2 ^ p ∧ s.2 < 2 ^ n) : S.length ≤ 2 ^ p * 2 ^ n := by
  have key := few_nats (2 ^ p * 2 ^ n) (S.map fun s => s.1 * 2 ^ n + s.2) ?_ ?_
  · rw [List.length_map] at key; exact key
  · unfold List.Nodup at *
    rw [List.pairwise_map]
    refine List.Pairwise.imp_of_mem ?_ hn
    intro a b ha hb hne e
    apply hne
    have h1 := (h a ha).2
    have h2 := (h b hb).2
    generalize 2 ^ n = K at *
    have hK : 0 < K := by omega
    have e1 : a.1 = b.1 := by
      have x : (a.1 * K + a.2) / K = a.1 := by rw [Nat.mul_comm, Nat.mul_add_div hK, Nat.div_eq_of_lt h1, Nat.add_zero]
      have y : (b.1 * K + b.2) / K = b.1 := by rw [Nat.mul_comm, Nat.mul_add_div hK, Nat.div_eq_of_lt h2, Nat.add_zero]
      rw [← x, ← y, e]
    have e2 : a.2 = b.2 := by rw [e1] at e; omega
    exact Prod.ext e1 e2
  · intro a ha
    obtain ⟨s, hs, rfl⟩ := List.mem_map.1 ha
    have := h s hs
    have h3 : (s.1 + 1) * 2 ^ n ≤ 2 ^ p * 2 ^ n := Nat.mul_le_mul_right _ (by omega)
    rw [Nat.add_mul, Nat.one_mul] at h3
    show s.1 * 2 ^ n + s.2 < 2 ^ p * 2 ^ n
    omega

theorem lt_of_bits {x k : Nat} (h : ∀ i, x.testBit i = true → i < k) : x < 2 ^ k := by
  apply Nat.lt_pow_two_of_testBit
  intro i hi
  cases e : x.testBit i with
  | false => rfl
  | true => have := h i e; omega
theorem bit_lt {x k i : Nat} (h : x < 2 ^ k) (hb : x.testBit i = true) : i < k := by
  rcases Nat.lt_or_ge i k with c | c
  · exact c
  · rw [Nat.testBit_lt_two_pow (Nat.lt_of_lt_of_le h (Nat.pow_le_pow_right (by omega) c))] at hb; cases hb

theorem behN_small (fs : List Nat) (p h : Nat) (hf : ∀ q, fs.getD q 0 < 2 ^ p) (k : Nat) : behN fs h k < 2 ^ p := lt_of_bits fun i hi => by
  obtain ⟨q, _, _, b⟩ := (behN_bit fs h i k).1 hi
  exact bit_lt (hf q) b
theorem wholes_small (l : Nat → Nat) (h n : Nat) : wholes l h n < 2 ^ n := lt_of_bits fun i hi => ((wholes_bit l h i n).1 hi).1
theorem firsts_small (f : Nat → Nat) (n p : Nat) (hf : ∀ i, i < n → f i < 2 ^ p) : firsts f n < 2 ^ p := lt_of_bits fun i hi => by
  obtain ⟨j, hj, b⟩ := (firsts_bit f i n).1 hi
  exact bit_lt (hf j hj) b
theorem stepS_small (bs fs : List Nat) (l : Nat → Nat) (n p : Nat) (s : Nat × Nat) (c : Nat) (hf : ∀ q, fs.getD q 0 < 2 ^ p) : (stepS bs fs l n s c).1 < 2 ^ p ∧ (stepS bs fs l n s c).2 < 2 ^ n := ⟨behN_small fs p _ hf _, wholes_small l _ n⟩

/- A part's followers and first positions lie below its end. -/
theorem Rules.small {B F : Nat → Nat} {n : Nat} {lo : Nat → Nat} {e : Nat → Bool} {f l : Nat → Nat} {L : Nat → Lang} (h : Rules B F n lo e f l L) : (∀ i, i < n → f i < 2 ^ lo n) ∧ (∀ i q, i < n → lo i ≤ q → q < lo (i + 1) → F q < 2 ^ lo n) := by
  refine ⟨fun i hi => lt_of_bits fun q hq => ?_, fun i q hi h1 h2 => lt_of_bits fun r hr => ?_⟩
  · have := (h.part i hi).fi q hq
    have := h.mono (i + 1) n (by omega) (by omega)
    omega
  · have := (h.part i hi).fo q h1 h2 r hr
    have := h.mono (i + 1) n (by omega) (by omega)
    omega
end Go.Proofs.Ytbjdkbcfpmeneaa

/- What is proved here: the pairs that are held apart, in memory: put, taken, asked for. -/
namespace Go.Proofs.Ytbjdkbcfpmeneaa
set_option linter.unusedVariables false
set_option linter.unusedSimpArgs false
open Go.RowKit Go.ChangeMaps

def Apt (w : World) (M : Nat) (cc : Array Value) (vn va vo : Value) (F : List Nat) (ks : List Value) (tk : Nat) : Prop :=
  ∃ vm vs, w.heap[M]? = some (mgO cc vn va vo vm vs (.int .i64 tk)) ∧ NumOk w 135 2 vm vs ks ∧ M ∉ nfoot vm vs ∧ F = M :: nfoot vm vs

section
variable {w : World} {M : Nat} {cc : Array Value} {vn va vo : Value} {F : List Nat} {ks : List Value} {tk : Nat}
theorem Apt.kp {w' : World} {xs : List Nat} (h : Apt w M cc vn va vo F ks tk) (hk : Kp xs w w') (hx : ∀ x ∈ xs, x ∉ F) : Apt w' M cc vn va vo F ks tk := by
  obtain ⟨vm, vs, b, n, m, rfl⟩ := h
  exact ⟨vm, vs, hk.keep b (fun e => hx _ e (by simp)), n.kp hk (fun k hm hf => hx k hm (by simp [hf])), m, rfl⟩
theorem Apt.lt (h : Apt w M cc vn va vo F ks tk) : ∀ g ∈ F, g < w.heap.size := by
  obtain ⟨vm, vs, b, n, m, rfl⟩ := h
  intro g hg
  rcases List.mem_cons.1 hg with rfl | hg
  · exact lt_of_block b
  · exact n.lt g hg
theorem Apt.mem (h : Apt w M cc vn va vo F ks tk) : M ∈ F := by obtain ⟨vm, vs, b, n, m, rfl⟩ := h; simp
theorem Apt.nodup (h : Apt w M cc vn va vo F ks tk) : ks.Nodup := by obtain ⟨vm, vs, b, n, m, rfl⟩ := h; exact n.nodup
theorem Apt.mgr (hcc : cc.size = 256) (h : Apt w M cc vn va vo F ks tk) : MgR w M vn va vo := by
  obtain ⟨vm, vs, b, n, m, rfl⟩ := h
  exact ⟨by rw [cell_of_block b, mArr_256 hcc], by rw [cell_of_block b, mArr_257 hcc], by rw [cell_of_block b, mArr_258 hcc]⟩
theorem Apt.taken (hcc : cc.size = 256) (h : Apt w M cc vn va vo F ks tk) : w.cell? ⟨M, 261, none⟩ = some (.int .i64 tk) := by
  obtain ⟨vm, vs, b, n, m, rfl⟩ := h
  rw [cell_of_block b, mArr_261 hcc]
theorem Apt.put (hcc : cc.size = 256) (h : Apt w M cc vn va vo F ks tk) (a b : Int) (hk : Keyish Try.prog 135 (pairV a b)) (hlen : ks.length < 100000) :
    Calls Try.prog 65 #[.pointer (some ⟨M, 259, none⟩), pairV a b] w fun e w' => ∃ (i : Nat) (F' : List Nat), e = .returned (.int .i64 i) ∧ Apt w' M cc vn va vo F' (addK ks (pairV a b)) tk ∧ Kp F w w' ∧ ∀ g ∈ F', g ∈ F ∨ w.heap.size ≤ g := by
  obtain ⟨vm, vs, bl, n, m, rfl⟩ := h
  refine (putPair_code M 259 _ 110 vm vs ks a b w bl (mArr_259 hcc ..) (mArr_260 hcc ..) n hk m hlen).mono ?_
  rintro _ w2 ⟨i, vm', vs', rfl, hi, hp⟩
  refine ⟨i, M :: nfoot vm' vs', rfl, ⟨vm', vs', ?_, hp.ok, ?_, rfl⟩, hp.kp, ?_⟩
  · have := hp.blk
    rw [mArr_two2 hcc] at this
    exact this
  · intro hm
    rcases hp.foot M hm with e | e
    · exact m e
    · have := lt_of_block bl; omega
  · intro g hg
    rcases List.mem_cons.1 hg with rfl | q
    · exact .inl (by simp)
    · rcases hp.foot g q with e | e
      · exact .inl (by simp [e])
      · exact .inr e
theorem Apt.take_end (hcc : cc.size = 256) (h : Apt w M cc vn va vo F ks ks.length) :
    Calls Try.prog 66 #[.pointer (some ⟨M, 259, none⟩)] w fun e w' => e = .returned (.tuple #[pairV 0 0, .bool false]) ∧ Below w.heap.size w w' := by
  obtain ⟨vm, vs, bl, n, m, rfl⟩ := h
  exact takePair_end M 259 _ 110 vm vs ks w bl (mArr_260 hcc ..) n (mArr_261 hcc ..)
theorem Apt.take_more (hcc : cc.size = 256) (h : Apt w M cc vn va vo F ks tk) {a b : Int} (hk : ks[tk]? = some (pairV a b)) (hlen : ks.length < 100000) :
    Calls Try.prog 66 #[.pointer (some ⟨M, 259, none⟩)] w fun e w' => e = .returned (.tuple #[pairV a b, .bool true]) ∧ Apt w' M cc vn va vo F ks (tk + 1) ∧ Kp [M] w w' := by
  obtain ⟨vm, vs, bl, n, m, rfl⟩ := h
  refine (takePair_more M 259 _ 110 vm vs ks tk a b w bl (mArr_260 hcc ..) n (mArr_261 hcc ..) hk hlen).mono ?_
  rintro _ w2 ⟨rfl, hb, kp⟩
  refine ⟨rfl, ⟨vm, vs, ?_, n.kp kp ?_, m, rfl⟩, kp⟩
  · rw [show 259 + 2 = 261 from rfl, mArr_set261 hcc] at hb; exact hb
  · intro k hk hm; rw [List.mem_singleton.1 hk] at hm; exact m hm
theorem Apt.has (hcc : cc.size = 256) (h : Apt w M cc vn va vo F ks tk) (a b : Int) (r : Bool) (hk : Keyish Try.prog 135 (pairV a b)) (hr : r = true ↔ pairV a b ∈ ks) :
    Calls Try.prog 70 #[.pointer (some ⟨M, 259, none⟩), pairV a b] w fun e w' => e = .returned (.bool r) ∧ Below w.heap.size w w' := by
  obtain ⟨vm, vs, bl, n, m, rfl⟩ := h
  exact whasPair_code M 259 _ 110 vm vs ks a b r w bl (mArr_259 hcc ..) n hk hr
end

/- A pair of states of a table, the lower one first. -/
def PairIn (N : Nat) (x : Value) : Prop := ∃ a b : Int, x = pairV a b ∧ -1 ≤ a ∧ a < b ∧ b < N
theorem pair_key' {N : Nat} (hN : N ≤ 100000) {a b : Int} (h1 : -1 ≤ a) (h2 : a ≤ N) (h3 : -1 ≤ b) (h4 : b ≤ N) : Keyish Try.prog 135 (pairV a b) := pair_key (wf64 (by omega) (by omega)) (wf64 (by omega) (by omega))
theorem pairV_inj {a b c d : Int} (h : pairV a b = pairV c d) : a = c ∧ b = d := by
  simp only [pairV, Value.agg.injEq, Array.mk.injEq, List.cons.injEq, Value.int.injEq, true_and, and_true] at h
  exact h
def decP (N : Nat) : Value → Nat
  | .agg #[.int _ a, .int _ b] => (a + 1).toNat * (N + 1) + (b + 1).toNat
  | _ => 0
theorem pairs_few {N : Nat} (ks : List Value) (hn : ks.Nodup) (h : ∀ x ∈ ks, PairIn N x) : ks.length ≤ (N + 1) * (N + 1) := by
  have key := few_nats ((N + 1) * (N + 1)) (ks.map (decP N)) ?_ ?_
  · rw [List.length_map] at key; exact key
  · unfold List.Nodup at *
    rw [List.pairwise_map]
    refine List.Pairwise.imp_of_mem ?_ hn
    intro x y hx hy hne e
    obtain ⟨a, b, rfl, a1, a2, a3⟩ := h x hx
    obtain ⟨c, d, rfl, c1, c2, c3⟩ := h y hy
    apply hne
    have e' : (a + 1).toNat * (N + 1) + (b + 1).toNat = (c + 1).toNat * (N + 1) + (d + 1).toNat := e
    have hb : (b + 1).toNat < N + 1 := by omega
    have hd : (d + 1).toNat < N + 1 := by omega
    generalize hB : (b + 1).toNat = B at *
    generalize hD : (d + 1).toNat = D at *
    have e1 : (a + 1).toNat = (c + 1).toNat := by
      have x1 : ((a + 1).toNat * (N + 1) + B) / (N + 1) = (a + 1).toNat := by rw [Nat.mul_comm, Nat.mul_add_div (by omega), Nat.div_eq_of_lt hb, Nat.add_zero]
      have x2 : ((c + 1).toNat * (N + 1) + D) / (N + 1) = (c + 1).toNat := by rw [Nat.mul_comm, Nat.mul_add_div (by omega), Nat.div_eq_of_lt hd, Nat.add_zero]
      rw [← x1, ← x2, e']
    rw [e1] at e'
    have e2 : B = D := by omega
    have q1 : a = c := by omega
    have q2 : b = d := by omega
    rw [q1, q2]
  · intro n hn
    obtain ⟨x, hx, rfl⟩ := List.mem_map.1 hn
    obtain ⟨a, b, rfl, a1, a2, a3⟩ := h x hx
    show (a + 1).toNat * (N + 1) + (b + 1).toNat < (N + 1) * (N + 1)
    have h1 : ((a + 1).toNat + 1) * (N + 1) ≤ (N + 1) * (N + 1) := Nat.mul_le_mul_right _ (by omega)
    rw [Nat.add_mul, Nat.one_mul] at h1
    omega
end Go.Proofs.Ytbjdkbcfpmeneaa
