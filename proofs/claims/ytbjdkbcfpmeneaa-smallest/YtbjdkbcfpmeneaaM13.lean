/- What is proved here: what the builder of states holds in memory; what its first and accept answer. -/
import Derived.Test.YtbjdkbcfpmeneaaRows
import Derived.Test.YtbjdkbcfpmeneaaM12
namespace Go.Proofs.Ytbjdkbcfpmeneaa
set_option linter.unusedVariables false
set_option linter.unusedSimpArgs false
open Go.RowKit Go.ChangeMaps

abbrev pv (x : Bool × Nat × Nat) : Value := partV x.1 x.2.1 x.2.2
def RulesAt (w : World) (vr : Value) (ps : List (Bool × Nat × Nat)) : Prop := w.ownsRow 0 64 9 vr ps.length (cellsAll (ps.map pv))
def fR (ps : List (Bool × Nat × Nat)) (i : Nat) : Nat := (ps.getD i (false, 0, 0)).2.1
def lR (ps : List (Bool × Nat × Nat)) (i : Nat) : Nat := (ps.getD i (false, 0, 0)).2.2
def eR (ps : List (Bool × Nat × Nat)) (i : Nat) : Bool := (ps.getD i (false, 0, 0)).1

theorem RulesAt.kp {w w' : World} {vr : Value} {ps : List (Bool × Nat × Nat)} {xs : List Nat} (h : RulesAt w vr ps) (hk : Kp xs w w') (hx : ∀ g, vr.ownBlock = some g → g ∉ xs) : RulesAt w' vr ps := owns_kp h hk hx
theorem RulesAt.slice {w : World} {vr : Value} {ps : List (Bool × Nat × Nat)} (h : RulesAt w vr ps) : ∃ a cap, vr = .slice a ps.length cap := by
  rcases h.2 with ⟨rfl, e⟩ | ⟨g, cap, cur, rfl, _⟩
  · rw [e]; exact ⟨_, _, rfl⟩
  · exact ⟨_, _, rfl⟩
theorem RulesAt.at {w : World} {vr : Value} {ps : List (Bool × Nat × Nat)} (h : RulesAt w vr ps) {i : Nat} (hi : i < ps.length) : ∃ g cap, vr = .slice (some ⟨g, 0, none⟩) ps.length cap ∧ g < w.heap.size ∧ ∀ j, j < 9 → w.cell? ⟨g, i * 9 + j, none⟩ = (partV (eR ps i) (fR ps i) (lR ps i)).cells[j]? := by
  have hr : w.ownsRow 0 64 9 vr ps.length (cellsAll (ps.map pv)) := h
  rcases hr.2 with ⟨_, e⟩ | ⟨g, cap, cur, rfl, _⟩
  · omega
  · refine ⟨g, cap, rfl, (hr.lt g rfl).2, fun j hj => ?_⟩
    rw [hr.cellAt (i * 9 + j) (by omega)]
    have e : ps.getD i (false, 0, 0) = ps[i] := by rw [List.getD_eq_getElem?_getD, List.getElem?_eq_getElem hi]; rfl
    refine cellsAll_get (n := 9) ?_ (x := partV (eR ps i) (fR ps i) (lR ps i)) ?_ hj
    · intro v hv
      obtain ⟨x, _, rfl⟩ := List.mem_map.1 hv
      rfl
    · rw [List.getElem?_map, List.getElem?_eq_getElem hi]
      simp only [eR, fR, lR, e]
      rfl

theorem infoPartZ : (Try.prog.info? 64).map (fun i => i.zero) = some (some (.agg #[.bool false, .int .u64 0, .int .u64 0, .int .u64 0, .int .u64 0, .int .u64 0, .int .u64 0, .int .u64 0, .int .u64 0])) := by kernel_rfl

set_option maxRecDepth 100000 in
set_option maxHeartbeats 2000000 in
theorem bFirst_code (B : Nat) (c : Array Value) (tB : TypeId) (vr : Value) (ps : List (Bool × Nat × Nat)) (w : World) (hB : w.heap[B]? = some (.cells c tB (0, 0))) (h1 : c[1]? = some vr) (hR : RulesAt w vr ps) (hn : ps.length ≤ 6) :
    Calls Try.prog 34 #[.pointer (some ⟨B, 0, none⟩)] w fun e w' => e = .returned (stateV (firsts (fR ps) ps.length) 0) ∧ Below w.heap.size w w' := by
  have lB := lt_of_block hB
  obtain ⟨av, capv, hvr⟩ := hR.slice
  have HB := hide hB
  have HR := hide hR
  have H1 := hide h1
  have HVR := hide hvr
  clear hB hR h1 hvr
  go_enter Try.func34, Try.ntmps34
  go_upto_region 2 with fail
  have kW : Kp [] w ((w.alloc zState).alloc zState) := ((Kp.refl _ w).alloc _).alloc _
  have bR : ((w.alloc zState).alloc zState).heap[w.heap.size]? = some zState := by simp only [blk_alloc, size_alloc]; simp
  have bS : ((w.alloc zState).alloc zState).heap[w.heap.size + 1]? = some zState := by simp only [blk_alloc, size_alloc]; simp
  generalize (w.alloc zState).alloc zState = W at *
  have c1 : W.cell? ⟨B, 1, none⟩ = some (.slice av ps.length capv) := by rw [cell_of_block (kW.keep HB.out (by simp)), H1.out, HVR.out]
  have KW := hide kW
  have BR := hide bR
  have BS := hide bS
  clear kW bR bS
  go_wp2_with fail
  go_loopw [11] (fun i w' => ∃ k : Nat, k ≤ ps.length ∧ i = .int .i64 k ∧ Kp [] w w' ∧ w'.heap[w.heap.size]? = some zState ∧ w'.heap[w.heap.size + 1]? = some (stateO (firsts (fR ps) k) 0))
    (fun i _ => ps.length - (intOf i).toNat)
  case atStart => exact ⟨0, by omega, rfl, KW.out, BR.out, by simp only [firsts, stateO, wd_zero]; exact BS.out⟩
  case round =>
    obtain ⟨k, hk, rfl, kp, br, bs⟩ := hrel
    have KP := hide kp
    have lS := lt_of_block bs
    have lr0 : w.heap.size < wr.heap.size := by omega
    by_cases hlt : k < ps.length
    · obtain ⟨g, cap, e, lg, hc⟩ := HR.out.at hlt
      have hs : av = some ⟨g, 0, none⟩ ∧ capv = cap := by rw [HVR.out] at e; cases e; exact ⟨rfl, rfl⟩
      obtain ⟨rfl, rfl⟩ := hs
      have hlt' : (k : Int) < ps.length := by omega
      have hb1 : Hid (firsts (fR ps) (k + 1) = firsts (fR ps) k ||| fR ps k) := rfl
      generalize firsts (fR ps) k = O at *
      generalize hX : fR ps k = X at *
      generalize lR ps k = Y at *
      generalize eR ps k = Z at *
      have BRr := hide br
      have BSr := hide bs
      have HC := hide hc
      clear hX br bs kp hc e c1
      go_upto_region 4 with fail
      apply wp_region_lit
      iterate 3 go_step
      refine loadMid rfl _ _ rfl (b := g) (o := k * 9) (partV Z X Y).cells (fun j hj => ?_) rfl _ Try.underlying64 rfl infoPart ?_
      · rw [← HC.out j hj]; exact bkeepc KP.out.toBelow lg
      refine allocZ rfl _ rfl _ infoPartZ ?_
      refine storeAll rfl _ _ _ rfl (b := wr.heap.size) (c := #[.bool false, .int .u64 0, .int .u64 0, .int .u64 0, .int .u64 0, .int .u64 0, .int .u64 0, .int .u64 0, .int .u64 0]) (e := 64) (by rw [blk_alloc, if_pos rfl]; rfl) rfl rfl rfl infoPart (by simp [Value.oneCell', Value.cells]) ?_
      intro w5 b5 k5 s5
      have K5 : Hid (Kp [] w w5) := (KP.out.alloc _).trans k5 (by simp; omega)
      have BR5 : Hid (w5.heap[w.heap.size]? = some zState) := k5.keep (by rw [blk_alloc, if_neg (by omega)]; exact BRr.out) (by simp; omega)
      have BS5 : w5.heap[w.heap.size + 1]? = some (stateO O 0) := k5.keep (by rw [blk_alloc, if_neg (by omega)]; exact BSr.out) (by simp; omega)
      clear k5 s5
      have HS5 := hide BS5
      have l5 := lt_of_block b5
      obtain ⟨y0, y1, y2, y3, _⟩ := eight BS5
      have b5' : w5.heap[wr.heap.size]? = some (partO Z X Y) := b5
      obtain ⟨⟨x0, x1, x2, x3, x4, _⟩, _⟩ := nine b5'
      clear b5 b5' BS5
      go_wp2_with fail
      refine (union2 O X _ _ (by rw [blk_alloc, if_pos rfl])).mono ?_
      rintro _ w6 ⟨rfl, h6⟩
      have K6 : Hid (Kp [] w w6) := (K5.out.alloc _).below h6
      have BR6 : Hid (w6.heap[w.heap.size]? = some zState) := bkeep h6 (by rw [blk_alloc, if_neg (by omega)]; exact BR5.out)
      have BS6 : w6.heap[w.heap.size + 1]? = some (stateO O 0) := bkeep h6 (by rw [blk_alloc, if_neg (by omega)]; exact HS5.out)
      have HS6 := hide BS6
      clear y0 y1 y2 y3 x0 x1 x2 x3 x4 h6
      obtain ⟨y0, y1, y2, y3, y4, y5, y6, y7, f0, f1, f2, f3, _⟩ := eight BS6
      clear BS6
      go_wp2
      refine ⟨⟨k + 1, by omega, by go_num, K6.out.set4 (.inr (by omega)) _ _ _ _, ?_, ?_⟩, by simp [intOf]; omega⟩
      · simp only [blk_set, if_neg (show w.heap.size ≠ w.heap.size + 1 by omega)]; exact BR6.out
      · simp only [blk_set, HS6.out]
        rw [hb1.out]
        simp [setObj_cells]
    · have hkN : k = ps.length := by omega
      subst hkN
      have BRr := hide br
      have BSr := hide bs
      clear br bs kp c1
      go_upto_region 7 with fail
      apply wp_region_lit
      refine loadAll rfl _ _ rfl BSr.out rfl _ Try.underlying96 rfl infoState1 ?_
      refine storeAll rfl _ _ _ rfl BRr.out rfl rfl rfl infoState1 (by simp [Value.oneCell']) ?_
      intro w2 b2 k2 s2
      go_wp2
      exact bodyPost_ret (v := stateV (firsts (fR ps) ps.length) 0) (res_cell Try.results34 rfl b2 _ Try.underlying96 rfl infoState1) rfl ⟨rfl, (KP.out.trans k2 (by simp)).toBelow⟩

def FirstBit (b n : Nat) (r : Int) : Prop := (r = -1 ∧ ∀ i, i < n → b.testBit i = false) ∨ (∃ i : Nat, r = i ∧ i < n ∧ b.testBit i = true ∧ ∀ k, k < i → b.testBit k = false)

set_option maxRecDepth 100000 in
set_option maxHeartbeats 2000000 in
theorem bAccept_code (B a b : Nat) (c : Array Value) (tB : TypeId) (vr : Value) (ps : List (Bool × Nat × Nat)) (w : World) (hB : w.heap[B]? = some (.cells c tB (0, 0))) (h1 : c[1]? = some vr) (hR : RulesAt w vr ps) (hn : ps.length ≤ 6) :
    Calls Try.prog 37 #[.pointer (some ⟨B, 0, none⟩), stateV a b] w fun e w' => ∃ r : Int, e = .returned (.int .i64 r) ∧ FirstBit b ps.length r ∧ Below w.heap.size w w' := by
  have lB := lt_of_block hB
  obtain ⟨av, capv, hvr⟩ := hR.slice
  have HB := hide hB
  have H1 := hide h1
  have HVR := hide hvr
  clear hB hR h1 hvr
  go_enter Try.func37, Try.ntmps37
  go_upto_region 1 with fail
  have kW : Kp [] w (w.alloc (stateO a b)) := (Kp.refl _ w).alloc _
  have bX : (w.alloc (stateO a b)).heap[w.heap.size]? = some (stateO a b) := by rw [blk_alloc, if_pos rfl]
  generalize w.alloc (stateO a b) = W at *
  have c1 : W.cell? ⟨B, 1, none⟩ = some (.slice av ps.length capv) := by rw [cell_of_block (kW.keep HB.out (by simp)), H1.out, HVR.out]
  have KW := hide kW
  have BX := hide bX
  clear kW bX
  go_wp2_with fail
  go_loopw [11] (fun i w' => ∃ k : Nat, k ≤ ps.length ∧ i = .int .i64 k ∧ Kp [] w w' ∧ w'.heap[w.heap.size]? = some (stateO a b) ∧ ∀ j, j < k → b.testBit j = false)
    (fun i _ => ps.length - (intOf i).toNat)
  case atStart => exact ⟨0, by omega, rfl, KW.out, BX.out, fun j hj => by omega⟩
  case round =>
    obtain ⟨k, hk, rfl, kp, bx, hz⟩ := hrel
    have KP := hide kp
    have HZ := hide hz
    have BXr := hide bx
    clear c1 kp hz
    by_cases hlt : k < ps.length
    · have hlt' : (k : Int) < ps.length := by omega
      have hu8 : IntKind.u8.wrap (k : Int) = k := by simp [IntKind.wrap, IntKind.bits, IntKind.signed]; omega
      obtain ⟨x0, x1, x2, x3, x4, x5, x6, x7, _⟩ := eight bx
      clear bx
      go_wp2_with fail
      refine (has_any b k _ (by omega)).mono ?_
      rintro _ w1 ⟨rfl, h1⟩
      have K1 := hide (KP.out.below h1)
      have B1 := hide (bkeep h1 BXr.out)
      clear h1 x0 x1 x2 x3 x4 x5 x6 x7
      cases hb : b.testBit k with
      | true =>
        have HBt := hide hb
        clear hb
        go_wp2
        go_ret
        exact ⟨k, rfl, .inr ⟨k, rfl, hlt, HBt.out, HZ.out⟩, K1.out.toBelow⟩
      | false =>
        have HBt := hide hb
        clear hb
        go_wp2
        refine ⟨⟨k + 1, by omega, by go_num, K1.out, B1.out, fun j hj => ?_⟩, by simp [intOf]; omega⟩
        by_cases e : j = k
        · rw [e]; exact HBt.out
        · exact HZ.out j (by omega)
    · have hkN : k = ps.length := by omega
      subst hkN
      clear bx
      go_wp2
      go_ret
      exact ⟨-1, rfl, .inl ⟨rfl, HZ.out⟩, KP.out.toBelow⟩
end Go.Proofs.Ytbjdkbcfpmeneaa

/- What is proved here: the builder in memory, as one thing; what its number does. -/
namespace Go.Proofs.Ytbjdkbcfpmeneaa
set_option linter.unusedVariables false
set_option linter.unusedSimpArgs false
open Go.RowKit Go.ChangeMaps

structure Bld (w : World) (B : Nat) (vp vr vmK vsK vmS vsS : Value) (ks ss : List Value) (tk : Nat) : Prop where
  blk : w.heap[B]? = some (.cells #[vp, vr, vmK, vsK, vmS, vsS, .int .i64 tk] 92 (0, 0))
  kinds : NumOk w 62 4 vmK vsK ks
  work : NumOk w 96 8 vmS vsS ss
  bK : B ∉ nfoot vmK vsK
  bS : B ∉ nfoot vmS vsS
  dj : ∀ g ∈ nfoot vmK vsK, g ∉ nfoot vmS vsS
def Bl (w : World) (B : Nat) (vp vr : Value) (F : List Nat) (ks ss : List Value) (tk : Nat) : Prop :=
  ∃ vmK vsK vmS vsS, Bld w B vp vr vmK vsK vmS vsS ks ss tk ∧ F = B :: (nfoot vmK vsK ++ nfoot vmS vsS)

theorem Bl.kp {w w' : World} {B : Nat} {vp vr : Value} {F : List Nat} {ks ss : List Value} {tk : Nat} {xs : List Nat} (h : Bl w B vp vr F ks ss tk) (hk : Kp xs w w') (hx : ∀ x ∈ xs, x ∉ F) : Bl w' B vp vr F ks ss tk := by
  obtain ⟨vmK, vsK, vmS, vsS, b, rfl⟩ := h
  exact ⟨vmK, vsK, vmS, vsS, ⟨hk.keep b.blk (fun e => hx _ e (by simp)), b.kinds.kp hk (fun k hm hf => hx k hm (by simp [hf])), b.work.kp hk (fun k hm hf => hx k hm (by simp [hf])), b.bK, b.bS, b.dj⟩, rfl⟩
theorem Bl.lt {w : World} {B : Nat} {vp vr : Value} {F : List Nat} {ks ss : List Value} {tk : Nat} (h : Bl w B vp vr F ks ss tk) : ∀ g ∈ F, g < w.heap.size := by
  obtain ⟨vmK, vsK, vmS, vsS, b, rfl⟩ := h
  intro g hg
  rcases List.mem_cons.1 hg with rfl | hg
  · exact lt_of_block b.blk
  · rcases List.mem_append.1 hg with q | q
    · exact b.kinds.lt g q
    · exact b.work.lt g q
theorem Bl.mem {w : World} {B : Nat} {vp vr : Value} {F : List Nat} {ks ss : List Value} {tk : Nat} (h : Bl w B vp vr F ks ss tk) : B ∈ F := by
  obtain ⟨vmK, vsK, vmS, vsS, b, rfl⟩ := h; simp
theorem Bl.blk {w : World} {B : Nat} {vp vr : Value} {F : List Nat} {ks ss : List Value} {tk : Nat} (h : Bl w B vp vr F ks ss tk) : ∃ c : Array Value, w.heap[B]? = some (.cells c 92 (0, 0)) ∧ c[0]? = some vp ∧ c[1]? = some vr := by
  obtain ⟨vmK, vsK, vmS, vsS, b, rfl⟩ := h
  exact ⟨_, b.blk, rfl, rfl⟩

/- States are told apart by their numbers. -/
theorem wd_eq {x y : Nat} (hx : x < 2 ^ 256) (hy : y < 2 ^ 256) (h0 : wd x 0 = wd y 0) (h1 : wd x 1 = wd y 1) (h2 : wd x 2 = wd y 2) (h3 : wd x 3 = wd y 3) : x = y := by
  unfold wd at *
  simp only [Nat.mul_zero, Nat.pow_zero, Nat.div_one, Nat.mul_one, Nat.reduceMul, Nat.reducePow] at *
  omega
theorem setV_inj {x y : Nat} (hx : x < 2 ^ 256) (hy : y < 2 ^ 256) (h : setV x = setV y) : x = y := by
  simp only [setV, Value.agg.injEq, Array.mk.injEq, List.cons.injEq, Value.int.injEq, true_and, and_true] at h
  exact wd_eq hx hy h.1 h.2.1 h.2.2.1 h.2.2.2
theorem stateV_inj {a b c d : Nat} (ha : a < 2 ^ 256) (hb : b < 2 ^ 256) (hc : c < 2 ^ 256) (hd : d < 2 ^ 256) (h : stateV a b = stateV c d) : a = c ∧ b = d := by
  simp only [stateV, Value.agg.injEq, Array.mk.injEq, List.cons.injEq, Value.int.injEq, true_and, and_true] at h
  exact ⟨wd_eq ha hc h.1 h.2.1 h.2.2.1 h.2.2.2.1, wd_eq hb hd h.2.2.2.2.1 h.2.2.2.2.2.1 h.2.2.2.2.2.2.1 h.2.2.2.2.2.2.2⟩

set_option maxRecDepth 100000 in
open Classical in
theorem run_eq_state (a b c d : Nat) (w : World) : (Op.equalIn 10000 96 (stateV a b) (stateV c d)).run Try.prog w = .ok (decide (stateV a b = stateV c d)) w := by
  obtain ⟨lx, hx⟩ := state_key a b
  obtain ⟨ly, hy⟩ := state_key c d
  obtain ⟨r, hr, hiff⟩ := run_equal_deep (P := Try.prog) w (m := 3) (by omega) (k := 96) (by kernel_rfl) (by rw [Try.underlying96]) hx hy
  have e : (Op.equal 96 (stateV a b) (stateV c d)) = Op.equalIn 10000 96 (stateV a b) (stateV c d) := rfl
  have hrr : r = decide (stateV a b = stateV c d) := by
    by_cases h : stateV a b = stateV c d
    · rw [decide_eq_true h]
      rw [h, hy] at hx
      exact hiff.2 (Option.some.inj hx).symm
    · rw [decide_eq_false h]
      cases r with
      | false => rfl
      | true => exact absurd (keyState.inj (l := lx) hx (by rw [hy, hiff.1 rfl])) h
  rw [← e, hr, hrr]
set_option maxRecDepth 100000 in
open Classical in
theorem run_eq_state0 (a b : Nat) (w : World) (ha : a < 2 ^ 256) (hb : b < 2 ^ 256) : (Op.equalIn 10000 96 (stateV a b) (.agg #[.int .u64 0, .int .u64 0, .int .u64 0, .int .u64 0, .int .u64 0, .int .u64 0, .int .u64 0, .int .u64 0])).run Try.prog w = .ok (decide (a = 0 ∧ b = 0)) w := by
  have h := run_eq_state a b 0 0 w
  have e0 : stateV 0 0 = .agg #[.int .u64 0, .int .u64 0, .int .u64 0, .int .u64 0, .int .u64 0, .int .u64 0, .int .u64 0, .int .u64 0] := by simp only [stateV, wd_zero]
  have hd : decide (stateV a b = stateV 0 0) = decide (a = 0 ∧ b = 0) := by
    by_cases q : a = 0 ∧ b = 0
    · rw [decide_eq_true q, decide_eq_true (by rw [q.1, q.2])]
    · rw [decide_eq_false q, decide_eq_false fun e => q (stateV_inj ha hb (by decide) (by decide) e)]
  rw [← e0, h, hd]

/- The number of a state among those that came. -/
def numTo (ss : List Value) (a b : Nat) (r : Int) : Prop := (a = 0 ∧ b = 0 ∧ r = -1) ∨ (¬ (a = 0 ∧ b = 0) ∧ ∃ i : Nat, r = i ∧ ss[i]? = some (stateV a b))

set_option maxRecDepth 100000 in
set_option maxHeartbeats 1000000 in
theorem bNumber_code (B a b : Nat) (vp vr : Value) (F : List Nat) (ks ss : List Value) (tk : Nat) (w : World) (h : Bl w B vp vr F ks ss tk) (ha : a < 2 ^ 256) (hb : b < 2 ^ 256) (hlen : ss.length < 100000) :
    Calls Try.prog 58 #[.pointer (some ⟨B, 0, none⟩), stateV a b] w fun e w' => ∃ (r : Int) (F' : List Nat) (ss' : List Value), e = .returned (.int .i64 r) ∧ numTo ss' a b r ∧ (ss' = ss ∨ ss' = ss ++ [stateV a b]) ∧
      Bl w' B vp vr F' ks ss' tk ∧ Kp F w w' ∧ ∀ g ∈ F', g ∈ F ∨ w.heap.size ≤ g := by
  have HH := hide h
  have hq := fun w => run_eq_state0 a b w ha hb
  clear h
  by_cases hz : a = 0 ∧ b = 0
  · have hz' : decide (a = 0 ∧ b = 0) = true := decide_eq_true hz
    rw [hz'] at hq
    have HZ := hide hz
    clear hz hz'
    go_enter Try.func58, Try.ntmps58
    go_upto_region 1 with fail
    have kW : Kp [] w (w.alloc (stateO a b)) := (Kp.refl _ w).alloc _
    have bX : (w.alloc (stateO a b)).heap[w.heap.size]? = some (stateO a b) := by rw [blk_alloc, if_pos rfl]
    generalize (w.alloc (stateO a b)) = W at *
    obtain ⟨x0, x1, x2, x3, x4, x5, x6, x7, xr⟩ := eight bX
    have KW := hide kW
    clear kW bX xr
    go_wp2
    go_ret
    exact ⟨-1, F, ss, rfl, .inl ⟨HZ.out.1, HZ.out.2, rfl⟩, .inl rfl, HH.out.kp KW.out (by simp), KW.out.mono (by simp), fun g hg => .inl hg⟩
  · have hz' : decide (a = 0 ∧ b = 0) = false := decide_eq_false hz
    rw [hz'] at hq
    have HZ := hide hz
    clear hz hz'
    obtain ⟨vmK, vsK, vmS, vsS, bl, hF⟩ := HH.out
    have BL := hide bl
    have HF := hide hF
    clear bl hF
    go_enter Try.func58, Try.ntmps58
    go_upto_region 1 with fail
    have kW : Kp [] w (w.alloc (stateO a b)) := (Kp.refl _ w).alloc _
    have bX : (w.alloc (stateO a b)).heap[w.heap.size]? = some (stateO a b) := by rw [blk_alloc, if_pos rfl]
    generalize (w.alloc (stateO a b)) = W at *
    obtain ⟨x0, x1, x2, x3, x4, x5, x6, x7, xr⟩ := eight bX
    have KW := hide kW
    clear kW bX xr
    go_upto_region 3 with fail
    go_region_with ((go_at_call 33; refine (putState_code B 4 _ 92 vmS vsS ss a b _ ((KW.out.drew).keep BL.out.blk (by simp)) rfl rfl (BL.out.work.kp KW.out.drew (by simp)) BL.out.bS hlen).mono ?_; rintro _ w2 ⟨i, vm', vs', rfl, hi, hp⟩))
    all_goals
      go_wp2
      go_ret
      have hk2 : Kp F w w2 := (KW.out.drew.mono (by simp)).trans hp.kp (by
        intro y hy
        rw [HF.out]
        rcases List.mem_cons.1 hy with rfl | q
        · exact .inl (by simp)
        · exact .inl (by simp [q]))
      have fresh : ∀ g ∈ nfoot vm' vs', g ∈ nfoot vmS vsS ∨ w.heap.size ≤ g := fun g hg => by
        rcases hp.foot g hg with e | e
        · exact .inl e
        · exact .inr (Nat.le_trans KW.out.size e)
      refine ⟨i, B :: (nfoot vmK vsK ++ nfoot vm' vs'), addK ss (stateV a b), rfl, .inr ⟨HZ.out, i, rfl, hi⟩, ?_, ⟨vmK, vsK, vm', vs', ⟨?_, ?_, hp.ok, BL.out.bK, ?_, ?_⟩, rfl⟩, hk2, ?_⟩
      · by_cases hm : stateV a b ∈ ss
        · exact .inl (addK_old hm)
        · exact .inr (addK_new hm)
      · exact hp.blk
      · refine BL.out.kinds.kp ((KW.out.drew.mono (ys := B :: nfoot vmS vsS) (by simp)).trans hp.kp (fun y hy => .inl hy)) ?_
        intro k hk hf
        rcases List.mem_cons.1 hk with rfl | q
        · exact BL.out.bK hf
        · exact BL.out.dj k hf q
      · intro hm
        rcases fresh B hm with e | e
        · exact BL.out.bS e
        · have := lt_of_block BL.out.blk; omega
      · intro g hg hm
        rcases fresh g hm with e | e
        · exact BL.out.dj g hg e
        · have := BL.out.kinds.lt g hg; omega
      · intro g hg
        rw [HF.out]
        rcases List.mem_cons.1 hg with rfl | q
        · exact .inl (by simp)
        · rcases List.mem_append.1 q with q | q
          · exact .inl (by simp [q])
          · rcases fresh g q with e | e
            · exact .inl (by simp [e])
            · exact .inr e
end Go.Proofs.Ytbjdkbcfpmeneaa
