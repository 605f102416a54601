/- What is proved here: what Number of pairs does. -/
import Derived.Test.YtbjdkbcfpmeneaaRows
import Derived.Test.YtbjdkbcfpmeneaaM06
import Derived.Deep.Cut
import Derived.Deep.MidRow
import Derived.Deep.RegionHeld3
import Derived.Test.YtbjdkbcfpmeneaaM12
namespace Go.Proofs.Ytbjdkbcfpmeneaa
set_option linter.unusedVariables false
set_option linter.unusedSimpArgs false
open Go.RowKit Go.ChangeMaps

theorem infoPair : (Try.prog.info? 135).map (fun i => (i.zero, i.size, i.bytes)) = some (some (.agg #[.int .i64 0, .int .i64 0]), 2, 16) := by kernel_rfl

set_option maxRecDepth 100000 in
set_option maxHeartbeats 1000000 in
theorem numPair_known (B off : Nat) (c : Array Value) (tB : TypeId) (vm vs : Value) (ks : List Value) (a b : Int) (i : Nat) (w : World) (hB : w.heap[B]? = some (.cells c tB (0, 0))) (h0 : c[off]? = some vm) (h1 : c[off + 1]? = some vs)
    (hN : NumOk w 135 2 vm vs ks) (hi : ks[i]? = some (pairV a b)) :
    Calls Try.prog 71 #[.pointer (some ⟨B, off, none⟩), pairV a b] w fun e w' => e = .returned (.int .i64 i) ∧ Below w.heap.size w w' := by
  obtain ⟨mb, rfl, hm⟩ : ∃ mb, vm = .map (some mb) ∧ NumMap w mb ks := by
    rcases hN.map with ⟨_, q⟩ | q
    · rw [q] at hi; simp at hi
    · exact q
  have c0 : w.cell? ⟨B, off, none⟩ = some (.map (some mb)) := by rw [cell_of_block hB]; exact h0
  have lB := lt_of_block hB
  have lm := hm.lt
  have hl : ∀ o, (Instr.lookup 103 (.map (some mb)) (pairV a b) true).run Try.prog (w.alloc o).drew = .ok (.tuple #[.int .i64 i, .bool true]) (w.alloc o).drew := fun o =>
    look_known keyPair Try.underlying103 _ (hm.keep (by rw [blk_drew, blk_alloc, if_neg (Nat.ne_of_lt lm)])) hN.key hN.nodup hi
  clear hm hN hi h0 h1 hB
  go_enter Try.func71, Try.ntmps71
  go_wp2_with fail
  go_region
  all_goals
    go_wp2
    go_ret
    exact ⟨rfl, ((Below.refl _ _).alloc (Nat.le_refl _) _).drew⟩

set_option maxRecDepth 100000 in
set_option maxHeartbeats 2000000 in
theorem numPair_some (B off : Nat) (c : Array Value) (tB : TypeId) (mb : Nat) (vs : Value) (ks : List Value) (a b : Int) (w : World) (hB : w.heap[B]? = some (.cells c tB (0, 0))) (h0 : c[off]? = some (.map (some mb))) (h1 : c[off + 1]? = some vs)
    (hN : NumOk w 135 2 (.map (some mb)) vs ks) (hx : pairV a b ∉ ks) (hk : Keyish Try.prog 135 (pairV a b)) (hBn : B ∉ nfoot (.map (some mb)) vs) (hlen : ks.length < 100000) :
    Calls Try.prog 71 #[.pointer (some ⟨B, off, none⟩), pairV a b] w fun e w' => e = .returned (.int .i64 ks.length) ∧
      ∃ vs', NumPost B off c tB 135 2 (.map (some mb)) vs ks w (.map (some mb)) vs' (ks ++ [pairV a b]) w' := by
  have hm : NumMap w mb ks := by
    rcases hN.map with ⟨q, _⟩ | ⟨m, q, r⟩
    · cases q
    · cases q; exact r
  have c0 : w.cell? ⟨B, off, none⟩ = some (.map (some mb)) := by rw [cell_of_block hB]; exact h0
  have lB := lt_of_block hB
  have lm := hm.lt
  have mB : mb ≠ B := fun e => hBn (nfoot_mem.2 (.inl (by rw [e])))
  have hl : ∀ o, (Instr.lookup 103 (.map (some mb)) (pairV a b) true).run Try.prog (w.alloc o).drew = .ok (.tuple #[.int .i64 0, .bool false]) (w.alloc o).drew := fun o =>
    look_new keyPair Try.underlying103 _ (zeroInt _) (hm.keep (by rw [blk_drew, blk_alloc, if_neg (Nat.ne_of_lt lm)])) hN.key hk hx
  have HN := hide hN
  have HB := hide hB
  have HM := hide hm
  have H0 := hide h0
  have H1 := hide h1
  have hvs : ∃ a cap, vs = .slice a ks.length cap := by
    rcases hN.row.2 with ⟨rfl, e⟩ | ⟨g, cap, cur, rfl, _⟩
    · rw [e]; exact ⟨_, _, rfl⟩
    · exact ⟨_, _, rfl⟩
  obtain ⟨av, capv, rfl⟩ := hvs
  obtain ⟨i0, hi0, hz0, hz1, hz2⟩ := info_parts infoPair
  clear hm hN h0 h1 hB
  go_enter Try.func71, Try.ntmps71
  go_upto_region 1 with fail
  go_region
  all_goals
    have kW : Kp [] w (w.alloc (pairO a b)).drew := ((Kp.refl [] w).alloc _).drew
    have bX : (w.alloc (pairO a b)).drew.heap[w.heap.size]? = some (pairO a b) := by rw [blk_drew, blk_alloc, if_pos rfl]
    generalize (w.alloc (pairO a b)).drew = W at *
    have lX := lt_of_block bX
    have bB := kW.keep HB.out (by simp)
    have mW : NumMap W mb ks := HM.out.keep (kW.block mb lm (by simp))
    have b0 : W.cell? ⟨B, off, none⟩ = some (.map (some mb)) := by rw [cell_of_block bB]; exact H0.out
    have b1 : W.cell? ⟨B, off + 1, none⟩ = some (.slice av ks.length capv) := by rw [cell_of_block bB]; exact H1.out
    obtain ⟨x0, x1, _⟩ := two bX
    have hnil := fun w r => run_eql_map_nil (P := Try.prog) w 103 _ _ r Try.underlying103
    obtain ⟨o, hu, mN⟩ := put_new keyPair Try.underlying103 W.drew (show NumMap W.drew mb ks from mW) HN.out.key hk hx
    have KW := hide kW
    have BX := hide bX
    have BB := hide bB
    have MN := hide mN
    clear c0 hl mW kW bX bB mN
    go_upto_region 7 with fail
    go_region
    all_goals
      have lmW : mb < W.heap.size := Nat.lt_of_lt_of_le lm KW.out.size
      have k2 : Kp [mb] W (setBlock W.drew mb o) := (Kp.refl [mb] W).drew.trans (setBlock_kp (w := W.drew) (b := mb) (o := o) lmW) (by simp)
      have mN := MN.out
      generalize setBlock W.drew mb o = W2 at *
      have bB := k2.keep BB.out (by simp; exact fun e => mB e.symm)
      have bX := k2.keep BX.out (by simp; omega)
      have rw2 : W2.ownsRow 0 135 2 (.slice av ks.length capv) ks.length (cellsAll ks) := owns_kp (owns_kp HN.out.row KW.out (by simp)) k2 (by
        intro g e hm
        simp at hm
        subst hm
        exact HN.out.apart e)
      have K2 := hide k2
      have BX2 := hide bX
      have BB2 := hide bB
      have RW := hide rw2
      have MN2 := hide mN
      clear b0 b1 x0 x1 hu MN BB BX hnil
      have b1 : W2.cell? ⟨B, off + 1, none⟩ = some (.slice av ks.length capv) := by rw [cell_of_block bB]; exact H1.out
      obtain ⟨x0, x1, _⟩ := two bX
      have lX2 := lt_of_block bX
      have lB2 := lt_of_block bB
      have hfz : ∀ o, (W2.alloc o).drew.frozen? ⟨B, off + 1, none⟩ = false := fun o => by
        have : (W2.alloc o).drew.heap[B]? = some (.cells c tB (0, 0)) := by rw [blk_drew, blk_alloc, if_neg (Nat.ne_of_lt lB2)]; exact bB
        exact frozen_of_block this _
      clear bB bX rw2 k2 mN
      go_wp2_with fail
      go_region_law
        ((refine step_append_lies _ (by rfl) _ _ _ (by rfl) 0 135 i0 _ 2 16 Try.underlying104 hi0 hz0 hz1 hz2 rfl (by omega) (.slice av ks.length capv) ks.length (cellsAll ks) (by rfl) ((RW.out.alloc _).drew) ⟨W2.heap.size, 0, none⟩ 1 1 [.int .i64 a, .int .i64 b] (by rfl) (by rfl) (World.news_of_block (cs := #[.int .i64 a, .int .i64 b]) (t := 135) (fr := (0, 0)) (heap_alloc_new W2 _)) (by simp [Value.oneCell']) (by omega) (by unfold maxLen; omega) (by omega) (by simp) (W2.heap.size + 1) (by simp) ?_; intro g1 cap1 w3 own1 grow1 at1 lt1; have nfz : w3.frozen? ⟨B, off + 1, none⟩ = false := (frozen_of_block (gkeep grow1 (b := B) (by rw [blk_drew, blk_alloc, if_neg (Nat.ne_of_lt lB2)]; exact BB2.out) (fun e => hBn (nfoot_mem.2 (.inr e)))) _); have nc : w3.cell? ⟨B, off + 1, none⟩ = some (.slice av ks.length capv) := (by rw [cell_of_block (gkeep grow1 (b := B) (by rw [blk_drew, blk_alloc, if_neg (Nat.ne_of_lt lB2)]; exact BB2.out) (fun e => hBn (nfoot_mem.2 (.inr e))))]; exact H1.out)))
      all_goals
        go_wp2
        go_ret
        exact ⟨rfl, _, num_end lB ((KW.out.mono (by simp)).trans K2.out (by intro y hy; simp at hy; subst hy; exact .inl (List.mem_cons_of_mem _ (nfoot_mem.2 (.inl rfl))))) (.inl rfl) BB2.out (fun v => by rw [two2, set_same H0.out]) HN.out.nodup HN.out.key HN.out.sizes rfl MN2.out hx hk
          (fun g e => HN.out.lt g (nfoot_mem.2 (.inr e))) (fun e => hBn (nfoot_mem.2 (.inr e))) HN.out.apart mB own1 grow1 at1⟩

set_option maxRecDepth 100000 in
set_option maxHeartbeats 2000000 in
theorem numPair_none (B off : Nat) (c : Array Value) (tB : TypeId) (vs : Value) (a b : Int) (w : World) (hB : w.heap[B]? = some (.cells c tB (0, 0))) (h0 : c[off]? = some (.map none)) (h1 : c[off + 1]? = some vs)
    (hN : NumOk w 135 2 (.map none) vs []) (hk : Keyish Try.prog 135 (pairV a b)) (hBn : B ∉ nfoot (.map none) vs) :
    Calls Try.prog 71 #[.pointer (some ⟨B, off, none⟩), pairV a b] w fun e w' => e = .returned (.int .i64 0) ∧
      ∃ mb vs', NumPost B off c tB 135 2 (.map none) vs [] w (.map (some mb)) vs' [pairV a b] w' := by
  have c0 : w.cell? ⟨B, off, none⟩ = some (.map none) := by rw [cell_of_block hB]; exact h0
  have lB := lt_of_block hB
  have hl : ∀ w', (Instr.lookup 103 (.map none) (pairV a b) true).run Try.prog w' = .ok (.tuple #[.int .i64 0, .bool false]) w' := fun w' =>
    look_none keyPair Try.underlying103 _ (zeroInt _) hk
  have HN := hide hN
  have HB := hide hB
  have H0 := hide h0
  have H1 := hide h1
  have hvs : ∃ a cap, vs = .slice a 0 cap := by
    rcases hN.row.2 with ⟨rfl, e⟩ | ⟨g, cap, cur, rfl, _⟩
    · exact ⟨_, _, rfl⟩
    · exact ⟨_, _, rfl⟩
  obtain ⟨av, capv, rfl⟩ := hvs
  obtain ⟨i0, hi0, hz0, hz1, hz2⟩ := info_parts infoPair
  clear hN h0 h1 hB
  go_enter Try.func71, Try.ntmps71
  go_upto_region 1 with fail
  go_region
  all_goals
    have kW : Kp [] w (w.alloc (pairO a b)).drew := ((Kp.refl [] w).alloc _).drew
    have bX : (w.alloc (pairO a b)).drew.heap[w.heap.size]? = some (pairO a b) := by rw [blk_drew, blk_alloc, if_pos rfl]
    generalize (w.alloc (pairO a b)).drew = W at *
    have lX := lt_of_block bX
    have bB := kW.keep HB.out (by simp)
    have lBW := lt_of_block bB
    have b0 : W.cell? ⟨B, off, none⟩ = some (.map none) := by rw [cell_of_block bB]; exact H0.out
    have f0 := frozen_of_block bB off
    have hnil := fun w r => run_eql_map_nil (P := Try.prog) w 103 _ _ r Try.underlying103
    have KW := hide kW
    have BX := hide bX
    have BB := hide bB
    have hmk : (Instr.makeMap 103 none).run Try.prog W = .ok (.map (some W.heap.size)) (W.alloc (.map #[] 0)) := run_makeMap _ W
    have bB1 : (W.alloc (.map #[] 0)).heap[B]? = some (.cells c tB (0, 0)) := by rw [blk_alloc, if_neg (Nat.ne_of_lt lBW)]; exact bB
    have d0 : (W.alloc (.map #[] 0)).cell? ⟨B, off, none⟩ = some (.map none) := by rw [cell_of_block bB1]; exact H0.out
    have d1 := frozen_of_block bB1 off
    clear c0 hl kW bX bB bB1
    go_upto_region 6 with fail
    have kM : Kp [B] W ((W.setCell ⟨B, off, none⟩ (.map (some W.heap.size))).alloc (.map #[] 0)) := ((Kp.refl [B] W).set (by simp) _ _).alloc _
    have bB : ((W.setCell ⟨B, off, none⟩ (.map (some W.heap.size))).alloc (.map #[] 0)).heap[B]? = some (.cells (c.setIfInBounds off (.map (some W.heap.size))) tB (0, 0)) := by
      rw [blk_alloc, size_set, if_neg (Nat.ne_of_lt lBW), blk_set, if_pos rfl, BB.out]; rfl
    have mW : NumMap ((W.setCell ⟨B, off, none⟩ (.map (some W.heap.size))).alloc (.map #[] 0)) W.heap.size [] := by
      have := num_new (W.setCell ⟨B, off, none⟩ (.map (some W.heap.size)))
      rw [size_set] at this
      exact this
    generalize (W.setCell ⟨B, off, none⟩ (.map (some W.heap.size))).alloc (.map #[] 0) = W1 at *
    generalize hmb : W.heap.size = mb at *
    have bX := kM.keep BX.out (by simp; omega)
    obtain ⟨o, hu, mN⟩ := put_new keyPair Try.underlying103 W1.drew (show NumMap W1.drew mb [] from mW) (by simp) hk (by simp)
    have hu : (Instr.mapUpdate 103 (.map (some mb)) (pairV a b) (.int .i64 0)).run Try.prog W1.drew = .ok () (setBlock W1.drew mb o) := hu
    have l0 := (Array.getElem?_eq_some_iff.1 H0.out).1
    have l1 := (Array.getElem?_eq_some_iff.1 H1.out).1
    have b0' : W1.cell? ⟨B, off, none⟩ = some (.map (some mb)) := by rw [cell_of_block bB, Array.getElem?_setIfInBounds_self_of_lt l0]
    have b1' : W1.cell? ⟨B, off + 1, none⟩ = some (.slice av 0 capv) := by rw [cell_of_block bB, Array.getElem?_setIfInBounds_ne (by omega)]; exact H1.out
    obtain ⟨x0, x1, _⟩ := two bX
    have KM := hide kM
    have BX1 := hide bX
    have BB1 := hide bB
    have MN := hide mN
    have lm1 := mW.lt
    clear b0 f0 d0 d1 hmk kM bX bB mW mN BX BB
    go_upto_region 7 with fail
    go_region
    all_goals
      have k2 : Kp [mb] W1 (setBlock W1.drew mb o) := (Kp.refl [mb] W1).drew.trans (setBlock_kp (w := W1.drew) (b := mb) (o := o) lm1) (by simp)
      have mN := MN.out
      generalize setBlock W1.drew mb o = W2 at *
      have bB := k2.keep BB1.out (by simp; omega)
      have bX := k2.keep BX1.out (by simp; omega)
      have fl : ∀ g, Value.ownBlock (.slice av 0 capv) = some g → g < w.heap.size := fun g e => HN.out.lt g (nfoot_mem.2 (.inr e))
      have nB : Value.ownBlock (.slice av 0 capv) ≠ some B := fun e => hBn (nfoot_mem.2 (.inr e))
      have rw2 : W2.ownsRow 0 135 2 (.slice av 0 capv) 0 [] := owns_kp (owns_kp (owns_kp HN.out.row KW.out (by simp)) KM.out (by intro g e hm; simp at hm; subst hm; exact nB e)) k2 (by
        intro g e hm
        simp at hm
        have := fl g e
        omega)
      have K2 := hide k2
      have BX2 := hide bX
      have BB2 := hide bB
      have RW := hide rw2
      have MN2 := hide mN
      clear b0' b1' x0 x1 hu MN BB1 BX1 hnil
      have b1 : W2.cell? ⟨B, off + 1, none⟩ = some (.slice av 0 capv) := by rw [cell_of_block bB, Array.getElem?_setIfInBounds_ne (by omega)]; exact H1.out
      obtain ⟨x0, x1, _⟩ := two bX
      have lX2 := lt_of_block bX
      have lB2 := lt_of_block bB
      clear bB bX rw2 k2 mN
      go_wp2_with fail
      go_region_law
        ((refine step_append_lies _ (by rfl) _ _ _ (by rfl) 0 135 i0 _ 2 16 Try.underlying104 hi0 hz0 hz1 hz2 rfl (by omega) (.slice av 0 capv) 0 [] (by rfl) ((RW.out.alloc _).drew) ⟨W2.heap.size, 0, none⟩ 1 1 [.int .i64 a, .int .i64 b] (by rfl) (by rfl) (World.news_of_block (cs := #[.int .i64 a, .int .i64 b]) (t := 135) (fr := (0, 0)) (heap_alloc_new W2 _)) (by simp [Value.oneCell']) (by omega) (by unfold maxLen; omega) (by omega) (by simp) (W2.heap.size + 1) (by simp) ?_; intro g1 cap1 w3 own1 grow1 at1 lt1; have q3 := gkeep grow1 (b := B) (by rw [blk_drew, blk_alloc, if_neg (Nat.ne_of_lt lB2)]; exact BB2.out) nB; have nfz : w3.frozen? ⟨B, off + 1, none⟩ = false := frozen_of_block q3 _; have nc : w3.cell? ⟨B, off + 1, none⟩ = some (.slice av 0 capv) := (by rw [cell_of_block q3, Array.getElem?_setIfInBounds_ne (by omega)]; exact H1.out); clear q3))
      all_goals
        go_wp2
        go_ret
        refine ⟨rfl, mb, _, num_end (ks := []) (x := pairV a b) lB (((KW.out.mono (by simp)).trans KM.out (by intro y hy; simp at hy; subst hy; exact .inl (by simp))).trans K2.out (by intro y hy; simp at hy; subst hy; exact .inr (by omega))) (.inr (by omega)) BB2.out (fun v => rfl) (by simp) (by simp) (by simp) rfl MN2.out (by simp) hk fl nB (fun e => by have := fl _ e; omega) (by omega) own1 grow1 at1⟩
theorem numPair_code (B off : Nat) (c : Array Value) (tB : TypeId) (vm vs : Value) (ks : List Value) (a b : Int) (w : World) (hB : w.heap[B]? = some (.cells c tB (0, 0))) (h0 : c[off]? = some vm) (h1 : c[off + 1]? = some vs)
    (hN : NumOk w 135 2 vm vs ks) (hk : Keyish Try.prog 135 (pairV a b)) (hBn : B ∉ nfoot vm vs) (hlen : ks.length < 100000) :
    Calls Try.prog 71 #[.pointer (some ⟨B, off, none⟩), pairV a b] w fun e w' => ∃ (i : Nat) (vm' vs' : Value), e = .returned (.int .i64 i) ∧ (addK ks (pairV a b))[i]? = some (pairV a b) ∧
      NumPost B off c tB 135 2 vm vs ks w vm' vs' (addK ks (pairV a b)) w' := by
  by_cases hx : pairV a b ∈ ks
  · obtain ⟨i, hi⟩ := List.getElem?_of_mem hx
    rw [addK_old hx]
    exact (numPair_known B off c tB vm vs ks a b i w hB h0 h1 hN hi).mono fun e w' h => ⟨i, vm, vs, h.1, hi, num_still hB h0 h1 hN h.2⟩
  · rw [addK_new hx]
    rcases hN.map with ⟨rfl, rfl⟩ | ⟨mb, rfl, _⟩
    · exact (numPair_none B off c tB vs a b w hB h0 h1 hN hk hBn).mono fun e w' ⟨h, mb, vs', p⟩ => ⟨0, _, vs', h, rfl, p⟩
    · exact (numPair_some B off c tB mb vs ks a b w hB h0 h1 hN hx hk hBn hlen).mono fun e w' ⟨h, vs', p⟩ => ⟨ks.length, _, vs', h, by simp, p⟩
end Go.Proofs.Ytbjdkbcfpmeneaa

/- What is proved here: what Count, Member, Put and Take of pairs do. -/
namespace Go.Proofs.Ytbjdkbcfpmeneaa
set_option linter.unusedVariables false
set_option linter.unusedSimpArgs false
open Go.RowKit Go.ChangeMaps

set_option maxRecDepth 100000 in
theorem cntPair_code (B off : Nat) (c : Array Value) (tB : TypeId) (vm vs : Value) (ks : List Value) (w : World) (hB : w.heap[B]? = some (.cells c tB (0, 0))) (h1 : c[off + 1]? = some vs) (hN : NumOk w 135 2 vm vs ks) :
    Calls Try.prog 78 #[.pointer (some ⟨B, off, none⟩)] w fun e w' => e = .returned (.int .i64 ks.length) ∧ w' = w := by
  obtain ⟨av, capv, rfl⟩ := slice_of hN
  have b1 : w.cell? ⟨B, off + 1, none⟩ = some (.slice av ks.length capv) := by rw [cell_of_block hB]; exact h1
  clear hB h1 hN
  go_enter Try.func78, Try.ntmps78
  go_wp2
  go_ret
  exact ⟨rfl, rfl⟩

theorem infoPair1 : (Try.prog.info? 135).map (·.size) = some 2 := by kernel_rfl
set_option maxRecDepth 100000 in
set_option maxHeartbeats 1000000 in
theorem memPair_code (B off : Nat) (c : Array Value) (tB : TypeId) (vm vs : Value) (ks : List Value) (w : World) (hB : w.heap[B]? = some (.cells c tB (0, 0))) (h1 : c[off + 1]? = some vs) (hN : NumOk w 135 2 vm vs ks) (i : Nat) (a b : Int) (hi : ks[i]? = some (pairV a b)) :
    Calls Try.prog 79 #[.pointer (some ⟨B, off, none⟩), .int .i64 i] w fun e w' => e = .returned (pairV a b) ∧ Below w.heap.size w w' := by
  have hil : i < ks.length := (List.getElem?_eq_some_iff.1 hi).1
  obtain ⟨g, cap, rfl, lg, _, hc⟩ := member_at hN hi
  have lB := lt_of_block hB
  have hi' : (i : Int) < ks.length := by omega
  have HB := hide hB
  have HC := hide hc
  clear hB hN hi hc
  go_enter Try.func79, Try.ntmps79
  go_upto_region 1 with fail
  have kW : Kp [] w (w.alloc (.cells #[.int .i64 0, .int .i64 0] 135)) := (Kp.refl _ w).alloc _
  have bR : (w.alloc (.cells #[.int .i64 0, .int .i64 0] 135)).heap[w.heap.size]? = some (.cells #[.int .i64 0, .int .i64 0] 135 (0, 0)) := by rw [blk_alloc, if_pos rfl]
  generalize (w.alloc (.cells #[.int .i64 0, .int .i64 0] 135)) = W at *
  have b1 : W.cell? ⟨B, off + 1, none⟩ = some (.slice (some ⟨g, 0, none⟩) ks.length cap) := by rw [cell_of_block (kW.keep HB.out (by simp))]; exact h1
  have KW := hide kW
  have BR := hide bR
  clear kW bR
  apply wp_region_lit
  iterate 18 go_step
  refine loadMid rfl _ _ rfl (b := g) (o := i * 2) (pairV a b).cells (fun j hj => ?_) rfl _ Try.underlying135 rfl infoPair1 ?_
  · rw [← HC.out j hj]; exact (bkeepc KW.out.toBelow lg)
  refine storeAll rfl _ _ _ rfl BR.out rfl rfl rfl infoPair1 (by simp [Value.oneCell', Value.cells]) ?_
  intro w2 b2 k2 s2
  go_wp2
  refine bodyPost_ret (v := pairV a b) (res_cell Try.results79 rfl b2 _ Try.underlying135 rfl infoPair1) rfl ⟨rfl, (KW.out.trans k2 (by simp)).toBelow⟩

set_option maxRecDepth 100000 in
set_option maxHeartbeats 1000000 in
theorem putPair_code (B off : Nat) (c : Array Value) (tB : TypeId) (vm vs : Value) (ks : List Value) (a b : Int) (w : World) (hB : w.heap[B]? = some (.cells c tB (0, 0))) (h0 : c[off]? = some vm) (h1 : c[off + 1]? = some vs)
    (hN : NumOk w 135 2 vm vs ks) (hk : Keyish Try.prog 135 (pairV a b)) (hBn : B ∉ nfoot vm vs) (hlen : ks.length < 100000) :
    Calls Try.prog 65 #[.pointer (some ⟨B, off, none⟩), pairV a b] w fun e w' => ∃ (i : Nat) (vm' vs' : Value), e = .returned (.int .i64 i) ∧ (addK ks (pairV a b))[i]? = some (pairV a b) ∧
      NumPost B off c tB 135 2 vm vs ks w vm' vs' (addK ks (pairV a b)) w' := by
  have lB := lt_of_block hB
  have HB := hide hB
  have HN := hide hN
  have H0 := hide h0
  have H1 := hide h1
  have HF : Hid (∀ g ∈ nfoot vm vs, g < w.heap.size) := hN.lt
  clear hB hN h0 h1
  go_enter Try.func65, Try.ntmps65
  go_upto_region 1 with fail
  have kW : Kp [] w (w.alloc (pairO a b)) := (Kp.refl _ w).alloc _
  have bX : (w.alloc (pairO a b)).heap[w.heap.size]? = some (pairO a b) := by rw [blk_alloc, if_pos rfl]
  generalize (w.alloc (pairO a b)) = W at *
  obtain ⟨x0, x1, _⟩ := two bX
  have KW := hide kW
  have BX := hide bX
  clear kW bX
  go_region_with ((go_at_call 71; refine (numPair_code B off c tB vm vs ks a b _ ((KW.out.drew).keep HB.out (by simp)) H0.out H1.out (HN.out.kp KW.out.drew (by simp)) hk hBn hlen).mono ?_; rintro _ w2 ⟨i, vm', vs', rfl, hi, hp⟩))
  all_goals
    go_wp2
    go_ret
    refine ⟨i, vm', vs', rfl, hi, hp.blk, hp.ok, ?_, ?_⟩
    · exact (KW.out.drew.mono (by simp)).trans hp.kp (by intro y hy; exact .inl hy)
    · intro g hg
      rcases hp.foot g hg with e | e
      · exact .inl e
      · exact .inr (Nat.le_trans KW.out.size e)

theorem blk_set2 {w : World} {b : Nat} {x0 x1 : Value} {e : TypeId} (h : w.heap[b]? = some (.cells #[x0, x1] e (0, 0))) (v0 v1 : Value) :
    ((w.setCell ⟨b, 0, none⟩ v0).setCell ⟨b, 1, none⟩ v1).heap[b]? = some (.cells #[v0, v1] e (0, 0)) := by
  simp only [blk_set, h]; simp [setObj_cells]
theorem Kp.set2 {xs : List Nat} {w w1 : World} (h : Kp xs w w1) {b : Nat} (hb : b ∈ xs ∨ w.heap.size ≤ b) (v0 v1 : Value) : Kp xs w ((w1.setCell ⟨b, 0, none⟩ v0).setCell ⟨b, 1, none⟩ v1) :=
  (h.set hb _ _).set hb _ _

abbrev zPair : Obj := .cells #[.int .i64 0, .int .i64 0] 135 (0, 0)

set_option maxRecDepth 100000 in
set_option maxHeartbeats 1000000 in
theorem takePair_end (B off : Nat) (c : Array Value) (tB : TypeId) (vm vs : Value) (ks : List Value) (w : World) (hB : w.heap[B]? = some (.cells c tB (0, 0))) (h1 : c[off + 1]? = some vs)
    (hN : NumOk w 135 2 vm vs ks) (h2 : c[off + 2]? = some (.int .i64 ks.length)) :
    Calls Try.prog 66 #[.pointer (some ⟨B, off, none⟩)] w fun e w' => e = .returned (.tuple #[pairV 0 0, .bool false]) ∧ Below w.heap.size w w' := by
  have lB := lt_of_block hB
  have HB := hide hB
  have HN := hide hN
  have H1 := hide h1
  have H2 := hide h2
  clear hB hN h1 h2
  go_enter Try.func66, Try.ntmps66
  go_upto_region 1 with fail
  have kW : Kp [] w (w.alloc zPair) := (Kp.refl _ w).alloc _
  have bR : (w.alloc zPair).heap[w.heap.size]? = some zPair := by rw [blk_alloc, if_pos rfl]
  generalize (w.alloc zPair) = W at *
  have lR := lt_of_block bR
  have c2 : W.cell? ⟨B, off + 2, none⟩ = some (.int .i64 ks.length) := by rw [cell_of_block (kW.keep HB.out (by simp))]; exact H2.out
  have KW := hide kW
  have BR := hide bR
  clear kW bR
  go_quiet ((go_at_call 78; exact Calls.quiet_of_same (cntPair_code B off c tB vm vs ks _ (by exact KW.out.keep HB.out (by simp)) H1.out (HN.out.kp (KW.out.drewN _) (by simp)))))
  go_upto_region 3 with fail
  apply wp_region_lit
  have bT : ((W.drewN nq).alloc zPair).heap[W.heap.size]? = some zPair := by rw [blk_alloc, World.heap_drewN, if_pos rfl]
  have bZ : ((W.drewN nq).alloc zPair).heap[w.heap.size]? = some zPair := by rw [blk_alloc, World.heap_drewN, if_neg (Nat.ne_of_lt lR)]; exact BR.out
  refine loadAll rfl _ _ rfl bT rfl _ Try.underlying135 rfl infoPair1 ?_
  refine storeAll rfl _ _ _ rfl bZ rfl rfl rfl infoPair1 (by simp [Value.oneCell']) ?_
  intro w2 b2 k2 s2
  go_wp2
  exact bodyPost_ret (v := .tuple #[pairV 0 0, .bool false]) (res_cell_tmp Try.results66 rfl rfl b2 _ Try.underlying135 rfl infoPair1) rfl ⟨rfl, (((KW.out.drewN _).alloc _).trans k2 (by simp)).toBelow⟩

set_option maxRecDepth 100000 in
set_option maxHeartbeats 2000000 in
theorem takePair_more (B off : Nat) (c : Array Value) (tB : TypeId) (vm vs : Value) (ks : List Value) (k : Nat) (a b : Int) (w : World) (hB : w.heap[B]? = some (.cells c tB (0, 0))) (h1 : c[off + 1]? = some vs)
    (hN : NumOk w 135 2 vm vs ks) (h2 : c[off + 2]? = some (.int .i64 k)) (hk : ks[k]? = some (pairV a b)) (hlen : ks.length < 100000) :
    Calls Try.prog 66 #[.pointer (some ⟨B, off, none⟩)] w fun e w' => e = .returned (.tuple #[pairV a b, .bool true]) ∧ w'.heap[B]? = some (.cells (c.setIfInBounds (off + 2) (.int .i64 (k + 1 : Nat))) tB (0, 0)) ∧ Kp [B] w w' := by
  have lB := lt_of_block hB
  have hkl : k < ks.length := (List.getElem?_eq_some_iff.1 hk).1
  have hne : ((k : Int) == ks.length) = false := by simp; omega
  have HB := hide hB
  have HN := hide hN
  have H1 := hide h1
  have H2 := hide h2
  have HK := hide hk
  clear hB hN h1 h2 hk
  go_enter Try.func66, Try.ntmps66
  go_upto_region 1 with fail
  have kW : Kp [] w (w.alloc zPair) := (Kp.refl _ w).alloc _
  have bR : (w.alloc zPair).heap[w.heap.size]? = some zPair := by rw [blk_alloc, if_pos rfl]
  generalize (w.alloc zPair) = W at *
  have lR := lt_of_block bR
  have c2 : W.cell? ⟨B, off + 2, none⟩ = some (.int .i64 k) := by rw [cell_of_block (kW.keep HB.out (by simp))]; exact H2.out
  have KW := hide kW
  have BR := hide bR
  clear kW bR
  go_quiet ((go_at_call 78; exact Calls.quiet_of_same (cntPair_code B off c tB vm vs ks _ (by exact KW.out.keep HB.out (by simp)) H1.out (HN.out.kp (KW.out.drewN _) (by simp)))))
  go_upto_region 4 with fail
  have kW : Kp [] w (W.drewN nq) := KW.out.drewN _
  have bR : (W.drewN nq).heap[w.heap.size]? = some zPair := BR.out
  have c2' : (W.drewN nq).cell? ⟨B, off + 2, none⟩ = some (.int .i64 k) := c2
  clear c2 KW BR lR
  generalize W.drewN nq = W1 at *
  have lR := lt_of_block bR
  have BR := hide bR
  have KW := hide kW
  have lB1 : B < W1.heap.size := Nat.lt_of_lt_of_le lB kW.size
  have nB1 : B ≠ W1.heap.size := Nat.ne_of_lt lB1
  clear kW bR
  go_region_with ((go_at_call 79; (first | (refine (memPair_code B off c tB vm vs ks _ (by exact KW.out.drew.keep HB.out (by simp)) H1.out (HN.out.kp KW.out.drew (by simp)) k a b HK.out).mono ?_; rintro _ w2 ⟨rfl, h2⟩; have kA := (Kp.refl [] W1).drew.below h2; have sA := kA.size) | (refine (memPair_code B off c tB vm vs ks _ (by exact (KW.out.drew.alloc _).keep HB.out (by simp)) H1.out (HN.out.kp (KW.out.drew.alloc _) (by simp)) k a b HK.out).mono ?_; rintro _ w2 ⟨rfl, h2⟩; have kA := ((Kp.refl [] W1).drew.alloc _).below h2; have bA : w2.heap[W1.heap.size]? = some zPair := bkeep h2 (by rw [blk_alloc, size_drew, if_pos rfl]); obtain ⟨x0, x1, f0, f1⟩ := two bA; have BA := hide bA; have sA := kA.size; clear bA))))
  all_goals
    try simp only [size_drew]
    first
      | (have kX : Kp [] W1 ((w2.setCell ⟨W1.heap.size, 0, none⟩ (.int .i64 a)).setCell ⟨W1.heap.size, 1, none⟩ (.int .i64 b)) := kA.set2 (.inr (Nat.le_refl _)) _ _
         have bX : ((w2.setCell ⟨W1.heap.size, 0, none⟩ (.int .i64 a)).setCell ⟨W1.heap.size, 1, none⟩ (.int .i64 b)).heap[W1.heap.size]? = some (pairO a b) := blk_set2 BA.out _ _
         generalize ((w2.setCell ⟨W1.heap.size, 0, none⟩ (.int .i64 a)).setCell ⟨W1.heap.size, 1, none⟩ (.int .i64 b)) = W3 at *
         clear x0 x1 f0 f1
         clear BA
         have sA : W1.heap.size ≤ W1.heap.size := Nat.le_refl _
         generalize hX : W1.heap.size = X at *)
      | (have kX : Kp [] W1 (w2.alloc (pairO a b)) := kA.alloc _
         have bX : (w2.alloc (pairO a b)).heap[w2.heap.size]? = some (pairO a b) := by rw [blk_alloc, if_pos rfl]
         generalize (w2.alloc (pairO a b)) = W3 at *
         generalize w2.heap.size = X at *)
    have b3 : W3.heap[B]? = some (.cells c tB (0, 0)) := (KW.out.trans kX (by simp)).keep HB.out (by simp)
    have c3 : W3.cell? ⟨B, off + 2, none⟩ = some (.int .i64 k) := by rw [cell_of_block b3]; exact H2.out
    have f3 := frozen_of_block b3 (off + 2)
    have bR := kX.keep BR.out (by simp)
    have K3 := hide (KW.out.trans kX (by simp))
    have BX := hide bX
    have B3 := hide b3
    have BR3 := hide bR
    clear kX bX b3 bR c2' h2 kA
    have nX : X ≠ B := by omega
    have nR : w.heap.size ≠ B := by omega
    try clear hX
    clear sA nB1 lB1 lR
    go_upto_region 6 with fail
    apply wp_region_lit
    refine loadAll rfl _ _ rfl (b := X) (c := #[.int .i64 a, .int .i64 b]) (by rw [blk_set, if_neg nX]; exact BX.out) rfl _ Try.underlying135 rfl infoPair1 ?_
    refine storeAll rfl _ _ _ rfl (b := w.heap.size) (c := #[.int .i64 0, .int .i64 0]) (e := 135) (by rw [blk_set, if_neg nR]; exact BR3.out) rfl rfl rfl infoPair1 (by simp [Value.oneCell']) ?_
    intro w4 b4 k4 s4
    go_wp2
    refine bodyPost_ret (v := .tuple #[pairV a b, .bool true]) (res_cell_tmp Try.results66 rfl rfl b4 _ Try.underlying135 rfl infoPair1) rfl ⟨rfl, ?_, ((K3.out.mono (by simp)).set (by simp) _ _).trans k4 (by intro y hy; simp at hy; omega)⟩
    refine k4.keep ?_ (by simp; omega)
    rw [blk_set, if_pos rfl, B3.out]
    rfl

set_option maxRecDepth 100000 in
set_option maxHeartbeats 1000000 in
theorem hasPair_code (B off : Nat) (c : Array Value) (tB : TypeId) (vm vs : Value) (ks : List Value) (a b : Int) (r : Bool) (w : World) (hB : w.heap[B]? = some (.cells c tB (0, 0))) (h0 : c[off]? = some vm)
    (hN : NumOk w 135 2 vm vs ks) (hk : Keyish Try.prog 135 (pairV a b)) (hr : r = true ↔ pairV a b ∈ ks) :
    Calls Try.prog 84 #[.pointer (some ⟨B, off, none⟩), pairV a b] w fun e w' => e = .returned (.bool r) ∧ Below w.heap.size w w' := by
  have c0 : w.cell? ⟨B, off, none⟩ = some vm := by rw [cell_of_block hB]; exact h0
  have lB := lt_of_block hB
  have hl : ∃ q : Int, ∀ o, (Instr.lookup 103 vm (pairV a b) true).run Try.prog (w.alloc o).drew = .ok (.tuple #[.int .i64 q, .bool r]) (w.alloc o).drew := by
    cases r with
    | true =>
      have hx := hr.1 rfl
      obtain ⟨i, hi⟩ := List.getElem?_of_mem hx
      obtain ⟨mb, rfl, hm⟩ : ∃ mb, vm = .map (some mb) ∧ NumMap w mb ks := by
        rcases hN.map with ⟨_, q⟩ | q
        · rw [q] at hi; simp at hi
        · exact q
      have lm := hm.lt
      exact ⟨i, fun o => look_known keyPair Try.underlying103 _ (hm.keep (by rw [blk_drew, blk_alloc, if_neg (Nat.ne_of_lt lm)])) hN.key hN.nodup hi⟩
    | false =>
      have hx : pairV a b ∉ ks := fun e => by have := hr.2 e; cases this
      rcases hN.map with ⟨rfl, _⟩ | ⟨mb, rfl, hm⟩
      · exact ⟨0, fun o => look_none keyPair Try.underlying103 _ (zeroInt _) hk⟩
      · have lm := hm.lt
        exact ⟨0, fun o => look_new keyPair Try.underlying103 _ (zeroInt _) (hm.keep (by rw [blk_drew, blk_alloc, if_neg (Nat.ne_of_lt lm)])) hN.key hk hx⟩
  obtain ⟨q, hl⟩ := hl
  clear hN h0 hB hr
  go_enter Try.func84, Try.ntmps84
  go_wp2_with fail
  go_region
  all_goals
    go_wp2
    go_ret
    exact ⟨rfl, ((Below.refl _ _).alloc (Nat.le_refl _) _).drew⟩

set_option maxRecDepth 100000 in
set_option maxHeartbeats 1000000 in
theorem whasPair_code (B off : Nat) (c : Array Value) (tB : TypeId) (vm vs : Value) (ks : List Value) (a b : Int) (r : Bool) (w : World) (hB : w.heap[B]? = some (.cells c tB (0, 0))) (h0 : c[off]? = some vm)
    (hN : NumOk w 135 2 vm vs ks) (hk : Keyish Try.prog 135 (pairV a b)) (hr : r = true ↔ pairV a b ∈ ks) :
    Calls Try.prog 70 #[.pointer (some ⟨B, off, none⟩), pairV a b] w fun e w' => e = .returned (.bool r) ∧ Below w.heap.size w w' := by
  have HB := hide hB
  have HN := hide hN
  have H0 := hide h0
  have HR := hide hr
  clear hB hN h0 hr
  go_enter Try.func70, Try.ntmps70
  go_upto_region 1 with fail
  have kW : Kp [] w (w.alloc (pairO a b)) := (Kp.refl _ w).alloc _
  have bX : (w.alloc (pairO a b)).heap[w.heap.size]? = some (pairO a b) := by rw [blk_alloc, if_pos rfl]
  generalize (w.alloc (pairO a b)) = W at *
  obtain ⟨x0, x1, _⟩ := two bX
  have KW := hide kW
  clear kW bX
  go_region_with ((go_at_call 84; refine (hasPair_code B off c tB vm vs ks a b r _ ((KW.out.drew).keep HB.out (by simp)) H0.out (HN.out.kp KW.out.drew (by simp)) hk HR.out).mono ?_; rintro _ w2 ⟨rfl, h2⟩))
  all_goals
    go_wp2
    go_ret
    exact ⟨rfl, (KW.out.drew.below h2).toBelow⟩

set_option maxRecDepth 100000 in
set_option maxHeartbeats 1000000 in
theorem inOrder_code (a b : Int) (w : World) :
    Calls Try.prog 80 #[.int .i64 a, .int .i64 b] w fun e w' => e = .returned (pairV (min a b) (max a b)) ∧ Below w.heap.size w w' := by
  go_enter Try.func80, Try.ntmps80
  go_wp2
  all_goals
    refine bodyPost_ret (v := .agg #[_, _]) (res_cell Try.results80 rfl (by rw [blk_alloc, if_pos rfl]) _ Try.underlying135 rfl infoPair1) rfl ⟨?_, (Below.refl _ _).alloc (Nat.le_refl _) _⟩
    simp only [pairV, Ending.returned.injEq, Value.agg.injEq, Array.mk.injEq, List.cons.injEq, Value.int.injEq, true_and, and_true]
    omega
end Go.Proofs.Ytbjdkbcfpmeneaa
