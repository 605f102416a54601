/- What is proved here: what Number of sets does. -/
import Derived.Test.YtbjdkbcfpmeneaaRows
import Derived.Test.YtbjdkbcfpmeneaaM06
import Derived.Test.YtbjdkbcfpmeneaaM09
import Derived.Deep.Cut
import Derived.Deep.MidRow
import Derived.Deep.RegionHeld3
namespace Go.Proofs.Ytbjdkbcfpmeneaa
set_option linter.unusedVariables false
set_option linter.unusedSimpArgs false
open Go.RowKit Go.ChangeMaps



set_option maxRecDepth 100000 in
set_option maxHeartbeats 1000000 in
theorem numSet_known (B off : Nat) (c : Array Value) (tB : TypeId) (vm vs : Value) (ks : List Value) (s : Nat) (i : Nat) (w : World) (hB : w.heap[B]? = some (.cells c tB (0, 0))) (h0 : c[off]? = some vm) (h1 : c[off + 1]? = some vs)
    (hN : NumOk w 62 4 vm vs ks) (hi : ks[i]? = some (setV s)) :
    Calls Try.prog 52 #[.pointer (some ⟨B, off, none⟩), setV s] w fun e w' => e = .returned (.int .i64 i) ∧ Below w.heap.size w w' := by
  obtain ⟨mb, rfl, hm⟩ : ∃ mb, vm = .map (some mb) ∧ NumMap w mb ks := by
    rcases hN.map with ⟨_, q⟩ | q
    · rw [q] at hi; simp at hi
    · exact q
  have c0 : w.cell? ⟨B, off, none⟩ = some (.map (some mb)) := by rw [cell_of_block hB]; exact h0
  have lB := lt_of_block hB
  have lm := hm.lt
  have hl : ∀ o, (Instr.lookup 82 (.map (some mb)) (setV s) true).run Try.prog (w.alloc o).drew = .ok (.tuple #[.int .i64 i, .bool true]) (w.alloc o).drew := fun o =>
    look_known keySet Try.underlying82 _ (hm.keep (by rw [blk_drew, blk_alloc, if_neg (Nat.ne_of_lt lm)])) hN.key hN.nodup hi
  clear hm hN hi h0 h1 hB
  go_enter Try.func52, Try.ntmps52
  go_wp2_with fail
  go_region
  all_goals
    go_wp2
    go_ret
    exact ⟨rfl, ((Below.refl _ _).alloc (Nat.le_refl _) _).drew⟩

set_option maxRecDepth 100000 in
set_option maxHeartbeats 2000000 in
theorem numSet_some (B off : Nat) (c : Array Value) (tB : TypeId) (mb : Nat) (vs : Value) (ks : List Value) (s : Nat) (w : World) (hB : w.heap[B]? = some (.cells c tB (0, 0))) (h0 : c[off]? = some (.map (some mb))) (h1 : c[off + 1]? = some vs)
    (hN : NumOk w 62 4 (.map (some mb)) vs ks) (hx : setV s ∉ ks) (hk : Keyish Try.prog 62 (setV s)) (hBn : B ∉ nfoot (.map (some mb)) vs) (hlen : ks.length < 100000) :
    Calls Try.prog 52 #[.pointer (some ⟨B, off, none⟩), setV s] w fun e w' => e = .returned (.int .i64 ks.length) ∧
      ∃ vs', NumPost B off c tB 62 4 (.map (some mb)) vs ks w (.map (some mb)) vs' (ks ++ [setV s]) w' := by
  have hm : NumMap w mb ks := by
    rcases hN.map with ⟨q, _⟩ | ⟨m, q, r⟩
    · cases q
    · cases q; exact r
  have c0 : w.cell? ⟨B, off, none⟩ = some (.map (some mb)) := by rw [cell_of_block hB]; exact h0
  have lB := lt_of_block hB
  have lm := hm.lt
  have mB : mb ≠ B := fun e => hBn (nfoot_mem.2 (.inl (by rw [e])))
  have hl : ∀ o, (Instr.lookup 82 (.map (some mb)) (setV s) true).run Try.prog (w.alloc o).drew = .ok (.tuple #[.int .i64 0, .bool false]) (w.alloc o).drew := fun o =>
    look_new keySet Try.underlying82 _ (zeroInt _) (hm.keep (by rw [blk_drew, blk_alloc, if_neg (Nat.ne_of_lt lm)])) hN.key hk hx
  have HN := hide hN
  have HB := hide hB
  have HM := hide hm
  have H0 := hide h0
  have H1 := hide h1
  have hvs : ∃ a cap, vs = .slice a ks.length cap := by
    rcases hN.row.2 with ⟨rfl, e⟩ | ⟨g, cap, cur, rfl, _⟩
    · rw [e]; exact ⟨_, _, rfl⟩
    · exact ⟨_, _, rfl⟩
  obtain ⟨av, capv, rfl⟩ := hvs
  obtain ⟨i0, hi0, hz0, hz1, hz2⟩ := info_parts infoSet
  clear hm hN h0 h1 hB
  go_enter Try.func52, Try.ntmps52
  go_upto_region 1 with fail
  go_region
  all_goals
    have kW : Kp [] w (w.alloc (setO s)).drew := ((Kp.refl [] w).alloc _).drew
    have bX : (w.alloc (setO s)).drew.heap[w.heap.size]? = some (setO s) := by rw [blk_drew, blk_alloc, if_pos rfl]
    generalize (w.alloc (setO s)).drew = W at *
    have lX := lt_of_block bX
    have bB := kW.keep HB.out (by simp)
    have mW : NumMap W mb ks := HM.out.keep (kW.block mb lm (by simp))
    have b0 : W.cell? ⟨B, off, none⟩ = some (.map (some mb)) := by rw [cell_of_block bB]; exact H0.out
    have b1 : W.cell? ⟨B, off + 1, none⟩ = some (.slice av ks.length capv) := by rw [cell_of_block bB]; exact H1.out
    obtain ⟨x0, x1, x2, x3, _⟩ := four bX
    have hnil := fun w r => run_eql_map_nil (P := Try.prog) w 82 _ _ r Try.underlying82
    obtain ⟨o, hu, mN⟩ := put_new keySet Try.underlying82 W.drew (show NumMap W.drew mb ks from mW) HN.out.key hk hx
    have KW := hide kW
    have BX := hide bX
    have BB := hide bB
    have MN := hide mN
    clear c0 hl mW kW bX bB mN
    go_upto_region 7 with fail
    go_region
    all_goals
      have lmW : mb < W.heap.size := Nat.lt_of_lt_of_le lm KW.out.size
      have k2 : Kp [mb] W (setBlock W.drew mb o) := (Kp.refl [mb] W).drew.trans (setBlock_kp (w := W.drew) (b := mb) (o := o) lmW) (by simp)
      have mN := MN.out
      generalize setBlock W.drew mb o = W2 at *
      have bB := k2.keep BB.out (by simp; exact fun e => mB e.symm)
      have bX := k2.keep BX.out (by simp; omega)
      have rw2 : W2.ownsRow 0 62 4 (.slice av ks.length capv) ks.length (cellsAll ks) := owns_kp (owns_kp HN.out.row KW.out (by simp)) k2 (by
        intro g e hm
        simp at hm
        subst hm
        exact HN.out.apart e)
      have K2 := hide k2
      have BX2 := hide bX
      have BB2 := hide bB
      have RW := hide rw2
      have MN2 := hide mN
      clear b0 b1 x0 x1 x2 x3 hu MN BB BX hnil
      have b1 : W2.cell? ⟨B, off + 1, none⟩ = some (.slice av ks.length capv) := by rw [cell_of_block bB]; exact H1.out
      obtain ⟨x0, x1, x2, x3, _⟩ := four bX
      have lX2 := lt_of_block bX
      have lB2 := lt_of_block bB
      have hfz : ∀ o, (W2.alloc o).drew.frozen? ⟨B, off + 1, none⟩ = false := fun o => by
        have : (W2.alloc o).drew.heap[B]? = some (.cells c tB (0, 0)) := by rw [blk_drew, blk_alloc, if_neg (Nat.ne_of_lt lB2)]; exact bB
        exact frozen_of_block this _
      clear bB bX rw2 k2 mN
      go_wp2_with fail
      go_region_law
        ((refine step_append_lies _ (by rfl) _ _ _ (by rfl) 0 62 i0 _ 4 32 Try.underlying68 hi0 hz0 hz1 hz2 rfl (by omega) (.slice av ks.length capv) ks.length (cellsAll ks) (by rfl) ((RW.out.alloc _).drew) ⟨W2.heap.size, 0, none⟩ 1 1 [.int .u64 (wd s 0), .int .u64 (wd s 1), .int .u64 (wd s 2), .int .u64 (wd s 3)] (by rfl) (by rfl) (World.news_of_block (cs := #[.int .u64 (wd s 0), .int .u64 (wd s 1), .int .u64 (wd s 2), .int .u64 (wd s 3)]) (t := 62) (fr := (0, 0)) (heap_alloc_new W2 _)) (by simp [Value.oneCell']) (by omega) (by unfold maxLen; omega) (by omega) (by simp) (W2.heap.size + 1) (by simp) ?_; intro g1 cap1 w3 own1 grow1 at1 lt1; have nfz : w3.frozen? ⟨B, off + 1, none⟩ = false := (frozen_of_block (gkeep grow1 (b := B) (by rw [blk_drew, blk_alloc, if_neg (Nat.ne_of_lt lB2)]; exact BB2.out) (fun e => hBn (nfoot_mem.2 (.inr e)))) _); have nc : w3.cell? ⟨B, off + 1, none⟩ = some (.slice av ks.length capv) := (by rw [cell_of_block (gkeep grow1 (b := B) (by rw [blk_drew, blk_alloc, if_neg (Nat.ne_of_lt lB2)]; exact BB2.out) (fun e => hBn (nfoot_mem.2 (.inr e))))]; exact H1.out)))
      all_goals
        go_wp2
        go_ret
        exact ⟨rfl, _, num_end lB ((KW.out.mono (by simp)).trans K2.out (by intro y hy; simp at hy; subst hy; exact .inl (List.mem_cons_of_mem _ (nfoot_mem.2 (.inl rfl))))) (.inl rfl) BB2.out (fun v => by rw [two2, set_same H0.out]) HN.out.nodup HN.out.key HN.out.sizes rfl MN2.out hx hk
          (fun g e => HN.out.lt g (nfoot_mem.2 (.inr e))) (fun e => hBn (nfoot_mem.2 (.inr e))) HN.out.apart mB own1 grow1 at1⟩

set_option maxRecDepth 100000 in
set_option maxHeartbeats 2000000 in
theorem numSet_none (B off : Nat) (c : Array Value) (tB : TypeId) (vs : Value) (s : Nat) (w : World) (hB : w.heap[B]? = some (.cells c tB (0, 0))) (h0 : c[off]? = some (.map none)) (h1 : c[off + 1]? = some vs)
    (hN : NumOk w 62 4 (.map none) vs []) (hk : Keyish Try.prog 62 (setV s)) (hBn : B ∉ nfoot (.map none) vs) :
    Calls Try.prog 52 #[.pointer (some ⟨B, off, none⟩), setV s] w fun e w' => e = .returned (.int .i64 0) ∧
      ∃ mb vs', NumPost B off c tB 62 4 (.map none) vs [] w (.map (some mb)) vs' [setV s] w' := by
  have c0 : w.cell? ⟨B, off, none⟩ = some (.map none) := by rw [cell_of_block hB]; exact h0
  have lB := lt_of_block hB
  have hl : ∀ w', (Instr.lookup 82 (.map none) (setV s) true).run Try.prog w' = .ok (.tuple #[.int .i64 0, .bool false]) w' := fun w' =>
    look_none keySet Try.underlying82 _ (zeroInt _) hk
  have HN := hide hN
  have HB := hide hB
  have H0 := hide h0
  have H1 := hide h1
  have hvs : ∃ a cap, vs = .slice a 0 cap := by
    rcases hN.row.2 with ⟨rfl, e⟩ | ⟨g, cap, cur, rfl, _⟩
    · exact ⟨_, _, rfl⟩
    · exact ⟨_, _, rfl⟩
  obtain ⟨av, capv, rfl⟩ := hvs
  obtain ⟨i0, hi0, hz0, hz1, hz2⟩ := info_parts infoSet
  clear hN h0 h1 hB
  go_enter Try.func52, Try.ntmps52
  go_upto_region 1 with fail
  go_region
  all_goals
    have kW : Kp [] w (w.alloc (setO s)).drew := ((Kp.refl [] w).alloc _).drew
    have bX : (w.alloc (setO s)).drew.heap[w.heap.size]? = some (setO s) := by rw [blk_drew, blk_alloc, if_pos rfl]
    generalize (w.alloc (setO s)).drew = W at *
    have lX := lt_of_block bX
    have bB := kW.keep HB.out (by simp)
    have lBW := lt_of_block bB
    have b0 : W.cell? ⟨B, off, none⟩ = some (.map none) := by rw [cell_of_block bB]; exact H0.out
    have f0 := frozen_of_block bB off
    have hnil := fun w r => run_eql_map_nil (P := Try.prog) w 82 _ _ r Try.underlying82
    have KW := hide kW
    have BX := hide bX
    have BB := hide bB
    have hmk : (Instr.makeMap 82 none).run Try.prog W = .ok (.map (some W.heap.size)) (W.alloc (.map #[] 0)) := run_makeMap _ W
    have bB1 : (W.alloc (.map #[] 0)).heap[B]? = some (.cells c tB (0, 0)) := by rw [blk_alloc, if_neg (Nat.ne_of_lt lBW)]; exact bB
    have d0 : (W.alloc (.map #[] 0)).cell? ⟨B, off, none⟩ = some (.map none) := by rw [cell_of_block bB1]; exact H0.out
    have d1 := frozen_of_block bB1 off
    clear c0 hl kW bX bB bB1
    go_upto_region 6 with fail
    have kM : Kp [B] W ((W.setCell ⟨B, off, none⟩ (.map (some W.heap.size))).alloc (.map #[] 0)) := ((Kp.refl [B] W).set (by simp) _ _).alloc _
    have bB : ((W.setCell ⟨B, off, none⟩ (.map (some W.heap.size))).alloc (.map #[] 0)).heap[B]? = some (.cells (c.setIfInBounds off (.map (some W.heap.size))) tB (0, 0)) := by
      rw [blk_alloc, size_set, if_neg (Nat.ne_of_lt lBW), blk_set, if_pos rfl, BB.out]; rfl
    have mW : NumMap ((W.setCell ⟨B, off, none⟩ (.map (some W.heap.size))).alloc (.map #[] 0)) W.heap.size [] := by
      have := num_new (W.setCell ⟨B, off, none⟩ (.map (some W.heap.size)))
      rw [size_set] at this
      exact this
    generalize (W.setCell ⟨B, off, none⟩ (.map (some W.heap.size))).alloc (.map #[] 0) = W1 at *
    generalize hmb : W.heap.size = mb at *
    have bX := kM.keep BX.out (by simp; omega)
    obtain ⟨o, hu, mN⟩ := put_new keySet Try.underlying82 W1.drew (show NumMap W1.drew mb [] from mW) (by simp) hk (by simp)
    have hu : (Instr.mapUpdate 82 (.map (some mb)) (setV s) (.int .i64 0)).run Try.prog W1.drew = .ok () (setBlock W1.drew mb o) := hu
    have l0 := (Array.getElem?_eq_some_iff.1 H0.out).1
    have l1 := (Array.getElem?_eq_some_iff.1 H1.out).1
    have b0' : W1.cell? ⟨B, off, none⟩ = some (.map (some mb)) := by rw [cell_of_block bB, Array.getElem?_setIfInBounds_self_of_lt l0]
    have b1' : W1.cell? ⟨B, off + 1, none⟩ = some (.slice av 0 capv) := by rw [cell_of_block bB, Array.getElem?_setIfInBounds_ne (by omega)]; exact H1.out
    obtain ⟨x0, x1, x2, x3, _⟩ := four bX
    have KM := hide kM
    have BX1 := hide bX
    have BB1 := hide bB
    have MN := hide mN
    have lm1 := mW.lt
    clear b0 f0 d0 d1 hmk kM bX bB mW mN BX BB
    go_upto_region 7 with fail
    go_region
    all_goals
      have k2 : Kp [mb] W1 (setBlock W1.drew mb o) := (Kp.refl [mb] W1).drew.trans (setBlock_kp (w := W1.drew) (b := mb) (o := o) lm1) (by simp)
      have mN := MN.out
      generalize setBlock W1.drew mb o = W2 at *
      have bB := k2.keep BB1.out (by simp; omega)
      have bX := k2.keep BX1.out (by simp; omega)
      have fl : ∀ g, Value.ownBlock (.slice av 0 capv) = some g → g < w.heap.size := fun g e => HN.out.lt g (nfoot_mem.2 (.inr e))
      have nB : Value.ownBlock (.slice av 0 capv) ≠ some B := fun e => hBn (nfoot_mem.2 (.inr e))
      have rw2 : W2.ownsRow 0 62 4 (.slice av 0 capv) 0 [] := owns_kp (owns_kp (owns_kp HN.out.row KW.out (by simp)) KM.out (by intro g e hm; simp at hm; subst hm; exact nB e)) k2 (by
        intro g e hm
        simp at hm
        have := fl g e
        omega)
      have K2 := hide k2
      have BX2 := hide bX
      have BB2 := hide bB
      have RW := hide rw2
      have MN2 := hide mN
      clear b0' b1' x0 x1 x2 x3 hu MN BB1 BX1 hnil
      have b1 : W2.cell? ⟨B, off + 1, none⟩ = some (.slice av 0 capv) := by rw [cell_of_block bB, Array.getElem?_setIfInBounds_ne (by omega)]; exact H1.out
      obtain ⟨x0, x1, x2, x3, _⟩ := four bX
      have lX2 := lt_of_block bX
      have lB2 := lt_of_block bB
      clear bB bX rw2 k2 mN
      go_wp2_with fail
      go_region_law
        ((refine step_append_lies _ (by rfl) _ _ _ (by rfl) 0 62 i0 _ 4 32 Try.underlying68 hi0 hz0 hz1 hz2 rfl (by omega) (.slice av 0 capv) 0 [] (by rfl) ((RW.out.alloc _).drew) ⟨W2.heap.size, 0, none⟩ 1 1 [.int .u64 (wd s 0), .int .u64 (wd s 1), .int .u64 (wd s 2), .int .u64 (wd s 3)] (by rfl) (by rfl) (World.news_of_block (cs := #[.int .u64 (wd s 0), .int .u64 (wd s 1), .int .u64 (wd s 2), .int .u64 (wd s 3)]) (t := 62) (fr := (0, 0)) (heap_alloc_new W2 _)) (by simp [Value.oneCell']) (by omega) (by unfold maxLen; omega) (by omega) (by simp) (W2.heap.size + 1) (by simp) ?_; intro g1 cap1 w3 own1 grow1 at1 lt1; have q3 := gkeep grow1 (b := B) (by rw [blk_drew, blk_alloc, if_neg (Nat.ne_of_lt lB2)]; exact BB2.out) nB; have nfz : w3.frozen? ⟨B, off + 1, none⟩ = false := frozen_of_block q3 _; have nc : w3.cell? ⟨B, off + 1, none⟩ = some (.slice av 0 capv) := (by rw [cell_of_block q3, Array.getElem?_setIfInBounds_ne (by omega)]; exact H1.out); clear q3))
      all_goals
        go_wp2
        go_ret
        refine ⟨rfl, mb, _, num_end (ks := []) (x := setV s) lB (((KW.out.mono (by simp)).trans KM.out (by intro y hy; simp at hy; subst hy; exact .inl (by simp))).trans K2.out (by intro y hy; simp at hy; subst hy; exact .inr (by omega))) (.inr (by omega)) BB2.out (fun v => rfl) (by simp) (by simp) (by simp) rfl MN2.out (by simp) hk fl nB (fun e => by have := fl _ e; omega) (by omega) own1 grow1 at1⟩
theorem numSet_code (B off : Nat) (c : Array Value) (tB : TypeId) (vm vs : Value) (ks : List Value) (s : Nat) (w : World) (hB : w.heap[B]? = some (.cells c tB (0, 0))) (h0 : c[off]? = some vm) (h1 : c[off + 1]? = some vs)
    (hN : NumOk w 62 4 vm vs ks) (hk : Keyish Try.prog 62 (setV s)) (hBn : B ∉ nfoot vm vs) (hlen : ks.length < 100000) :
    Calls Try.prog 52 #[.pointer (some ⟨B, off, none⟩), setV s] w fun e w' => ∃ (i : Nat) (vm' vs' : Value), e = .returned (.int .i64 i) ∧ (addK ks (setV s))[i]? = some (setV s) ∧
      NumPost B off c tB 62 4 vm vs ks w vm' vs' (addK ks (setV s)) w' := by
  by_cases hx : setV s ∈ ks
  · obtain ⟨i, hi⟩ := List.getElem?_of_mem hx
    rw [addK_old hx]
    exact (numSet_known B off c tB vm vs ks s i w hB h0 h1 hN hi).mono fun e w' h => ⟨i, vm, vs, h.1, hi, num_still hB h0 h1 hN h.2⟩
  · rw [addK_new hx]
    rcases hN.map with ⟨rfl, rfl⟩ | ⟨mb, rfl, _⟩
    · exact (numSet_none B off c tB vs s w hB h0 h1 hN hk hBn).mono fun e w' ⟨h, mb, vs', p⟩ => ⟨0, _, vs', h, rfl, p⟩
    · exact (numSet_some B off c tB mb vs ks s w hB h0 h1 hN hx hk hBn hlen).mono fun e w' ⟨h, vs', p⟩ => ⟨ks.length, _, vs', h, by simp, p⟩
end Go.Proofs.Ytbjdkbcfpmeneaa
