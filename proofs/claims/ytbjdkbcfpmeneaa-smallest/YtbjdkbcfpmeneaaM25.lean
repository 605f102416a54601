/- What is proved here: what Number, Count, Member, Put and Take of integers do. -/
import Derived.Test.YtbjdkbcfpmeneaaM06
import Derived.Test.YtbjdkbcfpmeneaaM12
import Derived.Test.YtbjdkbcfpmeneaaM21
import Derived.Test.YtbjdkbcfpmeneaaM02
import Derived.Test.YtbjdkbcfpmeneaaRows
import Derived.Deep.Cut
import Derived.Test.YtbjdkbcfpmeneaaM19
import Derived.Test.YtbjdkbcfpmeneaaM14
import Derived.Test.YtbjdkbcfpmeneaaM20
import Derived.Test.YtbjdkbcfpmeneaaM22
namespace Go.Proofs.Ytbjdkbcfpmeneaa
set_option linter.unusedVariables false
set_option linter.unusedSimpArgs false
open Go.RowKit Go.ChangeMaps

theorem grown_drew {w w' : World} {r : Option Nat} (h : w.grownBy w' r) : w.drew.grownBy w' r := ⟨h.os, h.tape, h.output, h.size, h.block⟩
abbrev intV (a : Int) : Value := .int .i64 a

set_option maxRecDepth 100000 in
set_option maxHeartbeats 1000000 in
theorem numInt_known (B off : Nat) (c : Array Value) (tB : TypeId) (vm vs : Value) (ks : List Value) (a : Int) (i : Nat) (w : World) (hB : w.heap[B]? = some (.cells c tB (0, 0))) (h0 : c[off]? = some vm) (h1 : c[off + 1]? = some vs)
    (hN : NumOk w 3 1 vm vs ks) (hi : ks[i]? = some (intV a)) :
    Calls Try.prog 81 #[.pointer (some ⟨B, off, none⟩), intV a] w fun e w' => e = .returned (.int .i64 i) ∧ w' = w := by
  obtain ⟨mb, rfl, hm⟩ : ∃ mb, vm = .map (some mb) ∧ NumMap w mb ks := by
    rcases hN.map with ⟨_, q⟩ | q
    · rw [q] at hi; simp at hi
    · exact q
  have c0 : w.cell? ⟨B, off, none⟩ = some (.map (some mb)) := by rw [cell_of_block hB]; exact h0
  have hl : (Instr.lookup 139 (.map (some mb)) (intV a) true).run Try.prog w = .ok (.tuple #[.int .i64 i, .bool true]) w :=
    look_known keyInt Try.underlying139 _ hm hN.key hN.nodup hi
  clear hm hN hi h0 h1 hB
  go_enter Try.func81, Try.ntmps81
  go_wp2
  go_ret
  exact ⟨rfl, rfl⟩

set_option maxRecDepth 100000 in
set_option maxHeartbeats 2000000 in
theorem numInt_some (B off : Nat) (c : Array Value) (tB : TypeId) (mb : Nat) (vs : Value) (ks : List Value) (a : Int) (w : World) (hB : w.heap[B]? = some (.cells c tB (0, 0))) (h0 : c[off]? = some (.map (some mb))) (h1 : c[off + 1]? = some vs)
    (hN : NumOk w 3 1 (.map (some mb)) vs ks) (hx : intV a ∉ ks) (hk : Keyish Try.prog 3 (intV a)) (hBn : B ∉ nfoot (.map (some mb)) vs) (hlen : ks.length < 100000) :
    Calls Try.prog 81 #[.pointer (some ⟨B, off, none⟩), intV a] w fun e w' => e = .returned (.int .i64 ks.length) ∧
      ∃ vs', NumPost B off c tB 3 1 (.map (some mb)) vs ks w (.map (some mb)) vs' (ks ++ [intV a]) w' := by
  have hm : NumMap w mb ks := by
    rcases hN.map with ⟨q, _⟩ | ⟨m, q, r⟩
    · cases q
    · cases q; exact r
  have c0 : w.cell? ⟨B, off, none⟩ = some (.map (some mb)) := by rw [cell_of_block hB]; exact h0
  have lB := lt_of_block hB
  have lm := hm.lt
  have mB : mb ≠ B := fun e => hBn (nfoot_mem.2 (.inl (by rw [e])))
  have hl : (Instr.lookup 139 (.map (some mb)) (intV a) true).run Try.prog w = .ok (.tuple #[.int .i64 0, .bool false]) w :=
    look_new keyInt Try.underlying139 _ (zeroInt _) hm hN.key hk hx
  have HN := hide hN
  have HB := hide hB
  have H0 := hide h0
  have H1 := hide h1
  obtain ⟨av, capv, rfl⟩ := slice_of hN
  obtain ⟨i0, hi0, hz0, hz1, hz2⟩ := info_parts infoInt
  have b1 : w.cell? ⟨B, off + 1, none⟩ = some (.slice av ks.length capv) := by rw [cell_of_block hB]; exact h1
  have hnil := fun w r => run_eql_map_nil (P := Try.prog) w 139 _ _ r Try.underlying139
  obtain ⟨o, hu, mN⟩ := put_new keyInt Try.underlying139 w hm HN.out.key hk hx
  have MN := hide mN
  have I0 := hide hi0
  have Z0 := hide hz0
  have Z1 := hide hz1
  have Z2 := hide hz2
  clear hm hN h0 h1 hB mN hi0 hz0 hz1 hz2
  go_enter Try.func81, Try.ntmps81
  go_upto_region 8 with fail
  have k2 : Kp [mb] w (setBlock w mb o) := setBlock_kp lm
  have mN := MN.out
  generalize setBlock w mb o = W2 at *
  have bB := k2.keep HB.out (by simp; exact fun e => mB e.symm)
  have rw2 : W2.ownsRow 0 3 1 (.slice av ks.length capv) ks.length (cellsAll ks) := owns_kp HN.out.row k2 (by
    intro g e hm
    simp at hm
    subst hm
    exact HN.out.apart e)
  have K2 := hide k2
  have BB2 := hide bB
  have RW := hide rw2
  have MN2 := hide mN
  clear b1 c0 hu hl MN hnil
  have b1 : W2.cell? ⟨B, off + 1, none⟩ = some (.slice av ks.length capv) := by rw [cell_of_block bB]; exact H1.out
  have lB2 := lt_of_block bB
  clear bB rw2 k2 mN
  apply wp_region_lit
  iterate 21 go_step
  refine appendL rfl _ _ _ rfl 3 i0 _ 1 8 Try.underlying44 I0.out Z0.out Z1.out Z2.out rfl (by omega) (.slice av ks.length capv) ks.length (cellsAll ks) rfl (RW.out.alloc _) ⟨W2.heap.size, 0, none⟩ 1 1 [.int .i64 a] rfl rfl (World.news_of_block (cs := #[.int .i64 a]) (t := 3) (fr := (0, 0)) (heap_alloc_new W2 _)) (by simp [Value.oneCell']) (by omega) (by unfold maxLen; omega) (by omega) (W2.heap.size + 1) (by simp) ?_
  intro g1 cap1 w3 own1 grow1 at1 lt1
  have q3 := gkeep grow1 (b := B) (by rw [blk_alloc, if_neg (Nat.ne_of_lt lB2)]; exact BB2.out) (fun e => hBn (nfoot_mem.2 (.inr e)))
  have nfz : w3.frozen? ⟨B, off + 1, none⟩ = false := frozen_of_block q3 _
  have nc : w3.cell? ⟨B, off + 1, none⟩ = some (.slice av ks.length capv) := by rw [cell_of_block q3]; exact H1.out
  clear q3
  go_wp2
  go_ret
  exact ⟨rfl, _, num_end lB (K2.out.mono (by intro y hy; simp at hy; subst hy; exact List.mem_cons_of_mem _ (nfoot_mem.2 (.inl rfl)))) (.inl rfl) BB2.out (fun v => by rw [two2, set_same H0.out]) HN.out.nodup HN.out.key HN.out.sizes rfl MN2.out hx hk
    (fun g e => HN.out.lt g (nfoot_mem.2 (.inr e))) (fun e => hBn (nfoot_mem.2 (.inr e))) HN.out.apart mB own1 (grown_drew grow1) at1⟩

set_option maxRecDepth 100000 in
set_option maxHeartbeats 2000000 in
theorem numInt_none (B off : Nat) (c : Array Value) (tB : TypeId) (vs : Value) (a : Int) (w : World) (hB : w.heap[B]? = some (.cells c tB (0, 0))) (h0 : c[off]? = some (.map none)) (h1 : c[off + 1]? = some vs)
    (hN : NumOk w 3 1 (.map none) vs []) (hk : Keyish Try.prog 3 (intV a)) (hBn : B ∉ nfoot (.map none) vs) :
    Calls Try.prog 81 #[.pointer (some ⟨B, off, none⟩), intV a] w fun e w' => e = .returned (.int .i64 0) ∧
      ∃ mb vs', NumPost B off c tB 3 1 (.map none) vs [] w (.map (some mb)) vs' [intV a] w' := by
  have c0 : w.cell? ⟨B, off, none⟩ = some (.map none) := by rw [cell_of_block hB]; exact h0
  have lB := lt_of_block hB
  have hl : ∀ w', (Instr.lookup 139 (.map none) (intV a) true).run Try.prog w' = .ok (.tuple #[.int .i64 0, .bool false]) w' := fun w' =>
    look_none keyInt Try.underlying139 _ (zeroInt _) hk
  have HN := hide hN
  have HB := hide hB
  have H0 := hide h0
  have H1 := hide h1
  obtain ⟨av, capv, hvs⟩ := slice_of hN
  simp only [List.length_nil] at hvs
  subst hvs
  obtain ⟨i0, hi0, hz0, hz1, hz2⟩ := info_parts infoInt
  have I0 := hide hi0
  have Z0 := hide hz0
  have Z1 := hide hz1
  have Z2 := hide hz2
  have hnil := fun w r => run_eql_map_nil (P := Try.prog) w 139 _ _ r Try.underlying139
  have hmk : (Instr.makeMap 139 none).run Try.prog w = .ok (.map (some w.heap.size)) (w.alloc (.map #[] 0)) := run_makeMap _ w
  have bB1 : (w.alloc (.map #[] 0)).heap[B]? = some (.cells c tB (0, 0)) := by rw [blk_alloc, if_neg (Nat.ne_of_lt lB)]; exact hB
  have d0 : (w.alloc (.map #[] 0)).cell? ⟨B, off, none⟩ = some (.map none) := by rw [cell_of_block bB1]; exact h0
  have d1 := frozen_of_block bB1 off
  have f0 := frozen_of_block hB off
  clear hN h0 h1 hB hi0 hz0 hz1 hz2 bB1
  go_enter Try.func81, Try.ntmps81
  go_upto_region 6 with fail
  have kM : Kp [B] w ((w.setCell ⟨B, off, none⟩ (.map (some w.heap.size))).alloc (.map #[] 0)) := ((Kp.refl [B] w).set (by simp) _ _).alloc _
  have bB : ((w.setCell ⟨B, off, none⟩ (.map (some w.heap.size))).alloc (.map #[] 0)).heap[B]? = some (.cells (c.setIfInBounds off (.map (some w.heap.size))) tB (0, 0)) := by
    rw [blk_alloc, size_set, if_neg (Nat.ne_of_lt lB), blk_set, if_pos rfl, HB.out]; rfl
  have mW : NumMap ((w.setCell ⟨B, off, none⟩ (.map (some w.heap.size))).alloc (.map #[] 0)) w.heap.size [] := by
    have := num_new (w.setCell ⟨B, off, none⟩ (.map (some w.heap.size)))
    rw [size_set] at this
    exact this
  generalize (w.setCell ⟨B, off, none⟩ (.map (some w.heap.size))).alloc (.map #[] 0) = W1 at *
  generalize hmb : w.heap.size = mb at *
  obtain ⟨o, hu, mN⟩ := put_new keyInt Try.underlying139 W1 mW (by simp) hk (by simp)
  have hu : (Instr.mapUpdate 139 (.map (some mb)) (intV a) (.int .i64 0)).run Try.prog W1 = .ok () (setBlock W1 mb o) := hu
  have l0 := (Array.getElem?_eq_some_iff.1 H0.out).1
  have l1 := (Array.getElem?_eq_some_iff.1 H1.out).1
  have b0' : W1.cell? ⟨B, off, none⟩ = some (.map (some mb)) := by rw [cell_of_block bB, Array.getElem?_setIfInBounds_self_of_lt l0]
  have b1' : W1.cell? ⟨B, off + 1, none⟩ = some (.slice av 0 capv) := by rw [cell_of_block bB, Array.getElem?_setIfInBounds_ne (by omega)]; exact H1.out
  have KM := hide kM
  have BB1 := hide bB
  have MN := hide mN
  have HMB := hide hmb
  have lm1 := mW.lt
  have mBne : B ≠ mb := by omega
  clear d0 d1 hmk kM bB mW mN hmb c0 hl f0
  go_upto_region 8 with fail
  have k2 : Kp [mb] W1 (setBlock W1 mb o) := setBlock_kp lm1
  have mN := MN.out
  generalize setBlock W1 mb o = W2 at *
  have bB := k2.keep BB1.out (by simp; omega)
  have fl : ∀ g, Value.ownBlock (.slice av 0 capv) = some g → g < w.heap.size := fun g e => HN.out.lt g (nfoot_mem.2 (.inr e))
  have nB : Value.ownBlock (.slice av 0 capv) ≠ some B := fun e => hBn (nfoot_mem.2 (.inr e))
  have rw2 : W2.ownsRow 0 3 1 (.slice av 0 capv) 0 [] := owns_kp (owns_kp HN.out.row KM.out (by intro g e hm; simp at hm; subst hm; exact nB e)) k2 (by
    intro g e hm
    simp at hm
    have := fl g e
    have := HMB.out
    omega)
  have K2 := hide k2
  have BB2 := hide bB
  have RW := hide rw2
  have MN2 := hide mN
  clear b0' b1' hu MN BB1 hnil
  have b1 : W2.cell? ⟨B, off + 1, none⟩ = some (.slice av 0 capv) := by rw [cell_of_block bB, Array.getElem?_setIfInBounds_ne (by omega)]; exact H1.out
  have lB2 := lt_of_block bB
  clear bB rw2 k2 mN
  apply wp_region_lit
  iterate 21 go_step
  refine appendL rfl _ _ _ rfl 3 i0 _ 1 8 Try.underlying44 I0.out Z0.out Z1.out Z2.out rfl (by omega) (.slice av 0 capv) 0 [] rfl (RW.out.alloc _) ⟨W2.heap.size, 0, none⟩ 1 1 [.int .i64 a] rfl rfl (World.news_of_block (cs := #[.int .i64 a]) (t := 3) (fr := (0, 0)) (heap_alloc_new W2 _)) (by simp [Value.oneCell']) (by omega) (by unfold maxLen; omega) (by omega) (W2.heap.size + 1) (by simp) ?_
  intro g1 cap1 w3 own1 grow1 at1 lt1
  have q3 := gkeep grow1 (b := B) (by rw [blk_alloc, if_neg (Nat.ne_of_lt lB2)]; exact BB2.out) nB
  have nfz : w3.frozen? ⟨B, off + 1, none⟩ = false := frozen_of_block q3 _
  have nc : w3.cell? ⟨B, off + 1, none⟩ = some (.slice av 0 capv) := by rw [cell_of_block q3, Array.getElem?_setIfInBounds_ne (by omega)]; exact H1.out
  clear q3
  go_wp2
  go_ret
  have hmb := HMB.out
  refine ⟨rfl, mb, _, num_end (ks := []) (x := intV a) (by omega) ((KM.out.mono (by simp)).trans K2.out (by intro y hy; simp at hy; subst hy; exact .inr (by omega))) (.inr (by omega)) BB2.out (fun v => rfl) (by simp) (by simp) (by simp) rfl MN2.out (by simp) hk fl nB (fun e => by have := fl _ e; omega) (by omega) own1 (grown_drew grow1) at1⟩
theorem numInt_code (B off : Nat) (c : Array Value) (tB : TypeId) (vm vs : Value) (ks : List Value) (a : Int) (w : World) (hB : w.heap[B]? = some (.cells c tB (0, 0))) (h0 : c[off]? = some vm) (h1 : c[off + 1]? = some vs)
    (hN : NumOk w 3 1 vm vs ks) (hk : Keyish Try.prog 3 (intV a)) (hBn : B ∉ nfoot vm vs) (hlen : ks.length < 100000) :
    Calls Try.prog 81 #[.pointer (some ⟨B, off, none⟩), intV a] w fun e w' => ∃ (i : Nat) (vm' vs' : Value), e = .returned (.int .i64 i) ∧ (addK ks (intV a))[i]? = some (intV a) ∧
      NumPost B off c tB 3 1 vm vs ks w vm' vs' (addK ks (intV a)) w' := by
  by_cases hx : intV a ∈ ks
  · obtain ⟨i, hi⟩ := List.getElem?_of_mem hx
    rw [addK_old hx]
    exact (numInt_known B off c tB vm vs ks a i w hB h0 h1 hN hi).mono fun e w' h => ⟨i, vm, vs, h.1, hi, by rw [h.2]; exact num_still hB h0 h1 hN (Below.refl _ _)⟩
  · rw [addK_new hx]
    rcases hN.map with ⟨rfl, rfl⟩ | ⟨mb, rfl, _⟩
    · exact (numInt_none B off c tB vs a w hB h0 h1 hN hk hBn).mono fun e w' ⟨h, mb, vs', p⟩ => ⟨0, _, vs', h, rfl, p⟩
    · exact (numInt_some B off c tB mb vs ks a w hB h0 h1 hN hx hk hBn hlen).mono fun e w' ⟨h, vs', p⟩ => ⟨ks.length, _, vs', h, by simp, p⟩

set_option maxRecDepth 100000 in
theorem cntInt_code (B off : Nat) (c : Array Value) (tB : TypeId) (vm vs : Value) (ks : List Value) (w : World) (hB : w.heap[B]? = some (.cells c tB (0, 0))) (h1 : c[off + 1]? = some vs) (hN : NumOk w 3 1 vm vs ks) :
    Calls Try.prog 82 #[.pointer (some ⟨B, off, none⟩)] w fun e w' => e = .returned (.int .i64 ks.length) ∧ w' = w := by
  obtain ⟨av, capv, rfl⟩ := slice_of hN
  have b1 : w.cell? ⟨B, off + 1, none⟩ = some (.slice av ks.length capv) := by rw [cell_of_block hB]; exact h1
  clear hB h1 hN
  go_enter Try.func82, Try.ntmps82
  go_wp2
  go_ret
  exact ⟨rfl, rfl⟩

set_option maxRecDepth 100000 in
theorem memInt_code (B off : Nat) (c : Array Value) (tB : TypeId) (vm vs : Value) (ks : List Value) (w : World) (hB : w.heap[B]? = some (.cells c tB (0, 0))) (h1 : c[off + 1]? = some vs) (hN : NumOk w 3 1 vm vs ks) (i : Nat) (a : Int) (hi : ks[i]? = some (intV a)) :
    Calls Try.prog 83 #[.pointer (some ⟨B, off, none⟩), .int .i64 i] w fun e w' => e = .returned (intV a) ∧ w' = w := by
  have hil : i < ks.length := (List.getElem?_eq_some_iff.1 hi).1
  obtain ⟨g, cap, rfl, lg, _, hc⟩ := member_at hN hi
  have b1 : w.cell? ⟨B, off + 1, none⟩ = some (.slice (some ⟨g, 0, none⟩) ks.length cap) := by rw [cell_of_block hB]; exact h1
  have hi' : (i : Int) < ks.length := by omega
  have d0 := hc 0 (by omega)
  simp only [Nat.mul_one, Nat.add_zero, Value.cells] at d0
  have d0' : w.cell? ⟨g, i, none⟩ = some (intV a) := d0
  clear hB h1 hN hi hc d0
  go_enter Try.func83, Try.ntmps83
  go_wp2
  go_ret
  exact ⟨rfl, rfl⟩

set_option maxRecDepth 100000 in
set_option maxHeartbeats 1000000 in
theorem putInt_code (B off : Nat) (c : Array Value) (tB : TypeId) (vm vs : Value) (ks : List Value) (a : Int) (w : World) (hB : w.heap[B]? = some (.cells c tB (0, 0))) (h0 : c[off]? = some vm) (h1 : c[off + 1]? = some vs)
    (hN : NumOk w 3 1 vm vs ks) (hk : Keyish Try.prog 3 (intV a)) (hBn : B ∉ nfoot vm vs) (hlen : ks.length < 100000) :
    Calls Try.prog 68 #[.pointer (some ⟨B, off, none⟩), intV a] w fun e w' => ∃ (i : Nat) (vm' vs' : Value), e = .returned (.int .i64 i) ∧ (addK ks (intV a))[i]? = some (intV a) ∧
      NumPost B off c tB 3 1 vm vs ks w vm' vs' (addK ks (intV a)) w' := by
  have HB := hide hB
  have HN := hide hN
  have H0 := hide h0
  have H1 := hide h1
  clear hB hN h0 h1
  go_enter Try.func68, Try.ntmps68
  go_wp2_with fail
  refine (numInt_code B off c tB vm vs ks a _ HB.out H0.out H1.out HN.out hk hBn hlen).mono ?_
  rintro _ w2 ⟨i, vm', vs', rfl, hi, hp⟩
  go_wp2
  go_ret
  exact ⟨i, vm', vs', rfl, hi, hp⟩

set_option maxRecDepth 100000 in
set_option maxHeartbeats 1000000 in
theorem takeInt_end (B off : Nat) (c : Array Value) (tB : TypeId) (vm vs : Value) (ks : List Value) (w : World) (hB : w.heap[B]? = some (.cells c tB (0, 0))) (h1 : c[off + 1]? = some vs)
    (hN : NumOk w 3 1 vm vs ks) (h2 : c[off + 2]? = some (.int .i64 ks.length)) :
    Calls Try.prog 69 #[.pointer (some ⟨B, off, none⟩)] w fun e w' => e = .returned (.tuple #[intV 0, .bool false]) ∧ Below w.heap.size w w' := by
  have HB := hide hB
  have HN := hide hN
  have H1 := hide h1
  have c2 : w.cell? ⟨B, off + 2, none⟩ = some (.int .i64 ks.length) := by rw [cell_of_block hB]; exact h2
  clear hB hN h1 h2
  go_enter Try.func69, Try.ntmps69
  go_upto_region 1 with fail
  go_quiet ((go_at_call 82; exact Calls.quiet_of_same (cntInt_code B off c tB vm vs ks _ (by exact HB.out) H1.out (HN.out.kp ((Kp.refl [] w).drewN _) (by simp)))))
  go_wp2
  go_ret2
  exact ⟨rfl, ((Kp.refl [] w).drewN _).toBelow⟩

set_option maxRecDepth 100000 in
set_option maxHeartbeats 1000000 in
theorem takeInt_more (B off : Nat) (c : Array Value) (tB : TypeId) (vm vs : Value) (ks : List Value) (k : Nat) (a : Int) (w : World) (hB : w.heap[B]? = some (.cells c tB (0, 0))) (h1 : c[off + 1]? = some vs)
    (hN : NumOk w 3 1 vm vs ks) (h2 : c[off + 2]? = some (.int .i64 k)) (hk : ks[k]? = some (intV a)) (hlen : ks.length < 100000) :
    Calls Try.prog 69 #[.pointer (some ⟨B, off, none⟩)] w fun e w' => e = .returned (.tuple #[intV a, .bool true]) ∧ w'.heap[B]? = some (.cells (c.setIfInBounds (off + 2) (.int .i64 (k + 1 : Nat))) tB (0, 0)) ∧ Kp [B] w w' := by
  have hkl : k < ks.length := (List.getElem?_eq_some_iff.1 hk).1
  have hne : ((k : Int) == ks.length) = false := by simp; omega
  have HB := hide hB
  have HN := hide hN
  have H1 := hide h1
  have HK := hide hk
  have c2 : w.cell? ⟨B, off + 2, none⟩ = some (.int .i64 k) := by rw [cell_of_block hB]; exact h2
  have f2 := frozen_of_block hB (off + 2)
  clear hB hN h1 h2 hk
  go_enter Try.func69, Try.ntmps69
  go_upto_region 1 with fail
  go_quiet ((go_at_call 82; exact Calls.quiet_of_same (cntInt_code B off c tB vm vs ks _ (by exact HB.out) H1.out (HN.out.kp ((Kp.refl [] w).drewN _) (by simp)))))
  go_upto_region 4 with fail
  have kW : Kp [] w (w.drewN nq) := (Kp.refl [] w).drewN _
  have c2' : (w.drewN nq).cell? ⟨B, off + 2, none⟩ = some (.int .i64 k) := c2
  have f2' : (w.drewN nq).frozen? ⟨B, off + 2, none⟩ = false := f2
  clear c2 f2
  generalize w.drewN nq = W1 at *
  have KW := hide kW
  have HB1 := hide (kW.keep HB.out (by simp))
  have HN1 := hide (HN.out.kp kW (by simp))
  clear kW
  go_quiet ((go_at_call 83; exact Calls.quiet_of_same (memInt_code B off c tB vm vs ks _ (by exact HB1.out) H1.out (HN1.out.kp ((Kp.refl [] W1).drewN _) (by simp)) k a HK.out)))
  go_wp2
  go_ret2
  refine ⟨rfl, ?_, ((KW.out.mono (by simp)).drewN _).set (by simp) _ _⟩
  rw [blk_set, if_pos rfl]
  simp only [World.heap_drewN, HB1.out]
  rfl
end Go.Proofs.Ytbjdkbcfpmeneaa

/- What is proved here: what slices.Clone and slices.Max of integers answer. -/
namespace Go.Proofs.Ytbjdkbcfpmeneaa
set_option linter.unusedVariables false
set_option linter.unusedSimpArgs false
open Go.RowKit Go.ChangeMaps

theorem bkeepc' {w w' : World} (h : Kp [] w w') {b o : Nat} (hb : b < w.heap.size) : w'.cell? ⟨b, o, none⟩ = w.cell? ⟨b, o, none⟩ := h.toBelow.cell (p := ⟨b, o, none⟩) hb
theorem Kp.fresh {xs : List Nat} {w w' : World} (h : Kp xs w w') (hx : ∀ x ∈ xs, w.heap.size ≤ x) : Kp [] w w' := ⟨h.os, h.tape, h.output, h.size, fun k hk _ => h.block k hk (fun e => by have := hx k e; omega)⟩

set_option maxRecDepth 100000 in
set_option maxHeartbeats 1000000 in
theorem clone_code (g cap : Nat) (l : List Int) (w : World) (hl : 0 < l.length) (hlen : l.length ≤ 100000) (hc : ∀ i, i < l.length → w.cell? ⟨g, i, none⟩ = some (.int .i64 (l.getD i 0))) (hg : g < w.heap.size) :
    Calls Try.prog 24 #[.slice (some ⟨g, 0, none⟩) l.length cap] w fun e w' => ∃ g1 cap1, e = .returned (.slice (some ⟨g1, 0, none⟩) l.length cap1) ∧ w.heap.size ≤ g1 ∧ w'.ownsRow 0 3 1 (.slice (some ⟨g1, 0, none⟩) l.length cap1) l.length (iv l) ∧ Below w.heap.size w w' := by
  obtain ⟨i0, hi0, hz0, hz1, hz2⟩ := info_parts infoInt
  have I0 := hide hi0
  have Z0 := hide hz0
  have Z1 := hide hz1
  have Z2 := hide hz2
  have HC := hide hc
  have hnil := fun w => Lib.run_eql_slice_nil (P := Try.prog) w 44 _ (some ⟨g, 0, none⟩) l.length cap 0 0 Try.underlying44
  clear hi0 hz0 hz1 hz2 hc
  go_enter Try.func24, Try.ntmps24
  go_upto_region 3 with fail
  apply wp_region_lit
  iterate 6 go_step
  refine appendL rfl _ _ _ rfl 3 i0 _ 1 8 Try.underlying44 I0.out Z0.out Z1.out Z2.out rfl (by omega) (.slice (some ⟨w.heap.size, 0, none⟩) 0 0) 0 [] rfl (World.ownsRow_made w #[] 0 (Nat.zero_le _) (by unfold maxLen; omega) rfl) ⟨g, 0, none⟩ l.length cap (iv l) rfl (by simp) ?_ (by simp [Value.oneCell']) hl (by unfold maxLen; omega) (by omega) (w.heap.size + 1) (by simp) ?_
  · intro j u hj
    have hjl : j < l.length := by have := (List.getElem?_eq_some_iff.1 hj).1; simpa using this
    rw [Addr.add_mid, Nat.zero_add]
    have := HC.out j hjl
    rw [← bkeepc' ((Kp.refl [] w).alloc (.cells #[] 3 (0, 0))) hg] at this
    rw [this]
    rw [List.getElem?_map, List.getElem?_eq_getElem hjl] at hj
    rw [List.getD_eq_getElem?_getD, List.getElem?_eq_getElem hjl]
    exact hj
  · intro g1 cap1 w3 own1 grow1 at1 lt1
    rw [Nat.zero_add] at own1
    have hg1 : w.heap.size ≤ g1 := by
      rcases at1 with e | e
      · simp [Value.ownBlock] at e; omega
      · omega
    have k3 : Kp [] w w3 := (((Kp.refl [w.heap.size] w).alloc _).grown grow1 (fun k e => by simp [Value.ownBlock] at e; exact .inl (by simp [e]))).fresh (by simp)
    have OWN := hide own1
    have K3 := hide k3
    clear own1 k3 grow1 at1 lt1 hnil I0 Z0 Z1 Z2
    go_wp2
    go_ret
    exact ⟨g1, cap1, by simp, hg1, OWN.out, K3.out.toBelow⟩

set_option maxRecDepth 100000 in
set_option maxHeartbeats 1000000 in
theorem max_code (g cap : Nat) (l : List Int) (w : World) (hl : 0 < l.length) (hlen : l.length ≤ 100000) (hc : ∀ i, i < l.length → w.cell? ⟨g, i, none⟩ = some (.int .i64 (l.getD i 0))) :
    Calls Try.prog 72 #[.slice (some ⟨g, 0, none⟩) l.length cap] w fun e w' => ∃ m : Int, e = .returned (.int .i64 m) ∧ (∀ i, i < l.length → l.getD i 0 ≤ m) ∧ (∃ i, i < l.length ∧ l.getD i 0 = m) ∧ w' = w := by
  have HC := hide hc
  have c0 := hc 0 hl
  have hl' : ¬ (l.length : Int) < 1 := by omega
  have hl2 : (0 : Int) < l.length := by omega
  clear hc
  generalize hx0 : l.getD 0 0 = x0 at *
  have HX0 := hide hx0
  clear hx0
  go_enter Try.func72, Try.ntmps72
  go_wp2_with fail
  go_loopw [3, 4] (fun s3 s4 w' => ∃ (k : Nat) (m : Int), 1 ≤ k ∧ k ≤ l.length ∧ s3 = .int .i64 m ∧ s4 = .int .i64 k ∧ (∀ i, i < k → l.getD i 0 ≤ m) ∧ (∃ i, i < l.length ∧ l.getD i 0 = m) ∧ w' = w)
    (fun _ s4 _ => l.length - (intOf s4).toNat)
  case atStart => exact ⟨1, x0, by omega, by omega, rfl, rfl, fun i hi => by rw [show i = 0 by omega, HX0.out]; exact Int.le_refl _, ⟨0, hl, HX0.out⟩, rfl⟩
  case round =>
    obtain ⟨k, m, hk1, hk, rfl, rfl, hle, hex, rfl⟩ := hrel
    have HLE := hide hle
    have HEX := hide hex
    clear hle hex c0
    by_cases hlt : k < l.length
    · have hlt' : (k : Int) < l.length := by omega
      have ck := HC.out k hlt
      generalize hxk : l.getD k 0 = xk at *
      have HXK := hide hxk
      clear hxk
      go_wp2
      refine ⟨⟨k + 1, if m < xk then xk else m, by omega, by omega, rfl, by go_num, fun i hi => ?_, ?_, trivial⟩, by simp [intOf]; omega⟩
      · by_cases e : i = k
        · subst e
          rw [HXK.out]
          split <;> omega
        · have := HLE.out i (by omega)
          split <;> omega
      · split
        · exact ⟨k, hlt, HXK.out⟩
        · exact HEX.out
    · have hkN : k = l.length := by omega
      subst hkN
      go_wp2
      go_ret
      exact ⟨m, rfl, HLE.out, HEX.out, rfl⟩
end Go.Proofs.Ytbjdkbcfpmeneaa

/- What is proved here: what narrowed and merged of package smallest answer. -/
namespace Go.Proofs.Ytbjdkbcfpmeneaa
set_option linter.unusedVariables false
set_option linter.unusedSimpArgs false
open Go.RowKit Go.ChangeMaps

set_option maxRecDepth 100000 in
set_option maxHeartbeats 2000000 in
theorem narrowed_code (g cap h capn : Nat) (l ns : List Int) (C' : Nat) (w : World) (hl : 0 < l.length) (hlen : l.length ≤ 100000) (hns : ns.length = l.length) (hC : 0 < C') (hCl : C' ≤ 100000) (hg : g < w.heap.size) (hh : h < w.heap.size)
    (hc : ∀ i, i < l.length → w.cell? ⟨g, i, none⟩ = some (.int .i64 (l.getD i 0))) (hd : ∀ i, i < l.length → w.cell? ⟨h, i, none⟩ = some (.int .i64 (ns.getD i 0)))
    (hr : ∀ i, i < l.length → 0 ≤ ns.getD i 0 ∧ ns.getD i 0 < C') (hs : ∃ i, i < l.length ∧ ns.getD i 0 = (C' : Int) - 1) (he : ∀ i j, i < l.length → j < l.length → ns.getD i 0 = ns.getD j 0 → l.getD i 0 = l.getD j 0) :
    Calls Try.prog 44 #[.slice (some ⟨g, 0, none⟩) l.length cap, .slice (some ⟨h, 0, none⟩) l.length capn] w fun e w' => ∃ (b : Nat) (nl : List Int), e = .returned (.slice (some ⟨b, 0, none⟩) C' C') ∧ w.heap.size ≤ b ∧ w'.heap[b]? = some (iO nl) ∧ nl.length = C' ∧ (∀ i, i < l.length → nl.getD (ns.getD i 0).toNat 0 = l.getD i 0) ∧ Below w.heap.size w w' := by
  have HC := hide hc
  have HD := hide hd
  have HR := hide hr
  have HE := hide he
  have HS := hide hs
  clear hc hd hr he hs
  go_enter Try.func44, Try.ntmps44
  go_wp2_with fail
  have hmax := max_code h capn ns w (by omega) (by omega) (fun i hi => HD.out i (by omega))
  rw [hns] at hmax
  refine hmax.mono ?_
  rintro _ w1 ⟨m, rfl, hm1, hm2, rfl⟩
  have em : m = (C' : Int) - 1 := by
    obtain ⟨i, hi, e⟩ := HS.out
    obtain ⟨j, hj, e2⟩ := hm2
    have h1 := hm1 i hi
    have h2 := (HR.out j hj).2
    omega
  subst em
  have hmk := fun w => run_make_ints C' (by omega) w
  have hw1 : IntKind.i64.wrap ((C' : Int) - 1 + 1) = C' := by
    rw [show (C' : Int) - 1 + 1 = C' by omega]
    simp [IntKind.wrap, IntKind.bits, IntKind.signed]; omega
  have hsum : (C' : Int) - 1 + 1 = C' := by omega
  clear hm1 hm2 hmax
  go_upto_region 2 with fail
  have kW : Kp [] w1 (w1.alloc (iO (List.replicate C' 0))) := (Kp.refl _ w1).alloc _
  have bG : (w1.alloc (iO (List.replicate C' 0))).heap[w1.heap.size]? = some (iO (List.replicate C' 0)) := by rw [blk_alloc, if_pos rfl]
  generalize (w1.alloc (iO (List.replicate C' 0))) = W at *
  have KW := hide kW
  have BG := hide bG
  clear kW bG hmk hw1 hsum hns
  go_wp2_with fail
  go_loopw [14] (fun s w' => ∃ (k : Nat) (nl : List Int), k ≤ l.length ∧ s = .int .i64 k ∧ nl.length = C' ∧ (∀ i, i < k → nl.getD (ns.getD i 0).toNat 0 = l.getD i 0) ∧ Kp [] w1 w' ∧ w'.heap[w1.heap.size]? = some (iO nl))
    (fun s _ => l.length - (intOf s).toNat)
  case atStart => exact ⟨0, List.replicate C' 0, by omega, rfl, by simp, fun i hi => by omega, KW.out, BG.out⟩
  case round =>
    obtain ⟨k, nl, hk, rfl, hnl, hdone, kp, bg⟩ := hrel
    have HNL := hide hnl
    have HDN := hide hdone
    have KP := hide kp
    have BGr := hide bg
    by_cases hlt : k < l.length
    · have hlt' : (k : Int) < l.length := by omega
      have ck : wr.cell? ⟨g, k, none⟩ = some (.int .i64 (l.getD k 0)) := by rw [bkeepc' kp hg]; exact HC.out k hlt
      obtain ⟨hr1, hr2⟩ := HR.out k hlt
      obtain ⟨n, hn⟩ : ∃ n : Nat, ns.getD k 0 = n := ⟨(ns.getD k 0).toNat, by omega⟩
      have dk : wr.cell? ⟨h, k, none⟩ = some (.int .i64 (n : Int)) := by rw [bkeepc' kp hh, ← hn]; exact HD.out k hlt
      have hnC : (n : Int) < C' := by omega
      have cb := icell bg n (by omega)
      have fb := ifroz bg n
      have HN := hide hn
      generalize hv : l.getD k 0 = v at *
      have HV := hide hv
      clear hv hn hr1 hr2 hnl hdone kp bg
      go_wp2
      refine ⟨⟨k + 1, nl.set n v, by omega, by go_num, by rw [List.length_set]; exact HNL.out, fun i hi => ?_, KP.out.set (.inr (Nat.le_refl _)) _ _, iset BGr.out n v⟩, by simp [intOf]; omega⟩
      by_cases e : (ns.getD i 0).toNat = n
      · rw [e, getD_set_self _ _ _ (by rw [HNL.out]; omega)]
        have h0 := HR.out i (by omega)
        have h1 := HN.out
        have : ns.getD i 0 = ns.getD k 0 := by omega
        rw [HE.out i k (by omega) hlt this, HV.out]
      · rw [getD_set_other _ _ _ _ (fun q => e q.symm)]
        have : i ≠ k := by
          rintro rfl
          apply e
          rw [HN.out, Int.toNat_natCast]
        exact HDN.out i (by omega)
    · have hkN : k = l.length := by omega
      subst hkN
      clear hnl hdone kp bg
      go_wp2
      go_ret
      exact ⟨w1.heap.size, nl, rfl, Nat.le_refl _, BGr.out, HNL.out, HDN.out, KP.out.toBelow⟩

/- Rows that are read. -/
structure RowsR (w : World) (vr : Value) (N C : Nat) (nx : Nat → Nat → Int) : Prop where
  rows : ∃ gr cap, vr = .slice (some ⟨gr, 0, none⟩) N cap ∧ gr < w.heap.size ∧ ∀ i, i < N → ∃ g c, w.cell? ⟨gr, i, none⟩ = some (.slice (some ⟨g, 0, none⟩) C c) ∧ g < w.heap.size ∧ ∀ k, k < C → w.cell? ⟨g, k, none⟩ = some (.int .i64 (nx i k))
theorem RowsR.kp {w w' : World} {vr : Value} {N C : Nat} {nx : Nat → Nat → Int} (h : RowsR w vr N C nx) (hk : Kp [] w w') : RowsR w' vr N C nx := by
  obtain ⟨gn, cap, e, l, hr⟩ := h.rows
  have s := hk.size
  refine ⟨gn, cap, e, by omega, fun i hi => ?_⟩
  obtain ⟨g, c, q1, q2, q3⟩ := hr i hi
  exact ⟨g, c, by rw [bkeepc' hk l]; exact q1, by omega, fun k hkk => by rw [bkeepc' hk q2]; exact q3 k hkk⟩

/- The numbers of the classes, when some rows were looked at. -/
structure JInv (C : Nat) (nx : Nat → Nat → Int) (r : Nat) (num : Nat → Nat) : Prop where
  eq : ∀ k k', k < C → k' < C → (num k = num k' ↔ ∀ j, j < r → nx j k = nx j k')
  ord : ∀ k m, k < C → m < num k → ∃ k', k' < k ∧ num k' = m
theorem JInv.le {C : Nat} {nx : Nat → Nat → Int} {r : Nat} {num : Nat → Nat} (h : JInv C nx r num) : ∀ k, k < C → num k ≤ k := by
  have : ∀ n k, k < n → k < C → num k ≤ k := by
    intro n
    induction n with
    | zero => intro k hk; omega
    | succ n ih =>
      intro k hk hC
      rcases Nat.eq_zero_or_pos (num k) with e | e
      · omega
      · obtain ⟨k', h1, h2⟩ := h.ord k (num k - 1) hC (by omega)
        have := ih k' (by omega) (by omega)
        omega
  exact fun k hk => this (k + 1) k (by omega) hk
theorem JInv.step {C : Nat} {nx : Nat → Nat → Int} {r : Nat} {num : Nat → Nat} (h : JInv C nx r num) {ks : List Value} {cl : Nat → Nat} (hn : ks.Nodup) (hc : ClsInv (fun k => pairV (num k) (nx r k)) C ks cl) : JInv C nx (r + 1) cl := by
  refine ⟨fun k k' hk hk' => ?_, hc.ord⟩
  have e1 := hc.at_ k hk
  have e2 := hc.at_ k' hk'
  constructor
  · intro e j hj
    rw [e] at e1
    rw [e1] at e2
    have := pairV_inj (Option.some.inj e2)
    by_cases q : j = r
    · rw [q]; exact this.2
    · exact (h.eq k k' hk hk').1 (by omega) j (by omega)
  · intro e
    have q1 : num k = num k' := (h.eq k k' hk hk').2 fun j hj => e j (by omega)
    have q2 := e r (by omega)
    have hv : ks[cl k]? = ks[cl k']? := by rw [e1, e2]; simp only [q1, q2]
    exact (List.getElem?_inj (List.getElem?_eq_some_iff.1 e1).1 hn).1 hv
end Go.Proofs.Ytbjdkbcfpmeneaa
