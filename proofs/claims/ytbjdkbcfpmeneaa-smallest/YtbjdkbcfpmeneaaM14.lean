/- What is proved here: what the builder's classes does: bytes that the same positions match are of one class, numbered by their least bytes. -/
import Derived.Test.YtbjdkbcfpmeneaaRows
import Derived.Test.YtbjdkbcfpmeneaaM13
import Derived.Deep.RegionHeld3
import Derived.Test.YtbjdkbcfpmeneaaM02
import Derived.Laws.Tables
namespace Go.Proofs.Ytbjdkbcfpmeneaa
set_option linter.unusedVariables false
set_option linter.unusedSimpArgs false
open Go.RowKit Go.ChangeMaps

structure ClsInv (x : Nat → Value) (k : Nat) (ks : List Value) (cl : Nat → Nat) : Prop where
  at_ : ∀ c, c < k → ks[cl c]? = some (x c)
  sur : ∀ i, i < ks.length → ∃ c, c < k ∧ cl c = i
  ord : ∀ c i, c < k → i < cl c → ∃ d, d < c ∧ cl d = i
theorem ClsInv.step {x : Nat → Value} {k : Nat} {ks : List Value} {cl : Nat → Nat} (h : ClsInv x k ks cl) {i : Nat} (hi : (addK ks (x k))[i]? = some (x k)) : ClsInv x (k + 1) (addK ks (x k)) (fun c => if c = k then i else cl c) := by
  by_cases hm : x k ∈ ks
  · rw [addK_old hm] at hi ⊢
    have hil := (List.getElem?_eq_some_iff.1 hi).1
    refine ⟨fun c hc => ?_, fun j hj => ?_, fun c j hc hj => ?_⟩
    · by_cases e : c = k
      · subst e; rw [if_pos rfl]; exact hi
      · rw [if_neg e]; exact h.at_ c (by omega)
    · obtain ⟨c, hc, e⟩ := h.sur j hj
      exact ⟨c, by omega, by rw [if_neg (by omega)]; exact e⟩
    · by_cases e : c = k
      · subst e
        rw [if_pos rfl] at hj
        obtain ⟨d, hd, e⟩ := h.sur j (by omega)
        exact ⟨d, hd, by rw [if_neg (by omega)]; exact e⟩
      · rw [if_neg e] at hj
        obtain ⟨d, hd, e2⟩ := h.ord c j (by omega) hj
        exact ⟨d, hd, by rw [if_neg (by omega)]; exact e2⟩
  · rw [addK_new hm] at hi ⊢
    have hil : i = ks.length := by
      rw [List.getElem?_append] at hi
      split at hi
      · exact absurd (List.mem_of_getElem? hi) hm
      · have := (List.getElem?_eq_some_iff.1 hi).1
        simp at this; omega
    subst hil
    refine ⟨fun c hc => ?_, fun j hj => ?_, fun c j hc hj => ?_⟩
    · by_cases e : c = k
      · subst e; rw [if_pos rfl]; simp
      · rw [if_neg e]
        have := h.at_ c (by omega)
        rw [List.getElem?_append_left (List.getElem?_eq_some_iff.1 this).1]; exact this
    · rw [List.length_append, List.length_singleton] at hj
      by_cases e : j = ks.length
      · exact ⟨k, by omega, by rw [if_pos rfl, e]⟩
      · obtain ⟨c, hc, e⟩ := h.sur j (by omega)
        exact ⟨c, by omega, by rw [if_neg (by omega)]; exact e⟩
    · by_cases e : c = k
      · subst e
        rw [if_pos rfl] at hj
        obtain ⟨d, hd, e⟩ := h.sur j hj
        exact ⟨d, hd, by rw [if_neg (by omega)]; exact e⟩
      · rw [if_neg e] at hj
        obtain ⟨d, hd, e2⟩ := h.ord c j (by omega) hj
        exact ⟨d, hd, by rw [if_neg (by omega)]; exact e2⟩

/- The classes as an array. -/
def clArr (cl : Nat → Nat) (k : Nat) : Array Value := (Array.range 256).map fun c => .int .i64 (if c < k then cl c else 0 : Nat)
theorem clArr_size (cl : Nat → Nat) (k : Nat) : (clArr cl k).size = 256 := by simp [clArr]
theorem clArr_get (cl : Nat → Nat) (k c : Nat) (hc : c < 256) : (clArr cl k)[c]? = some (.int .i64 (if c < k then cl c else 0 : Nat)) := by
  simp [clArr, hc]
theorem clArr_zero (cl : Nat → Nat) : clArr cl 0 = Array.replicate 256 (.int .i64 0) := by
  apply Array.ext_getElem?
  intro i
  rcases Nat.lt_or_ge i 256 with h | h
  · rw [clArr_get _ _ _ h]; simp [h]
  · rw [Array.getElem?_eq_none (by rw [clArr_size]; exact h), Array.getElem?_eq_none (by simpa using h)]
theorem clArr_set (cl : Nat → Nat) (k i : Nat) (hk : k < 256) : (clArr cl k).setIfInBounds k (.int .i64 i) = clArr (fun c => if c = k then i else cl c) (k + 1) := by
  apply Array.ext_getElem?
  intro j
  rcases Nat.lt_or_ge j 256 with h | h
  · rw [clArr_get _ _ _ h, Array.getElem?_setIfInBounds, clArr_size]
    by_cases e : k = j
    · subst e; rw [if_pos rfl, if_pos hk, if_pos (by omega), if_pos rfl]
    · rw [if_neg e, clArr_get _ _ _ h]
      by_cases q : j < k
      · rw [if_pos q, if_pos (by omega), if_neg (by omega)]
      · rw [if_neg q, if_neg (by omega)]
  · rw [Array.getElem?_eq_none (by rw [Array.size_setIfInBounds, clArr_size]; exact h), Array.getElem?_eq_none (by rw [clArr_size]; exact h)]
theorem clArr_one (cl : Nat → Nat) (k : Nat) : (clArr cl k).all (·.oneCell') = true := by
  rw [Array.all_eq_true_iff_forall_mem]
  intro v hv
  simp only [clArr, Array.mem_map] at hv
  obtain ⟨c, _, rfl⟩ := hv
  rfl
theorem addK_length (ks : List Value) (x : Value) : (addK ks x).length ≤ ks.length + 1 := by
  by_cases h : x ∈ ks
  · rw [addK_old h]; omega
  · rw [addK_new h]; simp

theorem infoCls : (Try.prog.info? 42).map (fun i => i.zero) = some (some (.agg (Array.replicate 256 (.int .i64 0)))) := by kernel_rfl
theorem infoClsS : (Try.prog.info? 42).map (·.size) = some 256 := by kernel_rfl

abbrev clO (cl : Nat → Nat) (k : Nat) : Obj := .cells (clArr cl k) 42 (0, 0)

/- The builder, when a kind came. -/
theorem Bld.numK {wr w2 w3 : World} {B : Nat} {vp vr vmK vsK vmS vsS vm' vs' : Value} {ks ks' ss : List Value} {tk : Nat} (b : Bld wr B vp vr vmK vsK vmS vsS ks ss tk) (k2 : Kp [] wr w2)
    (hp : NumPost B 2 #[vp, vr, vmK, vsK, vmS, vsS, .int .i64 tk] 92 62 4 vmK vsK ks w2 vm' vs' ks' w3) :
    Bl w3 B vp vr (B :: (nfoot vm' vs' ++ nfoot vmS vsS)) ks' ss tk ∧ Kp (B :: (nfoot vmK vsK ++ nfoot vmS vsS)) wr w3 ∧ ∀ g ∈ B :: (nfoot vm' vs' ++ nfoot vmS vsS), g ∈ B :: (nfoot vmK vsK ++ nfoot vmS vsS) ∨ wr.heap.size ≤ g := by
  have k3 : Kp (B :: nfoot vmK vsK) wr w3 := (k2.mono (by simp)).trans hp.kp (fun y hy => .inl hy)
  have fresh : ∀ g ∈ nfoot vm' vs', g ∈ nfoot vmK vsK ∨ wr.heap.size ≤ g := fun g hg => by
    rcases hp.foot g hg with e | e
    · exact .inl e
    · exact .inr (Nat.le_trans k2.size e)
  refine ⟨⟨vm', vs', vmS, vsS, ⟨hp.blk, hp.ok, ?_, ?_, b.bS, ?_⟩, rfl⟩, k3.mono ?_, ?_⟩
  · refine b.work.kp k3 ?_
    intro k hk hf
    rcases List.mem_cons.1 hk with rfl | q
    · exact b.bS hf
    · exact b.dj k q hf
  · intro hm
    rcases fresh B hm with e | e
    · exact b.bK e
    · have := lt_of_block b.blk; omega
  · intro g hg hm
    rcases fresh g hg with e | e
    · exact b.dj g e hm
    · have := b.work.lt g hm; omega
  · intro x hx
    rcases List.mem_cons.1 hx with rfl | q
    · simp
    · simp [q]
  · intro g hg
    rcases List.mem_cons.1 hg with rfl | q
    · exact .inl (by simp)
    · rcases List.mem_append.1 q with q | q
      · rcases fresh g q with e | e
        · exact .inl (by simp [e])
        · exact .inr e
      · exact .inl (by simp [q])

theorem cell_set_other {w : World} {b b' i j : Nat} {v : Value} (h : b ≠ b') : (w.setCell ⟨b', j, none⟩ v).cell? ⟨b, i, none⟩ = w.cell? ⟨b, i, none⟩ :=
  World.cell?_setCell_other _ _ _ _ (by intro e; apply h; cases e; rfl)

set_option maxRecDepth 100000 in
set_option maxHeartbeats 4000000 in
theorem bClasses_code (B p : Nat) (vr vb vf : Value) (F : List Nat) (bs fs : List Nat) (ss : List Value) (tk : Nat) (w : World) (h : Bl w B (.pointer (some ⟨p, 0, none⟩)) vr F [] ss tk) (hP : ∀ w', Kp F w w' → PosAt w' p bs fs vb vf) (hbs : bs.length ≤ 200) :
    Calls Try.prog 32 #[.pointer (some ⟨B, 0, none⟩)] w fun e w' => ∃ (F' : List Nat) (ks : List Value) (cl : Nat → Nat), e = .returned (.agg (clArr cl 256)) ∧ ks.length ≤ 256 ∧ ClsInv (fun c => setV (takN bs c bs.length)) 256 ks cl ∧
      Bl w' B (.pointer (some ⟨p, 0, none⟩)) vr F' ks ss tk ∧ Kp F w w' ∧ ∀ g ∈ F', g ∈ F ∨ w.heap.size ≤ g := by
  have HH := hide h
  have HP := hide hP
  have lF := hide h.lt
  clear h hP
  go_enter Try.func32, Try.ntmps32
  go_upto_region 0 with fail
  apply wp_region_lit
  refine allocZ rfl _ rfl _ infoCls ?_
  go_upto_region 1 with fail
  apply wp_region_lit
  refine allocZ rfl _ rfl _ infoCls ?_
  simp only [Act.put, List.setIfInBounds_toArray, List.set_cons_zero, List.set_cons_succ, size_alloc, Value.cells]
  have kW : Kp [] w ((w.alloc (.cells (Array.replicate 256 (.int .i64 0)) 42 (0, 0))).alloc (.cells (Array.replicate 256 (.int .i64 0)) 42 (0, 0))) := ((Kp.refl _ w).alloc _).alloc _
  have bR : ((w.alloc (.cells (Array.replicate 256 (.int .i64 0)) 42 (0, 0))).alloc (.cells (Array.replicate 256 (.int .i64 0)) 42 (0, 0))).heap[w.heap.size]? = some (.cells (Array.replicate 256 (.int .i64 0)) 42 (0, 0)) := by
    rw [blk_alloc, size_alloc, if_neg (by omega), blk_alloc, if_pos rfl]
  have bC : ((w.alloc (.cells (Array.replicate 256 (.int .i64 0)) 42 (0, 0))).alloc (.cells (Array.replicate 256 (.int .i64 0)) 42 (0, 0))).heap[w.heap.size + 1]? = some (.cells (Array.replicate 256 (.int .i64 0)) 42 (0, 0)) := by
    rw [blk_alloc, size_alloc, if_pos rfl]
  generalize ((w.alloc (.cells (Array.replicate 256 (.int .i64 0)) 42 (0, 0))).alloc (.cells (Array.replicate 256 (.int .i64 0)) 42 (0, 0))) = W at *
  generalize hz : (Array.replicate 256 (.int .i64 0) : Array Value) = zs at *
  have HZ := hide hz
  have KW := hide kW
  have BR := hide bR
  have BC := hide bC
  clear kW bR bC hz
  go_wp2_with fail
  go_loopw [5] (fun i w' => ∃ (k : Nat) (F' : List Nat) (ks : List Value) (cl : Nat → Nat), k ≤ 256 ∧ i = .int .i64 k ∧ ks.length ≤ k ∧ ClsInv (fun c => setV (takN bs c bs.length)) k ks cl ∧ Bl w' B (.pointer (some ⟨p, 0, none⟩)) vr F' ks ss tk ∧ Kp F w w' ∧
      (∀ g ∈ F', g ∈ F ∨ w.heap.size + 2 ≤ g) ∧ w'.heap[w.heap.size]? = some (.cells zs 42 (0, 0)) ∧ w'.heap[w.heap.size + 1]? = some (clO cl k))
    (fun i _ => 256 - (intOf i).toNat)
  case atStart =>
    refine ⟨0, F, [], fun _ => 0, by omega, rfl, by simp, ⟨fun c hc => by omega, fun i hi => by simp at hi, fun c i hc => by omega⟩, HH.out.kp KW.out (by simp), KW.out.mono (by simp), fun g hg => .inl hg, BR.out, ?_⟩
    rw [clO, clArr_zero, HZ.out]; exact BC.out
  case round =>
    obtain ⟨k, F', ks, cl, hk, rfl, hkl, inv, bl, kp, fr, br, bc⟩ := hrel
    by_cases hlt : k < 256
    · have hlt' : (k : Int) < 256 := by omega
      have hu8 : IntKind.u8.wrap (k : Int) = k := by simp [IntKind.wrap, IntKind.bits, IntKind.signed]; omega
      obtain ⟨vmK, vsK, vmS, vsS, b, hF⟩ := bl
      have nR : w.heap.size ∉ F' := fun hm => by rcases fr _ hm with e | e; have := lF.out _ e; omega; omega
      have nC : w.heap.size + 1 ∉ F' := fun hm => by rcases fr _ hm with e | e; have := lF.out _ e; omega; omega
      have nCB : w.heap.size + 1 ≠ B := fun e => nC (by rw [hF, e]; simp)
      have BL := hide b
      have HF := hide hF
      have KP := hide kp
      have BRr := hide br
      have BCr := hide bc
      have INV := hide inv
      have FR := hide fr
      have htak : ∀ w', PosAt w' p bs fs vb vf → Calls Try.prog 46 #[.pointer (some ⟨p, 0, none⟩), .int .u8 (k : Int)] w' fun x w'' => x = .returned (setV (takN bs k bs.length)) ∧ Below w'.heap.size w' w'' := fun w' h' => taking_code p k bs fs vb vf w' h' hbs hlt
      have hst : ∀ i, (addK ks (setV (takN bs k bs.length)))[i]? = some (setV (takN bs k bs.length)) → ClsInv (fun c => setV (takN bs c bs.length)) (k + 1) (addK ks (setV (takN bs k bs.length))) (fun c => if c = k then i else cl c) := fun i hi => inv.step hi
      generalize takN bs k bs.length = T at *
      have HST := hide hst
      have HT := hide htak
      have lBr := lt_of_block b.blk
      have c0 : wr.drew.cell? ⟨B, 0, none⟩ = some (.pointer (some ⟨p, 0, none⟩)) := by show wr.cell? _ = _; rw [cell_of_block b.blk]; rfl
      have lCr := lt_of_block bc
      clear hst htak inv fr bc br kp b hF
      go_upto_region 5 with fail
      go_region_held3 (fun w' : World => w'.cell? ⟨B, 0, none⟩ = some (.pointer (some ⟨p, 0, none⟩)))
        (first | with_reducible exact c0 | with_reducible exact C2 | with_reducible exact C3 | (rw [cell_set_other nCB.symm]; with_reducible exact C3))
        (first | (go_at_call 46; refine (HT.out _ (HP.out _ (KP.out.drew))).mono ?_; rintro _ w2 ⟨rfl, h2⟩; have k2 := (Kp.refl [] wr).drew.below h2; have C2 : w2.cell? ⟨B, 0, none⟩ = some (.pointer (some ⟨p, 0, none⟩)) := (by rw [bkeepc h2 (by exact lBr)]; exact c0)) | (go_at_call 52; refine (numSet_code B 2 _ 92 vmK vsK ks T _ (k2.keep BL.out.blk (by simp)) rfl rfl (BL.out.kinds.kp k2 (by simp)) (set_key T) BL.out.bK (by omega)).mono ?_; rintro _ w3 ⟨i, vm', vs', rfl, hi, hp⟩; have C3 : w3.cell? ⟨B, 0, none⟩ = some (.pointer (some ⟨p, 0, none⟩)) := (by rw [cell_of_block hp.blk]; rfl); have k3 : Kp (B :: nfoot vmK vsK) wr w3 := (k2.mono (by simp)).trans hp.kp (fun y hy => .inl hy); have bc3 : w3.heap[w.heap.size + 1]? = some (clO cl k) := k3.keep BCr.out (fun hm => nC (by rw [HF.out]; rcases List.mem_cons.1 hm with e | e; simp [e]; simp [e])); have cc3 : w3.cell? ⟨w.heap.size + 1, k, none⟩ = some (.int .i64 (0 : Nat)) := (by rw [cell_of_block bc3, clArr_get _ _ _ hlt, if_neg (by omega)]); have ff3 := frozen_of_block bc3 k))
      all_goals
        obtain ⟨bl3, kk3, fr3⟩ := BL.out.numK k2 hp
        have KK3 : Hid (Kp F' wr w3) := by rw [HF.out]; exact kk3
        have FR3 : Hid (∀ g ∈ B :: (nfoot vm' vs' ++ nfoot vmS vsS), g ∈ F' ∨ wr.heap.size ≤ g) := by rw [HF.out]; exact fr3
        have BL3 := hide bl3
        have BC3 := hide bc3
        have HI := hide hi
        rename_i hHeld
        clear hHeld bl3 kk3 fr3 bc3 cc3 ff3 k3 C3 C2 hp hi k2 h2 c0
        go_wp2
        have sr := KP.out.size
        have sr2 := lCr
        have nC3 : w.heap.size + 1 ∉ B :: (nfoot vm' vs' ++ nfoot vmS vsS) := fun hm => by
          rcases FR3.out _ hm with e | e
          · exact nC e
          · omega
        refine ⟨⟨k + 1, B :: (nfoot vm' vs' ++ nfoot vmS vsS), addK ks (setV T), fun c => if c = k then i else cl c, by omega, by go_num, Nat.le_trans (addK_length _ _) (by omega), HST.out i HI.out, BL3.out.kp ((Kp.refl [w.heap.size + 1] w3).set (by simp) _ _) (by simpa using nC3), ?_, ?_, ?_, ?_⟩, by simp [intOf]; omega⟩
        · refine (KP.out.trans KK3.out ?_).set (.inr (by omega)) _ _
          intro y hy
          rcases FR.out y hy with e | e
          · exact .inl e
          · exact .inr (by omega)
        · intro g hg
          rcases FR3.out g hg with e | e
          · exact FR.out g e
          · exact .inr (by omega)
        · rw [blk_set, if_neg (by omega)]; exact KK3.out.keep BRr.out nR
        · rw [blk_set, if_pos rfl, BC3.out]
          show some (Obj.cells ((clArr cl k).setIfInBounds k _) _ _) = _
          rw [clArr_set _ _ _ hlt]
    · have hkN : k = 256 := by omega
      subst hkN
      have BRr := hide br
      have BCr := hide bc
      have BLr := hide bl
      have INV := hide inv
      have FR := hide fr
      have KP := hide kp
      clear br bc bl inv fr kp
      go_upto_region 7 with fail
      apply wp_region_lit
      refine loadAll rfl _ _ rfl BCr.out rfl _ Try.underlying42 rfl (by rw [clArr_size]; exact infoClsS) ?_
      refine storeAll rfl _ _ _ rfl BRr.out rfl rfl (by rw [clArr_size, ← HZ.out]; simp) (by rw [clArr_size]; exact infoClsS) (clArr_one _ _) ?_
      intro w2 b2 k2 s2
      go_wp2
      refine bodyPost_ret (v := .agg (clArr cl 256)) (res_cell Try.results32 rfl b2 _ Try.underlying42 rfl (by rw [clArr_size]; exact infoClsS)) rfl ⟨F', ks, cl, rfl, hkl, INV.out, BLr.out.kp k2 ?_, KP.out.trans k2 (by simp), ?_⟩
      · intro x hx hm
        rw [List.mem_singleton.1 hx] at hm
        rcases FR.out _ hm with e | e
        · have := lF.out _ e; omega
        · omega
      · intro g hg
        rcases FR.out g hg with e | e
        · exact .inl e
        · exact .inr (by omega)
end Go.Proofs.Ytbjdkbcfpmeneaa

/- What is proved here: tables as values and in memory; what it is to build one. -/
namespace Go.Proofs.Ytbjdkbcfpmeneaa
set_option linter.unusedVariables false
set_option linter.unusedSimpArgs false
open Go.RowKit

/- A table's cells: the classes, the rows, the rules. -/
def tabArr (c : Array Value) (vn va : Value) : Array Value := c ++ #[vn, va]
theorem tabArr_size {c : Array Value} (h : c.size = 256) (vn va : Value) : (tabArr c vn va).size = 258 := by simp [tabArr, h]
theorem tabArr_lo {c : Array Value} (h : c.size = 256) (vn va : Value) {i : Nat} (hi : i < 256) : (tabArr c vn va)[i]? = c[i]? := by
  unfold tabArr; rw [Array.getElem?_append_left (by omega)]
theorem tabArr_256 {c : Array Value} (h : c.size = 256) (vn va : Value) : (tabArr c vn va)[256]? = some vn := by
  unfold tabArr; rw [Array.getElem?_append_right (by omega), h]; rfl
theorem tabArr_257 {c : Array Value} (h : c.size = 256) (vn va : Value) : (tabArr c vn va)[257]? = some va := by
  unfold tabArr; rw [Array.getElem?_append_right (by omega), h]; rfl
theorem tabArr_set256 {c : Array Value} (h : c.size = 256) (vn va v : Value) : (tabArr c vn va).setIfInBounds 256 v = tabArr c v va := by
  apply Array.ext_getElem?
  intro i
  rw [Array.getElem?_setIfInBounds]
  by_cases e : 256 = i
  · subst e; rw [if_pos rfl, if_pos (by rw [tabArr_size h]; omega), tabArr_256 h]
  · rw [if_neg e]
    rcases Nat.lt_or_ge i 256 with q | q
    · rw [tabArr_lo h _ _ q, tabArr_lo h _ _ q]
    · by_cases e2 : i = 257
      · subst e2; rw [tabArr_257 h, tabArr_257 h]
      · rw [Array.getElem?_eq_none (by rw [tabArr_size h]; omega), Array.getElem?_eq_none (by rw [tabArr_size h]; omega)]
theorem tabArr_set257 {c : Array Value} (h : c.size = 256) (vn va v : Value) : (tabArr c vn va).setIfInBounds 257 v = tabArr c vn v := by
  apply Array.ext_getElem?
  intro i
  rw [Array.getElem?_setIfInBounds]
  by_cases e : 257 = i
  · subst e; rw [if_pos rfl, if_pos (by rw [tabArr_size h]; omega), tabArr_257 h]
  · rw [if_neg e]
    rcases Nat.lt_or_ge i 256 with q | q
    · rw [tabArr_lo h _ _ q, tabArr_lo h _ _ q]
    · by_cases e2 : i = 256
      · subst e2; rw [tabArr_256 h, tabArr_256 h]
      · rw [Array.getElem?_eq_none (by rw [tabArr_size h]; omega), Array.getElem?_eq_none (by rw [tabArr_size h]; omega)]
theorem tabArr_setLo {c : Array Value} (h : c.size = 256) (vn va v : Value) {i : Nat} (hi : i < 256) : (tabArr c vn va).setIfInBounds i v = tabArr (c.setIfInBounds i v) vn va := by
  apply Array.ext_getElem?
  intro j
  have h' : (c.setIfInBounds i v).size = 256 := by simp [h]
  rw [Array.getElem?_setIfInBounds]
  by_cases e : i = j
  · subst e; rw [if_pos rfl, if_pos (by rw [tabArr_size h]; omega), tabArr_lo h' _ _ hi, Array.getElem?_setIfInBounds_self_of_lt (by omega)]
  · rw [if_neg e]
    rcases Nat.lt_or_ge j 256 with q | q
    · rw [tabArr_lo h _ _ q, tabArr_lo h' _ _ q, Array.getElem?_setIfInBounds_ne e]
    · by_cases e2 : j = 256
      · subst e2; rw [tabArr_256 h, tabArr_256 h']
      · by_cases e3 : j = 257
        · subst e3; rw [tabArr_257 h, tabArr_257 h']
        · rw [Array.getElem?_eq_none (by rw [tabArr_size h]; omega), Array.getElem?_eq_none (by rw [tabArr_size h']; omega)]

abbrev z256 : Array Value := Array.replicate 256 (.int .i64 0)
theorem z256_size : z256.size = 256 := by simp [z256]
theorem infoTab : (Try.prog.info? 46).map (fun i => i.zero) = some (some (.agg (tabArr z256 (.slice none 0 0) (.slice none 0 0)))) := by kernel_rfl
theorem infoTabS : (Try.prog.info? 46).map (·.size) = some 258 := by kernel_rfl

theorem fold_lay (off : Nat) : ∀ (l : List Value) (k : Nat) (cs : Array Value), (l.zipIdx k).foldl (fun (cs : Array Value) (p : Value × Nat) => cs.setIfInBounds (off + p.2) p.1) cs = layAt cs (off + k) l
  | [], _, _ => rfl
  | v :: r, k, cs => by
    rw [List.zipIdx_cons, List.foldl_cons, fold_lay off r (k + 1), layAt, Nat.add_assoc]

theorem layAt_cls {c d : Array Value} (h : c.size = 256) (hd : d.size = 256) (vn va : Value) : layAt (tabArr d vn va) 0 c.toList = tabArr c vn va := by
  apply Array.ext_getElem?
  intro i
  rcases Nat.lt_or_ge i 256 with q | q
  · have := layAt_in c.toList 0 (tabArr d vn va) i (by simpa [h] using q) (by rw [tabArr_size hd]; simp [h])
    rw [Nat.zero_add] at this
    rw [this, tabArr_lo h _ _ q, Array.getElem?_toList]
  · rw [layAt_out _ _ _ _ (.inr (by simpa [h] using q))]
    by_cases e2 : i = 256
    · subst e2; rw [tabArr_256 h, tabArr_256 hd]
    · by_cases e3 : i = 257
      · subst e3; rw [tabArr_257 h, tabArr_257 hd]
      · rw [Array.getElem?_eq_none (by rw [tabArr_size hd]; omega), Array.getElem?_eq_none (by rw [tabArr_size h]; omega)]

/- The parts of a table, one laid behind the other. -/
def tabPlace : Nat → Option (Nat × Nat)
  | 0 => some (0, 256)
  | 1 => some (256, 1)
  | 2 => some (257, 1)
  | _ => none
set_option maxRecDepth 100000 in
theorem built_tab (parts : List (Nat × Value)) : Try.prog.built 46 parts = Instr.fill tabPlace (tabArr z256 (.slice none 0 0) (.slice none 0 0)) parts := by
  have hz := infoTab
  obtain ⟨i, hi⟩ : ∃ i, Try.prog.info? 46 = some i := by
    cases h : Try.prog.info? 46 with
    | none => rw [h] at hz; cases hz
    | some i => exact ⟨i, rfl⟩
  rw [hi] at hz
  have hz' : i.zero = some (.agg (tabArr z256 (.slice none 0 0) (.slice none 0 0))) := by simpa using hz
  unfold Program.built
  simp only [hi, Try.underlying46, hz']
  have hp : ([(Try.prog.info? 42).map fun i => (0, i.size), (Try.prog.info? 43).map fun i => (256, i.size), (Try.prog.info? 44).map fun i => (257, i.size)] : List (Option (Nat × Nat))) = [some (0, 256), some (256, 1), some (257, 1)] := by kernel_rfl
  simp only [List.cons.injEq, and_true] at hp
  obtain ⟨p0, p1, p2⟩ := hp
  simp only [List.mapM_cons, List.mapM_nil, p0, p1, p2]
  have e : (fun x => ([(0, 256), (256, 1), (257, 1)] : List (Nat × Nat)).toArray[x]?) = tabPlace := by
    funext x
    match x with
    | 0 => rfl
    | 1 => rfl
    | 2 => rfl
    | n + 3 => rfl
  rw [← e]
  rfl
theorem fill_cls {c d : Array Value} (h : c.size = 256) (hd : d.size = 256) (vn va : Value) (rest : List (Nat × Value)) : Instr.fill tabPlace (tabArr d vn va) ((0, .agg c) :: rest) = Instr.fill tabPlace (tabArr c vn va) rest := by
  rw [Instr.fill]
  simp only [tabPlace, Value.cells, h, tabArr_size hd]
  have := fold_lay 0 c.toList 0 (tabArr d vn va)
  simp only [Nat.add_zero] at this
  rw [layAt_cls h hd] at this
  rw [if_neg (by simp)]
  congr 1
  rw [← this, ← Array.foldl_toList]
  simp
theorem fill_acc {c : Array Value} (h : c.size = 256) (vn va v : Value) (hv : v.cells = #[v]) (rest : List (Nat × Value)) : Instr.fill tabPlace (tabArr c vn va) ((2, v) :: rest) = Instr.fill tabPlace (tabArr c vn v) rest := by
  rw [Instr.fill]
  simp only [tabPlace, hv, tabArr_size h]
  rw [if_neg (by simp)]
  congr 1
  simp [tabArr_set257 h]

section
variable {ops : Array Oper} {rest : List Oper} {op : Oper} {a : Act} {w : World} {Q : Exit → Act → World → Prop}
theorem buildTab (hgd : op.guard = none) (parts : List (Nat × Operand)) (ho : op.op = .build 46 parts.toArray) (cells : Array Value) (hf : Instr.fill tabPlace (tabArr z256 (.slice none 0 0) (.slice none 0 0)) (parts.map fun q => (q.1, a.eval q.2)) = some cells)
    (h : wpList Try.prog ops Q rest (a.put op.dst (.agg cells)) w) : wpList Try.prog ops Q (op :: rest) a w := by
  have e : (parts.toArray.map fun (i, x) => (i, a.eval x)).toList = parts.map fun q => (q.1, a.eval q.2) := by simp
  refine wpList_plain hgd fun _ hK => wp_build 46 parts.toArray ho ?_ (hK _ _ ?_)
  · rw [built_tab, e, hf]; rfl
  · rw [built_tab, e, hf]; exact h
end
end Go.Proofs.Ytbjdkbcfpmeneaa
