/- What is proved here: Composed is true. -/
import Derived.Test.YtbjdkbcfpmeneaaRows
import Derived.Test.YtbjdkbcfpmeneaaXKeep4
import Derived.Test.YtbjdkbcfpmeneaaXKBools
import Derived.Test.YtbjdkbcfpmeneaaXKFirst
import Derived.Deep.Cut
import Derived.Deep.CutRange
namespace Go.Proofs.Ytbjdkbcfpmeneaa
set_option linter.unusedVariables false
set_option linter.unusedSimpArgs false
open Go.RowKit Go.ChangeMaps

theorem dec_iff {p q : Prop} [Decidable p] [Decidable q] (h : p ↔ q) : decide p = decide q := decide_eq_decide.2 h
theorem hits_v {a t : ByteArray} (ha : (readW a).err = 0) : Hits a t ↔ (readW a).v (tx t) := by unfold Hits; simp [ha]
/- What many is, behind i. -/
open Classical in
structure Many (L : Lang) (x : List Nat) (l : List Bool) (i : Nat) : Prop where
  len : l.length = x.length + 1
  below : ∀ k, k < i → l.getD k false = decide (lStar L (x.take k))
  above : ∀ k, i ≤ k → l.getD k false = false

open Classical in
set_option maxRecDepth 100000 in
set_option maxHeartbeats 8000000 in
theorem composed_mid (a b t : ByteArray) (w : World) (haw : ∀ w : World, Calls Try.prog 14 #[] w fun x w' => x = .returned (.bool true) ∧ Below w.heap.size w w') (ha : (readW a).err = 0) (hb : (readW b).err = 0) (h' : a.size + 3 ≤ 16) :
    Calls Try.prog 4 #[.string a, .string b, .string t] w fun x w' => x = .returned (.bool true) ∧ Below w.heap.size w w' := by
  have hA := fun w2 => right_code a w2
  have hB := fun w2 => right_code b w2
  have sa := (right_of a ha).1
  have sb := (right_of b hb).1
  rw [ha] at hA
  rw [hb] at hB
  generalize (readW a).pl = P at *
  generalize (readW b).pl = Q at *
  have hS := fun w2 => kshort_code t 60 (by omega) w2
  have hT : (if t.size ≤ 60 then t else t.extract 0 60).size ≤ 60 := short_le t 60
  generalize (if t.size ≤ 60 then t else t.extract 0 60) = T at *
  have h1 : IntKind.i64.wrap ((a.size : Int) + b.size) = (a.size : Int) + b.size := by simp [IntKind.wrap, IntKind.bits, IntKind.signed]; omega
  have h2 : IntKind.i64.wrap ((a.size : Int) + b.size + 4) = (a.size : Int) + b.size + 4 := by simp [IntKind.wrap, IntKind.bits, IntKind.signed]; omega
  have h2' : IntKind.i64.wrap ((a.size : Int) + b.size + 5) = (a.size : Int) + b.size + 5 := by simp [IntKind.wrap, IntKind.bits, IntKind.signed]; omega
  have h3 : IntKind.i64.wrap ((a.size : Int) + 3) = (a.size : Int) + 3 := by simp [IntKind.wrap, IntKind.bits, IntKind.signed]; omega
  have h5 : ¬ (16 : Int) < (a.size : Int) + 3 := by omega
  have hM : Hid (∀ (s u : ByteArray) (w2 : World), u.size ≤ 60 → Calls Try.prog 16 #[.string s, .string u] w2 fun x w' => x = .returned (.bool (decide (Hits s u))) ∧ Below w2.heap.size w2 w') := fun s u w2 hu => kmatches_code s u w2 (by omega)
  have HRQ : Hid (decide (Hits ({ data := #[40] } ++ a ++ { data := #[41, 63] }) T) = decide (lOpt (readW a).v (tx T))) := dec_iff (hits_rep ⟨rfl, rfl⟩ 63 ⟨rfl, rfl, rfl⟩ (by omega) ha h' T)
  have HRS : Hid (decide (Hits ({ data := #[40] } ++ a ++ { data := #[41, 42] }) T) = decide (lStar (readW a).v (tx T))) := dec_iff (hits_rep ⟨rfl, rfl⟩ 42 ⟨rfl, rfl, rfl⟩ (by omega) ha h' T)
  have HRP : Hid (decide (Hits ({ data := #[40] } ++ a ++ { data := #[41, 43] }) T) = decide (lPlus (readW a).v (tx T))) := dec_iff (hits_rep ⟨rfl, rfl⟩ 43 ⟨rfl, rfl, rfl⟩ (by omega) ha h' T)
  have HA : Hid (∀ u, decide (Hits a u) = decide ((readW a).v (tx u))) := fun u => dec_iff (hits_v ha)
  have HB : Hid (∀ u, decide (Hits b u) = decide ((readW b).v (tx u))) := fun u => dec_iff (hits_v hb)
  have HTW0 : Hid (a.size + b.size + 4 ≤ 16 → decide (Hits ({ data := #[40] } ++ a ++ { data := #[41, 40] } ++ b ++ { data := #[41] }) T) = decide (lCat (readW a).v (readW b).v (tx T))) := fun h => dec_iff (hits_two ⟨rfl, rfl⟩ ⟨rfl, rfl, rfl⟩ ⟨rfl, rfl⟩ ha hb h T)
  have HEI : Hid (a.size + b.size + 5 ≤ 16 → decide (Hits ({ data := #[40] } ++ a ++ { data := #[41, 124, 40] } ++ b ++ { data := #[41] }) T) = decide (lAlt (readW a).v (readW b).v (tx T))) := fun h => dec_iff (hits_either ⟨rfl, rfl⟩ ⟨rfl, rfl, rfl, rfl⟩ ⟨rfl, rfl⟩ ha hb h T)
  have htx : (tx T).length = T.size := tx_len T
  clear ha hb
  generalize (readW a).v = L at *
  generalize (readW b).v = M at *
  go_enter Try.func4, Try.ntmps4
  go_wp2_with fail
  refine (hS _).mono ?_
  rintro _ w0 ⟨rfl, e0⟩
  rw [e0]
  clear e0 w0 hS
  go_wp2_with fail
  refine (haw _).mono ?_
  rintro _ w2 ⟨rfl, k2⟩
  go_wp2_with fail
  refine (hA _).mono ?_
  rintro _ w3 ⟨rfl, k3⟩
  have K3 : Hid (Below w.heap.size w w3) := k2.trans (k3.mono k2.size)
  clear k2 k3
  go_wp2_with fail
  refine (hB _).mono ?_
  rintro _ w4 ⟨rfl, k4⟩
  have K4 : Hid (Kp [] w w4) := (Kp.refl [] w).below (K3.out.trans (k4.mono K3.out.size))
  clear k4 K3 hA hB haw
  go_upto_if 61 with fail
  go_cut [] from 12 to 128 (fun wc => Kp [] w wc)
  case first =>
    by_cases h : a.size + b.size + 4 ≤ 16
    · have h4 : (a.size : Int) + b.size + 4 ≤ 16 := by omega
      have hb4 : decide ((a.size : Int) + b.size + 4 ≤ 16) = true := decide_eq_true h4
      rw [hb4]
      have HTW := hide (HTW0.out h)
      clear HTW0
      go_wp2_with fail
      go_loopw [12, 13] (fun s12 s13 w' => ∃ (i : Nat) (bo : Bool), s12 = .bool bo ∧ s13 = .int .i64 i ∧ i ≤ T.size + 1 ∧ bo = decide (∃ k, k < i ∧ L ((tx T).take k) ∧ M ((tx T).drop k)) ∧ Kp [] w w')
        (fun _ s13 _ => T.size + 2 - (intOf s13).toNat)
      case atStart => exact ⟨0, false, rfl, rfl, by omega, (decide_eq_false (fun ⟨k, hk, _⟩ => by omega)).symm, K4.out⟩
      case round =>
        clear K4
        obtain ⟨i, bo, rfl, rfl, hi, hbo, kp⟩ := hrel
        have KP := hide kp
        have HBO := hide hbo
        clear kp hbo
        by_cases hlt : i ≤ T.size
        · have hlt' : (i : Int) ≤ T.size := by omega
          go_wp2_with fail
          refine (hM.out _ _ _ (by rw [ByteArray.size_extract]; omega)).mono ?_
          rintro _ w5 ⟨rfl, b5⟩
          have K5 : Hid (Kp [] w w5) := KP.out.below b5
          rw [HA.out, tx_extract, List.drop_zero]
          clear b5 KP
          generalize hp2 : decide (L ((tx T).take i)) = p2 at *
          go_wp2_with fail
          refine (hM.out _ _ _ (by rw [ByteArray.size_extract]; omega)).mono ?_
          rintro _ w6 ⟨rfl, b6⟩
          have K6 : Hid (Kp [] w w6) := K5.out.below b6
          have etx : tx (T.extract i T.size) = (tx T).drop i := by rw [tx_extract, ← htx, List.take_length]
          rw [HB.out, etx]
          clear b6 K5 etx
          generalize hp3 : decide (M ((tx T).drop i)) = p3 at *
          have hstep : decide (∃ k, k < i + 1 ∧ L ((tx T).take k) ∧ M ((tx T).drop k)) = (bo || (p2 && p3)) := by
            rw [HBO.out, ← hp2, ← hp3, Bool.eq_iff_iff]
            simp only [Bool.or_eq_true, Bool.and_eq_true, decide_eq_true_eq]
            constructor
            · rintro ⟨k', h1, h2, h3⟩
              by_cases e : k' = i
              · subst e; exact .inr ⟨h2, h3⟩
              · exact .inl ⟨k', by omega, h2, h3⟩
            · rintro (⟨k', h1, h2, h3⟩ | ⟨h2, h3⟩)
              · exact ⟨k', by omega, h2, h3⟩
              · exact ⟨i, by omega, h2, h3⟩
          have HST := hide hstep
          clear hstep hp2 hp3 HBO
          cases bo
          · cases p2
            · go_wp2_with fail
              refine ⟨⟨i + 1, _, rfl, by go_num, by omega, by rw [HST.out]; simp, K6.out⟩, by simp [intOf]; omega⟩
            · go_wp2_with fail
              refine ⟨⟨i + 1, _, rfl, by go_num, by omega, by rw [HST.out]; simp, K6.out⟩, by simp [intOf]; omega⟩
          · go_wp2_with fail
            refine ⟨⟨i + 1, _, rfl, by go_num, by omega, by rw [HST.out]; simp, K6.out⟩, by simp [intOf]; omega⟩
        · have hlt' : ¬ (i : Int) ≤ T.size := by omega
          have hgot : decide (lCat L M (tx T)) = bo := by
            rw [HBO.out]
            refine dec_iff ((cat_cut L M (tx T)).trans ⟨?_, ?_⟩)
            · rintro ⟨k, h1, h2⟩; exact ⟨k, by omega, h2⟩
            · rintro ⟨k, h1, h2⟩; exact ⟨k, by omega, h2⟩
          have HGOT := hide hgot
          clear hgot HBO
          go_wp2_with fail
          refine (hM.out _ _ _ hT).mono ?_
          rintro _ w5 ⟨rfl, b5⟩
          rw [HTW.out, HGOT.out]
          have K5 : Hid (Kp [] w w5) := KP.out.below b5
          clear b5 KP HTW HGOT
          go_wp2_with fail
          refine (hM.out _ _ _ hT).mono ?_
          rintro _ w6 ⟨rfl, b6⟩
          rw [HA.out]
          have K6 : Hid (Kp [] w w6) := K5.out.below b6
          clear b6 K5
          generalize hpx : decide (L (tx T)) = px at *
          go_wp2_with fail
          refine (hM.out _ _ _ hT).mono ?_
          rintro _ w7 ⟨rfl, b7⟩
          rw [HB.out]
          have K7 : Hid (Kp [] w w7) := K6.out.below b7
          clear b7 K6
          generalize hpy : decide (M (tx T)) = py at *
          go_wp2_with fail
          refine (hM.out _ _ _ hT).mono ?_
          rintro _ w8 ⟨rfl, b8⟩
          have K8 : Hid (Kp [] w w8) := K7.out.below b8
          clear b8 K7
          by_cases h5b : a.size + b.size + 5 ≤ 16
          · have h6 : ¬ (16 : Int) < (a.size : Int) + b.size + 5 := by omega
            rw [HEI.out h5b]
            have hei : decide (lAlt L M (tx T)) = (px || py) := by
              rw [← hpx, ← hpy, Bool.eq_iff_iff]
              simp only [Bool.or_eq_true, decide_eq_true_eq]
              exact Iff.rfl
            rw [hei]
            clear hei hpx hpy HEI
            cases px <;> cases bo
            all_goals
              go_wp2_with fail
              go_meet
              case rel => exact K8.out
          · have h6 : (16 : Int) < (a.size : Int) + b.size + 5 := by omega
            generalize decide (Hits ({ data := #[40] } ++ a ++ { data := #[41, 124, 40] } ++ b ++ { data := #[41] }) T) = ei at *
            clear hpx hpy HEI
            cases bo
            all_goals
              go_wp2_with fail
              go_meet
              case rel => exact K8.out
    · have h4 : ¬ ((a.size : Int) + b.size + 4 ≤ 16) := by omega
      go_wp2_with fail
      go_meet
      case rel => exact K4.out
  case rest =>
    have V0 : Hid (Kp [] w wc) := hcut
    clear hcut K4 HTW0 HEI
    go_wp2_with fail
    refine (hM.out _ _ _ hT).mono ?_
    rintro _ v1 ⟨rfl, b5⟩
    rw [HA.out]
    have V1 : Hid (Kp [] w v1) := V0.out.below b5
    clear b5
    generalize hob : decide (L (tx T)) = ob at *
    go_wp2_with fail
    refine (hM.out _ _ _ hT).mono ?_
    rintro _ v2 ⟨rfl, b5⟩
    rw [HRQ.out]
    have V2 : Hid (Kp [] w v2) := V1.out.below b5
    clear b5
    generalize hmb : decide (lOpt L (tx T)) = mb at *
    go_wp2_with fail
    refine (hM.out _ _ _ hT).mono ?_
    rintro _ v3 ⟨rfl, b5⟩
    rw [HRS.out]
    have V3 : Hid (Kp [] w v3) := V2.out.below b5
    clear b5
    generalize hsb : decide (lStar L (tx T)) = sb at *
    go_wp2_with fail
    refine (hM.out _ _ _ hT).mono ?_
    rintro _ v4 ⟨rfl, b5⟩
    rw [HRP.out]
    have V4 : Hid (Kp [] w v4) := V3.out.below b5
    clear b5
    generalize hpb : decide (lPlus L (tx T)) = pb at *
    have HOB := hide hob
    have HMB := hide hmb
    have HSB := hide hsb
    have HPB := hide hpb
    clear hob hmb hsb hpb HRQ HRS HRP
    have hw1 : IntKind.i64.wrap ((T.size : Int) + 1) = (T.size : Int) + 1 := by simp [IntKind.wrap, IntKind.bits, IntKind.signed]; omega
    have hmk : ∀ w, (Instr.makeSlice 39 (.int .i64 ((T.size : Int) + 1)) (.int .i64 ((T.size : Int) + 1))).run Try.prog w = .ok (.slice (some ⟨w.heap.size, 0, none⟩) (T.size + 1) (T.size + 1)) (w.alloc (kbO (kfl (T.size + 1)))) := fun w => by
      have := run_make_kb (T.size + 1) (by omega) w
      rw [show ((T.size + 1 : Nat) : Int) = (T.size : Int) + 1 by omega] at this
      exact this
    go_upto_region 29 with fail
    have b6 : (v4.alloc (kbO (kfl (T.size + 1)))).heap[v4.heap.size]? = some (kbO (kfl (T.size + 1))) := by rw [blk_alloc, if_pos rfl]
    have V5 : Hid (Kp [] w (v4.alloc (kbO (kfl (T.size + 1))))) := V4.out.alloc _
    have hBw : w.heap.size ≤ v4.heap.size := V4.out.size
    generalize v4.alloc (kbO (kfl (T.size + 1))) = v5 at *
    generalize v4.heap.size = B at *
    clear hmk V4 V3 V2 V1
    have c0 := kbcell b6 0 (by rw [kfl_len]; omega)
    rw [kfl_get] at c0
    have f0 := kbfroz b6 0
    have b7 := kbset b6 0 true
    have hmany : Many L (tx T) ((kfl (T.size + 1)).set 0 true) 1 := ⟨by rw [List.length_set, kfl_len, htx], fun k hk => by
      have : k = 0 := by omega
      subst this
      rw [kb_self _ _ _ (by rw [kfl_len]; omega), List.take_zero]
      exact (decide_eq_true (⟨0, rfl⟩ : lStar L [])).symm, fun k hk => by rw [kb_other _ _ _ _ (by omega), kfl_get]⟩
    have MANY := hide hmany
    have V6 : Hid (Kp [] w (v5.setCell ⟨B, 0, none⟩ (.bool true))) := V5.out.set (.inr hBw) _ _
    have B7 := hide b7
    clear b6 b7 hmany V5
    go_wp2_with fail
    clear c0 f0
    generalize v5.setCell ⟨B, 0, none⟩ (.bool true) = v6 at *
    go_loopw [26] (fun s26 w' => ∃ (i : Nat) (l : List Bool), s26 = .int .i64 i ∧ 1 ≤ i ∧ i ≤ T.size + 1 ∧ Many L (tx T) l i ∧ w'.heap[B]? = some (kbO l) ∧ Kp [] w w')
      (fun s26 _ => T.size + 2 - (intOf s26).toNat)
    case atStart => exact ⟨1, _, rfl, by omega, by omega, MANY.out, B7.out, V6.out⟩
    case round =>
      clear MANY V6 B7
      obtain ⟨i, l, rfl, hi1, hi2, hmy, hbl, hkp⟩ := hrel
      have hlen : l.length = T.size + 1 := by rw [hmy.len, htx]
      have MY := hide hmy
      have HK := hide hkp
      have HBL := hide hbl
      clear hmy hkp hbl
      by_cases hlt : i ≤ T.size
      · have hlt' : (i : Int) ≤ T.size := by omega
        go_wp2_with fail
        go_loopw [27] (fun s27 w' => ∃ (k : Nat) (l' : List Bool), s27 = .int .i64 k ∧ k ≤ i ∧ l'.length = T.size + 1 ∧ (∀ j, j ≠ i → l'.getD j false = l.getD j false) ∧ l'.getD i false = decide (∃ k', k' < k ∧ lStar L ((tx T).take k') ∧ L (((tx T).take i).drop k')) ∧ w'.heap[B]? = some (kbO l') ∧ Kp [] w w')
          (fun s27 _ => i + 1 - (intOf s27).toNat)
        case atStart => exact ⟨0, l, rfl, by omega, hlen, fun _ _ => rfl, by rw [MY.out.above i (Nat.le_refl _)]; exact (decide_eq_false (fun ⟨k', h, _⟩ => by omega)).symm, HBL.out, HK.out⟩
        case round =>
          clear HBL HK
          obtain ⟨k, l', rfl, hk, hl', hoth, hat, hbl, hkp⟩ := hrel
          have OTH := hide hoth
          have HK := hide hkp
          have HBL := hide hbl
          clear hoth hkp hbl
          by_cases hki : k < i
          · have hki' : (k : Int) < i := by omega
            have hki2 : (k : Int) ≤ i := by omega
            have hiT : (i : Int) < (T.size : Int) + 1 := by omega
            have hkT : (k : Int) < (T.size : Int) + 1 := by omega
            go_wp2_with fail
            refine (hM.out _ _ _ (by rw [ByteArray.size_extract]; omega)).mono ?_
            rintro _ w6 ⟨rfl, b6⟩
            rw [HA.out, tx_extract]
            have k6 : Kp [] wr w6 := (Kp.refl [] wr).below b6
            have K6 : Hid (Kp [] w w6) := HK.out.trans k6 (by simp)
            have b6' := k6.keep HBL.out (by simp)
            have ci := kbcell b6' i (by omega)
            have ck := kbcell b6' k (by omega)
            have fi := kbfroz b6' i
            rw [hat] at ci
            rw [OTH.out k (by omega), MY.out.below k hki] at ck
            have B6 := hide b6'
            clear b6 k6 b6' HK HBL
            have hstep : decide (∃ k', k' < k + 1 ∧ lStar L ((tx T).take k') ∧ L (((tx T).take i).drop k')) = (decide (∃ k', k' < k ∧ lStar L ((tx T).take k') ∧ L (((tx T).take i).drop k')) || (decide (lStar L ((tx T).take k)) && decide (L (((tx T).take i).drop k)))) := by
              rw [Bool.eq_iff_iff]
              simp only [Bool.or_eq_true, Bool.and_eq_true, decide_eq_true_eq]
              constructor
              · rintro ⟨k', h1, h2, h3⟩
                by_cases e : k' = k
                · subst e; exact .inr ⟨h2, h3⟩
                · exact .inl ⟨k', by omega, h2, h3⟩
              · rintro (⟨k', h1, h2, h3⟩ | ⟨h2, h3⟩)
                · exact ⟨k', by omega, h2, h3⟩
                · exact ⟨k, by omega, h2, h3⟩
            have HST := hide hstep
            clear hstep hat
            generalize decide (∃ k', k' < k ∧ lStar L ((tx T).take k') ∧ L (((tx T).take i).drop k')) = p1 at *
            generalize decide (lStar L ((tx T).take k)) = p2 at *
            generalize decide (L (((tx T).take i).drop k)) = p3 at *
            have fin : ∀ v : Bool, v = (p1 || (p2 && p3)) → (∃ (k0 : Nat) (l0 : List Bool), (Value.int .i64 ((k : Int) + 1)) = .int .i64 k0 ∧ k0 ≤ i ∧ l0.length = T.size + 1 ∧ (∀ j, j ≠ i → l0.getD j false = l.getD j false) ∧ l0.getD i false = decide (∃ k', k' < k0 ∧ lStar L ((tx T).take k') ∧ L (((tx T).take i).drop k')) ∧ (w6.setCell ⟨B, i, none⟩ (.bool v)).heap[B]? = some (kbO l0) ∧ Kp [] w (w6.setCell ⟨B, i, none⟩ (.bool v))) := fun v hv => by
              refine ⟨k + 1, l'.set i v, by simp, by omega, by rw [List.length_set]; exact hl', fun j hj => by rw [kb_other _ _ _ _ (fun e => hj e.symm)]; exact OTH.out j hj, ?_, kbset B6.out i v, K6.out.set (.inr hBw) _ _⟩
              rw [kb_self _ _ _ (by omega), HST.out, hv]
            have FIN := hide fin
            clear fin HST OTH
            cases p1
            · cases p2
              · go_wp2_with fail
                refine ⟨FIN.out _ (by simp), by simp [intOf]; omega⟩
              · go_wp2_with fail
                refine ⟨FIN.out _ (by simp), by simp [intOf]; omega⟩
            · go_wp2_with fail
              refine ⟨FIN.out _ (by simp), by simp [intOf]; omega⟩
          · have hki' : ¬ (k : Int) < i := by omega
            have hke : k = i := by omega
            subst hke
            go_wp2_with fail
            refine ⟨⟨k + 1, l', by simp, by omega, by omega, ⟨by rw [hl', htx], fun j hj => ?_, fun j hj => ?_⟩, HBL.out, HK.out⟩, by simp [intOf]; omega⟩
            · by_cases e : j = k
              · subst e
                rw [hat]
                exact (dec_iff (star_cut L (tx T) j (by omega) (by omega))).symm
              · rw [OTH.out j e]; exact MY.out.below j (by omega)
            · rw [OTH.out j (by omega)]; exact MY.out.above j (by omega)
      · have hlt' : ¬ (i : Int) ≤ T.size := by omega
        have hie : i = T.size + 1 := by omega
        have hTN : (T.size : Int) < (T.size : Int) + 1 := by omega
        have hst : l.getD T.size false = sb := by
          rw [MY.out.below T.size (by omega), ← HSB.out, ← htx, List.take_length]
        clear MY
        go_wp2_with fail
        refine (hM.out _ _ _ (by decide)).mono ?_
        rintro _ w6 ⟨rfl, b6⟩
        rw [HA.out]
        have k6 : Kp [] wr w6 := (Kp.refl [] wr).below b6
        have K6 : Hid (Kp [] w w6) := HK.out.trans k6 (by simp)
        have ct := kbcell (k6.keep HBL.out (by simp)) T.size (by omega)
        rw [hst] at ct
        clear b6 k6 HBL HK hst
        have e0 : (tx { data := #[] } : List Nat) = [] := rfl
        rw [e0]
        clear e0
        generalize hem : decide (L []) = em at *
        have hpl : pb = (sb && (decide (0 < T.size) || em)) := by
          rw [← HPB.out, ← HSB.out, ← hem]
          rw [dec_iff (plus_iff L (tx T)), Bool.eq_iff_iff]
          simp only [Bool.or_eq_true, Bool.and_eq_true, decide_eq_true_eq]
          have : tx T ≠ [] ↔ 0 < T.size := by rw [← htx, List.length_pos_iff]
          rw [this]
        have hop : mb = (ob || decide (T.size = 0)) := by
          rw [← HMB.out, ← HOB.out, Bool.eq_iff_iff]
          simp only [Bool.or_eq_true, decide_eq_true_eq]
          have : tx T = [] ↔ T.size = 0 := by rw [← htx, List.length_eq_zero_iff]
          show (tx T = [] ∨ L (tx T)) ↔ _
          rw [this]
          exact or_comm
        clear HPB HMB HOB HSB HA hem
        by_cases hT0 : T.size = 0
        · have hTl : T.toList = [] := by
            have := Array.eq_empty_of_size_eq_zero (xs := T.data) hT0
            rw [ByteArray.toList_eq, this]
          simp only [hT0, decide_true, Bool.or_true] at hop
          simp only [hT0, Nat.lt_irrefl, decide_false, Bool.false_or] at hpl
          subst hop hpl
          clear hie
          rw [hT0] at ct
          cases ob <;> cases sb <;> cases em
          all_goals
            go_wp2_with fail
            go_ret
            exact ⟨by simp, K6.out.toBelow⟩
        · have hT1 : (0 : Int) < T.size := by omega
          have hTl : ¬ T.toList = [] := fun e => hT0 (by
            rw [ByteArray.toList_eq] at e
            have := congrArg List.length e
            simpa using this)
          simp only [hT0, decide_false, Bool.or_false] at hop
          simp only [show 0 < T.size by omega, decide_true, Bool.true_or, Bool.and_true] at hpl
          subst hop hpl
          clear hie
          cases mb <;> cases pb
          all_goals
            go_wp2_with fail
            go_ret
            exact ⟨by simp [hTl], K6.out.toBelow⟩

theorem composed_code (a b t : ByteArray) (w : World) : Calls Try.prog 4 #[.string a, .string b, .string t] w fun x w' => x = .returned (.bool true) ∧ Below w.heap.size w w' := by
  by_cases ha : (readW a).err = 0
  · by_cases hb : (readW b).err = 0
    · by_cases h : 16 < a.size + 3
      · exact composed_long a b t w awake_code ha hb h
      · exact composed_mid a b t w awake_code ha hb (by omega)
    · exact composed_wrong a b t w awake_code (.inr hb)
  · exact composed_wrong a b t w awake_code (.inl ha)
end Go.Proofs.Ytbjdkbcfpmeneaa
