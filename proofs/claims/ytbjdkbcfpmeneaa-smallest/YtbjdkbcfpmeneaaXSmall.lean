/- What is proved here: Smallest is true. -/
import Derived.Test.YtbjdkbcfpmeneaaRows
import Derived.Test.YtbjdkbcfpmeneaaXKFirst
import Derived.Test.YtbjdkbcfpmeneaaXLTab
import Derived.Test.YtbjdkbcfpmeneaaXKReach
import Derived.Test.YtbjdkbcfpmeneaaXKDist
namespace Go.Proofs.Ytbjdkbcfpmeneaa
set_option linter.unusedVariables false
set_option linter.unusedSimpArgs false
open Go.RowKit Go.ChangeMaps

set_option maxRecDepth 100000 in
set_option maxHeartbeats 8000000 in
theorem smallest_code (a : Option Addr) (n cap : Nat) (rs : Nat → ByteArray) (w : World) (h : RulesOf w a n rs) :
    Calls Try.prog 8 #[.slice a n cap] w fun x w' => x = .returned (.bool true) ∧ Below w.heap.size w w' := by
  have HR := hide h
  clear h
  go_enter Try.func8, Try.ntmps8
  go_wp2_with fail
  refine (made_code a n cap rs _ HR.out).mono ?_
  rintro _ w1 ⟨b1, hw⟩
  rcases hw with rfl | ⟨lb, U, rfl, hn0, hn6, hok, hL, hC, hN, hCC⟩
  · have B1 := hide b1
    clear b1
    go_wp2_with fail
    go_ret
    exact ⟨by simp, B1.out⟩
  · have K1 : Hid (Kp [] w w1) := (Kp.refl [] w).below b1
    have HL := hide hL
    have CAN := hide hC
    have hN0 := hC.pos
    have hC0 : 0 < U.C := Nat.lt_of_le_of_lt (Nat.zero_le _) (hC.cl 0 (by omega))
    clear b1 hL hC hok HR
    go_wp2_with fail
    refine (ltable_code lb U w1 HL.out.lex hN0 hN hC0 hCC).mono ?_
    rintro _ w2 ⟨b2, vn, va, rfl, htr⟩
    have k12 : Kp [] w1 w2 := (Kp.refl [] w1).below b2
    have K2 : Hid (Kp [] w w2) := K1.out.trans k12 (by simp)
    have hcs : (clArr U.cls 256).size = 256 := clArr_size _ _
    have hts : (tabArr (clArr U.cls 256) vn va).size = 258 := tabArr_size hcs _ _
    have hv1 : vn.oneCell' = true ∧ va.oneCell' = true := by
      obtain ⟨⟨_, _, rfl, _⟩, ⟨_, _, rfl, _⟩⟩ := htr
      exact ⟨rfl, rfl⟩
    dsimp only
    go_step
    refine allocZ rfl _ rfl _ infoTab ?_
    refine storeAll rfl _ _ _ rfl (b := w2.heap.size) (c := tabArr z256 nilV nilV) (e := 46) (by rw [blk_alloc, if_pos rfl]; rfl) rfl rfl (by rw [hts, tabArr_size z256_size]) (by rw [hts]; exact infoTabS) (tabArr_one' (clArr_one _ _) hv1.1 hv1.2) ?_
    intro w3 b3 k3 _
    simp only [Act.put, List.setIfInBounds_toArray, List.set_cons_zero, List.set_cons_succ]
    have k23 : Kp [] w2 w3 := (((Kp.refl [] w2).alloc _).trans k3 (by simp))
    have K3 : Hid (Kp [] w w3) := K2.out.trans k23 (by simp)
    have HTR := hide (htr.kp k23)
    have B3 := hide b3
    have tv : TabV w3 w2.heap.size U := ⟨vn, va, b3, htr.kp k23⟩
    have TV := hide tv
    clear b2 htr k12 K1 HL b3 k3 k23 K2 hv1
    generalize w2.heap.size = tb at *
    obtain ⟨gn, cn, n1, _⟩ := tv.next
    obtain ⟨ga, ca, a1, _⟩ := tv.acc
    have hN1 : ¬ (U.N : Int) < 1 := by omega
    have hN2 : ¬ (250 : Int) < U.N := by omega
    clear tv
    go_wp2_with fail
    clear n1 a1 hN1 hN2
    go_loopw [7, 8] (fun s7 s8 w' => ∃ c cl : Nat, s7 = .int .i64 cl ∧ s8 = .int .i64 c ∧ c ≤ 256 ∧ cl ≤ c ∧ (∀ b, b < c → U.cls b < cl) ∧ (∀ v, v < cl → ∃ b, b < c ∧ U.cls b = v) ∧ Kp [] w3 w')
      (fun _ s8 _ => 257 - (intOf s8).toNat)
    case atStart => exact ⟨0, 0, rfl, rfl, by omega, by omega, fun b hb => by omega, fun v hv => by omega, Kp.refl _ _⟩
    case round =>
      obtain ⟨c, cl, rfl, rfl, hc, hcl, hlo, hon, hkp⟩ := hrel
      have KP := hide hkp
      clear hkp
      have LO := hide hlo
      have ON := hide hon
      clear hlo hon
      by_cases hlt : c < 256
      · have hlt' : (c : Int) < 256 := by omega
        have cc := (TV.out.kp KP.out).cl c hlt
        have hle : U.cls c ≤ cl := by
          apply Classical.byContradiction
          intro q
          obtain ⟨d, hd, e⟩ := CAN.out.cord c cl hlt (by omega)
          have := LO.out d hd
          omega
        by_cases heq : U.cls c = cl
        · rw [heq] at cc
          go_wp2_with fail
          refine ⟨⟨c + 1, cl + 1, by go_num, by go_num, by omega, by omega, fun b hb => ?_, fun v hv => ?_, KP.out⟩, by simp [intOf]; omega⟩
          · by_cases e : b = c
            · rw [e, heq]; omega
            · have := LO.out b (by omega); omega
          · by_cases e : v = cl
            · exact ⟨c, by omega, by rw [e]; exact heq⟩
            · obtain ⟨b, h1, h2⟩ := ON.out v (by omega); exact ⟨b, by omega, h2⟩
        · have hgt : ¬ (cl : Int) < (U.cls c : Int) := by omega
          have hne : ((U.cls c : Int) == (cl : Int)) = false := by simp; omega
          have hlc : U.cls c < cl := by omega
          generalize hu : U.cls c = u at *
          have HU := hide hu
          clear hu
          go_wp2_with fail
          refine ⟨⟨c + 1, cl, rfl, by go_num, by omega, by omega, fun b hb => ?_, fun v hv => ?_, KP.out⟩, by simp [intOf]; omega⟩
          · by_cases e : b = c
            · rw [e, HU.out]; exact hlc
            · exact LO.out b (by omega)
          · obtain ⟨b, h1, h2⟩ := ON.out v hv; exact ⟨b, by omega, h2⟩
      · have hlt' : ¬ (c : Int) < 256 := by omega
        have hcC : cl = U.C := by
          have hce : c = 256 := by omega
          subst hce
          apply Nat.le_antisymm
          · apply Nat.le_of_not_lt
            intro q
            obtain ⟨b, h1, h2⟩ := ON.out U.C q
            have := CAN.out.cl b h1
            omega
          · apply Nat.le_of_not_lt
            intro q
            obtain ⟨b, h1, h2⟩ := CAN.out.csur cl q
            have := LO.out b h1
            omega
        subst hcC
        clear LO ON
        go_wp2_with fail
        go_loopw [9, 10] (fun s9 s10 w' => ∃ i sn : Nat, s9 = .int .i64 sn ∧ s10 = .int .i64 i ∧ i ≤ U.N ∧ 1 ≤ sn ∧ sn ≤ U.N ∧ (∀ s k, s < i → k < U.C → U.nx s k < sn) ∧ (∀ v : Nat, 0 < v → v < sn → ∃ s k, s < i ∧ k < U.C ∧ U.nx s k = v) ∧ Kp [] w3 w')
          (fun _ s10 _ => U.N + 1 - (intOf s10).toNat)
        case atStart => exact ⟨0, 1, rfl, rfl, by omega, by omega, by omega, fun s k hs => by omega, fun v h1 h2 => by omega, KP.out⟩
        case round =>
          clear KP
          obtain ⟨i, sn, rfl, rfl, hi, hs1, hsN, hlo, hon, hkp⟩ := hrel
          have KP := hide hkp
          have LO := hide hlo
          have ON := hide hon
          clear hkp hlo hon
          by_cases hin : i < U.N
          · have hin' : (i : Int) < U.N := by omega
            obtain ⟨gn, cn, n1, hr1⟩ := (TV.out.kp KP.out).next
            obtain ⟨g1, x1, r1, _⟩ := hr1 i hin
            obtain ⟨ga, ca, a1, hq⟩ := (TV.out.kp KP.out).acc
            have q1 := hq i hin
            have hac := CAN.out.ac_rng i hin
            have hisn : i < sn := by
              by_cases e : i = 0
              · omega
              · obtain ⟨s, k, h1, h2, h3⟩ := CAN.out.sfrom i (by omega) hin
                have := LO.out s k h1 h2
                omega
            have hisn' : ¬ (sn : Int) ≤ i := by omega
            have hac1 : ¬ U.ac i < -1 := by omega
            have hac2 : ¬ (n : Int) ≤ U.ac i := by omega
            clear hr1 hq
            generalize U.ac i = av at *
            go_wp2_with fail
            clear n1 r1 a1 q1
            go_loopw [9, 11] (fun s9 s11 w' => ∃ c sn : Nat, s9 = .int .i64 sn ∧ s11 = .int .i64 c ∧ c ≤ U.C ∧ 1 ≤ sn ∧ sn ≤ U.N ∧ (∀ s k, s < i → k < U.C → U.nx s k < sn) ∧ (∀ k, k < c → U.nx i k < sn) ∧ (∀ v : Nat, 0 < v → v < sn → (∃ s k, s < i ∧ k < U.C ∧ U.nx s k = v) ∨ (∃ k, k < c ∧ U.nx i k = v)) ∧ Kp [] w3 w')
              (fun _ s11 _ => U.C + 1 - (intOf s11).toNat)
            case atStart => exact ⟨0, sn, rfl, rfl, by omega, hs1, hsN, LO.out, fun k hk => by omega, fun v h1 h2 => .inl (ON.out v h1 h2), KP.out⟩
            case round =>
              clear KP LO ON hisn hisn' hs1 hsN
              obtain ⟨c, sn, rfl, rfl, hc, hs1, hsN, hlo, hlc, hon, hkp⟩ := hrel
              have KP := hide hkp
              have LO := hide hlo
              have LC := hide hlc
              have ON := hide hon
              clear hkp hlo hlc hon
              by_cases hcC : c < U.C
              · have hcC' : (c : Int) < U.C := by omega
                obtain ⟨gn, cn, n1, hr1⟩ := (TV.out.kp KP.out).next
                obtain ⟨g1, x1, r1, hx1⟩ := hr1 i hin
                have y1 := hx1 c hcC
                have hrng := CAN.out.rng i c hin hcC
                have hle : U.nx i c ≤ sn := by
                  apply Classical.byContradiction
                  intro q
                  obtain ⟨t, ht⟩ : ∃ t : Nat, U.nx i c = t := ⟨(U.nx i c).toNat, by omega⟩
                  obtain ⟨s', k', h1, h2, h3, h4⟩ := CAN.out.sord i c t sn hin hcC ht (by omega) (by omega)
                  rcases h3 with h3 | ⟨h3, h5⟩
                  · have := LO.out s' k' h3 h2; omega
                  · rw [h3] at h4; have := LC.out k' h5; omega
                clear hr1 hx1
                obtain ⟨tv, htv⟩ : ∃ tv, U.nx i c = tv := ⟨_, rfl⟩
                have HT := hide htv
                rw [htv] at y1 hrng hle
                clear htv
                have ht1 : ¬ tv < -1 := by omega
                have ht2 : ¬ (sn : Int) < tv := by omega
                have ht3 : ¬ (U.N : Int) ≤ tv := by omega
                by_cases heq : tv = sn
                · subst heq
                  go_wp2_with fail
                  refine ⟨⟨c + 1, sn + 1, by go_num, by go_num, by omega, by omega, by omega, fun s k h1 h2 => by have := LO.out s k h1 h2; omega, fun k hk => ?_, fun v h1 h2 => ?_, KP.out⟩, by simp [intOf]; omega⟩
                  · by_cases e : k = c
                    · rw [e, HT.out]; omega
                    · have := LC.out k (by omega); omega
                  · by_cases e : v = sn
                    · exact .inr ⟨c, by omega, by rw [HT.out, e]⟩
                    · rcases ON.out v h1 (by omega) with q | ⟨k, q1, q2⟩
                      · exact .inl q
                      · exact .inr ⟨k, by omega, q2⟩
                · have hne : (tv == (sn : Int)) = false := by simp [heq]
                  go_wp2_with fail
                  refine ⟨⟨c + 1, sn, rfl, by go_num, by omega, hs1, hsN, LO.out, fun k hk => ?_, fun v h1 h2 => ?_, KP.out⟩, by simp [intOf]; omega⟩
                  · by_cases e : k = c
                    · rw [e, HT.out]; omega
                    · exact LC.out k (by omega)
                  · rcases ON.out v h1 h2 with q | ⟨k, q1, q2⟩
                    · exact .inl q
                    · exact .inr ⟨k, by omega, q2⟩
              · have hcC' : ¬ (c : Int) < U.C := by omega
                go_wp2_with fail
                refine ⟨⟨i + 1, sn, rfl, by go_num, by omega, hs1, hsN, fun s k h1 h2 => ?_, fun v h1 h2 => ?_, KP.out⟩, by simp [intOf]; omega⟩
                · by_cases e : s = i
                  · rw [e]; exact LC.out k (by omega)
                  · exact LO.out s k (by omega) h2
                · rcases ON.out v h1 h2 with ⟨s, k, q1, q2, q3⟩ | ⟨k, q1, q2⟩
                  · exact ⟨s, k, by omega, q2, q3⟩
                  · exact ⟨i, k, by omega, by omega, q2⟩
          · have hin' : ¬ (i : Int) < U.N := by omega
            have hsn : sn = U.N := by
              apply Nat.le_antisymm hsN
              apply Nat.le_of_not_lt
              intro q
              obtain ⟨s, k, h1, h2, h3⟩ := CAN.out.sfrom sn (by omega) q
              have := LO.out s k (by omega) h2
              omega
            subst hsn
            clear LO ON
            go_wp2_with fail
            go_loopw [13] (fun s13 w' => ∃ a : Nat, s13 = .int .i64 a ∧ a ≤ U.C ∧ Kp [] w3 w')
              (fun s13 _ => U.C + 1 - (intOf s13).toNat)
            case atStart => exact ⟨0, rfl, by omega, KP.out⟩
            case round =>
              clear KP
              obtain ⟨a, rfl, ha, hkp⟩ := hrel
              have KP := hide hkp
              clear hkp
              by_cases haC : a < U.C
              · have haC' : (a : Int) < U.C := by omega
                go_wp2_with fail
                go_loopw [14] (fun s14 w' => ∃ b : Nat, s14 = .int .i64 b ∧ b ≤ a ∧ Kp [] w3 w')
                  (fun s14 _ => a + 1 - (intOf s14).toNat)
                case atStart => exact ⟨0, rfl, by omega, KP.out⟩
                case round =>
                  clear KP
                  obtain ⟨b, rfl, hb, hkp⟩ := hrel
                  have KP := hide hkp
                  clear hkp
                  by_cases hba : b < a
                  · have hba' : (b : Int) < a := by omega
                    have hbC' : (b : Int) < U.C := by omega
                    go_wp2_with fail
                    go_loopw [15, 16] (fun s15 s16 w' => ∃ (i : Nat) (al : Bool), s15 = .bool al ∧ s16 = .int .i64 i ∧ i ≤ U.N ∧ (al = true → ∀ s, s < i → U.nx s a = U.nx s b) ∧ Kp [] w3 w')
                      (fun _ s16 _ => U.N + 1 - (intOf s16).toNat)
                    case atStart => exact ⟨0, true, rfl, rfl, by omega, fun _ s hs => by omega, KP.out⟩
                    case round =>
                      clear KP
                      obtain ⟨j, al, rfl, rfl, hj, hal, hkp⟩ := hrel
                      have KP := hide hkp
                      have AL := hide hal
                      clear hkp hal
                      by_cases hjn : j < U.N
                      · have hjn' : (j : Int) < U.N := by omega
                        obtain ⟨gn, cn, n1, hr1⟩ := (TV.out.kp KP.out).next
                        obtain ⟨g1, x1, r1, hx1⟩ := hr1 j hjn
                        have y1 := hx1 a haC
                        have y2 := hx1 b (by omega)
                        clear hr1 hx1
                        obtain ⟨u1, hu1⟩ : ∃ u, U.nx j a = u := ⟨_, rfl⟩
                        obtain ⟨u2, hu2⟩ : ∃ u, U.nx j b = u := ⟨_, rfl⟩
                        have HU1 := hide hu1
                        have HU2 := hide hu2
                        rw [hu1] at y1
                        rw [hu2] at y2
                        clear hu1 hu2
                        go_upto_region 42 with fail
                        cases al
                        · go_quiet (fail)
                          clear n1 r1 y1 y2
                          go_wp2_with fail
                          refine ⟨⟨j + 1, false, rfl, by go_num, by omega, (fun q => by cases q), KP.out.drewN nq⟩, by simp [intOf]; omega⟩
                        · by_cases hu : u1 = u2
                          · subst hu
                            go_quiet (fail)
                            clear n1 r1 y1 y2
                            go_wp2_with fail
                            refine ⟨⟨j + 1, true, by simp, by go_num, by omega, fun _ s hs => ?_, KP.out.drewN nq⟩, by simp [intOf]; omega⟩
                            by_cases e : s = j
                            · rw [e, HU1.out, HU2.out]
                            · exact AL.out rfl s (by omega)
                          · have hu' : (u1 == u2) = false := by simp [hu]
                            go_quiet (fail)
                            clear n1 r1 y1 y2
                            go_wp2_with fail
                            refine ⟨⟨j + 1, false, by simp [hu], by go_num, by omega, (fun q => by cases q), KP.out.drewN nq⟩, by simp [intOf]; omega⟩
                      · have hjn' : ¬ (j : Int) < U.N := by omega
                        have hfal : al = false := by
                          cases al with
                          | false => rfl
                          | true =>
                            exfalso
                            obtain ⟨c1, h1, e1⟩ := CAN.out.csur a haC
                            obtain ⟨c2, h2, e2⟩ := CAN.out.csur b (by omega)
                            have := CAN.out.cdist c1 c2 h1 h2 (fun s hs => by rw [e1, e2]; exact AL.out rfl s (by omega))
                            omega
                        subst hfal
                        clear AL
                        go_wp2_with fail
                        refine ⟨⟨b + 1, by go_num, by omega, KP.out⟩, by simp [intOf]; omega⟩
                  · have hba' : ¬ (b : Int) < a := by omega
                    go_wp2_with fail
                    refine ⟨⟨a + 1, by go_num, by omega, KP.out⟩, by simp [intOf]; omega⟩
              · have haC' : ¬ (a : Int) < U.C := by omega
                go_upto_region 45 with fail
                apply wp_region_lit
                refine loadAll rfl _ _ rfl (KP.out.keep B3.out (by simp)) rfl _ Try.underlying46 rfl (by rw [hts]; exact infoTabS) ?_
                simp only [Act.put, List.setIfInBounds_toArray, List.set_cons_zero, List.set_cons_succ]
                go_wp2_with fail
                refine (reaching_code U _ n vn va _ (HTR.out.kp KP.out) CAN.out hN hCC).mono ?_
                rintro _ w5 ⟨rfl, b5⟩
                have K5 : Hid (Kp [] w3 w5) := KP.out.below b5
                clear b5 KP
                go_upto_region 46 with fail
                apply wp_region_lit
                refine loadAll rfl _ _ rfl (K5.out.keep B3.out (by simp)) rfl _ Try.underlying46 rfl (by rw [hts]; exact infoTabS) ?_
                simp only [Act.put, List.setIfInBounds_toArray, List.set_cons_zero, List.set_cons_succ]
                go_wp2_with fail
                refine (distinct_code U _ n vn va _ (HTR.out.kp K5.out) CAN.out hN hCC).mono ?_
                rintro _ w6 ⟨rfl, b6⟩
                have K6 : Hid (Kp [] w3 w6) := K5.out.below b6
                clear b6 K5
                go_wp2_with fail
                go_ret
                exact ⟨by simp, (K3.out.trans K6.out (by simp)).toBelow⟩
end Go.Proofs.Ytbjdkbcfpmeneaa
