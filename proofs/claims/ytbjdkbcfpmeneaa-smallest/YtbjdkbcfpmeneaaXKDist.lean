/- What is proved here: distinct of the second package of statements: it answers true of the smallest table. -/
import Derived.Test.YtbjdkbcfpmeneaaRows
import Derived.Test.YtbjdkbcfpmeneaaXKTabs
import Derived.Test.YtbjdkbcfpmeneaaM02
import Derived.Test.YtbjdkbcfpmeneaaXSmallD
import Derived.BigQuiet
import Derived.Deep.Cut
import Derived.Deep.CutRange
namespace Go.Proofs.Ytbjdkbcfpmeneaa
set_option linter.unusedVariables false
set_option linter.unusedSimpArgs false
open Go.RowKit Go.ChangeMaps

def gOf (l : List Int) : Nat → Int := fun i => l.getD i 0
/- The two rows and the table, while nothing is written. -/
structure DkW (W : World) (gb nb : Nat) (gl hl : List Int) (w' : World) : Prop where
  gblk : w'.heap[gb]? = some (iO gl)
  nblk : w'.heap[nb]? = some (iO hl)
  kp : Kp [] W w'
theorem DkW.drewN {W w' : World} {gb nb : Nat} {gl hl : List Int} (h : DkW W gb nb gl hl w') (n : Nat) : DkW W gb nb gl hl (w'.drewN n) :=
  ⟨((Kp.refl [] w').drewN n).keep h.gblk (by simp), ((Kp.refl [] w').drewN n).keep h.nblk (by simp), h.kp.drewN n⟩
theorem DkW.set {W w' : World} {gb nb : Nat} {gl hl : List Int} (h : DkW W gb nb gl hl w') (hne : gb ≠ nb) (hnb : W.heap.size ≤ nb) (i : Nat) (v : Int) : DkW W gb nb gl (hl.set i v) (w'.setCell ⟨nb, i, none⟩ (.int .i64 v)) :=
  ⟨by rw [blk_set, if_neg hne]; exact h.gblk, iset h.nblk i v, h.kp.set (.inr hnb) _ _⟩

set_option maxRecDepth 100000 in
set_option maxHeartbeats 8000000 in
theorem distinct_code (U : Tab) (L : Nat → Lang) (n : Nat) (vn va : Value) (w : World) (h1 : TabR w vn va U) (hCan : Canon U (told L n)) (hN : U.N ≤ 250) (hC : U.C ≤ 256) :
    Calls Try.prog 19 #[.agg (tabArr (clArr U.cls 256) vn va)] w fun x w' => x = .returned (.bool true) ∧ Below w.heap.size w w' := by
  have H1 := hide h1
  have CAN := hide hCan
  have hN0 := hCan.pos
  clear h1 hCan
  go_enter Try.func19, Try.ntmps19
  go_upto_region 0 with fail
  apply wp_region_lit
  refine boxB rfl _ _ rfl (.agg (tabArr (clArr U.cls 256) vn va)) rfl ?_
  simp only [Act.put, List.setIfInBounds_toArray, List.set_cons_zero, List.set_cons_succ]
  have k1 : Kp [] w (w.alloc (.cells (Value.agg (tabArr (clArr U.cls 256) vn va)).cells 46 (0, 0))) := (Kp.refl [] w).alloc _
  have t1 : TabV (w.alloc (.cells (Value.agg (tabArr (clArr U.cls 256) vn va)).cells 46 (0, 0))) w.heap.size U := ⟨vn, va, by rw [blk_alloc, if_pos rfl]; rfl, H1.out.kp k1⟩
  generalize w.alloc (.cells (Value.agg (tabArr (clArr U.cls 256) vn va)).cells 46 (0, 0)) = W at *
  have K1 := hide k1
  have T1 := hide t1
  clear k1 H1
  obtain ⟨gn, cn, n1, _⟩ := t1.next
  clear t1
  generalize hA : w.heap.size = A at *
  have hmk := fun w => run_make_ints U.N (by omega) w
  go_upto_region 3 with fail
  clear n1
  have b2 : (W.alloc (iO (List.replicate U.N 0))).heap[W.heap.size]? = some (iO (List.replicate U.N 0)) := by rw [blk_alloc, if_pos rfl]
  have K2 : Hid (Kp [] W (W.alloc (iO (List.replicate U.N 0)))) := (Kp.refl [] W).alloc _
  generalize W.alloc (iO (List.replicate U.N 0)) = W2 at *
  have HA := hide hA
  have B2 := hide b2
  clear b2 hA
  go_wp2_with fail
  go_loopw [4, 5, 6] (fun s4 s5 s6 w' => ∃ (r cnt gb : Nat) (gl : List Int), s4 = .slice (some ⟨gb, 0, none⟩) U.N U.N ∧ s5 = .int .i64 cnt ∧ s6 = .int .i64 r ∧ r ≤ U.N + 1 ∧ gl.length = U.N ∧ w'.heap[gb]? = some (iO gl) ∧ W.heap.size ≤ gb ∧ ((r = 0 ∧ cnt = 0) ∨ (1 ≤ r ∧ r ≤ cnt ∧ Numb (gOf gl) U.N cnt)) ∧ Kp [] W w')
    (fun _ _ s6 _ => U.N + 2 - (intOf s6).toNat)
  case atStart => exact ⟨0, 0, _, _, rfl, rfl, rfl, by omega, by simp, B2.out, Nat.le_refl _, .inl ⟨rfl, rfl⟩, K2.out⟩
  case round =>
    clear B2 K2
    obtain ⟨r, cnt, gb, gl, rfl, rfl, rfl, hr, hgl, hgb, hgW, hcase, hkp⟩ := hrel
    by_cases hrN : r ≤ U.N
    · have hrN' : (r : Int) ≤ U.N := by omega
      have lgb := lt_of_block hgb
      go_upto_region 8 with fail
      have d1 : DkW W gb wr.heap.size gl (List.replicate U.N 0) (wr.alloc (iO (List.replicate U.N 0))) := ⟨by rw [blk_alloc, if_neg (by omega)]; exact hgb, by rw [blk_alloc, if_pos rfl], hkp.alloc _⟩
      have hnW : W.heap.size ≤ wr.heap.size := hkp.size
      have hne : gb ≠ wr.heap.size := by omega
      generalize wr.alloc (iO (List.replicate U.N 0)) = W3 at *
      generalize wr.heap.size = nb at *
      have D1 := hide d1
      have HCS := hide hcase
      clear d1 hgb hkp hcase lgb
      go_wp2_with fail
      go_loopw [8, 9] (fun s8 s9 w' => ∃ (i m : Nat) (hl : List Int), s8 = .int .i64 m ∧ s9 = .int .i64 i ∧ i ≤ U.N ∧ m ≤ i ∧ hl.length = U.N ∧ GrpP U (gOf gl) (gOf hl) i m ∧ DkW W gb nb gl hl w')
        (fun _ s9 _ => U.N + 1 - (intOf s9).toNat)
      case atStart => exact ⟨0, 0, _, rfl, rfl, by omega, by omega, by simp, GrpP.zero _ _ _, D1.out⟩
      case round =>
        clear D1
        obtain ⟨i, m, hl, rfl, rfl, hi, hmi, hhl, hgp, hdk⟩ := hrel
        have GP := hide hgp
        have DK := hide hdk
        clear hgp hdk
        by_cases hin : i < U.N
        · have hin' : (i : Int) < U.N := by omega
          have ci := icell DK.out.nblk i (by omega)
          have fi := frozen_of_block DK.out.nblk i
          have d2 := DK.out.set hne hnW i (-1)
          have D2 := hide d2
          clear d2
          go_wp2_with fail
          clear ci fi
          generalize wr.setCell ⟨nb, i, none⟩ (.int .i64 (-1)) = W4 at *
          go_loopw [10] (fun s10 w' => ∃ (k : Nat) (h2 : List Int), s10 = .int .i64 k ∧ k ≤ i ∧ h2.length = U.N ∧ (∀ j, j < i → h2.getD j 0 = hl.getD j 0) ∧ ((h2.getD i 0 = -1 ∧ ∀ k', k' < k → ¬ KeyEq U (gOf gl) i k') ∨ (∃ k', k' < i ∧ KeyEq U (gOf gl) i k' ∧ h2.getD i 0 = hl.getD k' 0)) ∧ DkW W gb nb gl h2 w')
            (fun s10 _ => i + 1 - (intOf s10).toNat)
          case atStart => exact ⟨0, _, rfl, by omega, by rw [List.length_set]; exact hhl, fun j hj => getD_set_other _ _ _ _ (by omega), .inl ⟨getD_set_self _ _ _ (by omega), fun k' hk' => by omega⟩, D2.out⟩
          case round =>
            clear D2 DK
            obtain ⟨k, h2, rfl, hk, hh2, hsame, hst, hdk⟩ := hrel
            have HS := hide hsame
            have HST := hide hst
            have DK := hide hdk
            have ci := icell hdk.nblk i (by omega)
            clear hsame hdk
            by_cases hgo : k < i ∧ h2.getD i 0 = -1
            · obtain ⟨hki, hm1⟩ := hgo
              have hki' : (k : Int) < i := by omega
              have hkN' : (k : Int) < U.N := by omega
              rw [hm1] at ci
              have hnone : ∀ k', k' < k → ¬ KeyEq U (gOf gl) i k' := by
                rcases hst with ⟨_, q⟩ | ⟨k', h1, _, h3⟩
                · exact q
                · have := GP.out.rng k' h1
                  have e : gOf hl k' = hl.getD k' 0 := rfl
                  omega
              have HNO := hide hnone
              clear hnone hst HST
              go_upto_region 16 with fail
              go_cut [11] from 35 to 125 (fun s11 wc => ∃ sm : Bool, s11 = .bool sm ∧ (sm = true ↔ (gl.getD i 0 = gl.getD k 0 ∧ U.ac i = U.ac k)) ∧ DkW W gb nb gl h2 wc)
              case first =>
                clear ci
                have cgi := icell DK.out.gblk i (by omega)
                have cgk := icell DK.out.gblk k (by omega)
                obtain ⟨ga, ca, a1, hq⟩ := (T1.out.kp DK.out.kp).acc
                have q1 := hq i hin
                have q2 := hq k (by omega)
                clear hq
                generalize gl.getD i 0 = x1 at *
                generalize gl.getD k 0 = x2 at *
                generalize U.ac i = y1 at *
                generalize U.ac k = y2 at *
                by_cases hx : x1 = x2
                · have hx' : (x1 == x2) = true := by simp [hx]
                  by_cases hy : y1 = y2
                  · have hy' : (y1 == y2) = true := by simp [hy]
                    subst hx hy
                    go_quiet (fail)
                    go_wp2_with fail
                    go_meet
                    case rel => exact ⟨true, by simp, by simp, DK.out.drewN nq⟩
                  · have hy' : (y1 == y2) = false := by simp [hy]
                    subst hx
                    go_quiet (fail)
                    go_wp2_with fail
                    go_meet
                    case rel => exact ⟨false, by simp [hy], by simp [hy], DK.out.drewN nq⟩
                · have hx' : (x1 == x2) = false := by simp [hx]
                  go_quiet (fail)
                  go_wp2_with fail
                  go_meet
                  case rel => exact ⟨false, by simp [hx], by simp [hx], DK.out.drewN nq⟩
              case rest =>
                clear DK ci
                obtain ⟨sm, rfl, hsm, hdk⟩ := hcut
                have DKC := hide hdk
                have HSM := hide hsm
                clear hdk hsm
                obtain ⟨gn, cn, n1, hr1⟩ := (T1.out.kp DKC.out.kp).next
                clear n1 hr1
                go_wp2_with fail
                go_loopw [11, 12] (fun s11 s12 w' => ∃ (c : Nat) (sm : Bool), s11 = .bool sm ∧ s12 = .int .i64 c ∧ c ≤ U.C ∧ ((sm = true ∧ gl.getD i 0 = gl.getD k 0 ∧ U.ac i = U.ac k ∧ ∀ c', c' < c → ((U.nx i c' < 0 ↔ U.nx k c' < 0) ∧ (U.nx i c' < 0 ∨ gOf gl (U.nx i c').toNat = gOf gl (U.nx k c').toNat))) ∨ (sm = false ∧ ¬ KeyEq U (gOf gl) i k)) ∧ DkW W gb nb gl h2 w')
                  (fun _ s12 _ => U.C + 1 - (intOf s12).toNat)
                case atStart =>
                  refine ⟨0, sm, rfl, rfl, by omega, ?_, DKC.out⟩
                  by_cases q : sm = true
                  · obtain ⟨a, b⟩ := HSM.out.1 q
                    exact .inl ⟨q, a, b, fun c' hc' => by omega⟩
                  · exact .inr ⟨by simpa using q, fun ke => q (HSM.out.2 ⟨ke.1, ke.2.1⟩)⟩
                case round =>
                  clear DKC HSM
                  obtain ⟨c, sm, rfl, rfl, hc, hcs, hdk⟩ := hrel
                  have DK4 := hide hdk
                  have HC4 := hide hcs
                  obtain ⟨gn, cn, n1, hr1⟩ := (T1.out.kp hdk.kp).next
                  obtain ⟨g1, x1, r1, hx1⟩ := hr1 i hin
                  obtain ⟨g2, x2, r2, hx2⟩ := hr1 k (by omega)
                  clear hr1 hdk hcs
                  by_cases hgo : c < U.C ∧ sm = true
                  · obtain ⟨hcC, rfl⟩ := hgo
                    have hcC' : (c : Int) < U.C := by omega
                    have z1 := hx1 c hcC
                    have z2 := hx2 c hcC
                    have rng1 := CAN.out.rng i c hin hcC
                    have rng2 := CAN.out.rng k c (by omega) hcC
                    clear hx1 hx2
                    go_upto_region 22 with fail
                    have fin : ∀ sm' : Bool, (sm' = true ↔ ((U.nx i c < 0 ↔ U.nx k c < 0) ∧ (U.nx i c < 0 ∨ gOf gl (U.nx i c).toNat = gOf gl (U.nx k c).toNat))) → ((sm' = true ∧ gl.getD i 0 = gl.getD k 0 ∧ U.ac i = U.ac k ∧ ∀ c', c' < c + 1 → ((U.nx i c' < 0 ↔ U.nx k c' < 0) ∧ (U.nx i c' < 0 ∨ gOf gl (U.nx i c').toNat = gOf gl (U.nx k c').toNat))) ∨ (sm' = false ∧ ¬ KeyEq U (gOf gl) i k)) := fun sm' hsm => by
                      rcases HC4.out with ⟨_, q1, q2, q3⟩ | ⟨q, _⟩
                      · by_cases q : sm' = true
                        · refine .inl ⟨q, q1, q2, fun c' hc' => ?_⟩
                          by_cases e : c' = c
                          · subst e; exact hsm.1 q
                          · exact q3 c' (by omega)
                        · exact .inr ⟨by simpa using q, fun ke => q (hsm.2 (ke.2.2 c hcC))⟩
                      · cases q
                    clear n1 r1 r2 z1 z2 HC4
                    have CNI : ∀ c', c' < U.C → True := fun _ _ => trivial
                    clear CNI
                    obtain ⟨av, hav⟩ : ∃ av, U.nx i c = av := ⟨_, rfl⟩
                    obtain ⟨bv, hbv⟩ : ∃ bv, U.nx k c = bv := ⟨_, rfl⟩
                    have FIN := hide fin
                    clear fin
                    have HAV := hide hav
                    have HBV := hide hbv
                    rw [hav] at rng1 ⊢
                    rw [hbv] at rng2 ⊢
                    clear hav hbv
                    by_cases ha : av = -1
                    · subst ha
                      by_cases hb : bv = -1
                      · subst hb
                        go_quiet (fail)
                        go_wp2_with fail
                        refine ⟨⟨c + 1, true, rfl, by go_num, by omega, FIN.out true (by rw [HAV.out, HBV.out]; simp), DK4.out.drewN nq⟩, by simp [intOf]; omega⟩
                      · obtain ⟨bn, rfl⟩ : ∃ bn : Nat, bv = bn := ⟨bv.toNat, by omega⟩
                        have hbn : ¬ (bn : Int) < 0 := by omega
                        go_quiet (fail)
                        go_wp2_with fail
                        refine ⟨⟨c + 1, false, rfl, by go_num, by omega, FIN.out false (by rw [HAV.out, HBV.out]; exact ⟨fun q => (by cases q), fun q => absurd q.1 (by omega)⟩), DK4.out.drewN nq⟩, by simp [intOf]; omega⟩
                    · obtain ⟨an, rfl⟩ : ∃ an : Nat, av = an := ⟨av.toNat, by omega⟩
                      have han : ¬ (an : Int) < 0 := by omega
                      by_cases hb : bv = -1
                      · subst hb
                        go_quiet (fail)
                        go_wp2_with fail
                        refine ⟨⟨c + 1, false, rfl, by go_num, by omega, FIN.out false (by rw [HAV.out, HBV.out]; exact ⟨fun q => (by cases q), fun q => absurd q.1 (by omega)⟩), DK4.out.drewN nq⟩, by simp [intOf]; omega⟩
                      · obtain ⟨bn, rfl⟩ : ∃ bn : Nat, bv = bn := ⟨bv.toNat, by omega⟩
                        have hbn : ¬ (bn : Int) < 0 := by omega
                        have hanN : (an : Int) < U.N := by omega
                        have hbnN : (bn : Int) < U.N := by omega
                        have ca := icell DK4.out.gblk an (by omega)
                        have cb := icell DK4.out.gblk bn (by omega)
                        have ea : gOf gl ((an : Int)).toNat = gl.getD an 0 := rfl
                        have eb : gOf gl ((bn : Int)).toNat = gl.getD bn 0 := rfl
                        have EA := hide ea
                        have EB := hide eb
                        clear ea eb
                        obtain ⟨xa, hxa⟩ : ∃ x, gl.getD an 0 = x := ⟨_, rfl⟩
                        obtain ⟨xb, hxb⟩ : ∃ x, gl.getD bn 0 = x := ⟨_, rfl⟩
                        have HXA := hide hxa
                        have HXB := hide hxb
                        rw [hxa] at ca
                        rw [hxb] at cb
                        clear hxa hxb
                        by_cases hx : xa = xb
                        · subst hx
                          go_quiet (fail)
                          go_wp2_with fail
                          refine ⟨⟨c + 1, true, rfl, by go_num, by omega, FIN.out true (by rw [HAV.out, HBV.out]; rw [EA.out, EB.out, HXA.out, HXB.out]; exact ⟨fun _ => ⟨by omega, .inr rfl⟩, fun _ => rfl⟩), DK4.out.drewN nq⟩, by simp [intOf]; omega⟩
                        · have hx' : (xa == xb) = false := by simp [hx]
                          go_quiet (fail)
                          go_wp2_with fail
                          refine ⟨⟨c + 1, false, rfl, by go_num, by omega, FIN.out false (by rw [HAV.out, HBV.out]; rw [EA.out, EB.out, HXA.out, HXB.out]; simp [hx]), DK4.out.drewN nq⟩, by simp [intOf]; omega⟩
                  · have hdec : (sm = true ∧ KeyEq U (gOf gl) i k) ∨ (sm = false ∧ ¬ KeyEq U (gOf gl) i k) := by
                      rcases HC4.out with ⟨q0, q1, q2, q3⟩ | q
                      · refine .inl ⟨q0, q1, q2, fun c' hc' => q3 c' ?_⟩
                        have : ¬ c < U.C := fun z => hgo ⟨z, q0⟩
                        omega
                      · exact .inr q
                    clear hx1 hx2 HC4
                    rcases hdec with ⟨rfl, ke⟩ | ⟨rfl, ke⟩
                    · have hcC' : ¬ (c : Int) < U.C := fun z => hgo ⟨by omega, rfl⟩
                      have KE := hide ke
                      have ck := icell DK4.out.nblk k (by omega)
                      have ci2 := icell DK4.out.nblk i (by omega)
                      have fi := frozen_of_block DK4.out.nblk i
                      have D6 := hide (DK4.out.set hne hnW i (h2.getD k 0))
                      clear hgo ke
                      go_wp2_with fail
                      refine ⟨⟨k + 1, h2.set i (h2.getD k 0), by go_num, by omega, by rw [List.length_set]; exact hh2, fun j hj => by rw [getD_set_other _ _ _ _ (by omega)]; exact HS.out j hj, .inr ⟨k, hki, KE.out, by rw [getD_set_self _ _ _ (by omega)]; exact HS.out k hki⟩, D6.out⟩, by simp [intOf]; omega⟩
                    · have KE := hide ke
                      clear hgo ke
                      by_cases hcC : c < U.C
                      · have hcC' : (c : Int) < U.C := by omega
                        go_wp2_with fail
                        refine ⟨⟨k + 1, h2, by go_num, by omega, hh2, HS.out, .inl ⟨hm1, fun k' hk' => ?_⟩, DK4.out⟩, by simp [intOf]; omega⟩
                        by_cases e : k' = k
                        · subst e; exact KE.out
                        · exact HNO.out k' (by omega)
                      · have hcC' : ¬ (c : Int) < U.C := by omega
                        go_wp2_with fail
                        refine ⟨⟨k + 1, h2, by go_num, by omega, hh2, HS.out, .inl ⟨hm1, fun k' hk' => ?_⟩, DK4.out⟩, by simp [intOf]; omega⟩
                        by_cases e : k' = k
                        · subst e; exact KE.out
                        · exact HNO.out k' (by omega)
            · have fi := frozen_of_block DK.out.nblk i
              rcases hst with ⟨q1, q2⟩ | ⟨k', q1, q2, q3⟩
              · have hke : k = i := by
                  have : ¬ k < i := fun z => hgo ⟨z, q1⟩
                  omega
                subst hke
                rw [q1] at ci
                have hki' : ¬ (k : Int) < k := by omega
                have D6 := hide (DK.out.set hne hnW k m)
                have gp6 : GrpP U (gOf gl) (gOf (h2.set k (m : Int))) (k + 1) (m + 1) := GP.out.new q2 (fun j hj => by show (h2.set k (m : Int)).getD j 0 = hl.getD j 0; rw [getD_set_other _ _ _ _ (by omega)]; exact HS.out j hj) (by show (h2.set k (m : Int)).getD k 0 = m; rw [getD_set_self _ _ _ (by omega)])
                have GP6 := hide gp6
                have hms : m + 1 ≤ k + 1 := by omega
                clear gp6 HST q1 q2 hgo
                go_wp2_with fail
                refine ⟨⟨k + 1, m + 1, h2.set k m, by go_num, by go_num, by omega, hms, by rw [List.length_set]; exact hh2, GP6.out, D6.out⟩, by simp [intOf]; omega⟩
              · have hrng := GP.out.rng k' q1
                have e0 : gOf hl k' = hl.getD k' 0 := rfl
                rw [e0] at hrng
                rw [q3] at ci
                have hnn : ¬ hl.getD k' 0 < 0 := by omega
                have gp6 : GrpP U (gOf gl) (gOf h2) (i + 1) m := GP.out.old q1 q2 (fun j hj => HS.out j hj) (by show h2.getD i 0 = hl.getD k' 0; exact q3)
                have GP6 := hide gp6
                clear gp6 HST e0 hgo
                generalize hl.getD k' 0 = xv at *
                by_cases hki : k < i
                · have hki' : (k : Int) < i := by omega
                  go_wp2_with fail
                  refine ⟨⟨i + 1, m, h2, rfl, by go_num, by omega, by omega, hh2, GP6.out, DK.out⟩, by simp [intOf]; omega⟩
                · have hki' : ¬ (k : Int) < i := by omega
                  go_wp2_with fail
                  refine ⟨⟨i + 1, m, h2, rfl, by go_num, by omega, by omega, hh2, GP6.out, DK.out⟩, by simp [intOf]; omega⟩
        · have hin' : ¬ (i : Int) < U.N := by omega
          have hie : i = U.N := by omega
          subst hie
          by_cases hmc : m = cnt
          · subst hmc
            have hnb : Numb (gOf gl) U.N m := by
              rcases HCS.out with ⟨_, e⟩ | ⟨_, _, c⟩
              · have := GP.out.rng 0 hN0
                omega
              · exact c
            have hfull := hnb.full (CAN.out.single (GP.out.stable hnb))
            subst hfull
            have hmm : (U.N : Int) = U.N := rfl
            clear hmm
            go_wp2_with fail
            go_ret
            exact ⟨by simp, (K1.out.trans DK.out.kp (by simp)).toBelow⟩
          · have hmc' : ((m : Int) == (cnt : Int)) = false := by simp; omega
            have hmc2 : ¬ (m : Int) = cnt := by omega
            have hlt : r + 1 ≤ m := by
              rcases HCS.out with ⟨e, e2⟩ | ⟨_, a, c⟩
              · omega
              · have := GP.out.more c
                omega
            go_wp2_with fail
            refine ⟨⟨r + 1, m, nb, hl, rfl, rfl, by go_num, by omega, hhl, DK.out.nblk, hnW, .inr ⟨by omega, hlt, GP.out.numb⟩, DK.out.kp⟩, by simp [intOf]; omega⟩
    · exfalso
      rcases hcase with ⟨e, _⟩ | ⟨a, b, c⟩
      · omega
      · have := c.le; omega
end Go.Proofs.Ytbjdkbcfpmeneaa
