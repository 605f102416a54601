/- What is proved here: Walked is true. -/
import Derived.Test.YtbjdkbcfpmeneaaRows
import Derived.Test.YtbjdkbcfpmeneaaXKFirst
import Derived.Test.YtbjdkbcfpmeneaaXLTab
import Derived.BigQuiet
namespace Go.Proofs.Ytbjdkbcfpmeneaa
set_option linter.unusedVariables false
set_option linter.unusedSimpArgs false
open Go.RowKit Go.ChangeMaps

theorem tx_append (x y : ByteArray) : tx (x ++ y) = tx x ++ tx y := by simp [tx, ByteArray.data_append]
theorem tx_take (s : ByteArray) (i : Nat) : tx (s.extract 0 i) = (tx s).take i := by rw [tx_cut, List.drop_zero, Nat.sub_zero]
theorem tx_bytes (s : ByteArray) : ∀ c ∈ tx s, c < 256 := fun c hc => by
  simp [tx] at hc
  obtain ⟨y, _, rfl⟩ := hc
  exact y.toNat_lt
theorem walk_next {cls : Nat → Nat} {nx : Nat → Nat → Int} {s : ByteArray} {i : Nat} {sn : Nat} (hi : i < s.size) (h : walkT cls nx ((tx s).take i) = sn) : walkT cls nx ((tx s).take (i + 1)) = nx sn (cls (gt s i)) := by
  have e : (tx s).take (i + 1) = (tx s).take i ++ [gt s i] := by
    have := congrArg List.head? (tx_drop s i hi)
    rw [List.head?_drop] at this
    rw [List.take_add_one, this]
    rfl
  rw [e, walkT_snoc, h]
  unfold stepT
  rw [if_neg (by omega), Int.toNat_natCast]

set_option maxRecDepth 100000 in
set_option maxHeartbeats 4000000 in
theorem walked_code (a : Option Addr) (n cap : Nat) (rs : Nat → ByteArray) (text more : ByteArray) (w : World) (h : RulesOf w a n rs) :
    Calls Try.prog 7 #[.slice a n cap, .string text, .string more] w fun x w' => x = .returned (.bool true) ∧ Below w.heap.size w w' := by
  have HR := hide h
  clear h
  go_enter Try.func7, Try.ntmps7
  go_wp2_with fail
  refine (kshort_code text 200 (by omega) _).mono ?_
  rintro _ w0 ⟨rfl, e0⟩
  rw [e0]
  clear e0 w0
  have hs := short_le text 200
  generalize (if text.size ≤ 200 then text else text.extract 0 200) = s at *
  go_wp2_with fail
  refine (kshort_code more 200 (by omega) _).mono ?_
  rintro _ w0 ⟨rfl, e0⟩
  rw [e0]
  clear e0 w0
  have hm := short_le more 200
  generalize (if more.size ≤ 200 then more else more.extract 0 200) = mo at *
  go_wp2_with fail
  refine (made_code a n cap rs _ HR.out).mono ?_
  rintro _ w1 ⟨b1, hw⟩
  rcases hw with rfl | ⟨lb, U, rfl, hn0, hn6, hok, hL, hC, hN, hCC⟩
  · have B1 := hide b1
    clear b1
    go_wp2_with fail
    go_ret
    exact ⟨by simp, B1.out⟩
  · obtain ⟨g, o, rfl, hr⟩ := HR.out hn0
    have K1 : Hid (Kp [] w w1) := (Kp.refl [] w).below b1
    have HL := hide hL
    have TOK := hide hC.ok
    have hac0 : U.ac 0 = -1 := by
      have := hC.sem [] (fun c hc => by cases hc)
      rw [told, if_pos rfl] at this
      rw [← this]
      exact (U.out_nil 0).symm
    have hN0 := hC.pos
    have hC0 : 0 < U.C := Nat.lt_of_le_of_lt (Nat.zero_le _) (hC.cl 0 (by omega))
    have HOK := hide hok
    have RI := hide hr
    clear b1 hL hC hok hr HR
    go_wp2_with fail
    refine (ltable_code lb U w1 HL.out.lex hN0 hN hC0 hCC).mono ?_
    rintro _ w2 ⟨b2, vn, va, rfl, htr⟩
    have k12 : Kp [] w1 w2 := (Kp.refl [] w1).below b2
    have K2 : Hid (Kp [] w w2) := K1.out.trans k12 (by simp)
    have HTR := hide htr
    clear b2 htr k12 K1 HL
    have hcs : (clArr U.cls 256).size = 256 := clArr_size _ _
    have hts : (tabArr (clArr U.cls 256) vn va).size = 258 := tabArr_size hcs _ _
    obtain ⟨⟨gn, capn, rfl, lgn, hrow⟩, ⟨ga, capa, rfl, lga, hacc⟩⟩ := HTR.out
    dsimp only
    go_step
    refine allocZ rfl _ rfl _ infoTab ?_
    refine storeAll rfl _ _ _ rfl (b := w2.heap.size) (c := tabArr z256 nilV nilV) (e := 46) (by rw [blk_alloc, if_pos rfl]; rfl) rfl rfl (by rw [hts, tabArr_size z256_size]) (by rw [hts]; exact infoTabS) (tabArr_one' (clArr_one _ _) rfl rfl) ?_
    intro w3 b3 k3 _
    simp only [Act.put, List.setIfInBounds_toArray, List.set_cons_zero, List.set_cons_succ]
    have k23 : Kp [] w2 w3 := (((Kp.refl [] w2).alloc _).trans k3 (by simp))
    have K3 : Hid (Kp [] w w3) := K2.out.trans k23 (by simp)
    have hrow3 : ∀ i, i < U.N → ∃ g c, w3.cell? ⟨gn, i, none⟩ = some (.slice (some ⟨g, 0, none⟩) U.C c) ∧ g < w3.heap.size ∧ ∀ k, k < U.C → w3.cell? ⟨g, k, none⟩ = some (.int .i64 (U.nx i k)) := fun i hi => by
      obtain ⟨g, c, q1, q2, q3⟩ := hrow i hi
      have := k23.size
      exact ⟨g, c, by rw [k23.cell lgn]; exact q1, by omega, fun k hk => by rw [k23.cell q2]; exact q3 k hk⟩
    have hacc3 : ∀ i, i < U.N → w3.cell? ⟨ga, i, none⟩ = some (.int .i64 (U.ac i)) := fun i hi => by rw [k23.cell lga]; exact hacc i hi
    have lgn3 : gn < w3.heap.size := Nat.lt_of_lt_of_le lgn k23.size
    have lga3 : ga < w3.heap.size := Nat.lt_of_lt_of_le lga k23.size
    have ltb3 : w2.heap.size < w3.heap.size := lt_of_block b3
    have t256 : w3.cell? ⟨w2.heap.size, 256, none⟩ = some (.slice (some ⟨gn, 0, none⟩) U.N capn) := by rw [cell_of_block b3, tabArr_256 hcs]
    have t257 : w3.cell? ⟨w2.heap.size, 257, none⟩ = some (.slice (some ⟨ga, 0, none⟩) U.N capa) := by rw [cell_of_block b3, tabArr_257 hcs]
    have tcl : ∀ c, c < 256 → w3.cell? ⟨w2.heap.size, c, none⟩ = some (.int .i64 (U.cls c)) := fun c hc => by rw [cell_of_block b3, tabArr_lo hcs _ _ hc, clArr_get _ _ _ hc, if_pos hc]
    generalize w2.heap.size = tb at *
    have HROW := hide hrow3
    have HACC := hide hacc3
    have HCL := hide tcl
    have H6 := hide t256
    have H7 := hide t257
    have FI : Hid (∀ (t : ByteArray) (w' : World), t.size ≤ 400 → Kp [] w w' → Calls Try.prog 13 #[.slice (some ⟨g, o, none⟩) n cap, .string t] w' fun x w'' => x = .returned (.int .i64 (firstR (fun k => (readW (rs k)).v) n (tx t))) ∧ Below w'.heap.size w' w'') := fun t w' ht hk => kfirst_rules g o cap n rs t (by omega) hn6 w' (RI.out.kp hk) HOK.out
    clear b3 k3 k23 hrow hacc hrow3 hacc3 tcl t256 t257 HTR lgn lga HOK RI hts
    generalize (fun k => (readW (rs k)).v) = L at *
    go_wp2_with fail
    go_loopw [10, 11] (fun s10 s11 w' => ∃ (i sn : Nat), s10 = .int .i64 sn ∧ s11 = .int .i64 i ∧ i ≤ s.size + 1 ∧ walkT U.cls U.nx ((tx s).take (i - 1)) = sn ∧ Kp [] w3 w')
      (fun _ s11 _ => s.size + 2 - (intOf s11).toNat)
    case atStart => exact ⟨0, 0, rfl, rfl, by omega, rfl, Kp.refl _ _⟩
    case round =>
      obtain ⟨i, sn, rfl, rfl, hi, hwk, kp⟩ := hrel
      have KP := hide kp
      clear kp
      by_cases hlt : i ≤ s.size
      · have hlt' : (i : Int) ≤ s.size := by omega
        go_wp2_with fail
        refine (FI.out (s.extract 0 i) _ (by rw [ByteArray.size_extract]; omega) (K3.out.trans KP.out (by simp))).mono ?_
        rintro _ w4 ⟨rfl, b4⟩
        have kp4 : Kp [] w3 w4 := KP.out.below b4
        have K4 := hide kp4
        rw [tx_take]
        have c256 : w4.cell? ⟨tb, 256, none⟩ = some (.slice (some ⟨gn, 0, none⟩) U.N capn) := by rw [kp4.cell ltb3]; exact H6.out
        have c257 : w4.cell? ⟨tb, 257, none⟩ = some (.slice (some ⟨ga, 0, none⟩) U.N capa) := by rw [kp4.cell ltb3]; exact H7.out
        clear b4 kp4 KP
        by_cases hi0 : i = 0
        · subst hi0
          have hsn : sn = 0 := by
            have : (0 : Int) = sn := hwk
            omega
          subst hsn
          have eac := HACC.out 0 hN0
          rw [← K4.out.cell lga3, hac0] at eac
          have hNI : (0 : Int) < U.N := by omega
          have hNI2 : ¬ (U.N : Int) ≤ 0 := by omega
          generalize firstR L n ((tx s).take 0) = kk at *
          clear HROW HACC HCL H6 H7 FI
          go_wp2_with fail
          refine ⟨⟨1, 0, rfl, by go_num, by omega, rfl, K4.out⟩, by simp [intOf]⟩
        · obtain ⟨j, hij⟩ : ∃ j, i = j + 1 := ⟨i - 1, by omega⟩
          have hjs : j < s.size := by omega
          rw [show i - 1 = j by omega] at hwk
          have hnext := walk_next hjs hwk
          rw [← hij] at hnext
          have hat := TOK.out.at ((tx s).take j) (fun c hc => tx_bytes s c (List.mem_of_mem_take hc))
          rw [hwk] at hat
          obtain ⟨gr, cr, hr1, hr2, hr3⟩ := HROW.out sn (by omega)
          have hb8 : gt s j < 256 := gt_lt s j
          have hg := gt_at s j hjs
          have hcl := TOK.out.cl _ hb8
          have ecl := HCL.out (gt s j) hb8
          rw [← K4.out.cell ltb3] at ecl
          have erow : w4.cell? ⟨gn, sn, none⟩ = some (.slice (some ⟨gr, 0, none⟩) U.C cr) := by rw [K4.out.cell lgn3]; exact hr1
          have enx : w4.cell? ⟨gr, U.cls (gt s j), none⟩ = some (.int .i64 (U.nx sn (U.cls (gt s j)))) := by rw [K4.out.cell hr2]; exact hr3 _ hcl
          have hrng := TOK.out.rng sn _ (by omega) hcl
          have hne : (tx s).take i ≠ [] := fun e => by
            have := congrArg List.length e
            rw [List.length_take, tx_len, List.length_nil] at this
            omega
          have hbt : ∀ c ∈ (tx s).take i, c < 256 := fun c hc => tx_bytes s c (List.mem_of_mem_take hc)
          generalize U.nx sn (U.cls (gt s j)) = t at *
          generalize U.cls (gt s j) = cl at *
          rw [hg] at ecl hb8
          have hb8' : ((s[j].toNat : Nat) : Int) < 256 := by omega
          have hcv : IntKind.i64.wrap ((s[j].toNat : Nat) : Int) = ((s[j].toNat : Nat) : Int) := by simp [IntKind.wrap, IntKind.bits, IntKind.signed]; omega
          have hsub : IntKind.i64.wrap ((i : Int) - 1) = (j : Int) := by
            rw [show (i : Int) - 1 = j by omega]
            simp [IntKind.wrap, IntKind.bits, IntKind.signed]; omega
          have hi1 : (0 : Int) < i := by omega
          have hi2 : ¬ (i : Int) = 0 := by omega
          have hjs' : (j : Int) < s.size := by omega
          have hsN : (sn : Int) < U.N := by omega
          have hsN2 : ¬ (U.N : Int) ≤ sn := by omega
          have hcI : (cl : Int) < U.C := by omega
          have hcI2 : ¬ (U.C : Int) ≤ cl := by omega
          have HNX := hide hnext
          have HNE := hide hne
          have HBT := hide hbt
          clear hr1 hr2 hr3 hg hnext hat hne hbt hwk hij
          by_cases ht : t = -1
          · subst ht
            have hno := fun z hz => TOK.out.none _ HNE.out HBT.out HNX.out z hz
            have hk1 : firstR L n ((tx s).take i) = -1 := by
              have := hno [] (fun c hc => by cases hc)
              rwa [List.append_nil] at this
            have hk2 : firstR L n (tx (s.extract 0 i ++ mo)) = -1 := by
              rw [tx_append, tx_take]
              exact hno _ (tx_bytes mo)
            have HK2 := hide hk2
            rw [hk1]
            clear hno hk1 hk2 HROW HACC HCL H6 H7
            go_wp2_with fail
            refine (FI.out (s.extract 0 i ++ mo) _ (by rw [ByteArray.size_append, ByteArray.size_extract]; omega) (K3.out.trans K4.out (by simp))).mono ?_
            rintro _ w5 ⟨rfl, b5⟩
            rw [HK2.out]
            have K5 : Hid (Kp [] w3 w5) := K4.out.below b5
            clear b5 c256 c257 ecl erow enx
            go_wp2_with fail
            go_ret
            exact ⟨by simp, (K3.out.trans K5.out (by simp)).toBelow⟩
          · obtain ⟨tn, rfl⟩ : ∃ tn : Nat, t = tn := ⟨t.toNat, by omega⟩
            have hk := TOK.out.some _ HNE.out HBT.out (by rw [HNX.out]; exact ht)
            rw [HNX.out, Int.toNat_natCast] at hk
            rw [← hk]
            have eac := HACC.out tn (by omega)
            rw [← K4.out.cell lga3] at eac
            have htN : (tn : Int) < U.N := by omega
            have htN2 : ¬ (U.N : Int) ≤ tn := by omega
            have htz : ¬ (tn : Int) < 0 := by omega
            clear hk HROW HACC HCL H6 H7 FI ht
            generalize U.ac tn = kk at *
            go_wp2_with fail
            refine ⟨⟨i + 1, tn, rfl, by go_num, by omega, HNX.out, K4.out⟩, by simp [intOf]; omega⟩
      · have hlt' : ¬ (i : Int) ≤ s.size := by omega
        clear HROW HACC HCL H6 H7 FI
        go_wp2_with fail
        go_ret
        exact ⟨by simp, (K3.out.trans KP.out (by simp)).toBelow⟩
end Go.Proofs.Ytbjdkbcfpmeneaa
