/- What is proved here: Munched is true. -/
import Derived.Test.YtbjdkbcfpmeneaaRows
import Derived.Test.YtbjdkbcfpmeneaaXKFirst
namespace Go.Proofs.Ytbjdkbcfpmeneaa
set_option linter.unusedVariables false
set_option linter.unusedSimpArgs false
open Go.RowKit Go.ChangeMaps

set_option maxRecDepth 100000 in
set_option maxHeartbeats 4000000 in
theorem munched_code (a : Option Addr) (n cap : Nat) (rs : Nat → ByteArray) (text : ByteArray) (w : World) (h : RulesOf w a n rs) :
    Calls Try.prog 3 #[.slice a n cap, .string text] w fun x w' => x = .returned (.bool true) ∧ Below w.heap.size w w' := by
  have HR := hide h
  clear h
  go_enter Try.func3, Try.ntmps3
  go_wp2_with fail
  refine (kshort_code text 200 (by omega) _).mono ?_
  rintro _ w0 ⟨rfl, e0⟩
  rw [e0]
  clear e0 w0
  have hs := short_le text 200
  generalize (if text.size ≤ 200 then text else text.extract 0 200) = s at *
  go_wp2_with fail
  refine (made_code a n cap rs _ HR.out).mono ?_
  rintro _ w1 ⟨b1, hw⟩
  rcases hw with rfl | ⟨lb, U, rfl, hn0, hn6, hok, hL, hC, hN, hCC⟩
  · have B1 := hide b1
    clear b1
    go_wp2_with fail
    go_ret
    exact ⟨by simp, B1.out⟩
  · obtain ⟨g, o, rfl, hr⟩ := HR.out hn0
    have K1 : Hid (Kp [] w w1) := (Kp.refl [] w).below b1
    have HL := hide hL
    have HC := hide hC
    have HOK := hide hok
    have RI := hide hr
    clear b1 hL hC hok hr HR
    go_wp2_with fail
    refine (scan_code lb s U (fun k => (readW (rs k)).v) n w1 HL.out.lex HC.out.ok hN hCC (by omega)).mono ?_
    rintro _ w2 ⟨b2, ts, vt, en, rfl, hown, hcut, _⟩
    obtain ⟨av, cv, rfl, htk⟩ := tok_of hown
    have K2 : Hid (Kp [] w w2) := K1.out.trans ((Kp.refl [] w1).below b2) (by simp)
    have TK := hide htk
    have CU := hide hcut
    have htx : (tx s).length = s.size := tx_len s
    have FI : Hid (∀ (t : ByteArray) (w' : World), t.size ≤ 200 → Kp [] w w' → Calls Try.prog 13 #[.slice (some ⟨g, o, none⟩) n cap, .string t] w' fun x w'' => x = .returned (.int .i64 (firstR (fun k => (readW (rs k)).v) n (tx t))) ∧ Below w'.heap.size w' w'') := fun t w' ht hk => kfirst_rules g o cap n rs t (by omega) hn6 w' (RI.out.kp hk) HOK.out
    clear b2 hown hcut htk HL HC HOK K1 RI
    generalize (fun k => (readW (rs k)).v) = L at *
    have htl : ts.length ≤ 200 ∧ en ≤ s.size := by have := cut_few ts 0 en (by omega) CU.out; omega
    go_wp2_with fail
    go_loopw [9, 10] (fun s9 s10 w' => ∃ (i p : Nat), s9 = .int .i64 p ∧ s10 = .int .i64 i ∧ p ≤ s.size ∧ ((i ≤ ts.length ∧ Cut L n (tx s) p (ts.drop i) en) ∨ (i = ts.length + 1 ∧ p = en)) ∧ Kp [] w2 w')
      (fun _ s10 _ => ts.length + 1 - (intOf s10).toNat)
    case atStart => exact ⟨0, 0, rfl, rfl, by omega, .inl ⟨by omega, CU.out⟩, Kp.refl _ _⟩
    case round =>
      obtain ⟨i, p, rfl, rfl, hp, hcase, kp⟩ := hrel
      have KP := hide kp
      rcases hcase with ⟨hi, hc⟩ | ⟨rfl, rfl⟩
      · have hi' : (i : Int) ≤ ts.length := by omega
        by_cases hlt : i < ts.length
        · have hlt' : (i : Int) < ts.length := by omega
          rw [List.drop_eq_getElem_cons hlt] at hc
          obtain ⟨r, f, t, hx⟩ : ∃ r f t, ts[i] = (r, f, t) := ⟨_, _, _, rfl⟩
          rw [hx] at hc
          obtain ⟨hf, hpt, htl', hr0, hfr, hno, hrest⟩ := hc
          have hf' := hf.symm
          subst hf'
          obtain ⟨gt', rfl, lgt, c0, c1, c2⟩ := TK.out.at_ i (r, p, t) (by rw [List.getElem?_eq_getElem hlt, hx])
          have HFR := hide hfr
          have HNO := hide hno
          have HREST := hide hrest
          rw [← kp.cell lgt] at c0 c1 c2
          have CC : Hid (wr.cell? ⟨gt', i * 3, none⟩ = some (.int .i64 r)) := c0
          have hpt' : (p : Int) < t := by omega
          have hpt1 : ¬ (t : Int) ≤ p := by omega
          have hpt2 : (p : Int) ≤ t := by omega
          have hts : (t : Int) ≤ s.size := by omega
          have hts2 : ¬ (s.size : Int) < t := by omega
          have e3 : firstR L n (tx (s.extract p t)) = r := by rw [tx_cut]; exact HFR.out
          have E3 := hide e3
          clear hfr hno hrest hx kp e3 hf
          go_wp2_with fail
          refine (FI.out (s.extract p t) _ (by rw [ByteArray.size_extract]; omega) (K2.out.trans KP.out (by simp))).mono ?_
          rintro _ w3 ⟨rfl, b3⟩
          rw [E3.out]
          have lgt3 : gt' < wr.heap.size := Nat.lt_of_lt_of_le lgt KP.out.size
          have K3 : Hid (Kp [] w2 w3) := KP.out.below b3
          have c03 : w3.cell? ⟨gt', i * 3, none⟩ = some (.int .i64 r) := by rw [((Kp.refl [] wr).below b3).cell lgt3]; exact CC.out
          clear b3 c0 c1 c2 KP CC
          go_wp2_with fail
          go_loopw [13] (fun s13 w' => ∃ m : Nat, s13 = .int .i64 m ∧ t + 1 ≤ m ∧ m ≤ s.size + 1 ∧ Kp [] w2 w')
            (fun s13 _ => s.size + 1 - (intOf s13).toNat)
          case atStart => exact ⟨t + 1, by go_num, by omega, by omega, K3.out⟩
          case round =>
            obtain ⟨m, rfl, hm1, hm2, kp4⟩ := hrel
            have K4 := hide kp4
            clear kp4 K3
            by_cases hms : m ≤ s.size
            · have hms' : (m : Int) ≤ s.size := by omega
              have hpm : (p : Int) ≤ m := by omega
              have e4 : firstR L n (tx (s.extract p m)) = -1 := by rw [tx_cut]; exact HNO.out (m - p) (by omega) (by omega)
              have E4 := hide e4
              clear e4
              go_wp2_with fail
              refine (FI.out (s.extract p m) _ (by rw [ByteArray.size_extract]; omega) (K2.out.trans K4.out (by simp))).mono ?_
              rintro _ w5 ⟨rfl, b5⟩
              rw [E4.out]
              have K5 : Hid (Kp [] w2 w5) := K4.out.below b5
              clear b5 K4
              go_wp2_with fail
              refine ⟨⟨m + 1, by go_num, by omega, by omega, K5.out⟩, by simp [intOf]; omega⟩
            · have hms' : ¬ (m : Int) ≤ s.size := by omega
              go_wp2_with fail
              refine ⟨⟨i + 1, t, rfl, by go_num, by omega, .inl ⟨by omega, HREST.out⟩, K4.out⟩, by simp [intOf]; omega⟩
        · have hlt' : ¬ (i : Int) < ts.length := by omega
          rw [List.drop_eq_nil_of_le (by omega)] at hc
          obtain ⟨hen, hno⟩ := hc
          have HEN := hide hen
          have HNO : Hid (∀ j, p - p < j → j ≤ (tx s).length - p → firstR L n (((tx s).drop p).take j) = -1) := fun j h1 h2 => hno j (by omega) h2
          have K3 := KP
          clear hen hno kp
          go_wp2_with fail
          go_loopw [13] (fun s13 w' => ∃ m : Nat, s13 = .int .i64 m ∧ p + 1 ≤ m ∧ m ≤ s.size + 1 ∧ Kp [] w2 w')
            (fun s13 _ => s.size + 1 - (intOf s13).toNat)
          case atStart => exact ⟨p + 1, by go_num, by omega, by omega, K3.out⟩
          case round =>
            obtain ⟨m, rfl, hm1, hm2, kp4⟩ := hrel
            have K4 := hide kp4
            clear kp4 K3
            by_cases hms : m ≤ s.size
            · have hms' : (m : Int) ≤ s.size := by omega
              have hpm : (p : Int) ≤ m := by omega
              have e4 : firstR L n (tx (s.extract p m)) = -1 := by rw [tx_cut]; exact HNO.out (m - p) (by omega) (by omega)
              have E4 := hide e4
              clear e4
              go_wp2_with fail
              refine (FI.out (s.extract p m) _ (by rw [ByteArray.size_extract]; omega) (K2.out.trans K4.out (by simp))).mono ?_
              rintro _ w5 ⟨rfl, b5⟩
              rw [E4.out]
              have K5 : Hid (Kp [] w2 w5) := K4.out.below b5
              clear b5 K4
              go_wp2_with fail
              refine ⟨⟨m + 1, by go_num, by omega, by omega, K5.out⟩, by simp [intOf]; omega⟩
            · have hms' : ¬ (m : Int) ≤ s.size := by omega
              go_wp2_with fail
              refine ⟨⟨i + 1, p, rfl, by go_num, by omega, .inr ⟨by omega, HEN.out.symm⟩, K4.out⟩, by simp [intOf]; omega⟩
      · have hi' : ¬ ((ts.length + 1 : Nat) : Int) ≤ ts.length := by omega
        clear kp
        go_wp2_with fail
        go_ret
        exact ⟨by simp, (K2.out.trans KP.out (by simp)).toBelow⟩
end Go.Proofs.Ytbjdkbcfpmeneaa
