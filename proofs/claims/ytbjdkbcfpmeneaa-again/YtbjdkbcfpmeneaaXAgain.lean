/- What is proved here: Again is true. -/
import Derived.Test.YtbjdkbcfpmeneaaRows
import Derived.Test.YtbjdkbcfpmeneaaXKFirst
import Derived.Deep.RegionHeld3
import Derived.BigQuiet
namespace Go.Proofs.Ytbjdkbcfpmeneaa
set_option linter.unusedVariables false
set_option linter.unusedSimpArgs false
open Go.RowKit Go.ChangeMaps

theorem LexAt.kp {w w' : World} {lb : Nat} {U : Tab} (h : LexAt w lb U) (hk : Kp [] w w') : LexAt w' lb U := by
  obtain ⟨vn, va, b, t⟩ := h.lex
  exact ⟨vn, va, hk.keep b (by simp), t.kp hk⟩
/- What Scan does, as it is used here. -/
theorem scan_use (lb : Nat) (s : ByteArray) (U : Tab) (L : Nat → Lang) (n : Nat) (w : World) (hL : LexAt w lb U) (hok : TableOk L n U.cls U.nx U.ac U.N U.C) (hN : U.N ≤ 250) (hC : U.C ≤ 256) (hs : s.size ≤ 100000) {ts : List (Int × Nat × Nat)} {en : Nat} (hc : Cut L n (tx s) 0 ts en) :
    Calls Try.prog 12 #[.pointer (some ⟨lb, 0, none⟩), .string s] w fun e w' => Below w.heap.size w w' ∧ ∃ (av : Option Addr) (cv : Nat), e = .returned (.tuple #[.slice av ts.length cv, .int .i64 en]) ∧ TokAt w' av ts := by
  refine (scan_code lb s U L n w hL.lex hok hN hC hs).mono ?_
  rintro e w' ⟨hb, us, vt, en', rfl, hown, hcut, _⟩
  obtain ⟨rfl, rfl⟩ := cut_one _ _ _ _ _ hcut hc
  obtain ⟨av, cv, rfl, htk⟩ := tok_of hown
  exact ⟨hb, av, cv, rfl, htk⟩

set_option maxRecDepth 100000 in
set_option maxHeartbeats 4000000 in
theorem again_code (a : Option Addr) (n cap : Nat) (rs : Nat → ByteArray) (text : ByteArray) (w : World) (h : RulesOf w a n rs) :
    Calls Try.prog 5 #[.slice a n cap, .string text] w fun x w' => x = .returned (.bool true) ∧ Below w.heap.size w w' := by
  have HR := hide h
  clear h
  go_enter Try.func5, Try.ntmps5
  go_wp2_with fail
  refine (kshort_code text 2000 (by omega) _).mono ?_
  rintro _ w0 ⟨rfl, e0⟩
  rw [e0]
  clear e0 w0
  have hs := short_le text 2000
  generalize (if text.size ≤ 2000 then text else text.extract 0 2000) = s at *
  go_wp2_with fail
  refine (made_code a n cap rs _ HR.out).mono ?_
  rintro _ w1 ⟨b1, hw⟩
  rcases hw with rfl | ⟨lb, U, rfl, hn0, hn6, hok, hL, hC, hN, hCC⟩
  · have B1 := hide b1
    clear b1
    go_wp2_with fail
    go_ret
    exact ⟨by simp, B1.out⟩
  · have K1 : Hid (Kp [] w w1) := (Kp.refl [] w).below b1
    have HL := hide hL
    have TOK := hide hC.ok
    clear b1 hL hC hok HR
    go_wp2_with fail
    refine (scan_code lb s U (fun k => (readW (rs k)).v) n w1 HL.out.lex TOK.out hN hCC (by omega)).mono ?_
    rintro _ w2 ⟨b2, ts, vt, en, rfl, hown, hcut, _⟩
    obtain ⟨av, cv, rfl, htk⟩ := tok_of hown
    have k12 : Kp [] w1 w2 := (Kp.refl [] w1).below b2
    have K2 : Hid (Kp [] w w2) := K1.out.trans k12 (by simp)
    have HL2 := hide (HL.out.kp k12)
    have TK := hide htk
    have CU := hide hcut
    have htx : (tx s).length = s.size := tx_len s
    clear b2 hown hcut htk HL K1 k12
    generalize (fun k => (readW (rs k)).v) = L at *
    have SC : Hid (∀ (y : ByteArray) (us : List (Int × Nat × Nat)) (e : Nat) (w' : World), y.size ≤ 2000 → Kp [] w2 w' → Cut L n (tx y) 0 us e → Calls Try.prog 12 #[.pointer (some ⟨lb, 0, none⟩), .string y] w' fun x w'' => Below w'.heap.size w' w'' ∧ ∃ (av : Option Addr) (cv : Nat), x = .returned (.tuple #[.slice av us.length cv, .int .i64 e]) ∧ TokAt w'' av us) := fun y us e w' hy hk hc => scan_use lb y U L n w' (HL2.out.kp hk) TOK.out hN hCC (by omega) hc
    have htl : ts.length ≤ 2000 ∧ en ≤ s.size := by have := cut_few ts 0 en (by omega) CU.out; omega
    clear HL2 TOK
    go_wp2_with fail
    go_loopw [9, 10] (fun s9 s10 w' => ∃ (i p : Nat), s9 = .int .i64 p ∧ s10 = .int .i64 i ∧ p ≤ s.size ∧ i ≤ ts.length ∧ Cut L n (tx s) p (ts.drop i) en ∧ Kp [] w2 w')
      (fun _ s10 _ => ts.length + 1 - (intOf s10).toNat)
    case atStart => exact ⟨0, 0, rfl, rfl, by omega, by omega, CU.out, Kp.refl _ _⟩
    case round =>
      obtain ⟨i, p, rfl, rfl, hp, hi, hc, kp⟩ := hrel
      have KP := hide kp
      by_cases hlt : i < ts.length
      · have hlt' : (i : Int) < ts.length := by omega
        rw [List.drop_eq_getElem_cons hlt] at hc
        obtain ⟨r, f, t, hx⟩ : ∃ r f t, ts[i] = (r, f, t) := ⟨_, _, _, rfl⟩
        rw [hx] at hc
        obtain ⟨hf, hpt, htl', hr0, hfr, hno, hrest⟩ := hc
        have hf' := hf.symm
        subst hf'
        obtain ⟨gt', rfl, lgt, c0, c1, c2⟩ := TK.out.at_ i (r, p, t) (by rw [List.getElem?_eq_getElem hlt, hx])
        have HREST := hide hrest
        rw [← kp.cell lgt] at c0 c1 c2
        have lgtr : gt' < wr.heap.size := Nat.lt_of_lt_of_le lgt kp.size
        have CC : Hid (wr.cell? ⟨gt', i * 3, none⟩ = some (.int .i64 r) ∧ wr.cell? ⟨gt', i * 3 + 1, none⟩ = some (.int .i64 p) ∧ wr.cell? ⟨gt', i * 3 + 2, none⟩ = some (.int .i64 t)) := ⟨c0, c1, c2⟩
        have hpt' : (p : Int) < t := by omega
        have hpt1 : ¬ (t : Int) ≤ p := by omega
        have hpt2 : (p : Int) ≤ t := by omega
        have hts : (t : Int) ≤ s.size := by omega
        have hts2 : ¬ (s.size : Int) < t := by omega
        have hlen : (tx (s.extract p t)).length = t - p := by rw [tx_len, ByteArray.size_extract]; omega
        have hcut : Cut L n (tx (s.extract p t)) 0 [(r, 0, t - p)] (t - p) := by
          have e3 : firstR L n (tx (s.extract p t)) = r := by rw [tx_cut]; exact hfr
          have := cut_alone (L := L) (n := n) (y := tx (s.extract p t)) (r := r) (fun e => by rw [e] at hlen; simp at hlen; omega) hr0 e3
          rwa [hlen] at this
        have HCUT := hide hcut
        have hysz : (s.extract p t).size ≤ 2000 := by rw [ByteArray.size_extract]; omega
        clear hfr hno hrest hx hcut hlen hf
        obtain ⟨d, hd⟩ : ∃ d, t - p = d := ⟨_, rfl⟩
        rw [hd] at HCUT
        have hsub : IntKind.i64.wrap ((t : Int) - (p : Int)) = (d : Int) := by
          have : (t : Int) - p = (d : Int) := by omega
          rw [this]
          simp [IntKind.wrap, IntKind.bits, IntKind.signed]; omega
        clear kp
        go_upto_region 12 with fail
        clear c0 c1 c2
        obtain ⟨c0, c1, c2⟩ := CC.out
        have hd0 : wr.drew.cell? ⟨gt', i * 3 + 1, none⟩ = some (.int .i64 p) ∧ wr.drew.cell? ⟨gt', i * 3 + 2, none⟩ = some (.int .i64 t) := ⟨c1, c2⟩
        go_region_held3 (fun w' : World => w'.cell? ⟨gt', i * 3 + 1, none⟩ = some (.int .i64 p) ∧ w'.cell? ⟨gt', i * 3 + 2, none⟩ = some (.int .i64 t))
          (first | with_reducible exact hd0 | with_reducible exact R2)
          (first | (go_at_call 12; refine (SC.out (s.extract p t) [(r, 0, d)] d _ hysz (KP.out.drew) HCUT.out).mono ?_; rintro _ w3 ⟨b3, av3, cv3, rfl, tk3⟩; have k3 : Kp [] wr w3 := ((Kp.refl [] wr).drew).below b3; have R2 : w3.cell? ⟨gt', i * 3 + 1, none⟩ = some (.int .i64 p) ∧ w3.cell? ⟨gt', i * 3 + 2, none⟩ = some (.int .i64 t) := ⟨(k3.cell lgtr).trans c1, (k3.cell lgtr).trans c2⟩))
        obtain ⟨gu, rfl, lgu, d0, d1, d2⟩ := tk3.at_ 0 (r, 0, d) rfl
        simp only [Nat.zero_mul, Nat.zero_add] at d0 d1 d2
        have c03 : w3.cell? ⟨gt', i * 3, none⟩ = some (.int .i64 r) := (k3.cell lgtr).trans c0
        obtain ⟨c13, c23⟩ := R2
        have K3 : Hid (Kp [] w2 w3) := KP.out.trans k3 (by simp)
        have C2 : Hid (w3.cell? ⟨gt', i * 3 + 2, none⟩ = some (.int .i64 t)) := c23
        clear b3 tk3 k3 hd0 c0 c1 c2 CC KP SC TK CU
        go_upto_region 13 with fail
        go_quiet (fail)
        clear d0 d1 d2 c03 c13 c23
        have c2N : (w3.drewN nq).cell? ⟨gt', i * 3 + 2, none⟩ = some (.int .i64 t) := ((((Kp.refl [] w3).drewN nq).cell (Nat.lt_of_lt_of_le lgt K3.out.size))).trans C2.out
        have KN : Hid (Kp [] w2 (w3.drewN nq)) := K3.out.drewN nq
        generalize w3.drewN nq = W4 at *
        go_wp2_with fail
        refine ⟨⟨i + 1, t, rfl, by go_num, by omega, by omega, HREST.out, KN.out⟩, by simp [intOf]; omega⟩
      · have hlt' : ¬ (i : Int) < ts.length := by omega
        rw [List.drop_eq_nil_of_le (by omega)] at hc
        obtain ⟨hen, hno⟩ := hc
        subst hen
        have hcut2 : Cut L n (tx (s.extract 0 en)) 0 ts en := by
          rw [tx_cut, List.drop_zero, Nat.sub_zero]
          exact cut_take ts 0 en (by omega) CU.out
        have HCUT := hide hcut2
        have hysz : (s.extract 0 en).size ≤ 2000 := by rw [ByteArray.size_extract]; omega
        have hes : (en : Int) ≤ s.size := by omega
        have hi0 : i = ts.length := by omega
        clear hno hcut2 kp
        go_wp2_with fail
        refine (SC.out (s.extract 0 en) ts en _ hysz KP.out HCUT.out).mono ?_
        rintro _ w3 ⟨b3, av3, cv3, rfl, tk3⟩
        have K3 : Hid (Kp [] w2 w3) := KP.out.below b3
        have TK3 := hide tk3
        clear b3 tk3 KP SC CU
        go_wp2_with fail
        go_loopw [15, 16] (fun s15 s16 w' => ∃ j : Nat, s15 = .bool true ∧ s16 = .int .i64 j ∧ j ≤ ts.length ∧ Kp [] w3 w')
          (fun _ s16 _ => ts.length + 1 - (intOf s16).toNat)
        case atStart => exact ⟨0, by simp, rfl, by omega, Kp.refl _ _⟩
        case round =>
          obtain ⟨j, rfl, rfl, hj, kp⟩ := hrel
          have KP := hide kp
          by_cases hjl : j < ts.length
          · have hjl' : (j : Int) < ts.length := by omega
            obtain ⟨⟨r, f, t⟩, hx⟩ : ∃ y, ts[j]? = some y := ⟨_, List.getElem?_eq_getElem hjl⟩
            obtain ⟨g1, rfl, lg1, c0, c1, c2⟩ := TK.out.at_ j (r, f, t) hx
            obtain ⟨g2, rfl, lg2, d0, d1, d2⟩ := TK3.out.at_ j (r, f, t) hx
            rw [← (K3.out.trans kp (by simp)).cell lg1] at c0 c1 c2
            rw [← kp.cell lg2] at d0 d1 d2
            clear kp hx
            go_upto_region 21 with fail
            go_quiet (fail)
            clear c0 c1 c2 d0 d1 d2
            go_wp2_with fail
            refine ⟨⟨j + 1, by simp, by go_num, by omega, KP.out.drewN nq⟩, by simp [intOf]; omega⟩
          · have hjl' : ¬ (j : Int) < ts.length := by omega
            clear kp
            go_wp2_with fail
            go_ret
            exact ⟨by simp, ((K2.out.trans K3.out (by simp)).trans KP.out (by simp)).toBelow⟩
end Go.Proofs.Ytbjdkbcfpmeneaa
