/- What is proved here: what the merger's partOrigins does: of two states that are held apart all that lead there, by one class, are too. -/
import Derived.Test.YtbjdkbcfpmeneaaRows
import Derived.Test.YtbjdkbcfpmeneaaM22
namespace Go.Proofs.Ytbjdkbcfpmeneaa
set_option linter.unusedVariables false
set_option linter.unusedSimpArgs false
open Go.RowKit Go.ChangeMaps

/- An integer row that is read. -/
theorem ints_at {w : World} {v : Value} {l : List Int} (h : w.ownsRow 0 3 1 v l.length (iv l)) : ∃ a cap, v = .slice a l.length cap ∧ l.length ≤ 9223372036854775807 ∧ ∀ i, i < l.length → ∃ g, a = some ⟨g, 0, none⟩ ∧ w.cell? ⟨g, i, none⟩ = some (.int .i64 (l.getD i 0)) := by
  rcases h.2 with ⟨rfl, e⟩ | ⟨g, cap, cur, rfl, _, _, l1, l2, _⟩
  · exact ⟨none, 0, by rw [e], by omega, fun i hi => by omega⟩
  · refine ⟨_, cap, rfl, by unfold maxLen at l2; omega, fun i hi => ⟨g, rfl, ?_⟩⟩
    rw [h.cellAt i (by omega), List.getElem?_map, List.getElem?_eq_getElem hi, List.getD_eq_getElem?_getD, List.getElem?_eq_getElem hi]; rfl
theorem mem_getD {l : List Int} {i : Nat} (hi : i < l.length) : l.getD i 0 ∈ l := by
  rw [List.getD_eq_getElem?_getD, List.getElem?_eq_getElem hi]; exact List.getElem_mem hi
theorem mem_at {l : List Int} {x : Int} (h : x ∈ l) : ∃ i, i < l.length ∧ l.getD i 0 = x := by
  obtain ⟨i, hi, e⟩ := List.mem_iff_getElem.1 h
  exact ⟨i, hi, by rw [List.getD_eq_getElem?_getD, List.getElem?_eq_getElem hi]; exact e⟩

/- The pairs that came till now. -/
structure PO (T : Tab) (L : Nat → Nat → List Int) (p q : Int) (ks ks' : List Value) (done : Int → Int → Nat → Prop) : Prop where
  pre : ks <+: ks'
  new : ∀ x ∈ ks', x ∈ ks ∨ ∃ (a b : Int) (k : Nat), k < T.C ∧ a ∈ L (p + 1).toNat k ∧ b ∈ L (q + 1).toNat k ∧ x = pairV (min a b) (max a b)
  all : ∀ (a b : Int) (k : Nat), k < T.C → a ∈ L (p + 1).toNat k → b ∈ L (q + 1).toNat k → done a b k → pairV (min a b) (max a b) ∈ ks'
theorem PO.step {T : Tab} {L : Nat → Nat → List Int} {p q : Int} {ks ks' : List Value} {done done' : Int → Int → Nat → Prop} (h : PO T L p q ks ks' done) {a b : Int} {k : Nat} (hk : k < T.C) (ha : a ∈ L (p + 1).toNat k) (hb : b ∈ L (q + 1).toNat k)
    (hd : ∀ a' b' k', done' a' b' k' → done a' b' k' ∨ (a' = a ∧ b' = b ∧ k' = k) ) : PO T L p q ks (addK ks' (pairV (min a b) (max a b))) done' := by
  have sub : ∀ x ∈ ks', x ∈ addK ks' (pairV (min a b) (max a b)) := fun x hx => by
    by_cases q : pairV (min a b) (max a b) ∈ ks'
    · rw [addK_old q]; exact hx
    · rw [addK_new q]; simp [hx]
  have mem : pairV (min a b) (max a b) ∈ addK ks' (pairV (min a b) (max a b)) := by
    by_cases q : pairV (min a b) (max a b) ∈ ks'
    · rw [addK_old q]; exact q
    · rw [addK_new q]; simp
  refine ⟨?_, fun x hx => ?_, fun a' b' k' h1 h2 h3 h4 => ?_⟩
  · refine h.pre.trans ?_
    by_cases q : pairV (min a b) (max a b) ∈ ks'
    · rw [addK_old q]; exact ⟨[], by simp⟩
    · rw [addK_new q]; exact ⟨_, rfl⟩
  · have : x ∈ ks' ∨ x = pairV (min a b) (max a b) := by
      by_cases q : pairV (min a b) (max a b) ∈ ks'
      · rw [addK_old q] at hx; exact .inl hx
      · rw [addK_new q] at hx
        rcases List.mem_append.1 hx with z | z
        · exact .inl z
        · exact .inr (List.mem_singleton.1 z)
    rcases this with z | z
    · exact h.new x z
    · exact .inr ⟨a, b, k, hk, ha, hb, z⟩
  · rcases hd a' b' k' h4 with z | ⟨rfl, rfl, rfl⟩
    · exact sub _ (h.all a' b' k' h1 h2 h3 z)
    · exact mem
theorem PO.done {T : Tab} {L : Nat → Nat → List Int} {p q : Int} {ks ks' : List Value} {done done' : Int → Int → Nat → Prop} (h : PO T L p q ks ks' done) (hd : ∀ a' b' k', k' < T.C → a' ∈ L (p + 1).toNat k' → b' ∈ L (q + 1).toNat k' → done' a' b' k' → done a' b' k') : PO T L p q ks ks' done' :=
  ⟨h.pre, h.new, fun a b k h1 h2 h3 h4 => h.all a b k h1 h2 h3 (hd a b k h1 h2 h3 h4)⟩

set_option maxRecDepth 100000 in
set_option maxHeartbeats 4000000 in
theorem partO_code (M : Nat) (cc : Array Value) (vn va vo : Value) (T : Tab) (bks : List Nat) (V : Nat → Nat → Value) (L : Nat → Nat → List Int) (F : List Nat) (ks : List Value) (tk : Nat) (p q : Int) (w : World) (hcc : cc.size = 256) (h : Apt w M cc vn va vo F ks tk)
    (hO : ∀ w', Kp F w w' → Orig w' vo T.C bks V L) (hb : bks.length = T.N + 1) (hL : OrigOf T L) (hp : -1 ≤ p) (hpq : p < q) (hq : q < T.N) (hN : T.N ≤ 250) (hC : T.C ≤ 256) (hks : ∀ x ∈ ks, PairIn T.N x) :
    Calls Try.prog 67 #[.pointer (some ⟨M, 0, none⟩), pairV p q] w fun e w' => e = .returned (.tuple #[]) ∧ ∃ (F' : List Nat) (ks' : List Value), PO T L p q ks ks' (fun _ _ _ => True) ∧ (∀ x ∈ ks', PairIn T.N x) ∧ Apt w' M cc vn va vo F' ks' tk ∧ Kp F w w' ∧ ∀ g ∈ F', g ∈ F ∨ w.heap.size ≤ g := by
  have HH := hide h
  have HO := hide hO
  have HLO := hide hL
  have HKS := hide hks
  have lF := hide h.lt
  obtain ⟨go, capo, hvo⟩ : ∃ go capo, vo = .slice (some ⟨go, 0, none⟩) (T.N + 1) capo := by
    rcases (hO w (Kp.refl _ _)).row.2 with ⟨_, e⟩ | ⟨g, cap, cur, e, _⟩
    · omega
    · exact ⟨g, cap, by rw [e, hb]⟩
  subst hvo
  obtain ⟨p', hp'⟩ : ∃ p' : Nat, p + 1 = p' := ⟨(p + 1).toNat, by omega⟩
  obtain ⟨q', hq'⟩ : ∃ q' : Nat, q + 1 = q' := ⟨(q + 1).toNat, by omega⟩
  have hpl : p' < bks.length := by omega
  have hql : q' < bks.length := by omega
  have cgo : ∀ (w' : World), Kp F w w' → ∀ f, f < bks.length → w'.cell? ⟨go, f, none⟩ = some (rv T.C (bks.getD f 0)) := fun w' k' f hf => by
    have hr := (hO w' k').row
    have : w'.ownsRow 0 43 1 (.slice (some ⟨go, 0, none⟩) bks.length capo) bks.length (bks.map (rv T.C)) := by rw [hb]; rw [hb] at hr; exact hr
    rw [this.cellAt f (by omega), List.getElem?_map, List.getElem?_eq_getElem hf, List.getD_eq_getElem?_getD, List.getElem?_eq_getElem hf]; rfl
  have hfrom : ∀ (w' : World) (s : Int) (f : Nat), Kp F w w' → Apt w' M cc vn va (.slice (some ⟨go, 0, none⟩) (T.N + 1) capo) F ks tk → s + 1 = f → f < bks.length → Calls Try.prog 62 #[.pointer (some ⟨M, 0, none⟩), .int .i64 s] w' fun e w'' => e = .returned (rv T.C (bks.getD f 0)) ∧ w'' = w' := fun w' s f k' a' hs hf =>
    mFrom_code M go (T.N + 1) capo vn va (rv T.C (bks.getD f 0)) s w' (a'.mgr hcc) (by omega) (by omega) (by omega) (by rw [hs, Int.toNat_natCast]; exact cgo w' k' f hf)
  obtain ⟨bp, hbp⟩ : ∃ b, bks.getD p' 0 = b := ⟨_, rfl⟩
  obtain ⟨bq, hbq⟩ : ∃ b, bks.getD q' 0 = b := ⟨_, rfl⟩
  have hfp : ∀ (w' : World), Kp F w w' → Apt w' M cc vn va (.slice (some ⟨go, 0, none⟩) (T.N + 1) capo) F ks tk → Calls Try.prog 62 #[.pointer (some ⟨M, 0, none⟩), .int .i64 p] w' fun e w'' => e = .returned (rv T.C bp) ∧ w'' = w' := fun w' k' a' => by
    have := hfrom w' p p' k' a' hp' hpl; rw [hbp] at this; exact this
  have hfq : ∀ (w' : World), Kp F w w' → Apt w' M cc vn va (.slice (some ⟨go, 0, none⟩) (T.N + 1) capo) F ks tk → Calls Try.prog 62 #[.pointer (some ⟨M, 0, none⟩), .int .i64 q] w' fun e w'' => e = .returned (rv T.C bq) ∧ w'' = w' := fun w' k' a' => by
    have := hfrom w' q q' k' a' hq' hql; rw [hbq] at this; exact this
  have HFP := hide hfp
  have HFQ := hide hfq
  have cVp : ∀ (w' : World), Kp F w w' → ∀ k, k < T.C → w'.cell? ⟨bp, k, none⟩ = some (V p' k) := fun w' k' k hk => by
    rw [← hbp, cell_of_block ((hO w' k').blk p' hpl)]; simp [hk]
  have cVq : ∀ (w' : World), Kp F w w' → ∀ k, k < T.C → w'.cell? ⟨bq, k, none⟩ = some (V q' k) := fun w' k' k hk => by
    rw [← hbq, cell_of_block ((hO w' k').blk q' hql)]; simp [hk]
  have HCP := hide cVp
  have HCQ := hide cVq
  clear hfrom hfp hfq cVp cVq hbp hbq
  have cV : ∀ (w' : World), Kp F w w' → ∀ f k, f < bks.length → k < T.C → w'.cell? ⟨bks.getD f 0, k, none⟩ = some (V f k) := fun w' k' f k hf hk => by
    rw [cell_of_block ((hO w' k').blk f hf)]; simp [hk]
  have HCV := hide cV
  have HB := hide hb
  have HP' := hide hp'
  have HQ' := hide hq'
  clear h hO hL hks cgo cV hb hp' hq'
  go_enter Try.func67, Try.ntmps67
  go_upto_region 1 with fail
  have kW : Kp [] w (w.alloc (pairO p q)) := (Kp.refl _ w).alloc _
  have bX : (w.alloc (pairO p q)).heap[w.heap.size]? = some (pairO p q) := by rw [blk_alloc, if_pos rfl]
  generalize (w.alloc (pairO p q)) = W at *
  obtain ⟨x0, x1, xr⟩ := two bX
  have KW := hide kW
  have AW := hide (HH.out.kp kW (by simp))
  have lW := lt_of_block bX
  clear kW bX xr
  go_wp2_with fail
  refine (HFQ.out _ (KW.out.mono (by simp)) AW.out).mono ?_
  rintro _ w1 ⟨rfl, rfl⟩
  go_wp2_with fail
  refine (HFP.out _ (KW.out.mono (by simp)) AW.out).mono ?_
  rintro _ w2 ⟨rfl, rfl⟩
  clear x0 x1
  have ep : (p + 1).toNat = p' := by rw [HP'.out, Int.toNat_natCast]
  have eq : (q + 1).toNat = q' := by rw [HQ'.out, Int.toNat_natCast]
  have EP := hide ep
  have EQ := hide eq
  clear ep eq
  go_wp2_with fail
  go_loopw [20] (fun s w' => ∃ (c : Nat) (F' : List Nat) (ks' : List Value), c ≤ T.C ∧ s = .int .i64 c ∧ PO T L p q ks ks' (fun _ _ k => k < c) ∧ (∀ x ∈ ks', PairIn T.N x) ∧ Apt w' M cc vn va (.slice (some ⟨go, 0, none⟩) (T.N + 1) capo) F' ks' tk ∧ Kp F w w' ∧ (∀ g ∈ F', g ∈ F ∨ w.heap.size ≤ g))
    (fun s _ => T.C - (intOf s).toNat)
  case atStart => exact ⟨0, F, ks, by omega, rfl, ⟨⟨[], by simp⟩, fun x hx => .inl hx, fun a b k _ _ _ h => by omega⟩, HKS.out, AW.out, KW.out.mono (by simp), fun g hg => .inl hg⟩
  case round =>
    obtain ⟨c, F1, ks1, hc, rfl, po, hin, ap, kp, fr⟩ := hrel
    have PO1 := hide po
    have HIN := hide hin
    have AP1 := hide ap
    have KP1 := hide kp
    have FR1 := hide fr
    clear po hin ap kp fr
    by_cases hcl : c < T.C
    · have hcl' : (c : Int) < T.C := by omega
      obtain ⟨ap1, cp1, evp, lenp, rdp⟩ := ints_at ((HO.out wr KP1.out).own p' c hpl hcl)
      obtain ⟨aq1, cq1, evq, lenq, rdq⟩ := ints_at ((HO.out wr KP1.out).own q' c hql hcl)
      have cp : wr.cell? ⟨bp, c, none⟩ = some (.slice ap1 (L p' c).length cp1) := by rw [HCP.out wr KP1.out c hcl, evp]
      have EVP := hide evp
      have EVQ := hide evq
      have RDP := hide rdp
      have RDQ := hide rdq
      clear evp evq rdp rdq
      go_wp2_with fail
      go_loopw [27] (fun s w' => ∃ (i : Nat) (F' : List Nat) (ks' : List Value), i ≤ (L p' c).length ∧ s = .int .i64 i ∧ PO T L p q ks ks' (fun a _ k => k < c ∨ (k = c ∧ ∃ i', i' < i ∧ (L p' c).getD i' 0 = a)) ∧ (∀ x ∈ ks', PairIn T.N x) ∧ Apt w' M cc vn va (.slice (some ⟨go, 0, none⟩) (T.N + 1) capo) F' ks' tk ∧ Kp F w w' ∧ (∀ g ∈ F', g ∈ F ∨ w.heap.size ≤ g))
        (fun s _ => (L p' c).length - (intOf s).toNat)
      case atStart => exact ⟨0, F1, ks1, by omega, rfl, PO1.out.done (fun a b k _ _ _ h => by rcases h with z | ⟨_, i', z, _⟩; exact z; omega), HIN.out, AP1.out, KP1.out, FR1.out⟩
      case round =>
        obtain ⟨i, F2, ks2, hi, rfl, po, hin, ap, kp, fr⟩ := hrel
        have PO2 := hide po
        have HIN2 := hide hin
        have AP2 := hide ap
        have KP2 := hide kp
        have FR2 := hide fr
        clear po hin ap kp fr cp
        by_cases hil : i < (L p' c).length
        · have hil' : (i : Int) < (L p' c).length := by omega
          have cpi : ∃ g, ap1 = some ⟨g, 0, none⟩ ∧ wr.cell? ⟨g, i, none⟩ = some (.int .i64 ((L p' c).getD i 0)) := by
            obtain ⟨a2, c2, e2, _, r2⟩ := ints_at ((HO.out wr KP2.out).own p' c hpl hcl)
            have : a2 = ap1 := by rw [EVP.out] at e2; cases e2; rfl
            rw [← this]; exact r2 i hil
          obtain ⟨gp, rfl, cpi⟩ := cpi
          have cq : wr.cell? ⟨bq, c, none⟩ = some (.slice aq1 (L q' c).length cq1) := by rw [HCQ.out wr KP2.out c hcl, EVQ.out]
          have hA : (L p' c).getD i 0 ∈ L (p + 1).toNat c := by rw [EP.out]; exact mem_getD hil
          have HA := hide hA
          generalize hAv : (L p' c).getD i 0 = A at *
          have HAV := hide hAv
          clear hA hAv
          go_wp2_with fail
          go_loopw [36] (fun s w' => ∃ (j : Nat) (F' : List Nat) (ks' : List Value), j ≤ (L q' c).length ∧ s = .int .i64 j ∧ PO T L p q ks ks' (fun a b k => k < c ∨ (k = c ∧ ((∃ i', i' < i ∧ (L p' c).getD i' 0 = a) ∨ ((L p' c).getD i 0 = a ∧ ∃ j', j' < j ∧ (L q' c).getD j' 0 = b)))) ∧ (∀ x ∈ ks', PairIn T.N x) ∧ Apt w' M cc vn va (.slice (some ⟨go, 0, none⟩) (T.N + 1) capo) F' ks' tk ∧ Kp F w w' ∧ (∀ g ∈ F', g ∈ F ∨ w.heap.size ≤ g))
            (fun s _ => (L q' c).length - (intOf s).toNat)
          case atStart => exact ⟨0, F2, ks2, by omega, rfl, PO2.out.done (fun a b k _ _ _ h => by rcases h with z | ⟨z, y | ⟨_, j', y, _⟩⟩; exact .inl z; exact .inr ⟨z, y⟩; omega), HIN2.out, AP2.out, KP2.out, FR2.out⟩
          case round =>
            obtain ⟨j, F3, ks3, hj, rfl, po, hin, ap, kp, fr⟩ := hrel
            have PO3 := hide po
            have HIN3 := hide hin
            have AP3 := hide ap
            have KP3 := hide kp
            have FR3 := hide fr
            clear po hin ap kp fr cq cpi
            by_cases hjl : j < (L q' c).length
            · have hjl' : (j : Int) < (L q' c).length := by omega
              have cqj : ∃ g, aq1 = some ⟨g, 0, none⟩ ∧ wr.cell? ⟨g, j, none⟩ = some (.int .i64 ((L q' c).getD j 0)) := by
                obtain ⟨a2, c2, e2, _, r2⟩ := ints_at ((HO.out wr KP3.out).own q' c hql hcl)
                have : a2 = aq1 := by rw [EVQ.out] at e2; cases e2; rfl
                rw [← this]; exact r2 j hjl
              obtain ⟨gq, rfl, cqj⟩ := cqj
              have hBm : (L q' c).getD j 0 ∈ L (q + 1).toNat c := by rw [EQ.out]; exact mem_getD hjl
              have HBm := hide hBm
              generalize hBv : (L q' c).getD j 0 = Bv at *
              have HBV := hide hBv
              have hAr := (HLO.out (p + 1).toNat c (by omega) hcl A).1 HA.out
              have hBr := (HLO.out (q + 1).toNat c (by omega) hcl Bv).1 hBm
              have hne : A ≠ Bv := by
                rintro rfl
                have h1 := hAr.2.2
                have h2 := hBr.2.2
                omega
              have hkey : Keyish Try.prog 135 (pairV (min A Bv) (max A Bv)) := pair_key' (N := T.N) (by omega) (by omega) (by omega) (by omega) (by omega)
              have hfew := pairs_few ks3 AP3.out.nodup HIN3.out
              have hf2 : (T.N + 1) * (T.N + 1) ≤ 251 * 251 := Nat.mul_le_mul (by omega) (by omega)
              have hpin : PairIn T.N (pairV (min A Bv) (max A Bv)) := ⟨_, _, rfl, by omega, by omega, by omega⟩
              have hlen3 : ks3.length < 100000 := by omega
              have HPIN := hide hpin
              have HKEY := hide hkey
              have HLEN3 := hide hlen3
              clear hBm hBv hfew hf2 hpin hkey hlen3 hAr hBr hne
              go_upto_region 11 with fail
              go_region_with ((first | (go_at_call 80; refine (inOrder_code A Bv _).mono ?_; rintro _ w4 ⟨rfl, h4⟩; have k4 := (Kp.refl [] wr).drew.below h4; have a4 := AP3.out.kp k4 (by simp)) | (go_at_call 65; refine (a4.put hcc _ _ HKEY.out HLEN3.out).mono ?_; rintro _ w5 ⟨n5, F5, rfl, a5, kp5, fr5⟩)))
              all_goals
                have A5 := hide a5
                have K5 : Hid (Kp F w w5) := KP3.out.trans ((k4.mono (by simp)).trans kp5 (fun y hy => .inl hy)) (fun y hy => FR3.out y hy)
                have F5s : Hid (∀ g ∈ F5, g ∈ F ∨ w.heap.size ≤ g) := fun g hg => by
                  rcases fr5 g hg with e | e
                  · exact FR3.out g e
                  · right; have := k4.size; have := KP3.out.size; omega
                clear a5 kp5 fr5 a4 k4 h4 cqj
                go_wp2
                refine ⟨⟨j + 1, F5, _, by omega, by go_num, PO3.out.step hcl HA.out HBm.out ?_, ?_, A5.out, K5.out, F5s.out⟩, by simp [intOf]; omega⟩
                · intro a' b' k' hd
                  rcases hd with z | ⟨z, y | ⟨y, j', y1, y2⟩⟩
                  · exact .inl (.inl z)
                  · exact .inl (.inr ⟨z, .inl y⟩)
                  · by_cases e : j' = j
                    · subst e
                      exact .inr ⟨by rw [← y, HAV.out], by rw [← y2, HBV.out], z⟩
                    · exact .inl (.inr ⟨z, .inr ⟨y, j', by omega, y2⟩⟩)
                · intro x hx
                  by_cases e : pairV (min A Bv) (max A Bv) ∈ ks3
                  · rw [addK_old e] at hx; exact HIN3.out x hx
                  · rw [addK_new e] at hx
                    rcases List.mem_append.1 hx with z | z
                    · exact HIN3.out x z
                    · rw [List.mem_singleton.1 z]; exact HPIN.out
            · have hjN : j = (L q' c).length := by omega
              subst hjN
              go_wp2
              refine ⟨⟨i + 1, F3, ks3, by omega, by go_num, PO3.out.done (fun a' b' k' hk' ha' hb' hd => ?_), HIN3.out, AP3.out, KP3.out, FR3.out⟩, by simp [intOf]; omega⟩
              rcases hd with z | ⟨z, i', y1, y2⟩
              · exact .inl z
              · refine .inr ⟨z, ?_⟩
                by_cases e : i' = i
                · subst e
                  refine .inr ⟨y2, ?_⟩
                  rw [z, EQ.out] at hb'
                  exact mem_at hb'
                · exact .inl ⟨i', by omega, y2⟩
        · have hiN : i = (L p' c).length := by omega
          subst hiN
          go_wp2
          refine ⟨⟨c + 1, F2, ks2, by omega, by go_num, PO2.out.done (fun a' b' k' hk' ha' hb' hd => ?_), HIN2.out, AP2.out, KP2.out, FR2.out⟩, by simp [intOf]; omega⟩
          by_cases e : k' = c
          · refine .inr ⟨e, ?_⟩
            rw [e, EP.out] at ha'
            obtain ⟨i', h1, h2⟩ := mem_at ha'
            exact ⟨i', h1, h2⟩
          · exact .inl (by omega)
    · have hcN : c = T.C := by omega
      subst hcN
      go_wp2
      go_end0
      exact ⟨rfl, F1, ks1, PO1.out.done (fun a' b' k' hk' _ _ _ => hk'), HIN.out, AP1.out, KP1.out, FR1.out⟩
end Go.Proofs.Ytbjdkbcfpmeneaa
