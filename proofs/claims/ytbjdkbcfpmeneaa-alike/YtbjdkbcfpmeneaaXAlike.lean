/- What is proved here: Alike is true. -/
import Derived.Test.YtbjdkbcfpmeneaaRows
import Derived.Test.YtbjdkbcfpmeneaaXKFirst
import Derived.Test.YtbjdkbcfpmeneaaXLTab
import Derived.Test.YtbjdkbcfpmeneaaXKTabs
import Derived.Test.YtbjdkbcfpmeneaaXAlikeS
namespace Go.Proofs.Ytbjdkbcfpmeneaa
set_option linter.unusedVariables false
set_option linter.unusedSimpArgs false
open Go.RowKit Go.ChangeMaps

theorem infoStr : (Try.prog.info? 9).map (fun i => (i.zero, i.size, i.bytes)) = some (some (.string ⟨#[]⟩), 1, 16) := by kernel_rfl
def stL (os : List ByteArray) : List Value := os.map Value.string
/- The other rules so far. -/
structure Others (w0 : World) (rs : Nat → ByteArray) (vo : Value) (os : List ByteArray) (w' : World) : Prop where
  own : w'.ownsRow 0 9 1 vo os.length (stL os)
  fr : ∀ g, vo.ownBlock = some g → w0.heap.size ≤ g
  same : ∀ j, j < os.length → SameP (os.getD j ⟨#[]⟩) (rs j)
  kp : Kp [] w0 w'
theorem Others.next {w0 w' w4 : World} {rs : Nat → ByteArray} {vo : Value} {os : List ByteArray} {s : ByteArray} {o : Obj} {g1 cap1 : Nat} (h : Others w0 rs vo os w') (own1 : w4.ownsRow 0 9 1 (.slice (some ⟨g1, 0, none⟩) (os.length + 1) cap1) (os.length + 1) (stL os ++ [.string s])) (grow1 : (w'.alloc o).grownBy w4 vo.ownBlock) (at1 : vo.ownBlock = some g1 ∨ g1 = w'.heap.size + 1) (hs : SameP s (rs os.length)) :
    Others w0 rs (.slice (some ⟨g1, 0, none⟩) (os.length + 1) cap1) (os ++ [s]) w4 := by
  refine ⟨by rw [List.length_append]; simpa [stL] using own1, fun g e => ?_, fun j hj => ?_, (h.kp.alloc o).grew grow1 (fun k e => .inr (h.fr k e))⟩
  · simp [Value.ownBlock] at e
    subst e
    rcases at1 with q | q
    · exact h.fr _ q
    · have := h.kp.size; omega
  · rw [List.length_append, List.length_singleton] at hj
    by_cases e : j = os.length
    · subst e; rw [getD_snoc_eq]; exact hs
    · rw [getD_snoc_lt (by omega)]; exact h.same j (by omega)
theorem rules_of_row {w' : World} {vo : Value} {os : List ByteArray} (own : w'.ownsRow 0 9 1 vo os.length (stL os)) (h0 : 0 < os.length) : ∃ (go co : Nat) (rs2 : Nat → ByteArray), vo = .slice (some ⟨go, 0, none⟩) os.length co ∧ RulesIn w' go 0 os.length rs2 ∧ ∀ j, rs2 j = os.getD j ⟨#[]⟩ := by
  rcases own.2 with ⟨_, e⟩ | ⟨go, co, cur, e, _⟩
  · omega
  · refine ⟨go, co, fun j => os.getD j ⟨#[]⟩, e, ?_, fun _ => rfl⟩
    subst e
    refine ⟨(own.lt go rfl).2, fun i hi => ?_⟩
    rw [Nat.zero_add]
    refine own_cellAt own rfl ?_
    simp [stL, List.getD, hi]

theorem lexKeep {w w' : World} {lb : Nat} {U : Tab} (h : LexAt w lb U) (hk : Kp [] w w') : LexAt w' lb U := by
  obtain ⟨vn, va, b, t⟩ := h.lex
  exact ⟨vn, va, hk.keep b (by simp), t.kp hk⟩

open Classical in
set_option maxRecDepth 100000 in
set_option maxHeartbeats 8000000 in
theorem alike_code (a : Option Addr) (n cap : Nat) (rs : Nat → ByteArray) (which : Int) (w : World) (h : RulesOf w a n rs) :
    Calls Try.prog 9 #[.slice a n cap, .int .i64 which] w fun x w' => x = .returned (.bool true) ∧ Below w.heap.size w w' := by
  have HR := hide h
  clear h
  go_enter Try.func9, Try.ntmps9
  go_wp2_with fail
  refine (made_code a n cap rs _ HR.out).mono ?_
  rintro _ w1 ⟨b1, hw⟩
  rcases hw with rfl | ⟨lb, U, rfl, hn0, hn6, hok, hL, hC, hN, hCC⟩
  · have B1 := hide b1
    clear b1
    go_wp2_with fail
    go_ret
    exact ⟨by simp, B1.out⟩
  · obtain ⟨g, o, rfl, hr⟩ := HR.out hn0
    have K1 : Hid (Kp [] w w1) := (Kp.refl [] w).below b1
    have HL := hide hL
    have CAN := hide hC
    have hN0 := hC.pos
    have hC0 : 0 < U.C := Nat.lt_of_le_of_lt (Nat.zero_le _) (hC.cl 0 (by omega))
    have HOK := hide hok
    clear b1 hL hC hok HR
    go_wp2_with fail
    refine (ltable_code lb U w1 HL.out.lex hN0 hN hC0 hCC).mono ?_
    rintro _ w2 ⟨b2, vn, va, rfl, htr⟩
    have k12 : Kp [] w1 w2 := (Kp.refl [] w1).below b2
    have K2 : Hid (Kp [] w w2) := K1.out.trans k12 (by simp)
    have hcs : (clArr U.cls 256).size = 256 := clArr_size _ _
    have hts : (tabArr (clArr U.cls 256) vn va).size = 258 := tabArr_size hcs _ _
    have hv1 : vn.oneCell' = true ∧ va.oneCell' = true := by
      obtain ⟨⟨_, _, rfl, _⟩, ⟨_, _, rfl, _⟩⟩ := htr
      exact ⟨rfl, rfl⟩
    dsimp only
    go_step
    refine allocZ rfl _ rfl _ infoTab ?_
    refine storeAll rfl _ _ _ rfl (b := w2.heap.size) (c := tabArr z256 nilV nilV) (e := 46) (by rw [blk_alloc, if_pos rfl]; rfl) rfl rfl (by rw [hts, tabArr_size z256_size]) (by rw [hts]; exact infoTabS) (tabArr_one' (clArr_one _ _) hv1.1 hv1.2) ?_
    intro w3 b3 k3 _
    simp only [Act.put, List.setIfInBounds_toArray, List.set_cons_zero, List.set_cons_succ]
    have k23 : Kp [] w2 w3 := (((Kp.refl [] w2).alloc _).trans k3 (by simp))
    have K3 : Hid (Kp [] w w3) := K2.out.trans k23 (by simp)
    have HTR := hide (htr.kp k23)
    have RI := hide (hr.kp K3.out)
    have B3 := hide b3
    have ltb3 : w2.heap.size < w3.heap.size := lt_of_block b3
    clear b2 htr k12 K1 HL b3 k3 k23 K2 hr hv1
    generalize w2.heap.size = tb at *
    go_wp2_with fail
    go_loopw [8] (fun s8 w' => ∃ kd : Nat, s8 = .int .i64 kd ∧ kd ≤ 4 ∧ Kp [] w3 w')
      (fun s8 _ => 5 - (intOf s8).toNat)
    case atStart => exact ⟨0, rfl, by omega, Kp.refl _ _⟩
    case round =>
      obtain ⟨kd, rfl, hkd, kp⟩ := hrel
      have KP := hide kp
      clear kp
      by_cases hk4 : kd < 4
      · have hcase : kd = 0 ∨ kd = 1 ∨ kd = 2 ∨ kd = 3 := by omega
        rcases hcase with rfl | rfl | rfl | rfl
        · go_wp2_with fail
          go_loopw [9, 10] (fun s9 s10 w' => ∃ (os : List ByteArray) (vo : Value), s9 = vo ∧ s10 = .int .i64 os.length ∧ os.length ≤ n ∧ Others w3 rs vo os w')
            (fun _ s10 _ => n + 1 - (intOf s10).toNat)
          case atStart => exact ⟨[], .slice none 0 0, rfl, rfl, by simp, World.ownsRow_nil _ _ _ _, fun g e => by simp [Value.ownBlock] at e, fun j hj => by simp at hj, KP.out⟩
          case round =>
            clear KP
            obtain ⟨os, vo, e9, rfl, hle, hot⟩ := hrel
            have e9s := e9.symm
            subst e9s
            clear e9
            have OT := hide hot
            have hvo : ∃ ao co, vo = .slice ao os.length co := by
              rcases hot.own.2 with ⟨e, e0⟩ | ⟨go, co, cur, e, _⟩
              · exact ⟨none, 0, by rw [e, e0]⟩
              · exact ⟨_, co, e⟩
            clear hot
            by_cases hlt : os.length < n
            · have hlt' : (os.length : Int) < n := by omega
              have crs := (RI.out.kp OT.out.kp).at_ os.length hlt
              have herr := HOK.out os.length hlt
              have hrs16 : (rs os.length).size ≤ 16 := (right_of _ herr).1
              go_upto_region 23 with fail
              clear crs
              generalize hse : { data := #[40] } ++ rs os.length ++ { data := #[41] } = s1 at *
              by_cases hsz : s1.size ≤ 16
              · have hsz' : ¬ (16 : Int) < s1.size := by omega
                have hsame : SameP s1 (rs os.length) := by
                  rw [← hse] at hsz ⊢
                  have hq : ∀ (x y : ByteArray), (x ++ y).size = x.size + y.size := fun _ _ => ByteArray.size_append
                  rw [hq, hq] at hsz
                  exact same_paren herr (by have e1 : ({ data := #[40] } : ByteArray).size = 1 := rfl; have e2 : ({ data := #[41] } : ByteArray).size = 1 := rfl; omega)
                clear hse
                obtain ⟨i0, hi0, hz0, hz1, hz2⟩ := info_parts infoStr
                go_upto_region 25 with fail
                apply wp_region_lit
                iterate 9 go_step
                refine appendL rfl _ _ _ rfl 9 i0 _ 1 16 Try.underlying22 hi0 hz0 hz1 hz2 rfl (by omega) vo os.length (stL os) rfl (OT.out.own.alloc _) ⟨wr.heap.size, 0, none⟩ 1 1 [.string s1] rfl rfl (World.news_of_block (cs := #[.string s1]) (t := 9) (fr := (0, 0)) (heap_alloc_new wr _)) (by simp [Value.oneCell']) (by omega) (by unfold maxLen; omega) (by omega) (wr.heap.size + 1) (by simp) ?_
                intro g1 cap1 w6 own1 grow1 at1 lt1
                simp only [Act.put, List.setIfInBounds_toArray, List.set_cons_zero, List.set_cons_succ]
                have OT6 := hide (OT.out.next own1 grow1 at1 hsame)
                clear own1 grow1 at1 lt1 hi0 hz0 hz1 hz2
                go_wp2_with fail
                first
                  | exact ⟨⟨os ++ [s1], _, rfl, by simp, by simp; omega, OT6.out⟩, by simp [intOf]; omega⟩
                  | exact ⟨⟨os ++ [s1], by simp, by simp; omega, OT6.out⟩, by simp [intOf]; omega⟩
              · have hsz' : (16 : Int) < s1.size := by omega
                have hsame : SameP (rs os.length) (rs os.length) := ⟨herr, rfl⟩
                have crs := (RI.out.kp OT.out.kp).at_ os.length hlt
                clear hse
                obtain ⟨i0, hi0, hz0, hz1, hz2⟩ := info_parts infoStr
                go_upto_region 25 with fail
                apply wp_region_lit
                iterate 9 go_step
                refine appendL rfl _ _ _ rfl 9 i0 _ 1 16 Try.underlying22 hi0 hz0 hz1 hz2 rfl (by omega) vo os.length (stL os) rfl (OT.out.own.alloc _) ⟨wr.heap.size, 0, none⟩ 1 1 [.string (rs os.length)] rfl rfl (World.news_of_block (cs := #[.string (rs os.length)]) (t := 9) (fr := (0, 0)) (heap_alloc_new wr _)) (by simp [Value.oneCell']) (by omega) (by unfold maxLen; omega) (by omega) (wr.heap.size + 1) (by simp) ?_
                intro g1 cap1 w6 own1 grow1 at1 lt1
                simp only [Act.put, List.setIfInBounds_toArray, List.set_cons_zero, List.set_cons_succ]
                have OT6 := hide (OT.out.next own1 grow1 at1 hsame)
                clear own1 grow1 at1 lt1 hi0 hz0 hz1 hz2
                go_wp2_with fail
                first
                  | exact ⟨⟨os ++ [(rs os.length)], _, rfl, by simp, by simp; omega, OT6.out⟩, by simp [intOf]; omega⟩
                  | exact ⟨⟨os ++ [(rs os.length)], by simp, by simp; omega, OT6.out⟩, by simp [intOf]; omega⟩
            · have hlt' : ¬ (os.length : Int) < n := by omega
              have hos : os.length = n := by omega
              clear hvo
              obtain ⟨go, co2, rs2, hvo2, hri, hrs2⟩ := rules_of_row OT.out.own (by omega)
              have htold : told (fun k => (readW (rs2 k)).v) os.length = told (fun k => (readW (rs k)).v) n := by rw [hos]; exact told_same (fun i hi => by rw [hrs2 i]; exact OT.out.same i (by omega))
              have herr2 : ∀ i, i < os.length → (readW (rs2 i)).err = 0 := fun i hi => by rw [hrs2 i]; exact (OT.out.same i hi).1
              clear hrs2
              have HRI := hide hri
              have hm0 : 0 < os.length := by omega
              have hm6 : os.length ≤ 6 := by omega
              subst hvo2
              clear hos
              go_wp2_with fail
              refine (make_code go 0 os.length co2 rs2 _ HRI.out hm0 hm6).mono ?_
              rintro _ w7 ⟨b7, hw7⟩
              have K7 : Hid (Kp [] w3 w7) := OT.out.kp.below b7
              clear b7 HRI hri
              rcases hw7 with ⟨i, hi, _, hne, _⟩ | ⟨_, bs, fs, ps, lo, S, _, _, _, _, hw7⟩
              · exact absurd (herr2 i hi) hne
              · rcases hw7 with ⟨lb2, U2, _, _, _, _, rfl, _, _, _, hL2, hC2, hN2, hCC2⟩ | ⟨rfl, _⟩
                · rw [htold] at hC2
                  obtain ⟨cN, cC, ccl, cnx, cac⟩ := canon_one CAN.out hC2
                  have HL2 := hide hL2
                  have hcl : clArr U2.cls 256 = clArr U.cls 256 := clArr_congr (fun c hc => (ccl c hc).symm)
                  have CNX := hide cnx
                  have CAC := hide cac
                  have hN20 : 0 < U2.N := by omega
                  have hC20 : 0 < U2.C := by omega
                  clear hL2 hC2 ccl cnx cac htold
                  have bT := K7.out.keep B3.out (by simp)
                  go_upto_region 35 with fail
                  refine wp_region_held_drew (S := fun w' => w'.heap[tb]? = some (.cells (tabArr (clArr U.cls 256) vn va) 46 (0, 0))) (by kernel_rfl) bT (fun hHeld => ?_)
                  refine wpAnyH_take (i := 0) (v := .agg (tabArr (clArr U.cls 256) vn va)) rfl (by kernel_rfl) (by kernel_rfl) (by kernel_rfl) (fun _ _ _ h => h) (yieldsIf_arr rfl _ _ rfl tb 0 rfl (tabArr (clArr U.cls 256) vn va) _ (fun w' h' j hj => by rw [cell_of_block h', Nat.zero_add]) Try.underlying46 rfl (by rw [hts]; exact infoTabS)) (by assumption) ?_
                  try simp only [Act.put, List.getElem_toArray, List.getElem_cons_zero, List.getElem_cons_succ, List.setIfInBounds_toArray, List.set_cons_zero, List.set_cons_succ]
                  refine wpAnyH_take (i := 1) (v := ?v1q4) rfl (by kernel_rfl) (by kernel_rfl) (by kernel_rfl) (fun _ _ _ h => h) (Or.inl ⟨by rfl, ?y1q4⟩) (by assumption) ?r1q4
                  case y1q4 => intro w hSw; (try dsimp only at hSw); go_simp; first | done | with_reducible rfl
                  case' r1q4 => try simp only [Act.put, List.getElem_toArray, List.getElem_cons_zero, List.getElem_cons_succ, List.setIfInBounds_toArray, List.set_cons_zero, List.set_cons_succ]
                  refine wpAnyH_ready (rs := [2]) (by kernel_rfl) (by simp) ?_
                  refine AllReadyH.cons rfl (fun K9 hK => ?_) AllReadyH.nil
                  go_simp
                  refine (ltable_code lb2 U2 _ (lexKeep HL2.out ((Kp.refl [] w7).drew)).lex hN20 hN2 hC20 hCC2).mono ?_
                  rintro _ w8 ⟨b8, vn2, va2, rfl, htr2⟩
                  rw [hcl]
                  have k78 : Kp [] w7 w8 := ((Kp.refl [] w7).drew).below b8
                  have K8 : Hid (Kp [] w3 w8) := K7.out.trans k78 (by simp)
                  have bT8 := k78.keep bT (by simp)
                  have HT2 : Hid (TabR w8 vn2 va2 U) := htr2.congr cN.symm cC.symm (fun i k hi hk => (CNX.out i k hi hk).symm) (fun i hi => (CAC.out i hi).symm)
                  clear b8 htr2
                  go_wp2_with fail
                  refine hK.out _ _ ?hSq4 (fun hHeld2 => ?_)
                  case hSq4 => exact bT8
                  clear hK K9 hHeld
                  try simp only [Act.put, List.getElem_toArray, List.getElem_cons_zero, List.getElem_cons_succ, List.setIfInBounds_toArray, List.set_cons_zero, List.set_cons_succ]
                  refine wpAnyH_ready (rs := [3]) (by kernel_rfl) (by simp) ?_
                  refine AllReadyH.cons rfl (fun K9 hK => ?_) AllReadyH.nil
                  go_simp
                  refine (tables_code U vn va vn2 va2 _ (HTR.out.kp K8.out) HT2.out hN hCC).mono ?_
                  rintro _ w9 ⟨rfl, b9⟩
                  have k89 : Kp [] w8 w9 := (Kp.refl [] w8).below b9
                  have K9' : Hid (Kp [] w3 w9) := K8.out.trans k89 (by simp)
                  go_wp2_with fail
                  refine hK.out _ _ ?hS2q4 (fun hHeld3 => ?_)
                  case hS2q4 => exact k89.keep bT8 (by simp)
                  clear hK K9 hHeld2 b9 k89
                  try simp only [Act.put, List.getElem_toArray, List.getElem_cons_zero, List.getElem_cons_succ, List.setIfInBounds_toArray, List.set_cons_zero, List.set_cons_succ]
                  refine wpAnyH_take (i := 4) (v := ?v4q4) rfl (by kernel_rfl) (by kernel_rfl) (by kernel_rfl) (fun _ _ _ h => h) (Or.inl ⟨by rfl, ?y4q4⟩) (by assumption) ?r4q4
                  case y4q4 => intro w hSw; (try dsimp only at hSw); go_simp; first | done | with_reducible rfl
                  case' r4q4 => try simp only [Act.put, List.getElem_toArray, List.getElem_cons_zero, List.getElem_cons_succ, List.setIfInBounds_toArray, List.set_cons_zero, List.set_cons_succ]
                  refine wpAnyH_done (by kernel_rfl) ?_ _
                  clear hHeld3 bT8 bT k78
                  go_wp2_with fail
                  refine ⟨⟨0 + 1, by go_num, by omega, K9'.out⟩, by simp [intOf]⟩
                · go_wp2_with fail
                  refine ⟨⟨0 + 1, by go_num, by omega, K7.out⟩, by simp [intOf]⟩
        · go_wp2_with fail
          go_loopw [9, 10] (fun s9 s10 w' => ∃ (os : List ByteArray) (vo : Value), s9 = vo ∧ s10 = .int .i64 os.length ∧ os.length ≤ n ∧ Others w3 rs vo os w')
            (fun _ s10 _ => n + 1 - (intOf s10).toNat)
          case atStart => exact ⟨[], .slice none 0 0, rfl, rfl, by simp, World.ownsRow_nil _ _ _ _, fun g e => by simp [Value.ownBlock] at e, fun j hj => by simp at hj, KP.out⟩
          case round =>
            clear KP
            obtain ⟨os, vo, e9, rfl, hle, hot⟩ := hrel
            have e9s := e9.symm
            subst e9s
            clear e9
            have OT := hide hot
            have hvo : ∃ ao co, vo = .slice ao os.length co := by
              rcases hot.own.2 with ⟨e, e0⟩ | ⟨go, co, cur, e, _⟩
              · exact ⟨none, 0, by rw [e, e0]⟩
              · exact ⟨_, co, e⟩
            clear hot
            by_cases hlt : os.length < n
            · have hlt' : (os.length : Int) < n := by omega
              have crs := (RI.out.kp OT.out.kp).at_ os.length hlt
              have herr := HOK.out os.length hlt
              have hrs16 : (rs os.length).size ≤ 16 := (right_of _ herr).1
              go_upto_region 23 with fail
              clear crs
              generalize hse : rs os.length ++ { data := #[124] } ++ rs os.length = s1 at *
              by_cases hsz : s1.size ≤ 16
              · have hsz' : ¬ (16 : Int) < s1.size := by omega
                have hsame : SameP s1 (rs os.length) := by
                  rw [← hse] at hsz ⊢
                  have hq : ∀ (x y : ByteArray), (x ++ y).size = x.size + y.size := fun _ _ => ByteArray.size_append
                  rw [hq, hq] at hsz
                  exact same_twice herr (by have e2 : ({ data := #[124] } : ByteArray).size = 1 := rfl; omega)
                clear hse
                obtain ⟨i0, hi0, hz0, hz1, hz2⟩ := info_parts infoStr
                go_upto_region 25 with fail
                apply wp_region_lit
                iterate 9 go_step
                refine appendL rfl _ _ _ rfl 9 i0 _ 1 16 Try.underlying22 hi0 hz0 hz1 hz2 rfl (by omega) vo os.length (stL os) rfl (OT.out.own.alloc _) ⟨wr.heap.size, 0, none⟩ 1 1 [.string s1] rfl rfl (World.news_of_block (cs := #[.string s1]) (t := 9) (fr := (0, 0)) (heap_alloc_new wr _)) (by simp [Value.oneCell']) (by omega) (by unfold maxLen; omega) (by omega) (wr.heap.size + 1) (by simp) ?_
                intro g1 cap1 w6 own1 grow1 at1 lt1
                simp only [Act.put, List.setIfInBounds_toArray, List.set_cons_zero, List.set_cons_succ]
                have OT6 := hide (OT.out.next own1 grow1 at1 hsame)
                clear own1 grow1 at1 lt1 hi0 hz0 hz1 hz2
                go_wp2_with fail
                first
                  | exact ⟨⟨os ++ [s1], _, rfl, by simp, by simp; omega, OT6.out⟩, by simp [intOf]; omega⟩
                  | exact ⟨⟨os ++ [s1], by simp, by simp; omega, OT6.out⟩, by simp [intOf]; omega⟩
              · have hsz' : (16 : Int) < s1.size := by omega
                have hsame : SameP (rs os.length) (rs os.length) := ⟨herr, rfl⟩
                have crs := (RI.out.kp OT.out.kp).at_ os.length hlt
                clear hse
                obtain ⟨i0, hi0, hz0, hz1, hz2⟩ := info_parts infoStr
                go_upto_region 25 with fail
                apply wp_region_lit
                iterate 9 go_step
                refine appendL rfl _ _ _ rfl 9 i0 _ 1 16 Try.underlying22 hi0 hz0 hz1 hz2 rfl (by omega) vo os.length (stL os) rfl (OT.out.own.alloc _) ⟨wr.heap.size, 0, none⟩ 1 1 [.string (rs os.length)] rfl rfl (World.news_of_block (cs := #[.string (rs os.length)]) (t := 9) (fr := (0, 0)) (heap_alloc_new wr _)) (by simp [Value.oneCell']) (by omega) (by unfold maxLen; omega) (by omega) (wr.heap.size + 1) (by simp) ?_
                intro g1 cap1 w6 own1 grow1 at1 lt1
                simp only [Act.put, List.setIfInBounds_toArray, List.set_cons_zero, List.set_cons_succ]
                have OT6 := hide (OT.out.next own1 grow1 at1 hsame)
                clear own1 grow1 at1 lt1 hi0 hz0 hz1 hz2
                go_wp2_with fail
                first
                  | exact ⟨⟨os ++ [(rs os.length)], _, rfl, by simp, by simp; omega, OT6.out⟩, by simp [intOf]; omega⟩
                  | exact ⟨⟨os ++ [(rs os.length)], by simp, by simp; omega, OT6.out⟩, by simp [intOf]; omega⟩
            · have hlt' : ¬ (os.length : Int) < n := by omega
              have hos : os.length = n := by omega
              clear hvo
              obtain ⟨go, co2, rs2, hvo2, hri, hrs2⟩ := rules_of_row OT.out.own (by omega)
              have htold : told (fun k => (readW (rs2 k)).v) os.length = told (fun k => (readW (rs k)).v) n := by rw [hos]; exact told_same (fun i hi => by rw [hrs2 i]; exact OT.out.same i (by omega))
              have herr2 : ∀ i, i < os.length → (readW (rs2 i)).err = 0 := fun i hi => by rw [hrs2 i]; exact (OT.out.same i hi).1
              clear hrs2
              have HRI := hide hri
              have hm0 : 0 < os.length := by omega
              have hm6 : os.length ≤ 6 := by omega
              subst hvo2
              clear hos
              go_wp2_with fail
              refine (make_code go 0 os.length co2 rs2 _ HRI.out hm0 hm6).mono ?_
              rintro _ w7 ⟨b7, hw7⟩
              have K7 : Hid (Kp [] w3 w7) := OT.out.kp.below b7
              clear b7 HRI hri
              rcases hw7 with ⟨i, hi, _, hne, _⟩ | ⟨_, bs, fs, ps, lo, S, _, _, _, _, hw7⟩
              · exact absurd (herr2 i hi) hne
              · rcases hw7 with ⟨lb2, U2, _, _, _, _, rfl, _, _, _, hL2, hC2, hN2, hCC2⟩ | ⟨rfl, _⟩
                · rw [htold] at hC2
                  obtain ⟨cN, cC, ccl, cnx, cac⟩ := canon_one CAN.out hC2
                  have HL2 := hide hL2
                  have hcl : clArr U2.cls 256 = clArr U.cls 256 := clArr_congr (fun c hc => (ccl c hc).symm)
                  have CNX := hide cnx
                  have CAC := hide cac
                  have hN20 : 0 < U2.N := by omega
                  have hC20 : 0 < U2.C := by omega
                  clear hL2 hC2 ccl cnx cac htold
                  have bT := K7.out.keep B3.out (by simp)
                  go_upto_region 35 with fail
                  refine wp_region_held_drew (S := fun w' => w'.heap[tb]? = some (.cells (tabArr (clArr U.cls 256) vn va) 46 (0, 0))) (by kernel_rfl) bT (fun hHeld => ?_)
                  refine wpAnyH_take (i := 0) (v := .agg (tabArr (clArr U.cls 256) vn va)) rfl (by kernel_rfl) (by kernel_rfl) (by kernel_rfl) (fun _ _ _ h => h) (yieldsIf_arr rfl _ _ rfl tb 0 rfl (tabArr (clArr U.cls 256) vn va) _ (fun w' h' j hj => by rw [cell_of_block h', Nat.zero_add]) Try.underlying46 rfl (by rw [hts]; exact infoTabS)) (by assumption) ?_
                  try simp only [Act.put, List.getElem_toArray, List.getElem_cons_zero, List.getElem_cons_succ, List.setIfInBounds_toArray, List.set_cons_zero, List.set_cons_succ]
                  refine wpAnyH_take (i := 1) (v := ?v1q5) rfl (by kernel_rfl) (by kernel_rfl) (by kernel_rfl) (fun _ _ _ h => h) (Or.inl ⟨by rfl, ?y1q5⟩) (by assumption) ?r1q5
                  case y1q5 => intro w hSw; (try dsimp only at hSw); go_simp; first | done | with_reducible rfl
                  case' r1q5 => try simp only [Act.put, List.getElem_toArray, List.getElem_cons_zero, List.getElem_cons_succ, List.setIfInBounds_toArray, List.set_cons_zero, List.set_cons_succ]
                  refine wpAnyH_ready (rs := [2]) (by kernel_rfl) (by simp) ?_
                  refine AllReadyH.cons rfl (fun K9 hK => ?_) AllReadyH.nil
                  go_simp
                  refine (ltable_code lb2 U2 _ (lexKeep HL2.out ((Kp.refl [] w7).drew)).lex hN20 hN2 hC20 hCC2).mono ?_
                  rintro _ w8 ⟨b8, vn2, va2, rfl, htr2⟩
                  rw [hcl]
                  have k78 : Kp [] w7 w8 := ((Kp.refl [] w7).drew).below b8
                  have K8 : Hid (Kp [] w3 w8) := K7.out.trans k78 (by simp)
                  have bT8 := k78.keep bT (by simp)
                  have HT2 : Hid (TabR w8 vn2 va2 U) := htr2.congr cN.symm cC.symm (fun i k hi hk => (CNX.out i k hi hk).symm) (fun i hi => (CAC.out i hi).symm)
                  clear b8 htr2
                  go_wp2_with fail
                  refine hK.out _ _ ?hSq5 (fun hHeld2 => ?_)
                  case hSq5 => exact bT8
                  clear hK K9 hHeld
                  try simp only [Act.put, List.getElem_toArray, List.getElem_cons_zero, List.getElem_cons_succ, List.setIfInBounds_toArray, List.set_cons_zero, List.set_cons_succ]
                  refine wpAnyH_ready (rs := [3]) (by kernel_rfl) (by simp) ?_
                  refine AllReadyH.cons rfl (fun K9 hK => ?_) AllReadyH.nil
                  go_simp
                  refine (tables_code U vn va vn2 va2 _ (HTR.out.kp K8.out) HT2.out hN hCC).mono ?_
                  rintro _ w9 ⟨rfl, b9⟩
                  have k89 : Kp [] w8 w9 := (Kp.refl [] w8).below b9
                  have K9' : Hid (Kp [] w3 w9) := K8.out.trans k89 (by simp)
                  go_wp2_with fail
                  refine hK.out _ _ ?hS2q5 (fun hHeld3 => ?_)
                  case hS2q5 => exact k89.keep bT8 (by simp)
                  clear hK K9 hHeld2 b9 k89
                  try simp only [Act.put, List.getElem_toArray, List.getElem_cons_zero, List.getElem_cons_succ, List.setIfInBounds_toArray, List.set_cons_zero, List.set_cons_succ]
                  refine wpAnyH_take (i := 4) (v := ?v4q5) rfl (by kernel_rfl) (by kernel_rfl) (by kernel_rfl) (fun _ _ _ h => h) (Or.inl ⟨by rfl, ?y4q5⟩) (by assumption) ?r4q5
                  case y4q5 => intro w hSw; (try dsimp only at hSw); go_simp; first | done | with_reducible rfl
                  case' r4q5 => try simp only [Act.put, List.getElem_toArray, List.getElem_cons_zero, List.getElem_cons_succ, List.setIfInBounds_toArray, List.set_cons_zero, List.set_cons_succ]
                  refine wpAnyH_done (by kernel_rfl) ?_ _
                  clear hHeld3 bT8 bT k78
                  go_wp2_with fail
                  refine ⟨⟨1 + 1, by go_num, by omega, K9'.out⟩, by simp [intOf]⟩
                · go_wp2_with fail
                  refine ⟨⟨1 + 1, by go_num, by omega, K7.out⟩, by simp [intOf]⟩
        · have ekd : ((2 : Nat) : Int) = 2 := rfl
          rw [ekd]
          clear ekd
          go_wp2_with fail
          go_loopw [9, 10] (fun s9 s10 w' => ∃ (os : List ByteArray) (vo : Value), s9 = vo ∧ s10 = .int .i64 os.length ∧ os.length ≤ n ∧ Others w3 rs vo os w')
            (fun _ s10 _ => n + 1 - (intOf s10).toNat)
          case atStart => exact ⟨[], .slice none 0 0, rfl, rfl, by simp, World.ownsRow_nil _ _ _ _, fun g e => by simp [Value.ownBlock] at e, fun j hj => by simp at hj, KP.out⟩
          case round =>
            clear KP
            obtain ⟨os, vo, e9, rfl, hle, hot⟩ := hrel
            have e9s := e9.symm
            subst e9s
            clear e9
            have OT := hide hot
            have hvo : ∃ ao co, vo = .slice ao os.length co := by
              rcases hot.own.2 with ⟨e, e0⟩ | ⟨go, co, cur, e, _⟩
              · exact ⟨none, 0, by rw [e, e0]⟩
              · exact ⟨_, co, e⟩
            clear hot
            by_cases hlt : os.length < n
            · have hlt' : (os.length : Int) < n := by omega
              have crs := (RI.out.kp OT.out.kp).at_ os.length hlt
              have herr := HOK.out os.length hlt
              have hrs16 : (rs os.length).size ≤ 16 := (right_of _ herr).1
              go_wp2_with fail
              refine (kmatches_code (rs os.length) { data := #[] } _ (by decide)).mono ?_
              rintro _ w5 ⟨rfl, b5⟩
              have hk5 : Kp [] wr w5 := (Kp.refl [] wr).below b5
              have OT5 : Hid (Others w3 rs vo os w5) := ⟨owns_kp OT.out.own hk5 (by simp), OT.out.fr, OT.out.same, OT.out.kp.trans hk5 (by simp)⟩
              have hdec : decide (Hits (rs os.length) { data := #[] }) = decide ((readW (rs os.length)).v []) := decide_eq_decide.2 (by unfold Hits; simp [herr]; exact Iff.rfl)
              rw [hdec]
              clear crs b5 hk5 hdec
              have crs := (RI.out.kp OT5.out.kp).at_ os.length hlt
              by_cases hfull : (readW (rs os.length)).v []
              · rw [decide_eq_true hfull]
                go_upto_region 23 with fail
                clear crs
                generalize hse : { data := #[40, 124] } ++ rs os.length ++ { data := #[124, 41] } = s1 at *
                by_cases hsz : s1.size ≤ 16
                · have hsz' : ¬ (16 : Int) < s1.size := by omega
                  have hsame : SameP s1 (rs os.length) := by
                    rw [← hse] at hsz ⊢
                    have hq : ∀ (x y : ByteArray), (x ++ y).size = x.size + y.size := fun _ _ => ByteArray.size_append
                    rw [hq, hq] at hsz
                    exact same_opt herr hfull (by have e1 : ({ data := #[40, 124] } : ByteArray).size = 2 := rfl; have e2 : ({ data := #[124, 41] } : ByteArray).size = 2 := rfl; omega)
                  clear hse
                  obtain ⟨i0, hi0, hz0, hz1, hz2⟩ := info_parts infoStr
                  go_upto_region 25 with fail
                  apply wp_region_lit
                  iterate 9 go_step
                  refine appendL rfl _ _ _ rfl 9 i0 _ 1 16 Try.underlying22 hi0 hz0 hz1 hz2 rfl (by omega) vo os.length (stL os) rfl (OT5.out.own.alloc _) ⟨w5.heap.size, 0, none⟩ 1 1 [.string s1] rfl rfl (World.news_of_block (cs := #[.string s1]) (t := 9) (fr := (0, 0)) (heap_alloc_new w5 _)) (by simp [Value.oneCell']) (by omega) (by unfold maxLen; omega) (by omega) (w5.heap.size + 1) (by simp) ?_
                  intro g1 cap1 w6 own1 grow1 at1 lt1
                  simp only [Act.put, List.setIfInBounds_toArray, List.set_cons_zero, List.set_cons_succ]
                  have OT6 := hide (OT5.out.next own1 grow1 at1 hsame)
                  clear own1 grow1 at1 lt1 hi0 hz0 hz1 hz2
                  go_wp2_with fail
                  first
                    | exact ⟨⟨os ++ [s1], _, rfl, by simp, by simp; omega, OT6.out⟩, by simp [intOf]; omega⟩
                    | exact ⟨⟨os ++ [s1], by simp, by simp; omega, OT6.out⟩, by simp [intOf]; omega⟩
                · have hsz' : (16 : Int) < s1.size := by omega
                  have hsame : SameP (rs os.length) (rs os.length) := ⟨herr, rfl⟩
                  have crs := (RI.out.kp OT5.out.kp).at_ os.length hlt
                  clear hse
                  obtain ⟨i0, hi0, hz0, hz1, hz2⟩ := info_parts infoStr
                  go_upto_region 25 with fail
                  apply wp_region_lit
                  iterate 9 go_step
                  refine appendL rfl _ _ _ rfl 9 i0 _ 1 16 Try.underlying22 hi0 hz0 hz1 hz2 rfl (by omega) vo os.length (stL os) rfl (OT5.out.own.alloc _) ⟨w5.heap.size, 0, none⟩ 1 1 [.string (rs os.length)] rfl rfl (World.news_of_block (cs := #[.string (rs os.length)]) (t := 9) (fr := (0, 0)) (heap_alloc_new w5 _)) (by simp [Value.oneCell']) (by omega) (by unfold maxLen; omega) (by omega) (w5.heap.size + 1) (by simp) ?_
                  intro g1 cap1 w6 own1 grow1 at1 lt1
                  simp only [Act.put, List.setIfInBounds_toArray, List.set_cons_zero, List.set_cons_succ]
                  have OT6 := hide (OT5.out.next own1 grow1 at1 hsame)
                  clear own1 grow1 at1 lt1 hi0 hz0 hz1 hz2
                  go_wp2_with fail
                  first
                    | exact ⟨⟨os ++ [(rs os.length)], _, rfl, by simp, by simp; omega, OT6.out⟩, by simp [intOf]; omega⟩
                    | exact ⟨⟨os ++ [(rs os.length)], by simp, by simp; omega, OT6.out⟩, by simp [intOf]; omega⟩
              · rw [decide_eq_false hfull]
                have hsame : SameP (rs os.length) (rs os.length) := ⟨herr, rfl⟩
                have hsz' : ¬ (16 : Int) < (rs os.length).size := by have := (right_of _ herr).1; omega
                obtain ⟨i0, hi0, hz0, hz1, hz2⟩ := info_parts infoStr
                go_upto_region 25 with fail
                apply wp_region_lit
                iterate 9 go_step
                refine appendL rfl _ _ _ rfl 9 i0 _ 1 16 Try.underlying22 hi0 hz0 hz1 hz2 rfl (by omega) vo os.length (stL os) rfl (OT5.out.own.alloc _) ⟨w5.heap.size, 0, none⟩ 1 1 [.string (rs os.length)] rfl rfl (World.news_of_block (cs := #[.string (rs os.length)]) (t := 9) (fr := (0, 0)) (heap_alloc_new w5 _)) (by simp [Value.oneCell']) (by omega) (by unfold maxLen; omega) (by omega) (w5.heap.size + 1) (by simp) ?_
                intro g1 cap1 w6 own1 grow1 at1 lt1
                simp only [Act.put, List.setIfInBounds_toArray, List.set_cons_zero, List.set_cons_succ]
                have OT6 := hide (OT5.out.next own1 grow1 at1 hsame)
                clear own1 grow1 at1 lt1 hi0 hz0 hz1 hz2
                go_wp2_with fail
                first
                  | exact ⟨⟨os ++ [(rs os.length)], _, rfl, by simp, by simp; omega, OT6.out⟩, by simp [intOf]; omega⟩
                  | exact ⟨⟨os ++ [(rs os.length)], by simp, by simp; omega, OT6.out⟩, by simp [intOf]; omega⟩
            · have hlt' : ¬ (os.length : Int) < n := by omega
              have hos : os.length = n := by omega
              clear hvo
              obtain ⟨go, co2, rs2, hvo2, hri, hrs2⟩ := rules_of_row OT.out.own (by omega)
              have htold : told (fun k => (readW (rs2 k)).v) os.length = told (fun k => (readW (rs k)).v) n := by rw [hos]; exact told_same (fun i hi => by rw [hrs2 i]; exact OT.out.same i (by omega))
              have herr2 : ∀ i, i < os.length → (readW (rs2 i)).err = 0 := fun i hi => by rw [hrs2 i]; exact (OT.out.same i hi).1
              clear hrs2
              have HRI := hide hri
              have hm0 : 0 < os.length := by omega
              have hm6 : os.length ≤ 6 := by omega
              subst hvo2
              clear hos
              go_wp2_with fail
              refine (make_code go 0 os.length co2 rs2 _ HRI.out hm0 hm6).mono ?_
              rintro _ w7 ⟨b7, hw7⟩
              have K7 : Hid (Kp [] w3 w7) := OT.out.kp.below b7
              clear b7 HRI hri
              rcases hw7 with ⟨i, hi, _, hne, _⟩ | ⟨_, bs, fs, ps, lo, S, _, _, _, _, hw7⟩
              · exact absurd (herr2 i hi) hne
              · rcases hw7 with ⟨lb2, U2, _, _, _, _, rfl, _, _, _, hL2, hC2, hN2, hCC2⟩ | ⟨rfl, _⟩
                · rw [htold] at hC2
                  obtain ⟨cN, cC, ccl, cnx, cac⟩ := canon_one CAN.out hC2
                  have HL2 := hide hL2
                  have hcl : clArr U2.cls 256 = clArr U.cls 256 := clArr_congr (fun c hc => (ccl c hc).symm)
                  have CNX := hide cnx
                  have CAC := hide cac
                  have hN20 : 0 < U2.N := by omega
                  have hC20 : 0 < U2.C := by omega
                  clear hL2 hC2 ccl cnx cac htold
                  have bT := K7.out.keep B3.out (by simp)
                  go_upto_region 35 with fail
                  refine wp_region_held_drew (S := fun w' => w'.heap[tb]? = some (.cells (tabArr (clArr U.cls 256) vn va) 46 (0, 0))) (by kernel_rfl) bT (fun hHeld => ?_)
                  refine wpAnyH_take (i := 0) (v := .agg (tabArr (clArr U.cls 256) vn va)) rfl (by kernel_rfl) (by kernel_rfl) (by kernel_rfl) (fun _ _ _ h => h) (yieldsIf_arr rfl _ _ rfl tb 0 rfl (tabArr (clArr U.cls 256) vn va) _ (fun w' h' j hj => by rw [cell_of_block h', Nat.zero_add]) Try.underlying46 rfl (by rw [hts]; exact infoTabS)) (by assumption) ?_
                  try simp only [Act.put, List.getElem_toArray, List.getElem_cons_zero, List.getElem_cons_succ, List.setIfInBounds_toArray, List.set_cons_zero, List.set_cons_succ]
                  refine wpAnyH_take (i := 1) (v := ?v1q6) rfl (by kernel_rfl) (by kernel_rfl) (by kernel_rfl) (fun _ _ _ h => h) (Or.inl ⟨by rfl, ?y1q6⟩) (by assumption) ?r1q6
                  case y1q6 => intro w hSw; (try dsimp only at hSw); go_simp; first | done | with_reducible rfl
                  case' r1q6 => try simp only [Act.put, List.getElem_toArray, List.getElem_cons_zero, List.getElem_cons_succ, List.setIfInBounds_toArray, List.set_cons_zero, List.set_cons_succ]
                  refine wpAnyH_ready (rs := [2]) (by kernel_rfl) (by simp) ?_
                  refine AllReadyH.cons rfl (fun K9 hK => ?_) AllReadyH.nil
                  go_simp
                  refine (ltable_code lb2 U2 _ (lexKeep HL2.out ((Kp.refl [] w7).drew)).lex hN20 hN2 hC20 hCC2).mono ?_
                  rintro _ w8 ⟨b8, vn2, va2, rfl, htr2⟩
                  rw [hcl]
                  have k78 : Kp [] w7 w8 := ((Kp.refl [] w7).drew).below b8
                  have K8 : Hid (Kp [] w3 w8) := K7.out.trans k78 (by simp)
                  have bT8 := k78.keep bT (by simp)
                  have HT2 : Hid (TabR w8 vn2 va2 U) := htr2.congr cN.symm cC.symm (fun i k hi hk => (CNX.out i k hi hk).symm) (fun i hi => (CAC.out i hi).symm)
                  clear b8 htr2
                  go_wp2_with fail
                  refine hK.out _ _ ?hSq6 (fun hHeld2 => ?_)
                  case hSq6 => exact bT8
                  clear hK K9 hHeld
                  try simp only [Act.put, List.getElem_toArray, List.getElem_cons_zero, List.getElem_cons_succ, List.setIfInBounds_toArray, List.set_cons_zero, List.set_cons_succ]
                  refine wpAnyH_ready (rs := [3]) (by kernel_rfl) (by simp) ?_
                  refine AllReadyH.cons rfl (fun K9 hK => ?_) AllReadyH.nil
                  go_simp
                  refine (tables_code U vn va vn2 va2 _ (HTR.out.kp K8.out) HT2.out hN hCC).mono ?_
                  rintro _ w9 ⟨rfl, b9⟩
                  have k89 : Kp [] w8 w9 := (Kp.refl [] w8).below b9
                  have K9' : Hid (Kp [] w3 w9) := K8.out.trans k89 (by simp)
                  go_wp2_with fail
                  refine hK.out _ _ ?hS2q6 (fun hHeld3 => ?_)
                  case hS2q6 => exact k89.keep bT8 (by simp)
                  clear hK K9 hHeld2 b9 k89
                  try simp only [Act.put, List.getElem_toArray, List.getElem_cons_zero, List.getElem_cons_succ, List.setIfInBounds_toArray, List.set_cons_zero, List.set_cons_succ]
                  refine wpAnyH_take (i := 4) (v := ?v4q6) rfl (by kernel_rfl) (by kernel_rfl) (by kernel_rfl) (fun _ _ _ h => h) (Or.inl ⟨by rfl, ?y4q6⟩) (by assumption) ?r4q6
                  case y4q6 => intro w hSw; (try dsimp only at hSw); go_simp; first | done | with_reducible rfl
                  case' r4q6 => try simp only [Act.put, List.getElem_toArray, List.getElem_cons_zero, List.getElem_cons_succ, List.setIfInBounds_toArray, List.set_cons_zero, List.set_cons_succ]
                  refine wpAnyH_done (by kernel_rfl) ?_ _
                  clear hHeld3 bT8 bT k78
                  go_wp2_with fail
                  refine ⟨⟨2 + 1, by go_num, by omega, K9'.out⟩, by simp [intOf]⟩
                · go_wp2_with fail
                  refine ⟨⟨2 + 1, by go_num, by omega, K7.out⟩, by simp [intOf]⟩
        · go_wp2_with fail
          go_loopw [9, 10] (fun s9 s10 w' => ∃ (os : List ByteArray) (vo : Value), s9 = vo ∧ s10 = .int .i64 os.length ∧ os.length ≤ n ∧ Others w3 rs vo os w')
            (fun _ s10 _ => n + 1 - (intOf s10).toNat)
          case atStart => exact ⟨[], .slice none 0 0, rfl, rfl, by simp, World.ownsRow_nil _ _ _ _, fun g e => by simp [Value.ownBlock] at e, fun j hj => by simp at hj, KP.out⟩
          case round =>
            clear KP
            obtain ⟨os, vo, e9, rfl, hle, hot⟩ := hrel
            have e9s := e9.symm
            subst e9s
            clear e9
            have OT := hide hot
            have hvo : ∃ ao co, vo = .slice ao os.length co := by
              rcases hot.own.2 with ⟨e, e0⟩ | ⟨go, co, cur, e, _⟩
              · exact ⟨none, 0, by rw [e, e0]⟩
              · exact ⟨_, co, e⟩
            clear hot
            by_cases hlt : os.length < n
            · have hlt' : (os.length : Int) < n := by omega
              have crs := (RI.out.kp OT.out.kp).at_ os.length hlt
              have herr := HOK.out os.length hlt
              have hrs16 : (rs os.length).size ≤ 16 := (right_of _ herr).1
              have hsame : SameP (rs os.length) (rs os.length) := ⟨herr, rfl⟩
              have hsz' : ¬ (16 : Int) < (rs os.length).size := by have := (right_of _ herr).1; omega
              obtain ⟨i0, hi0, hz0, hz1, hz2⟩ := info_parts infoStr
              go_upto_region 25 with fail
              apply wp_region_lit
              iterate 9 go_step
              refine appendL rfl _ _ _ rfl 9 i0 _ 1 16 Try.underlying22 hi0 hz0 hz1 hz2 rfl (by omega) vo os.length (stL os) rfl (OT.out.own.alloc _) ⟨wr.heap.size, 0, none⟩ 1 1 [.string (rs os.length)] rfl rfl (World.news_of_block (cs := #[.string (rs os.length)]) (t := 9) (fr := (0, 0)) (heap_alloc_new wr _)) (by simp [Value.oneCell']) (by omega) (by unfold maxLen; omega) (by omega) (wr.heap.size + 1) (by simp) ?_
              intro g1 cap1 w6 own1 grow1 at1 lt1
              simp only [Act.put, List.setIfInBounds_toArray, List.set_cons_zero, List.set_cons_succ]
              have OT6 := hide (OT.out.next own1 grow1 at1 hsame)
              clear own1 grow1 at1 lt1 hi0 hz0 hz1 hz2
              go_wp2_with fail
              first
                | exact ⟨⟨os ++ [(rs os.length)], _, rfl, by simp, by simp; omega, OT6.out⟩, by simp [intOf]; omega⟩
                | exact ⟨⟨os ++ [(rs os.length)], by simp, by simp; omega, OT6.out⟩, by simp [intOf]; omega⟩
            · have hlt' : ¬ (os.length : Int) < n := by omega
              have hos : os.length = n := by omega
              clear hvo
              by_cases h6 : os.length < 6
              · have h6' : (os.length : Int) < 6 := by omega
                have hn1 : ¬ (n : Int) = 0 := by omega
                obtain ⟨go0, co0, rs0, hvo0, _, _⟩ := rules_of_row OT.out.own (by omega)
                subst hvo0
                have HOS := hide hos
                have hnn : os.length = n := hos
                clear hos
                have hr1 := Int.tmod_lt_of_pos which (show (0 : Int) < n by omega)
                have hr2 := Int.lt_tmod_of_pos which (show (0 : Int) < n by omega)
                clear hnn
                go_upto_region 28 with fail
                generalize which.tmod (n : Int) = r at *
                by_cases hr0 : r < 0
                · obtain ⟨k, hrk⟩ : ∃ k : Nat, -r = (k : Int) := ⟨(-r).toNat, by omega⟩
                  have hneg : IntKind.i64.wrap (-r) = (k : Int) := by rw [hrk]; simp [IntKind.wrap, IntKind.bits, IntKind.signed]; omega
                  have hk : k < n := by omega
                  clear hrk
                  have crs := (RI.out.kp OT.out.kp).at_ k hk
                  have hkI : (k : Int) < n := by omega
                  obtain ⟨i0, hi0, hz0, hz1, hz2⟩ := info_parts infoStr
                  go_upto_region 30 with fail
                  apply wp_region_lit
                  iterate 18 go_step
                  refine appendL rfl _ _ _ rfl 9 i0 _ 1 16 Try.underlying22 hi0 hz0 hz1 hz2 rfl (by omega) (.slice (some ⟨go0, 0, none⟩) os.length co0) os.length (stL os) rfl (OT.out.own.alloc _) ⟨wr.heap.size, 0, none⟩ 1 1 [.string (rs k)] rfl rfl (World.news_of_block (cs := #[.string (rs k)]) (t := 9) (fr := (0, 0)) (heap_alloc_new wr _)) (by simp [Value.oneCell']) (by omega) (by unfold maxLen; omega) (by omega) (wr.heap.size + 1) (by simp) ?_
                  intro g1 cap1 w6 own1 grow1 at1 lt1
                  simp only [Act.put, List.setIfInBounds_toArray, List.set_cons_zero, List.set_cons_succ]
                  have OW6 : Hid (w6.ownsRow 0 9 1 (.slice (some ⟨g1, 0, none⟩) (os.length + 1) cap1) (os ++ [rs k]).length (stL (os ++ [rs k]))) := by
                    show w6.ownsRow _ _ _ _ _ _
                    rw [List.length_append]; simpa [stL] using own1
                  have KP6 : Hid (Kp [] w3 w6) := (OT.out.kp.alloc _).grew grow1 (fun k e => .inr (OT.out.fr k e))
                  clear own1 grow1 at1 lt1 hi0 hz0 hz1 hz2 crs
                  obtain ⟨go, co2, rs2, hvo2, hri, hrs2⟩ := rules_of_row OW6.out (by simp)
                  have hl2 : (os ++ [rs k]).length = os.length + 1 := by simp
                  rw [hl2] at hri hvo2
                  have htold : told (fun j => (readW (rs2 j)).v) (os.length + 1) = told (fun k => (readW (rs k)).v) n := by
                    have hos := HOS.out
                    rw [hos]
                    refine told_more (fun i hi => ?_) hk ?_
                    · rw [hrs2 i, getD_snoc_lt (by omega)]; exact OT.out.same i (by omega)
                    · rw [hrs2 n, ← hos, getD_snoc_eq]; exact ⟨HOK.out k hk, rfl⟩
                  have herr2 : ∀ i, i < os.length + 1 → (readW (rs2 i)).err = 0 := fun i hi => by
                    rw [hrs2 i]
                    by_cases e : i = os.length
                    · rw [e, getD_snoc_eq]; exact HOK.out k hk
                    · rw [getD_snoc_lt (by omega)]; exact (OT.out.same i (by omega)).1
                  clear hrs2
                  have HRI := hide hri
                  have hm0 : 0 < (os.length + 1) := by omega
                  have hm6 : (os.length + 1) ≤ 6 := by omega
                  obtain ⟨rfl, rfl⟩ : go = g1 ∧ co2 = cap1 := by simp at hvo2; exact ⟨hvo2.1.symm, hvo2.2.symm⟩
                  clear hvo2 hl2
                  skip
                  go_wp2_with fail
                  refine (make_code go 0 (os.length + 1) co2 rs2 _ HRI.out hm0 hm6).mono ?_
                  rintro _ w7 ⟨b7, hw7⟩
                  have K7 : Hid (Kp [] w3 w7) := KP6.out.below b7
                  clear b7 HRI hri
                  rcases hw7 with ⟨i, hi, _, hne, _⟩ | ⟨_, bs, fs, ps, lo, S, _, _, _, _, hw7⟩
                  · exact absurd (herr2 i hi) hne
                  · rcases hw7 with ⟨lb2, U2, _, _, _, _, rfl, _, _, _, hL2, hC2, hN2, hCC2⟩ | ⟨rfl, _⟩
                    · rw [htold] at hC2
                      obtain ⟨cN, cC, ccl, cnx, cac⟩ := canon_one CAN.out hC2
                      have HL2 := hide hL2
                      have hcl : clArr U2.cls 256 = clArr U.cls 256 := clArr_congr (fun c hc => (ccl c hc).symm)
                      have CNX := hide cnx
                      have CAC := hide cac
                      have hN20 : 0 < U2.N := by omega
                      have hC20 : 0 < U2.C := by omega
                      clear hL2 hC2 ccl cnx cac htold
                      have bT := K7.out.keep B3.out (by simp)
                      go_upto_region 35 with fail
                      refine wp_region_held_drew (S := fun w' => w'.heap[tb]? = some (.cells (tabArr (clArr U.cls 256) vn va) 46 (0, 0))) (by kernel_rfl) bT (fun hHeld => ?_)
                      refine wpAnyH_take (i := 0) (v := .agg (tabArr (clArr U.cls 256) vn va)) rfl (by kernel_rfl) (by kernel_rfl) (by kernel_rfl) (fun _ _ _ h => h) (yieldsIf_arr rfl _ _ rfl tb 0 rfl (tabArr (clArr U.cls 256) vn va) _ (fun w' h' j hj => by rw [cell_of_block h', Nat.zero_add]) Try.underlying46 rfl (by rw [hts]; exact infoTabS)) (by assumption) ?_
                      try simp only [Act.put, List.getElem_toArray, List.getElem_cons_zero, List.getElem_cons_succ, List.setIfInBounds_toArray, List.set_cons_zero, List.set_cons_succ]
                      refine wpAnyH_take (i := 1) (v := ?v1q1) rfl (by kernel_rfl) (by kernel_rfl) (by kernel_rfl) (fun _ _ _ h => h) (Or.inl ⟨by rfl, ?y1q1⟩) (by assumption) ?r1q1
                      case y1q1 => intro w hSw; (try dsimp only at hSw); go_simp; first | done | with_reducible rfl
                      case' r1q1 => try simp only [Act.put, List.getElem_toArray, List.getElem_cons_zero, List.getElem_cons_succ, List.setIfInBounds_toArray, List.set_cons_zero, List.set_cons_succ]
                      refine wpAnyH_ready (rs := [2]) (by kernel_rfl) (by simp) ?_
                      refine AllReadyH.cons rfl (fun K9 hK => ?_) AllReadyH.nil
                      go_simp
                      refine (ltable_code lb2 U2 _ (lexKeep HL2.out ((Kp.refl [] w7).drew)).lex hN20 hN2 hC20 hCC2).mono ?_
                      rintro _ w8 ⟨b8, vn2, va2, rfl, htr2⟩
                      rw [hcl]
                      have k78 : Kp [] w7 w8 := ((Kp.refl [] w7).drew).below b8
                      have K8 : Hid (Kp [] w3 w8) := K7.out.trans k78 (by simp)
                      have bT8 := k78.keep bT (by simp)
                      have HT2 : Hid (TabR w8 vn2 va2 U) := htr2.congr cN.symm cC.symm (fun i k hi hk => (CNX.out i k hi hk).symm) (fun i hi => (CAC.out i hi).symm)
                      clear b8 htr2
                      go_wp2_with fail
                      refine hK.out _ _ ?hSq1 (fun hHeld2 => ?_)
                      case hSq1 => exact bT8
                      clear hK K9 hHeld
                      try simp only [Act.put, List.getElem_toArray, List.getElem_cons_zero, List.getElem_cons_succ, List.setIfInBounds_toArray, List.set_cons_zero, List.set_cons_succ]
                      refine wpAnyH_ready (rs := [3]) (by kernel_rfl) (by simp) ?_
                      refine AllReadyH.cons rfl (fun K9 hK => ?_) AllReadyH.nil
                      go_simp
                      refine (tables_code U vn va vn2 va2 _ (HTR.out.kp K8.out) HT2.out hN hCC).mono ?_
                      rintro _ w9 ⟨rfl, b9⟩
                      have k89 : Kp [] w8 w9 := (Kp.refl [] w8).below b9
                      have K9' : Hid (Kp [] w3 w9) := K8.out.trans k89 (by simp)
                      go_wp2_with fail
                      refine hK.out _ _ ?hS2q1 (fun hHeld3 => ?_)
                      case hS2q1 => exact k89.keep bT8 (by simp)
                      clear hK K9 hHeld2 b9 k89
                      try simp only [Act.put, List.getElem_toArray, List.getElem_cons_zero, List.getElem_cons_succ, List.setIfInBounds_toArray, List.set_cons_zero, List.set_cons_succ]
                      refine wpAnyH_take (i := 4) (v := ?v4q1) rfl (by kernel_rfl) (by kernel_rfl) (by kernel_rfl) (fun _ _ _ h => h) (Or.inl ⟨by rfl, ?y4q1⟩) (by assumption) ?r4q1
                      case y4q1 => intro w hSw; (try dsimp only at hSw); go_simp; first | done | with_reducible rfl
                      case' r4q1 => try simp only [Act.put, List.getElem_toArray, List.getElem_cons_zero, List.getElem_cons_succ, List.setIfInBounds_toArray, List.set_cons_zero, List.set_cons_succ]
                      refine wpAnyH_done (by kernel_rfl) ?_ _
                      clear hHeld3 bT8 bT k78
                      go_wp2_with fail
                      refine ⟨⟨3 + 1, by go_num, by omega, K9'.out⟩, by simp [intOf]⟩
                    · go_wp2_with fail
                      refine ⟨⟨3 + 1, by go_num, by omega, K7.out⟩, by simp [intOf]⟩
                · obtain ⟨k, rfl⟩ : ∃ k : Nat, r = (k : Int) := ⟨r.toNat, by omega⟩
                  have hk : k < n := by omega
                  have crs := (RI.out.kp OT.out.kp).at_ k hk
                  have hkI : (k : Int) < n := by omega
                  obtain ⟨i0, hi0, hz0, hz1, hz2⟩ := info_parts infoStr
                  go_upto_region 30 with fail
                  apply wp_region_lit
                  iterate 18 go_step
                  refine appendL rfl _ _ _ rfl 9 i0 _ 1 16 Try.underlying22 hi0 hz0 hz1 hz2 rfl (by omega) (.slice (some ⟨go0, 0, none⟩) os.length co0) os.length (stL os) rfl (OT.out.own.alloc _) ⟨wr.heap.size, 0, none⟩ 1 1 [.string (rs k)] rfl rfl (World.news_of_block (cs := #[.string (rs k)]) (t := 9) (fr := (0, 0)) (heap_alloc_new wr _)) (by simp [Value.oneCell']) (by omega) (by unfold maxLen; omega) (by omega) (wr.heap.size + 1) (by simp) ?_
                  intro g1 cap1 w6 own1 grow1 at1 lt1
                  simp only [Act.put, List.setIfInBounds_toArray, List.set_cons_zero, List.set_cons_succ]
                  have OW6 : Hid (w6.ownsRow 0 9 1 (.slice (some ⟨g1, 0, none⟩) (os.length + 1) cap1) (os ++ [rs k]).length (stL (os ++ [rs k]))) := by
                    show w6.ownsRow _ _ _ _ _ _
                    rw [List.length_append]; simpa [stL] using own1
                  have KP6 : Hid (Kp [] w3 w6) := (OT.out.kp.alloc _).grew grow1 (fun k e => .inr (OT.out.fr k e))
                  clear own1 grow1 at1 lt1 hi0 hz0 hz1 hz2 crs
                  obtain ⟨go, co2, rs2, hvo2, hri, hrs2⟩ := rules_of_row OW6.out (by simp)
                  have hl2 : (os ++ [rs k]).length = os.length + 1 := by simp
                  rw [hl2] at hri hvo2
                  have htold : told (fun j => (readW (rs2 j)).v) (os.length + 1) = told (fun k => (readW (rs k)).v) n := by
                    have hos := HOS.out
                    rw [hos]
                    refine told_more (fun i hi => ?_) hk ?_
                    · rw [hrs2 i, getD_snoc_lt (by omega)]; exact OT.out.same i (by omega)
                    · rw [hrs2 n, ← hos, getD_snoc_eq]; exact ⟨HOK.out k hk, rfl⟩
                  have herr2 : ∀ i, i < os.length + 1 → (readW (rs2 i)).err = 0 := fun i hi => by
                    rw [hrs2 i]
                    by_cases e : i = os.length
                    · rw [e, getD_snoc_eq]; exact HOK.out k hk
                    · rw [getD_snoc_lt (by omega)]; exact (OT.out.same i (by omega)).1
                  clear hrs2
                  have HRI := hide hri
                  have hm0 : 0 < (os.length + 1) := by omega
                  have hm6 : (os.length + 1) ≤ 6 := by omega
                  obtain ⟨rfl, rfl⟩ : go = g1 ∧ co2 = cap1 := by simp at hvo2; exact ⟨hvo2.1.symm, hvo2.2.symm⟩
                  clear hvo2 hl2
                  skip
                  go_wp2_with fail
                  refine (make_code go 0 (os.length + 1) co2 rs2 _ HRI.out hm0 hm6).mono ?_
                  rintro _ w7 ⟨b7, hw7⟩
                  have K7 : Hid (Kp [] w3 w7) := KP6.out.below b7
                  clear b7 HRI hri
                  rcases hw7 with ⟨i, hi, _, hne, _⟩ | ⟨_, bs, fs, ps, lo, S, _, _, _, _, hw7⟩
                  · exact absurd (herr2 i hi) hne
                  · rcases hw7 with ⟨lb2, U2, _, _, _, _, rfl, _, _, _, hL2, hC2, hN2, hCC2⟩ | ⟨rfl, _⟩
                    · rw [htold] at hC2
                      obtain ⟨cN, cC, ccl, cnx, cac⟩ := canon_one CAN.out hC2
                      have HL2 := hide hL2
                      have hcl : clArr U2.cls 256 = clArr U.cls 256 := clArr_congr (fun c hc => (ccl c hc).symm)
                      have CNX := hide cnx
                      have CAC := hide cac
                      have hN20 : 0 < U2.N := by omega
                      have hC20 : 0 < U2.C := by omega
                      clear hL2 hC2 ccl cnx cac htold
                      have bT := K7.out.keep B3.out (by simp)
                      go_upto_region 35 with fail
                      refine wp_region_held_drew (S := fun w' => w'.heap[tb]? = some (.cells (tabArr (clArr U.cls 256) vn va) 46 (0, 0))) (by kernel_rfl) bT (fun hHeld => ?_)
                      refine wpAnyH_take (i := 0) (v := .agg (tabArr (clArr U.cls 256) vn va)) rfl (by kernel_rfl) (by kernel_rfl) (by kernel_rfl) (fun _ _ _ h => h) (yieldsIf_arr rfl _ _ rfl tb 0 rfl (tabArr (clArr U.cls 256) vn va) _ (fun w' h' j hj => by rw [cell_of_block h', Nat.zero_add]) Try.underlying46 rfl (by rw [hts]; exact infoTabS)) (by assumption) ?_
                      try simp only [Act.put, List.getElem_toArray, List.getElem_cons_zero, List.getElem_cons_succ, List.setIfInBounds_toArray, List.set_cons_zero, List.set_cons_succ]
                      refine wpAnyH_take (i := 1) (v := ?v1q2) rfl (by kernel_rfl) (by kernel_rfl) (by kernel_rfl) (fun _ _ _ h => h) (Or.inl ⟨by rfl, ?y1q2⟩) (by assumption) ?r1q2
                      case y1q2 => intro w hSw; (try dsimp only at hSw); go_simp; first | done | with_reducible rfl
                      case' r1q2 => try simp only [Act.put, List.getElem_toArray, List.getElem_cons_zero, List.getElem_cons_succ, List.setIfInBounds_toArray, List.set_cons_zero, List.set_cons_succ]
                      refine wpAnyH_ready (rs := [2]) (by kernel_rfl) (by simp) ?_
                      refine AllReadyH.cons rfl (fun K9 hK => ?_) AllReadyH.nil
                      go_simp
                      refine (ltable_code lb2 U2 _ (lexKeep HL2.out ((Kp.refl [] w7).drew)).lex hN20 hN2 hC20 hCC2).mono ?_
                      rintro _ w8 ⟨b8, vn2, va2, rfl, htr2⟩
                      rw [hcl]
                      have k78 : Kp [] w7 w8 := ((Kp.refl [] w7).drew).below b8
                      have K8 : Hid (Kp [] w3 w8) := K7.out.trans k78 (by simp)
                      have bT8 := k78.keep bT (by simp)
                      have HT2 : Hid (TabR w8 vn2 va2 U) := htr2.congr cN.symm cC.symm (fun i k hi hk => (CNX.out i k hi hk).symm) (fun i hi => (CAC.out i hi).symm)
                      clear b8 htr2
                      go_wp2_with fail
                      refine hK.out _ _ ?hSq2 (fun hHeld2 => ?_)
                      case hSq2 => exact bT8
                      clear hK K9 hHeld
                      try simp only [Act.put, List.getElem_toArray, List.getElem_cons_zero, List.getElem_cons_succ, List.setIfInBounds_toArray, List.set_cons_zero, List.set_cons_succ]
                      refine wpAnyH_ready (rs := [3]) (by kernel_rfl) (by simp) ?_
                      refine AllReadyH.cons rfl (fun K9 hK => ?_) AllReadyH.nil
                      go_simp
                      refine (tables_code U vn va vn2 va2 _ (HTR.out.kp K8.out) HT2.out hN hCC).mono ?_
                      rintro _ w9 ⟨rfl, b9⟩
                      have k89 : Kp [] w8 w9 := (Kp.refl [] w8).below b9
                      have K9' : Hid (Kp [] w3 w9) := K8.out.trans k89 (by simp)
                      go_wp2_with fail
                      refine hK.out _ _ ?hS2q2 (fun hHeld3 => ?_)
                      case hS2q2 => exact k89.keep bT8 (by simp)
                      clear hK K9 hHeld2 b9 k89
                      try simp only [Act.put, List.getElem_toArray, List.getElem_cons_zero, List.getElem_cons_succ, List.setIfInBounds_toArray, List.set_cons_zero, List.set_cons_succ]
                      refine wpAnyH_take (i := 4) (v := ?v4q2) rfl (by kernel_rfl) (by kernel_rfl) (by kernel_rfl) (fun _ _ _ h => h) (Or.inl ⟨by rfl, ?y4q2⟩) (by assumption) ?r4q2
                      case y4q2 => intro w hSw; (try dsimp only at hSw); go_simp; first | done | with_reducible rfl
                      case' r4q2 => try simp only [Act.put, List.getElem_toArray, List.getElem_cons_zero, List.getElem_cons_succ, List.setIfInBounds_toArray, List.set_cons_zero, List.set_cons_succ]
                      refine wpAnyH_done (by kernel_rfl) ?_ _
                      clear hHeld3 bT8 bT k78
                      go_wp2_with fail
                      refine ⟨⟨3 + 1, by go_num, by omega, K9'.out⟩, by simp [intOf]⟩
                    · go_wp2_with fail
                      refine ⟨⟨3 + 1, by go_num, by omega, K7.out⟩, by simp [intOf]⟩
              · have h6' : ¬ (os.length : Int) < 6 := by omega
                obtain ⟨go, co2, rs2, hvo2, hri, hrs2⟩ := rules_of_row OT.out.own (by omega)
                have htold : told (fun k => (readW (rs2 k)).v) os.length = told (fun k => (readW (rs k)).v) n := by rw [hos]; exact told_same (fun i hi => by rw [hrs2 i]; exact OT.out.same i (by omega))
                have herr2 : ∀ i, i < os.length → (readW (rs2 i)).err = 0 := fun i hi => by rw [hrs2 i]; exact (OT.out.same i hi).1
                clear hrs2
                have HRI := hide hri
                have hm0 : 0 < os.length := by omega
                have hm6 : os.length ≤ 6 := by omega
                subst hvo2
                clear hos
                go_wp2_with fail
                refine (make_code go 0 os.length co2 rs2 _ HRI.out hm0 hm6).mono ?_
                rintro _ w7 ⟨b7, hw7⟩
                have K7 : Hid (Kp [] w3 w7) := OT.out.kp.below b7
                clear b7 HRI hri
                rcases hw7 with ⟨i, hi, _, hne, _⟩ | ⟨_, bs, fs, ps, lo, S, _, _, _, _, hw7⟩
                · exact absurd (herr2 i hi) hne
                · rcases hw7 with ⟨lb2, U2, _, _, _, _, rfl, _, _, _, hL2, hC2, hN2, hCC2⟩ | ⟨rfl, _⟩
                  · rw [htold] at hC2
                    obtain ⟨cN, cC, ccl, cnx, cac⟩ := canon_one CAN.out hC2
                    have HL2 := hide hL2
                    have hcl : clArr U2.cls 256 = clArr U.cls 256 := clArr_congr (fun c hc => (ccl c hc).symm)
                    have CNX := hide cnx
                    have CAC := hide cac
                    have hN20 : 0 < U2.N := by omega
                    have hC20 : 0 < U2.C := by omega
                    clear hL2 hC2 ccl cnx cac htold
                    have bT := K7.out.keep B3.out (by simp)
                    go_upto_region 35 with fail
                    refine wp_region_held_drew (S := fun w' => w'.heap[tb]? = some (.cells (tabArr (clArr U.cls 256) vn va) 46 (0, 0))) (by kernel_rfl) bT (fun hHeld => ?_)
                    refine wpAnyH_take (i := 0) (v := .agg (tabArr (clArr U.cls 256) vn va)) rfl (by kernel_rfl) (by kernel_rfl) (by kernel_rfl) (fun _ _ _ h => h) (yieldsIf_arr rfl _ _ rfl tb 0 rfl (tabArr (clArr U.cls 256) vn va) _ (fun w' h' j hj => by rw [cell_of_block h', Nat.zero_add]) Try.underlying46 rfl (by rw [hts]; exact infoTabS)) (by assumption) ?_
                    try simp only [Act.put, List.getElem_toArray, List.getElem_cons_zero, List.getElem_cons_succ, List.setIfInBounds_toArray, List.set_cons_zero, List.set_cons_succ]
                    refine wpAnyH_take (i := 1) (v := ?v1q3) rfl (by kernel_rfl) (by kernel_rfl) (by kernel_rfl) (fun _ _ _ h => h) (Or.inl ⟨by rfl, ?y1q3⟩) (by assumption) ?r1q3
                    case y1q3 => intro w hSw; (try dsimp only at hSw); go_simp; first | done | with_reducible rfl
                    case' r1q3 => try simp only [Act.put, List.getElem_toArray, List.getElem_cons_zero, List.getElem_cons_succ, List.setIfInBounds_toArray, List.set_cons_zero, List.set_cons_succ]
                    refine wpAnyH_ready (rs := [2]) (by kernel_rfl) (by simp) ?_
                    refine AllReadyH.cons rfl (fun K9 hK => ?_) AllReadyH.nil
                    go_simp
                    refine (ltable_code lb2 U2 _ (lexKeep HL2.out ((Kp.refl [] w7).drew)).lex hN20 hN2 hC20 hCC2).mono ?_
                    rintro _ w8 ⟨b8, vn2, va2, rfl, htr2⟩
                    rw [hcl]
                    have k78 : Kp [] w7 w8 := ((Kp.refl [] w7).drew).below b8
                    have K8 : Hid (Kp [] w3 w8) := K7.out.trans k78 (by simp)
                    have bT8 := k78.keep bT (by simp)
                    have HT2 : Hid (TabR w8 vn2 va2 U) := htr2.congr cN.symm cC.symm (fun i k hi hk => (CNX.out i k hi hk).symm) (fun i hi => (CAC.out i hi).symm)
                    clear b8 htr2
                    go_wp2_with fail
                    refine hK.out _ _ ?hSq3 (fun hHeld2 => ?_)
                    case hSq3 => exact bT8
                    clear hK K9 hHeld
                    try simp only [Act.put, List.getElem_toArray, List.getElem_cons_zero, List.getElem_cons_succ, List.setIfInBounds_toArray, List.set_cons_zero, List.set_cons_succ]
                    refine wpAnyH_ready (rs := [3]) (by kernel_rfl) (by simp) ?_
                    refine AllReadyH.cons rfl (fun K9 hK => ?_) AllReadyH.nil
                    go_simp
                    refine (tables_code U vn va vn2 va2 _ (HTR.out.kp K8.out) HT2.out hN hCC).mono ?_
                    rintro _ w9 ⟨rfl, b9⟩
                    have k89 : Kp [] w8 w9 := (Kp.refl [] w8).below b9
                    have K9' : Hid (Kp [] w3 w9) := K8.out.trans k89 (by simp)
                    go_wp2_with fail
                    refine hK.out _ _ ?hS2q3 (fun hHeld3 => ?_)
                    case hS2q3 => exact k89.keep bT8 (by simp)
                    clear hK K9 hHeld2 b9 k89
                    try simp only [Act.put, List.getElem_toArray, List.getElem_cons_zero, List.getElem_cons_succ, List.setIfInBounds_toArray, List.set_cons_zero, List.set_cons_succ]
                    refine wpAnyH_take (i := 4) (v := ?v4q3) rfl (by kernel_rfl) (by kernel_rfl) (by kernel_rfl) (fun _ _ _ h => h) (Or.inl ⟨by rfl, ?y4q3⟩) (by assumption) ?r4q3
                    case y4q3 => intro w hSw; (try dsimp only at hSw); go_simp; first | done | with_reducible rfl
                    case' r4q3 => try simp only [Act.put, List.getElem_toArray, List.getElem_cons_zero, List.getElem_cons_succ, List.setIfInBounds_toArray, List.set_cons_zero, List.set_cons_succ]
                    refine wpAnyH_done (by kernel_rfl) ?_ _
                    clear hHeld3 bT8 bT k78
                    go_wp2_with fail
                    refine ⟨⟨3 + 1, by go_num, by omega, K9'.out⟩, by simp [intOf]⟩
                  · go_wp2_with fail
                    refine ⟨⟨3 + 1, by go_num, by omega, K7.out⟩, by simp [intOf]⟩
      · have hk4' : ¬ (kd : Int) < 4 := by omega
        go_wp2_with fail
        go_ret
        exact ⟨by simp, (K3.out.trans KP.out (by simp)).toBelow⟩
end Go.Proofs.Ytbjdkbcfpmeneaa
