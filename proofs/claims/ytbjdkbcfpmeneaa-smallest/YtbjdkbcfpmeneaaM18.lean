/- What is proved here: what states.Table does: all states that the rules can come to, or that there are too many. -/
import Derived.Test.YtbjdkbcfpmeneaaRows
import Derived.Test.YtbjdkbcfpmeneaaM17
import Derived.Deep.CutRange
namespace Go.Proofs.Ytbjdkbcfpmeneaa
set_option linter.unusedVariables false
set_option linter.unusedSimpArgs false
open Go.RowKit Go.ChangeMaps

/- What is known of a table of all states. -/
structure TEnd (w : World) (bs fs : List Nat) (ps : List (Bool × Nat × Nat)) (Ks : List Nat) (cl : Nat → Nat) (S : List (Nat × Nat)) (tb : Nat) (gs : List Nat) (rows : List (List Int)) (accs : List Int) (vn va : Value) (w' : World) : Prop where
  inv : ClsInv (fun c => setV (takN bs c bs.length)) 256 (Ks.map setV) cl
  kcl : ∀ c, c < 256 → cl c < Ks.length ∧ Ks.getD (cl c) 0 = takN bs c bs.length
  kpos : 0 < Ks.length
  klen : Ks.length ≤ 256
  tab : TabP w' tb (clArr cl 256) vn va Ks.length gs rows accs
  fr : ∀ g ∈ tfoot tb vn va gs, w.heap.size < g
  lg : gs.length = S.length
  la : accs.length = S.length
  few : S.length ≤ 250
  nodup : (S.map sv).Nodup
  ok : ∀ i, i < S.length → ∀ k, k < Ks.length → numTo (S.map sv) (nxt fs ps (S.getD i (0, 0)).1 (Ks.getD k 0)).1 (nxt fs ps (S.getD i (0, 0)).1 (Ks.getD k 0)).2 ((rows.getD i []).getD k 0)
  aok : ∀ i, i < S.length → FirstBit (S.getD i (0, 0)).2 ps.length (accs.getD i 0)
  rch : ∀ y ∈ S, Rch bs fs ps y
  zero : S[0]? = some (firsts (fR ps) ps.length, 0)

theorem tabArr_one {c : Array Value} {vn va : Value} (h : c.all (·.oneCell') = true) (h1 : vn.oneCell' = true) (h2 : va.oneCell' = true) : (tabArr c vn va).all (·.oneCell') = true := by
  unfold tabArr; rw [Array.all_append, h]; simp [h1, h2]

theorem infoRow : (Try.prog.info? 44).map (fun i => (i.zero, i.size, i.bytes)) = some (some (.slice none 0 0), 1, 24) := by kernel_rfl

theorem z256_one : z256.all (·.oneCell') = true := by
  have := clArr_one (fun _ => 0) 0
  rw [clArr_zero] at this
  exact this

theorem own_oneCell {w : World} {e : TypeId} {sz : Nat} {v : Value} {n : Nat} {xs : List Value} (h : w.ownsRow 0 e sz v n xs) : v.oneCell' = true := by
  rcases h.2 with ⟨rfl, _⟩ | ⟨g, cap, cur, rfl, _⟩
  · rfl
  · rfl

def more1 : Value → Nat
  | .bool true => 1
  | _ => 0

set_option maxRecDepth 100000 in
set_option maxHeartbeats 4000000 in
theorem stTable_code (p : Nat) (vr vb vf : Value) (bs fs : List Nat) (ps : List (Bool × Nat × Nat)) (w : World) (hP : PosAt w p bs fs vb vf) (hR : RulesAt w vr ps) (hbs : bs.length ≤ 200) (hn : ps.length ≤ 6) (hfs : ∀ q, fs.getD q 0 < 2 ^ 256) (hf : firsts (fR ps) ps.length < 2 ^ 256) :
    Calls Try.prog 26 #[.pointer (some ⟨p, 0, none⟩), vr] w fun e w' => Below w.heap.size w w' ∧ ((∃ Ks cl S tb gs rows accs vn va, e = .returned (.tuple #[.agg (tabArr (clArr cl 256) vn va), .bool true]) ∧ TEnd w bs fs ps Ks cl S tb gs rows accs vn va w') ∨
      (∃ S : List (Nat × Nat), e = .returned (.tuple #[.agg (tabArr z256 nilS nilS), .bool false]) ∧ (S.map sv).Nodup ∧ 250 < S.length ∧ ∀ y ∈ S, Rch bs fs ps y)) := by
  obtain ⟨av, capv, rfl⟩ := hR.slice
  have HP := hide hP
  have HR := hide hR
  have HFS := hide hfs
  have HF := hide hf
  clear hP hR hfs hf
  go_enter Try.func26, Try.ntmps26
  go_upto_region 0 with fail
  apply wp_region_lit
  refine allocZ rfl _ rfl _ infoTab ?_
  simp only [Act.put, List.setIfInBounds_toArray, List.set_cons_zero, List.set_cons_succ, size_alloc, Value.cells]
  have kW : Kp [] w (w.alloc (.cells (tabArr z256 nilS nilS) 46 (0, 0))) := (Kp.refl _ w).alloc _
  have bR : (w.alloc (.cells (tabArr z256 nilS nilS) 46 (0, 0))).heap[w.heap.size]? = some (.cells (tabArr z256 nilS nilS) 46 (0, 0)) := by rw [blk_alloc, if_pos rfl]
  have sW : (w.alloc (.cells (tabArr z256 nilS nilS) 46 (0, 0))).heap.size = w.heap.size + 1 := size_alloc _ _
  generalize (w.alloc (.cells (tabArr z256 nilS nilS) 46 (0, 0))) = W at *
  have KW := hide kW
  have BR := hide bR
  have SW := hide sW
  clear kW bR sW
  go_upto_region 2 with fail
  have bl1 : Bl (W.alloc (.cells #[.pointer (some ⟨p, 0, none⟩), .slice av ps.length capv, .map none, nilS, .map none, nilS, .int .i64 0] 92 (0, 0))) W.heap.size (.pointer (some ⟨p, 0, none⟩)) (.slice av ps.length capv) [W.heap.size] [] [] 0 :=
    ⟨.map none, nilS, .map none, nilS, ⟨by rw [blk_alloc, if_pos rfl]; rfl, ⟨.inl ⟨rfl, rfl⟩, World.ownsRow_nil _ _ _ _, by simp, by simp, by simp⟩, ⟨.inl ⟨rfl, rfl⟩, World.ownsRow_nil _ _ _ _, by simp, by simp, by simp⟩, by simp [nfoot, mapBlock, Value.ownBlock], by simp [nfoot, mapBlock, Value.ownBlock], by simp [nfoot, mapBlock, Value.ownBlock]⟩, rfl⟩
  have k1 : Kp [] w (W.alloc (.cells #[.pointer (some ⟨p, 0, none⟩), .slice av ps.length capv, .map none, nilS, .map none, nilS, .int .i64 0] 92 (0, 0))) := KW.out.alloc _
  have bR1 : (W.alloc (.cells #[.pointer (some ⟨p, 0, none⟩), .slice av ps.length capv, .map none, nilS, .map none, nilS, .int .i64 0] 92 (0, 0))).heap[w.heap.size]? = some (.cells (tabArr z256 nilS nilS) 46 (0, 0)) := by
    rw [blk_alloc, if_neg (Nat.ne_of_lt (lt_of_block BR.out))]; exact BR.out
  generalize (W.alloc (.cells #[.pointer (some ⟨p, 0, none⟩), .slice av ps.length capv, .map none, nilS, .map none, nilS, .int .i64 0] 92 (0, 0))) = W1 at *
  have hB : W.heap.size = w.heap.size + 1 := SW.out
  generalize W.heap.size = B at *
  have HB := hide hB
  have hwB : w.heap.size < B := by omega
  clear hB
  have BL1 := hide bl1
  have K1 := hide k1
  have BR1 := hide bR1
  have lB1 := hide (bl1.lt B (by simp))
  clear bl1 k1 bR1 KW BR SW
  go_wp2_with fail
  refine (bClasses_code B p (.slice av ps.length capv) vb vf [B] bs fs [] 0 W1 BL1.out (fun w' k' => HP.out.kp (K1.out.trans k' (by simp; omega)) (by simp)) hbs).mono ?_
  rintro _ w2 ⟨F, ks, cl, rfl, hkl, inv, bl2, kp2, fr2⟩
  obtain ⟨Ks, rfl, hKs, hcl, hK0⟩ := inv.kinds hbs
  rw [List.length_map] at hkl
  have hcl2 : ∀ k, k < Ks.length → ∃ c, c < 256 ∧ Ks.getD k 0 = takN bs c bs.length := fun k hk => by
    obtain ⟨c, hc, e⟩ := inv.sur k (by rw [List.length_map]; exact hk)
    exact ⟨c, hc, by rw [← e]; exact (hcl c hc).2⟩
  have INV := hide inv
  have HKS := hide hKs
  have HCL := hide hcl
  have HCL2 := hide hcl2
  have BL2 := hide bl2
  have K2 : Hid (Kp [] w w2) := K1.out.trans kp2 (by simp; omega)
  have BR2 : Hid (w2.heap[w.heap.size]? = some zTab) := kp2.keep BR1.out (by simp; omega)
  have FR2 : Hid (∀ g ∈ F, w.heap.size < g) := fun g hg => by
    rcases fr2 g hg with e | e
    · simp at e; omega
    · have := lt_of_block BR1.out; omega
  clear inv hKs hcl hcl2 bl2 kp2 fr2 BL1 K1 BR1 lB1
  dsimp only
  go_step
  refine buildTab rfl [(0, .tmp 13)] rfl (tabArr (clArr cl 256) nilS nilS) (by show Instr.fill tabPlace (tabArr z256 nilS nilS) [(0, .agg (clArr cl 256))] = some _; rw [fill_cls (clArr_size cl 256) z256_size]; rfl) ?_
  refine allocZ rfl _ rfl _ infoTab ?_
  refine storeAll rfl _ _ _ rfl (b := w2.heap.size) (c := tabArr z256 nilS nilS) (e := 46) (by rw [blk_alloc, if_pos rfl]; rfl) rfl rfl (by rw [tabArr_size (clArr_size cl 256), tabArr_size z256_size]) (by rw [tabArr_size (clArr_size cl 256)]; exact infoTabS) (tabArr_one (clArr_one cl 256) rfl rfl) ?_
  intro w3 b3 k3 s3
  simp only [Act.put, List.setIfInBounds_toArray, List.set_cons_zero, List.set_cons_succ]
  have k3' : Kp [] w2 w3 := (((Kp.refl [] w2).alloc _).trans k3 (by simp))
  have l2 : w.heap.size < w2.heap.size := lt_of_block BR2.out
  have tab3 : TabP w3 w2.heap.size (clArr cl 256) nilS nilS Ks.length [] [] [] :=
    ⟨clArr_size _ _, b3, World.ownsRow_nil _ _ _ _, World.ownsRow_nil _ _ _ _, rfl, fun i hi => by simp at hi, fun g hg => by simp at hg⟩
  have htb : ∀ g ∈ F, g < w2.heap.size := BL2.out.lt
  have HTB := hide htb
  have hwT : w.heap.size < w2.heap.size := l2
  generalize w2.heap.size = tb at *
  have T3 := hide tab3
  have K3 : Hid (Kp [] w w3) := K2.out.trans k3' (by simp)
  have BL3 := hide (BL2.out.kp k3' (by simp))
  have BR3 := hide (k3'.keep BR2.out (by simp))
  clear k3 s3 b3 k3' tab3 htb l2 BL2 BR2 K2
  go_wp2_with fail
  obtain ⟨c0, q0, q1, q2⟩ := BL3.out.blk
  refine (bFirst_code B c0 92 (.slice av ps.length capv) ps _ q0 q2 (HR.out.kp K3.out (by simp)) hn).mono ?_
  rintro _ w4 ⟨rfl, h4⟩
  have k4 : Kp [] w3 w4 := (Kp.refl [] w3).below h4
  have T4 := hide (T3.out.kp k4 (by simp))
  have K4 : Hid (Kp [] w w4) := K3.out.below h4
  have BL4 := hide (BL3.out.kp k4 (by simp))
  have BR4 := hide (k4.keep BR3.out (by simp))
  clear h4 k4 q0 q1 q2 T3 BL3 BR3 K3
  go_wp2_with fail
  refine (BL4.out.put _ _ (by simp)).mono ?_
  rintro _ w5 ⟨i5, F5, rfl, hi5, bl5, kp5, fr5⟩
  rw [addK_new (by simp)] at bl5
  have F5s : ∀ g ∈ F5, w.heap.size < g := fun g hg => by
    rcases fr5 g hg with e | e
    · exact FR2.out g e
    · have := lt_of_block BR4.out; omega
  have tbF : tb ∉ F := fun hm => by have := HTB.out tb hm; omega
  have T5 : TIn w B tb (.pointer (some ⟨p, 0, none⟩)) (.slice av ps.length capv) bs fs ps Ks cl F5 [(firsts (fR ps) ps.length, 0)] 0 [] [] [] nilS nilS w5 := by
    refine ⟨bl5, T4.out.kp kp5 ?_, K4.out.trans kp5 (fun y hy => .inr (Nat.le_of_lt (FR2.out y hy))), kp5.keep BR4.out (fun hm => by have := FR2.out _ hm; omega), F5s, ?_, fun i hi => by simp at hi, fun i hi => by simp at hi, by simp, ?_, rfl⟩
    · intro x hx hm
      simp [tfoot, Value.ownBlock] at hm
      subst hm
      exact tbF hx
    · intro g hg
      simp [tfoot, Value.ownBlock] at hg
      subst hg
      refine ⟨hwT, fun hm => ?_⟩
      rcases fr5 _ hm with e | e
      · exact tbF e
      · have := lt_of_block T4.out.blk; omega
    · intro y hy
      rw [List.mem_singleton.1 hy]
      exact ⟨[], by simp, rfl⟩
  have HT5 := hide T5
  clear T5 T4 K4 BL4 BR4 bl5 kp5 fr5 hi5 F5s
  go_wp2_with fail
  refine (HT5.out.bl.take_more (x := firsts (fR ps) ps.length) (y := 0) rfl (by simp)).mono ?_
  rintro _ w6 ⟨rfl, bl6, kp6⟩
  have T6 : TIn w B tb (.pointer (some ⟨p, 0, none⟩)) (.slice av ps.length capv) bs fs ps Ks cl F5 [(firsts (fR ps) ps.length, 0)] 1 [] [] [] nilS nilS w6 := by
    have t := HT5.out
    have hBF : ∀ x ∈ [B], x ∉ tfoot tb nilS nilS [] := fun x hx hm => by rw [List.mem_singleton.1 hx] at hm; exact (t.frT _ hm).2 t.bl.mem
    exact ⟨bl6, t.tab.kp kp6 hBF, t.old.trans kp6 (by simp; omega), kp6.keep t.bR (by simp; omega), t.frF, t.frT, t.ok, t.aok, t.al, t.rch, t.zero⟩
  have HT6 := hide T6
  clear T6 bl6 kp6 HT5
  go_upto_region 5 with fail
  have kW7 : Kp [] w6 (w6.alloc (stateO (firsts (fR ps) ps.length) 0)) := (Kp.refl [] w6).alloc _
  have bW7 : (w6.alloc (stateO (firsts (fR ps) ps.length) 0)).heap[w6.heap.size]? = some (stateO (firsts (fR ps) ps.length) 0) := by rw [blk_alloc, if_pos rfl]
  have T7 := hide (HT6.out.kp kW7 (by simp))
  have hsb0 : w.heap.size < w6.heap.size ∧ w6.heap.size ∉ F5 ∧ w6.heap.size ∉ tfoot tb nilS nilS [] := ⟨lt_of_block HT6.out.bR, fun hm => by have := HT6.out.bl.lt _ hm; omega, fun hm => by have := HT6.out.tab.lt _ hm; omega⟩
  generalize (w6.alloc (stateO (firsts (fR ps) ps.length) 0)) = W7 at *
  generalize w6.heap.size = sb0 at *
  have BW7 := hide bW7
  have HSB0 := hide hsb0
  clear bW7 kW7 hsb0 HT6
  go_loopw [8, 9] (fun s8 s9 w' => ∃ (sb : Nat) (more : Bool) (F : List Nat) (S : List (Nat × Nat)) (tk : Nat) (gs : List Nat) (rows : List (List Int)) (accs : List Int) (vn va : Value) (x : Nat × Nat), s8 = .pointer (some ⟨sb, 0, none⟩) ∧ s9 = .bool more ∧
      TIn w B tb (.pointer (some ⟨p, 0, none⟩)) (.slice av ps.length capv) bs fs ps Ks cl F S tk gs rows accs vn va w' ∧ accs.length = gs.length ∧ S.length ≤ 250 ∧ w.heap.size < sb ∧ sb ∉ F ∧ sb ∉ tfoot tb vn va gs ∧ w'.heap[sb]? = some (stateO x.1 x.2) ∧
      ((more = true ∧ tk = gs.length + 1 ∧ S[gs.length]? = some x) ∨ (more = false ∧ tk = gs.length ∧ gs.length = S.length)))
    (fun _ s9 w' => 2 * (300 - (intOf ((w'.cell? ⟨B, 6, none⟩).getD undef)).toNat) + more1 s9)
  case atStart => exact ⟨sb0, true, F5, _, 1, [], [], [], nilS, nilS, (firsts (fR ps) ps.length, 0), rfl, rfl, T7.out, rfl, by simp, HSB0.out.1, HSB0.out.2.1, HSB0.out.2.2, BW7.out, .inl ⟨rfl, rfl, rfl⟩⟩
  case round =>
    obtain ⟨sb, more, F, S, tk, gs, rows, accs, vn, va, x, rfl, rfl, t, hlen, hS, hwsb, hsF, hsT, bsb, hm⟩ := hrel
    have TR := hide t
    have SBF := hide hsF
    have SBT := hide hsT
    have BSB := hide bsb
    have lsb := lt_of_block bsb
    have htkc : wr.cell? ⟨B, 6, none⟩ = some (.int .i64 tk) := by
      obtain ⟨vmK, vsK, vmS, vsS, b0, _⟩ := t.bl
      rw [cell_of_block b0.blk]; rfl
    have HTK := hide htkc
    clear t hsF hsT bsb htkc
    rcases hm with ⟨rfl, htk, hx⟩ | ⟨rfl, htk, hg⟩
    · have HX := hide hx
      have HTK2 := hide htk
      have HLEN := hide hlen
      have htkS : gs.length < S.length := (List.getElem?_eq_some_iff.1 hx).1
      clear hx htk hlen
      go_upto_region 7 with fail
      go_cut [] from 23 to 47 (fun wc => ∃ (F2 : List Nat) (T : List (Nat × Nat)) (g : Nat) (r : List Int) (vn2 : Value), TIn w B tb (.pointer (some ⟨p, 0, none⟩)) (.slice av ps.length capv) bs fs ps Ks cl F2 (S ++ T) tk (gs ++ [g]) (rows ++ [r]) accs vn2 va wc ∧ (S ++ T).length ≤ S.length + Ks.length ∧ sb ∉ F2 ∧ sb ∉ tfoot tb vn2 va (gs ++ [g]) ∧ wc.heap[sb]? = some (stateO x.1 x.2))
      case first =>
        have c256 : wr.cell? ⟨tb, 256, none⟩ = some vn := by rw [cell_of_block TR.out.tab.blk, tabArr_256 (clArr_size _ _)]
        obtain ⟨y0, y1, y2, y3, y4, y5, y6, y7, yr⟩ := eight BSB.out
        clear yr
        have hd : wr.drew.heap[sb]? = some (stateO x.1 x.2) := BSB.out
        have nsb : sb ≠ tb := fun e => SBT.out (by rw [e]; exact tfoot_mem.2 (.inl rfl))
        obtain ⟨i0, hi0, hz0, hz1, hz2⟩ := info_parts infoRow
        have I0 := hide hi0
        have Z0 := hide hz0
        have Z1 := hide hz1
        have Z2 := hide hz2
        clear hi0 hz0 hz1 hz2
        go_region_law ((first | (refine step_append_lies _ (by rfl) _ _ _ (by rfl) 0 44 i0 _ 1 24 Try.underlying43 I0.out Z0.out Z1.out Z2.out rfl (by omega) vn gs.length (gs.map (rv Ks.length)) (by rfl) (OWN2.out.alloc _) ⟨w2.heap.size, 0, none⟩ 1 1 [rv Ks.length g] (by rfl) (by rfl) (World.news_of_block (cs := #[rv Ks.length g]) (t := 44) (fr := (0, 0)) (heap_alloc_new w2 _)) (by simp [Value.oneCell']) (by omega) (by unfold maxLen; omega) (by omega) (by simp) (w2.heap.size + 1) (by simp) ?_; intro g1 cap1 w3 own1 grow1 at1 lt1; have S3 : w3.heap[sb]? = some (stateO x.1 x.2) := gkeep grow1 (b := sb) (by rw [blk_alloc, if_neg nsb2]; exact S2) (fun e => SBT.out (tfoot_mem.2 (.inr (.inl e)))); have B3 : w3.heap[tb]? = some (.cells (tabArr (clArr cl 256) vn va) 46 (0, 0)) := gkeep grow1 (b := tb) (by rw [blk_alloc, if_neg ntb2]; exact tab2.blk) (fun e => tab2.tbn e); have e256 : w3.cell? ⟨tb, 256, none⟩ = some vn := (by rw [cell_of_block B3, tabArr_256 (clArr_size _ _)]); have f256 := frozen_of_block B3 256) | (go_simp; go_at_call 36; refine (bRow_code B p x.1 x.2 (.slice av ps.length capv) vb vf F bs fs Ks ps (S.map sv) tk _ (TR.out.bl.kp ((Kp.refl [] wr).drew) (by simp)) (fun w' k' => HP.out.kp (TR.out.old.drew.trans k' (fun y hy => .inr (Nat.le_of_lt (TR.out.frF y hy)))) (by simp)) (fun w' k' => HR.out.kp (TR.out.old.drew.trans k' (fun y hy => .inr (Nat.le_of_lt (TR.out.frF y hy)))) (by simp)) hbs hn HKS.out HFS.out (by rw [List.length_map]; omega) hK0).mono ?_; rintro _ w2 ⟨F2, ss2, g, r, rfl, hg2, hgF, hgb, hrl, hnum, hpre, hmem, hsl, bl2, kp2, fr2⟩; have kp2' : Kp F wr w2 := ((Kp.refl F wr).drew).trans kp2 (fun y hy => .inl hy); have tab2 := TR.out.tab.kp kp2' (fun q hq hm => (TR.out.frT q hm).2 hq); have d256 : w2.cell? ⟨tb, 256, none⟩ = some vn := (by rw [cell_of_block tab2.blk, tabArr_256 (clArr_size _ _)]); have ltb2 := lt_of_block tab2.blk; have ntb2 : tb ≠ w2.heap.size := Nat.ne_of_lt ltb2; have OWN2 := hide tab2.next; have S2 : w2.heap[sb]? = some (stateO x.1 x.2) := kp2'.keep BSB.out SBF.out; have nsb2 : sb ≠ w2.heap.size := Nat.ne_of_lt (lt_of_block S2))))
        all_goals
          obtain ⟨T, hss, t3, hsb3, n1, n2⟩ := TR.out.row (sb := sb) HX.out HCL2.out hg2 hgF hgb hrl hnum hpre hmem bl2 kp2' fr2 own1 grow1 at1 ⟨lsb, SBF.out, SBT.out⟩
          have hTl : (S ++ T).length ≤ S.length + Ks.length := by
            have e := congrArg List.length hss
            rw [List.length_map] at e
            rw [List.length_map] at hsl
            omega
          have HT3 := hide t3
          have HSB3 := hide hsb3
          have N1 := hide n1
          have N2 := hide n2
          have HTL := hide hTl
          clear t3 hsb3 n1 n2 hTl hss hg2 hgF hgb hrl hnum hpre hmem hsl bl2 kp2 fr2 kp2' tab2 d256 ltb2 ntb2 OWN2 S2 nsb2 own1 grow1 at1 lt1 S3 B3 e256 f256 c256 y0 y1 y2 y3 y4 y5 y6 y7 hd nsb I0 Z0 Z1 Z2
          go_wp2_with fail
          go_meet
          case rel => exact ⟨F2, T, g, r, _, HT3.out, HTL.out, N1.out, N2.out, by rw [HSB3.out]; exact BSB.out⟩
      case rest =>
        obtain ⟨F2, T, g, r, vn2, t2, hTl, n1, n2, bsb2⟩ := hcut
        have TR2 := hide t2
        have SBF2 := hide n1
        have SBT2 := hide n2
        have BSB2 := hide bsb2
        have lsb2 := lt_of_block bsb2
        clear t2 n1 n2 bsb2
        have hx2 : (S ++ T)[accs.length]? = some x := by rw [HLEN.out, List.getElem?_append_left htkS]; exact HX.out
        have HX2 := hide hx2
        clear hx2
        go_upto_region 8 with fail
        go_cut [] from 23 to 47 (fun wc2 => ∃ (q : Int) (va2 : Value), TIn w B tb (.pointer (some ⟨p, 0, none⟩)) (.slice av ps.length capv) bs fs ps Ks cl F2 (S ++ T) tk (gs ++ [g]) (rows ++ [r]) (accs ++ [q]) vn2 va2 wc2 ∧ sb ∉ tfoot tb vn2 va2 (gs ++ [g]) ∧ wc2.heap[sb]? = some (stateO x.1 x.2))
        case first =>
          have c257 : wc.cell? ⟨tb, 257, none⟩ = some va := by rw [cell_of_block TR2.out.tab.blk, tabArr_257 (clArr_size _ _)]
          obtain ⟨y0, y1, y2, y3, y4, y5, y6, y7, yr⟩ := eight BSB2.out
          clear yr
          obtain ⟨i0, hi0, hz0, hz1, hz2⟩ := info_parts infoInt
          have I0 := hide hi0
          have Z0 := hide hz0
          have Z1 := hide hz1
          have Z2 := hide hz2
          have hal : accs.length ≤ 250 := by rw [HLEN.out]; omega
          clear hi0 hz0 hz1 hz2
          go_region_law ((first | (refine step_append_lies _ (by rfl) _ _ _ (by rfl) 0 3 i0 _ 1 8 Try.underlying44 I0.out Z0.out Z1.out Z2.out rfl (by omega) va accs.length (iv accs) (by rfl) (OWN2.out.alloc _) ⟨w2.heap.size, 0, none⟩ 1 1 [.int .i64 q] (by rfl) (by rfl) (World.news_of_block (cs := #[.int .i64 q]) (t := 3) (fr := (0, 0)) (heap_alloc_new w2 _)) (by simp [Value.oneCell']) (by omega) (by unfold maxLen; omega) (by omega) (by simp) (w2.heap.size + 1) (by simp) ?_; intro g1 cap1 w3 own1 grow1 at1 lt1; have B3 : w3.heap[tb]? = some (.cells (tabArr (clArr cl 256) vn2 va) 46 (0, 0)) := gkeep grow1 (b := tb) (by rw [blk_alloc, if_neg ntb2]; exact tab2.blk) (fun e => tab2.tba e); have e257 : w3.cell? ⟨tb, 257, none⟩ = some va := (by rw [cell_of_block B3, tabArr_257 (clArr_size _ _)]); have f257 := frozen_of_block B3 257) | (go_simp; go_at_call 37; obtain ⟨c0, p0, p1, p2⟩ := (TR2.out.bl.kp ((Kp.refl [] wc).drew) (by simp)).blk; refine (bAccept_code B x.1 x.2 c0 92 (.slice av ps.length capv) ps _ p0 p2 (HR.out.kp TR2.out.old.drew (by simp)) hn).mono ?_; rintro _ w2 ⟨q, rfl, hq, h2⟩; have kp2 : Kp [] wc w2 := ((Kp.refl [] wc).drew).below h2; have tab2 := TR2.out.tab.kp kp2 (by simp); have d257 : w2.cell? ⟨tb, 257, none⟩ = some va := (by rw [cell_of_block tab2.blk, tabArr_257 (clArr_size _ _)]); have ltb2 := lt_of_block tab2.blk; have ntb2 : tb ≠ w2.heap.size := Nat.ne_of_lt ltb2; have OWN2 := hide tab2.acc)))
          all_goals
            obtain ⟨t3, hsb3, n2⟩ := TR2.out.acc (sb := sb) HX2.out hq kp2 own1 grow1 at1 ⟨lsb2, SBF2.out, SBT2.out⟩
            have HT3 := hide t3
            have HSB3 := hide hsb3
            have N2 := hide n2
            clear t3 hsb3 n2 h2 kp2 tab2 d257 ltb2 ntb2 OWN2 own1 grow1 at1 lt1 B3 e257 f257 c257 y0 y1 y2 y3 y4 y5 y6 y7 I0 Z0 Z1 Z2 p0 p1 p2 hq
            go_wp2_with fail
            go_meet
            case rel => exact ⟨q, _, HT3.out, N2.out, by rw [HSB3.out]; exact BSB2.out⟩
        case rest =>
          obtain ⟨q, va2, t3, n2, bsb3⟩ := hcut
          have TR3 := hide t3
          have SBT3 := hide n2
          have BSB3 := hide bsb3
          clear t3 n2 TR2 SBT2 BSB2 lsb2
          generalize hS2 : S ++ T = S2 at *
          have hgS : gs.length < S2.length := by rw [← hS2, List.length_append]; omega
          have HS2 := hide hS2
          clear hS2
          clear bsb3
          go_wp2_with fail
          refine (TR3.out.bl.cnt).mono ?_
          rintro _ w0 ⟨rfl, rfl⟩
          rw [List.length_map]
          by_cases h250 : 250 < S2.length
          · have h250' : (250 : Int) < S2.length := by omega
            go_upto_region 10 with fail
            apply wp_region_lit
            refine buildTab rfl [] rfl (tabArr z256 nilS nilS) rfl ?_
            refine storeAll rfl _ _ _ rfl TR3.out.bR rfl rfl rfl (by rw [tabArr_size z256_size]; exact infoTabS) (tabArr_one z256_one rfl rfl) ?_
            intro w9 b9 k9 s9
            go_wp2
            refine bodyPost_ret (v := .tuple #[.agg (tabArr z256 nilS nilS), .bool false]) (res_cell_tmp Try.results26 rfl rfl b9 _ Try.underlying46 rfl (by rw [tabArr_size z256_size]; exact infoTabS)) rfl ⟨(TR3.out.old.trans k9 (by simp)).toBelow, .inr ⟨S2, rfl, TR3.out.bl.nodup.1, h250, TR3.out.rch⟩⟩
          · have h250' : ¬ (250 : Int) < S2.length := by omega
            obtain ⟨y0, y1, y2, y3, y4, y5, y6, y7, yr⟩ := eight BSB3.out
            clear yr
            go_upto_region 6 with fail
            have kA : Kp [] w0 (w0.alloc (stateO x.1 x.2)) := (Kp.refl [] w0).alloc _
            have bA : (w0.alloc (stateO x.1 x.2)).heap[w0.heap.size]? = some (stateO x.1 x.2) := by rw [blk_alloc, if_pos rfl]
            have TA := hide (TR3.out.kp kA (by simp))
            have sA : w.heap.size < w0.heap.size ∧ w0.heap.size ∉ F2 ∧ w0.heap.size ∉ tfoot tb vn2 va2 (gs ++ [g]) := ⟨lt_of_block TR3.out.bR, fun hm => by have := TR3.out.bl.lt _ hm; omega, fun hm => by have := TR3.out.tab.lt _ hm; omega⟩
            generalize (w0.alloc (stateO x.1 x.2)) = WA at *
            generalize w0.heap.size = sb2 at *
            have BA := hide bA
            have SA := hide sA
            clear kA bA sA y0 y1 y2 y3 y4 y5 y6 y7 BSB3 TR3
            by_cases hmore : gs.length + 1 < S2.length
            · obtain ⟨x2, hx2⟩ : ∃ x2, S2[gs.length + 1]? = some x2 := ⟨_, List.getElem?_eq_getElem hmore⟩
              have hx2' : (S2.map sv)[tk]? = some (stateV x2.1 x2.2) := by rw [HTK2.out, List.getElem?_map, hx2]; rfl
              have HX3 := hide hx2
              have HX4 := hide hx2'
              clear hx2 hx2'
              go_wp2_with fail
              refine (TA.out.bl.take_more HX4.out (by rw [List.length_map]; omega)).mono ?_
              rintro _ wB ⟨rfl, blB, kpB⟩
              have TB : TIn w B tb (.pointer (some ⟨p, 0, none⟩)) (.slice av ps.length capv) bs fs ps Ks cl F2 S2 (tk + 1) (gs ++ [g]) (rows ++ [r]) (accs ++ [q]) vn2 va2 wB := by
                have t := TA.out
                have hBF : ∀ y ∈ [B], y ∉ tfoot tb vn2 va2 (gs ++ [g]) := fun y hy hm => by rw [List.mem_singleton.1 hy] at hm; exact (t.frT _ hm).2 t.bl.mem
                exact ⟨blB, t.tab.kp kpB hBF, t.old.trans kpB (by simp; omega), kpB.keep t.bR (by simp; omega), t.frF, t.frT, t.ok, t.aok, t.al, t.rch, t.zero⟩
              have HTB2 := hide TB
              have nB : sb2 ≠ B := fun e => SA.out.2.1 (by rw [e]; exact TA.out.bl.mem)
              have bA2 : wB.heap[sb2]? = some (stateO x.1 x.2) := kpB.keep BA.out (by simpa using nB)
              have HBA2 := hide bA2
              obtain ⟨y0, y1, y2, y3, y4, y5, y6, y7, f0, f1, f2, f3, f4, f5, f6, f7⟩ := eight bA2
              clear TB blB kpB bA2 TA BA
              go_wp2
              have kS : Kp [sb2] wB ((((((((wB.setCell ⟨sb2, 0, none⟩ (.int .u64 (wd x2.1 0))).setCell ⟨sb2, 1, none⟩ (.int .u64 (wd x2.1 1))).setCell ⟨sb2, 2, none⟩ (.int .u64 (wd x2.1 2))).setCell ⟨sb2, 3, none⟩ (.int .u64 (wd x2.1 3))).setCell ⟨sb2, 4, none⟩ (.int .u64 (wd x2.2 0))).setCell ⟨sb2, 5, none⟩ (.int .u64 (wd x2.2 1))).setCell ⟨sb2, 6, none⟩ (.int .u64 (wd x2.2 2))).setCell ⟨sb2, 7, none⟩ (.int .u64 (wd x2.2 3))) := (Kp.refl [sb2] wB).set8 (by simp) _ _ _ _ _ _ _ _
              have bS : ((((((((wB.setCell ⟨sb2, 0, none⟩ (.int .u64 (wd x2.1 0))).setCell ⟨sb2, 1, none⟩ (.int .u64 (wd x2.1 1))).setCell ⟨sb2, 2, none⟩ (.int .u64 (wd x2.1 2))).setCell ⟨sb2, 3, none⟩ (.int .u64 (wd x2.1 3))).setCell ⟨sb2, 4, none⟩ (.int .u64 (wd x2.2 0))).setCell ⟨sb2, 5, none⟩ (.int .u64 (wd x2.2 1))).setCell ⟨sb2, 6, none⟩ (.int .u64 (wd x2.2 2))).setCell ⟨sb2, 7, none⟩ (.int .u64 (wd x2.2 3))).heap[sb2]? = some (stateO x2.1 x2.2) := blk_set8 HBA2.out _ _ _ _ _ _ _ _
              have tF := HTB2.out.kp kS (by intro y hy; rw [List.mem_singleton.1 hy]; exact SA.out)
              have cB : ((((((((wB.setCell ⟨sb2, 0, none⟩ (.int .u64 (wd x2.1 0))).setCell ⟨sb2, 1, none⟩ (.int .u64 (wd x2.1 1))).setCell ⟨sb2, 2, none⟩ (.int .u64 (wd x2.1 2))).setCell ⟨sb2, 3, none⟩ (.int .u64 (wd x2.1 3))).setCell ⟨sb2, 4, none⟩ (.int .u64 (wd x2.2 0))).setCell ⟨sb2, 5, none⟩ (.int .u64 (wd x2.2 1))).setCell ⟨sb2, 6, none⟩ (.int .u64 (wd x2.2 2))).setCell ⟨sb2, 7, none⟩ (.int .u64 (wd x2.2 3))).cell? ⟨B, 6, none⟩ = some (.int .i64 (tk + 1 : Nat)) := by
                obtain ⟨vmK, vsK, vmS, vsS, b0, _⟩ := tF.bl
                rw [cell_of_block b0.blk]; rfl
              refine ⟨⟨sb2, true, F2, S2, tk + 1, gs ++ [g], rows ++ [r], accs ++ [q], vn2, va2, x2, rfl, rfl, tF, by rw [List.length_append, List.length_append, HLEN.out]; rfl, by omega, SA.out.1, SA.out.2.1, SA.out.2.2, bS, .inl ⟨rfl, by rw [HTK2.out]; simp, by simpa using HX3.out⟩⟩, ?_⟩
              have e1 := HTK.out
              have e2 := HTK2.out
              rw [cB, e1]
              simp [intOf, more1]
              omega
            · have hend : S2.length = gs.length + 1 := by omega
              have he : tk = (S2.map sv).length := by rw [HTK2.out, List.length_map, hend]
              have HE := hide he
              clear he
              go_wp2_with fail
              have blA : Bl WA B (.pointer (some ⟨p, 0, none⟩)) (.slice av ps.length capv) F2 (Ks.map setV) (S2.map sv) (S2.map sv).length := by have := TA.out.bl; rw [HE.out] at this; exact this
              refine (blA.take_end).mono ?_
              rintro _ wB ⟨rfl, hB2⟩
              have kpB : Kp [] WA wB := (Kp.refl [] WA).below hB2
              have HTB2 := hide (TA.out.kp kpB (by simp))
              have bA2 : wB.heap[sb2]? = some (stateO x.1 x.2) := kpB.keep BA.out (by simp)
              have HBA2 := hide bA2
              obtain ⟨y0, y1, y2, y3, y4, y5, y6, y7, f0, f1, f2, f3, f4, f5, f6, f7⟩ := eight bA2
              clear kpB bA2 TA BA blA hB2
              go_wp2
              have kS : Kp [sb2] wB ((((((((wB.setCell ⟨sb2, 0, none⟩ (.int .u64 (wd 0 0))).setCell ⟨sb2, 1, none⟩ (.int .u64 (wd 0 1))).setCell ⟨sb2, 2, none⟩ (.int .u64 (wd 0 2))).setCell ⟨sb2, 3, none⟩ (.int .u64 (wd 0 3))).setCell ⟨sb2, 4, none⟩ (.int .u64 (wd 0 0))).setCell ⟨sb2, 5, none⟩ (.int .u64 (wd 0 1))).setCell ⟨sb2, 6, none⟩ (.int .u64 (wd 0 2))).setCell ⟨sb2, 7, none⟩ (.int .u64 (wd 0 3))) := (Kp.refl [sb2] wB).set8 (by simp) _ _ _ _ _ _ _ _
              have bS : ((((((((wB.setCell ⟨sb2, 0, none⟩ (.int .u64 (wd 0 0))).setCell ⟨sb2, 1, none⟩ (.int .u64 (wd 0 1))).setCell ⟨sb2, 2, none⟩ (.int .u64 (wd 0 2))).setCell ⟨sb2, 3, none⟩ (.int .u64 (wd 0 3))).setCell ⟨sb2, 4, none⟩ (.int .u64 (wd 0 0))).setCell ⟨sb2, 5, none⟩ (.int .u64 (wd 0 1))).setCell ⟨sb2, 6, none⟩ (.int .u64 (wd 0 2))).setCell ⟨sb2, 7, none⟩ (.int .u64 (wd 0 3))).heap[sb2]? = some (stateO 0 0) := blk_set8 HBA2.out _ _ _ _ _ _ _ _
              have tF := HTB2.out.kp kS (by intro y hy; rw [List.mem_singleton.1 hy]; exact SA.out)
              have cB : ((((((((wB.setCell ⟨sb2, 0, none⟩ (.int .u64 (wd 0 0))).setCell ⟨sb2, 1, none⟩ (.int .u64 (wd 0 1))).setCell ⟨sb2, 2, none⟩ (.int .u64 (wd 0 2))).setCell ⟨sb2, 3, none⟩ (.int .u64 (wd 0 3))).setCell ⟨sb2, 4, none⟩ (.int .u64 (wd 0 0))).setCell ⟨sb2, 5, none⟩ (.int .u64 (wd 0 1))).setCell ⟨sb2, 6, none⟩ (.int .u64 (wd 0 2))).setCell ⟨sb2, 7, none⟩ (.int .u64 (wd 0 3))).cell? ⟨B, 6, none⟩ = some (.int .i64 tk) := by
                obtain ⟨vmK, vsK, vmS, vsS, b0, _⟩ := tF.bl
                rw [cell_of_block b0.blk]; rfl
              refine ⟨⟨sb2, false, F2, S2, tk, gs ++ [g], rows ++ [r], accs ++ [q], vn2, va2, (0, 0), rfl, rfl, tF, by rw [List.length_append, List.length_append, HLEN.out]; rfl, by omega, SA.out.1, SA.out.2.1, SA.out.2.2, bS, .inr ⟨rfl, by rw [HTK2.out]; simp, by simp [hend]⟩⟩, ?_⟩
              have e1 := HTK.out
              rw [cB, e1]
              simp [intOf, more1]
    · have hTE : TEnd w bs fs ps Ks cl S tb gs rows accs vn va wr := by
        have t := TR.out
        refine ⟨INV.out, HCL.out, hK0, hkl, t.tab, fun g hg => (t.frT g hg).1, hg, by rw [hlen, hg], hS, t.bl.nodup.1, fun i hi => t.ok i (by omega), fun i hi => t.aok i (by omega), t.rch, t.zero⟩
      have HTE := hide hTE
      clear hTE
      go_upto_region 13 with fail
      apply wp_region_lit
      refine loadAll rfl _ _ rfl TR.out.tab.blk rfl _ Try.underlying46 rfl (by rw [tabArr_size (clArr_size _ _)]; exact infoTabS) ?_
      refine storeAll rfl _ _ _ rfl TR.out.bR rfl rfl (by rw [tabArr_size (clArr_size _ _), tabArr_size z256_size]) (by rw [tabArr_size (clArr_size _ _)]; exact infoTabS) (tabArr_one (clArr_one _ _) (own_oneCell TR.out.tab.next) (own_oneCell TR.out.tab.acc)) ?_
      intro w9 b9 k9 s9
      go_wp2
      refine bodyPost_ret (v := .tuple #[.agg (tabArr (clArr cl 256) vn va), .bool true]) (res_cell_tmp Try.results26 rfl rfl b9 _ Try.underlying46 rfl (by rw [tabArr_size (clArr_size _ _)]; exact infoTabS)) rfl ⟨(TR.out.old.trans k9 (by simp)).toBelow, .inl ⟨Ks, cl, S, tb, gs, rows, accs, vn, va, rfl, ?_⟩⟩
      have e := HTE.out
      refine ⟨e.inv, e.kcl, e.kpos, e.klen, e.tab.kp k9 ?_, e.fr, e.lg, e.la, e.few, e.nodup, e.ok, e.aok, e.rch, e.zero⟩
      intro y hy hm
      rw [List.mem_singleton.1 hy] at hm
      have := e.fr _ hm
      omega
end Go.Proofs.Ytbjdkbcfpmeneaa
