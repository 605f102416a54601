/- What is proved here: what Make does: the first wrong rule, too many states, or a lexer with the smallest table. -/
import Derived.Test.YtbjdkbcfpmeneaaRows
import Derived.Test.YtbjdkbcfpmeneaaM36
import Derived.Scope
import Derived.WalkMore
import Derived.Test.YtbjdkbcfpmeneaaM17
namespace Go.Proofs.Ytbjdkbcfpmeneaa
set_option linter.unusedVariables false
set_option linter.unusedSimpArgs false
open Go.RowKit Go.ChangeMaps

/- What Make answers to one to six rules. -/
def MkPost (rs : Nat → ByteArray) (n : Nat) (w : World) (e : Ending) (w' : World) : Prop := Below w.heap.size w w' ∧
  ((∃ i : Nat, i < n ∧ (∀ k, k < i → (readW (rs k)).err = 0) ∧ (readW (rs i)).err ≠ 0 ∧ e = .returned (.tuple #[.pointer none, .int .i64 (readW (rs i)).err, .int .i64 i, .int .i64 (readW (rs i)).pl])) ∨
   ((∀ k, k < n → (readW (rs k)).err = 0) ∧ ∃ (bs fs : List Nat) (ps : List (Bool × Nat × Nat)) (lo : Nat → Nat) (S : List (Nat × Nat)), RdI rs n bs fs ps lo ∧ fs.length = bs.length ∧ (S.map sv).Nodup ∧ (∀ y ∈ S, Rch bs fs ps y) ∧
    ((∃ (lb : Nat) (U : Tab) (cl : Nat → Nat) (nx : Nat → Nat → Int) (ac : Nat → Int) (C : Nat), e = .returned (.tuple #[.pointer (some ⟨lb, 0, none⟩), .int .i64 0, .int .i64 0, .int .i64 0]) ∧ S.length ≤ 250 ∧ Built bs fs (fR ps) (lR ps) n S cl nx ac C ∧ w.heap.size ≤ lb ∧ LexAt w' lb U ∧ Canon U (told (fun k => (readW (rs k)).v) n) ∧ U.N ≤ 250 ∧ U.C ≤ 256) ∨
     (e = .returned (.tuple #[.pointer none, .int .i64 7, .int .i64 0, .int .i64 0]) ∧ 250 < S.length))))

set_option maxRecDepth 100000 in
set_option maxHeartbeats 4000000 in
theorem make_many (a : Option Addr) (n cap : Nat) (w : World) (hn : n = 0 ∨ 6 < n) :
    Calls Try.prog 20 #[.slice a n cap] w fun e w' => e = .returned (.tuple #[.pointer none, .int .i64 1, .int .i64 0, .int .i64 0]) ∧ w' = w := by
  go_enter Try.func20, Try.ntmps20
  rcases hn with rfl | hn
  · go_wp2
    refine bodyPost_ret (v := .tuple #[.pointer none, .int .i64 1, .int .i64 0, .int .i64 0]) ?_ rfl ⟨rfl, rfl⟩
    simp [results, Try.results20, go_sem]
  · have h1 : ¬ (n : Int) = 0 := by omega
    have h2 : (6 : Int) < n := by omega
    go_wp2
    refine bodyPost_ret (v := .tuple #[.pointer none, .int .i64 1, .int .i64 0, .int .i64 0]) ?_ rfl ⟨rfl, rfl⟩
    simp [results, Try.results20, go_sem]

set_option maxRecDepth 100000 in
set_option maxHeartbeats 4000000 in
theorem make_code (g o n cap : Nat) (rs : Nat → ByteArray) (w : World) (hR : RulesIn w g o n rs) (h0 : 0 < n) (h6 : n ≤ 6) :
    Calls Try.prog 20 #[.slice (some ⟨g, o, none⟩) n cap] w (MkPost rs n w) := by
  have HR := hide hR
  have lg := hR.lt
  clear hR
  have h1 : ¬ (n : Int) = 0 := by omega
  have h2 : ¬ (6 : Int) < n := by omega
  go_enter Try.func20, Try.ntmps20
  have hmk := run_make_parts n (by omega)
  go_upto_region 5 with fail
  clear hmk
  have ps1 : PosAt ((w.alloc (.cells #[.slice none 0 0, .slice none 0 0] 70)).alloc (.cells (madeCells (partV false 0 0).cells (n * 9)) 64)) w.heap.size [] [] (.slice none 0 0) (.slice none 0 0) :=
    ⟨by rw [blk_alloc, size_alloc, if_neg (by omega), blk_alloc, if_pos rfl], World.ownsRow_nil _ _ _ _, World.ownsRow_nil _ _ _ _, rfl, by simp [Value.ownBlock], by simp [Value.ownBlock], fun g e => by simp [Value.ownBlock] at e⟩
  have pi1 : PartsI ((w.alloc (.cells #[.slice none 0 0, .slice none 0 0] 70)).alloc (.cells (madeCells (partV false 0 0).cells (n * 9)) 64)) (w.heap.size + 1) n [] :=
    ⟨_, by rw [blk_alloc, size_alloc, if_pos rfl], size_madeCells _ _, fun k j hk => by simp at hk⟩
  have k1 : Kp [] w ((w.alloc (.cells #[.slice none 0 0, .slice none 0 0] 70)).alloc (.cells (madeCells (partV false 0 0).cells (n * 9)) 64)) := ((Kp.refl [] w).alloc _).alloc _
  have PS1 := hide ps1
  have PI1 := hide pi1
  have K1 := hide k1
  clear ps1 pi1 k1
  go_wp2_with fail
  go_loopw [30] (fun s w' => ∃ (i : Nat) (bs fs : List Nat) (vb vf : Value) (ps : List (Bool × Nat × Nat)) (lo : Nat → Nat), s = .int .i64 i ∧ i ≤ n ∧ PosAt w' w.heap.size bs fs vb vf ∧ (∀ x ∈ foot w.heap.size vb vf, w.heap.size ≤ x ∧ x ≠ w.heap.size + 1) ∧ PartsI w' (w.heap.size + 1) n ps ∧ RdI rs i bs fs ps lo ∧ Kp [] w w')
    (fun s _ => n - (intOf s).toNat)
  case atStart => exact ⟨0, [], [], _, _, [], _, rfl, by omega, PS1.out, fun x hx => by simp [foot, Value.ownBlock] at hx; omega, PI1.out, RdI.start rs, K1.out⟩
  case round =>
    obtain ⟨i, bs, fs, vb, vf, ps, lo, rfl, hi, hps, hfr, hpi, hrd, kp⟩ := hrel
    have big := hrd.big hps.len (by omega)
    have hfl := hps.len
    have PS := hide hps
    have FR := hide hfr
    have PI := hide hpi
    have RD := hide hrd
    have KP := hide kp
    have BIG := hide big
    have HFL := hide hfl
    clear hps hfr hpi hrd kp big hfl PS1 PI1 K1
    by_cases hin : i < n
    · have hin' : (i : Int) < n := by omega
      have cr := (HR.out.kp KP.out).at_ i hin
      go_wp2_with fail
      refine (pread_code (rs i) w.heap.size bs fs vb vf _ PS.out (by have := BIG.out.1; omega)).mono ?_
      rintro _ w2 ⟨e, f, l, rfl, k2, herr, hok⟩
      clear cr
      have K2 := hide (KP.out.trans k2 (fun x hx => .inr (FR.out x hx).1))
      have PI2 := hide (PI.out.kp k2 (fun hm => (FR.out _ hm).2 rfl))
      have l2 : w.heap.size + 1 < w2.heap.size := by obtain ⟨c, q, _⟩ := PI2.out.row; exact lt_of_block q
      by_cases herr0 : (readW (rs i)).err = 0
      · obtain ⟨bs', fs', vb', vf', ps2, fr2, ln1, ln2, tk1, tk2, prt⟩ := hok herr0
        have hq : ((readW (rs i)).err != 0) = false := by simp [herr0]
        have RD2 := hide (RD.out.step HFL.out herr0 ln1 ln2 tk1 tk2 prt)
        have PS2 := hide ps2
        have FR2 : Hid (∀ x ∈ foot w.heap.size vb' vf', w.heap.size ≤ x ∧ x ≠ w.heap.size + 1) := fun x hx => by
          rcases fr2 x hx with q | q
          · exact FR.out x q
          · obtain ⟨c, b, _⟩ := PI.out.row
            have := lt_of_block b
            omega
        have hpl := RD.out.len
        clear hok k2 ps2 fr2 ln1 ln2 tk1 tk2 prt herr herr0 PS PI RD KP FR BIG HFL
        go_upto_region 11 with fail
        apply wp_region_lit
        iterate 6 go_step
        refine loadAll rfl _ _ rfl (b := w2.heap.size) (c := (pv (e, f, l)).cells) (by rw [blk_alloc, if_pos rfl]; rfl) rfl _ Try.underlying64 rfl infoPart ?_
        iterate 3 go_step
        obtain ⟨c, bc, hcs, hcc⟩ := PI2.out.row
        refine storeMid rfl _ _ _ rfl (b := w.heap.size + 1) (o := i * 9) (c := c) (by rw [blk_alloc, if_neg (by omega)]; exact bc) ?ad rfl (by rw [hcs]; show i * 9 + 9 ≤ n * 9; omega) infoPart (by simp [Value.oneCell']) ?_
        case ad => first | rfl | simp [go_sem]
        intro w9 b9 k9 s9
        have k29 : Kp [w.heap.size + 1] w2 w9 := (((Kp.refl [w.heap.size + 1] w2).alloc _).trans k9 (by simp))
        have PS9 := hide (PS2.out.kp k29 (fun x hx hm => by rw [List.mem_singleton.1 hx] at hm; exact (FR2.out _ hm).2 rfl))
        have PI9 : Hid (PartsI w9 (w.heap.size + 1) n (ps ++ [(e, f, l)])) := PartsI.set (w := w2) (by rw [hpl]; exact b9) hcs (by omega) hcc
        have K9 : Hid (Kp [] w w9) := K2.out.trans k29 (by simp)
        clear b9 k9 s9 k29 bc hcs hcc
        go_wp2
        refine ⟨⟨i + 1, bs', fs', vb', vf', ps ++ [(e, f, l)], _, by go_num, by omega, PS9.out, FR2.out, PI9.out, RD2.out, K9.out⟩, by simp [intOf]; omega⟩
      · have hq : ((readW (rs i)).err != 0) = true := by simp [herr0]
        have ok0 := RD.out.ok
        clear hok herr
        go_wp2
        refine bodyPost_ret (v := .tuple #[.pointer none, .int .i64 (readW (rs i)).err, .int .i64 i, .int .i64 (readW (rs i)).pl]) ?_ rfl ⟨(K2.out.alloc _).toBelow, .inl ⟨i, hin, ok0, herr0, rfl⟩⟩
        simp [results, Try.results20, go_sem]
    · have hin' : ¬ (i : Int) < n := by omega
      have hie : i = n := by omega
      subst hie
      have hpl := RD.out.len
      subst hpl
      go_wp2_with fail
      refine (stTable_code w.heap.size (.slice (some ⟨w.heap.size + 1, 0, none⟩) ps.length ps.length) vb vf bs fs ps wr PS.out (PI.out.rules (by omega)) (by have := BIG.out.1; omega) h6 BIG.out.2.1 BIG.out.2.2).mono ?_
      rintro _ w3 ⟨h3, ⟨Ks, cl, S, tb, gs, rows, accs, vn, va, rfl, te⟩ | ⟨S, rfl, nd, hS, hrch⟩⟩
      · have TE := hide te
        have k3 : Kp [] wr w3 := (Kp.refl [] wr).below h3
        have K3 : Hid (Kp [] w w3) := KP.out.trans k3 (by simp)
        have hcs := clArr_size cl 256
        have hts : (tabArr (clArr cl 256) vn va).size = 258 := tabArr_size hcs _ _
        clear te h3 k3 PS PI KP FR
        dsimp only
        iterate 10 go_step
        refine allocZ rfl _ rfl _ infoTab ?_
        refine storeAll rfl _ _ _ rfl (b := w3.heap.size) (c := tabArr z256 nilS nilS) (e := 46) (by rw [blk_alloc, if_pos rfl]; rfl) rfl rfl (by rw [hts, tabArr_size z256_size]) (by rw [hts]; exact infoTabS) (tabArr_one' (clArr_one _ _) (own_oneCell' TE.out.tab.next) (own_oneCell' TE.out.tab.acc)) ?_
        intro w4 b4 k4 s4
        simp only [Act.put, List.setIfInBounds_toArray, List.set_cons_zero, List.set_cons_succ]
        have k34 : Kp [] w3 w4 := (((Kp.refl [] w3).alloc _).trans k4 (by simp))
        have B4 := hide b4
        have K4 : Hid (Kp [] w w4) := K3.out.trans k34 (by simp)
        have TR4 := hide (TE.out.tabR.kp k34)
        clear b4 k4 s4 k34
        go_upto_region 16 with fail
        apply wp_region_lit
        refine loadAll rfl _ _ rfl B4.out rfl _ Try.underlying46 rfl (by rw [hts]; exact infoTabS) ?_
        simp only [Act.put, List.setIfInBounds_toArray, List.set_cons_zero, List.set_cons_succ]
        go_wp2_with fail
        have pl := TE.out.plain BIG.out.2.1 BIG.out.2.2 h6
        refine (smTable_code vn va (TEnd.T cl rows accs S.length Ks.length) w4 TR4.out pl TE.out.few TE.out.klen TE.out.kpos).mono ?_
        rintro _ w5 ⟨h5, vn', va', U, rfl, tr5, cn, hUN, hUC⟩
        have K5 : Hid (Kp [] w w5) := K4.out.below h5
        have cn' : Canon U (told (fun k => (readW (rs k)).v) ps.length) := { cn with sem := fun x hx => (cn.sem x hx).trans (TE.out.told BIG.out.2.1 BIG.out.2.2 h6 RD.out.rules x hx) }
        have CN := hide cn'
        have TR5 := hide tr5
        have hN' : U.N ≤ 250 := Nat.le_trans hUN TE.out.few
        have hC' : U.C ≤ 256 := Nat.le_trans hUC TE.out.klen
        clear cn cn' tr5 h5 pl
        dsimp only
        go_step
        refine buildLex rfl [(0, .tmp 61)] rfl (tabArr (clArr U.cls 256) vn' va') (fill_lex (clArr_size _ _) _ _) ?_
        refine boxB rfl _ _ rfl (.agg (tabArr (clArr U.cls 256) vn' va')) rfl ?_
        simp only [Act.put, List.setIfInBounds_toArray, List.set_cons_zero, List.set_cons_succ]
        have k6 : Kp [] w5 (w5.alloc (.cells (Value.agg (tabArr (clArr U.cls 256) vn' va')).cells 56 (0, 0))) := (Kp.refl [] w5).alloc _
        have LX : Hid (LexAt (w5.alloc (.cells (Value.agg (tabArr (clArr U.cls 256) vn' va')).cells 56 (0, 0))) w5.heap.size U) := ⟨vn', va', by rw [blk_alloc, if_pos rfl]; rfl, TR5.out.kp k6⟩
        have K6 : Hid (Kp [] w (w5.alloc (.cells (Value.agg (tabArr (clArr U.cls 256) vn' va')).cells 56 (0, 0)))) := K5.out.trans k6 (by simp)
        have l5 : w.heap.size ≤ w5.heap.size := K5.out.size
        clear k6
        generalize (w5.alloc (.cells (Value.agg (tabArr (clArr U.cls 256) vn' va')).cells 56 (0, 0))) = w6 at *
        generalize w5.heap.size = lb at *
        go_wp2
        refine bodyPost_ret (v := .tuple #[.pointer (some ⟨lb, 0, none⟩), .int .i64 0, .int .i64 0, .int .i64 0]) ?_ rfl ⟨K6.out.toBelow, .inr ⟨RD.out.ok, bs, fs, ps, lo, S, RD.out, HFL.out, TE.out.nodup, TE.out.rch, .inl ⟨lb, U, _, _, _, _, rfl, TE.out.few, TE.out.built BIG.out.2.1 BIG.out.2.2 h6, l5, LX.out, CN.out, hN', hC'⟩⟩⟩
        simp [results, Try.results20, go_sem]
      · have K3 : Hid (Kp [] w w3) := KP.out.below h3
        have ND := hide nd
        have RCH := hide hrch
        have hz2 : (tabArr z256 nilS nilS).size = 258 := tabArr_size z256_size _ _
        clear h3 nd hrch PS PI KP FR
        dsimp only
        iterate 10 go_step
        refine allocZ rfl _ rfl _ infoTab ?_
        refine storeAll rfl _ _ _ rfl (b := w3.heap.size) (c := tabArr z256 nilS nilS) (e := 46) (by rw [blk_alloc, if_pos rfl]; rfl) rfl rfl rfl (by rw [hz2]; exact infoTabS) (tabArr_one' z256_one' rfl rfl) ?_
        intro w4 b4 k4 s4
        simp only [Act.put, List.setIfInBounds_toArray, List.set_cons_zero, List.set_cons_succ]
        have K4 : Hid (Kp [] w w4) := K3.out.trans (((Kp.refl [] w3).alloc _).trans k4 (by simp)) (by simp)
        clear b4 k4 s4
        go_wp2
        refine bodyPost_ret (v := .tuple #[.pointer none, .int .i64 7, .int .i64 0, .int .i64 0]) ?_ rfl ⟨K4.out.toBelow, .inr ⟨RD.out.ok, bs, fs, ps, lo, S, RD.out, HFL.out, ND.out, RCH.out, .inr ⟨rfl, hS⟩⟩⟩
        simp [results, Try.results20, go_sem]
end Go.Proofs.Ytbjdkbcfpmeneaa

/- What is proved here: a scope in which the run jumps to several labels. No program is named. -/
namespace Go.Proofs.Ytbjdkbcfpmeneaa
set_option linter.unusedVariables false
set_option linter.unusedSimpArgs false
open Go

/- As Q; by a goto to a label: what holds there. -/
def jumps (J : Nat → Act → World → Prop) (Q : Exit → Act → World → Prop) : Exit → Act → World → Prop
  | .goto l, a, w => J l a w
  | e, a, w => Q e a w

theorem wp_scope_labels {P : Program} {a : Act} {w : World} {Q : Exit → Act → World → Prop} {c : Code} (rest : Nat → Code) (J : Nat → Act → World → Prop) (μ : Nat → Act → World → Nat) (hf : ∀ l a w, J l a w → findLabel c l = some (rest l))
    (first : c.wp P (jumps J Q) a w)
    (pass : ∀ l a w, J l a w → (rest l).wp P (jumps (fun l' a' w' => J l' a' w' ∧ μ l' a' w' < μ l a w) Q) a w) : (Code.scope c).wp P Q a w := by
  intro b k cs
  have hg : ∀ l a w, J l a w → gotoIn l (.inScope c :: k) = some (.code (rest l) :: .inScope c :: k) := fun l a w h => by simp [gotoIn, hf l a w h]
  have key : ∀ n l a w, μ l a w = n → J l a w → ∃ e a' w', Q e a' w' ∧ Arrives P (lone (b.at a (.code (rest l) :: .inScope c :: k)) cs w) b k cs e a' w' := by
    intro n
    induction n using Nat.strongRecOn with
    | _ n ih =>
      intro l a w hn hJ
      obtain ⟨e, a₁, w₁, hq, harr⟩ := pass l a w hJ b (.inScope c :: k) cs
      cases e with
      | normal => exact ⟨.normal, a₁, w₁, hq, Steps.trans harr (.one step_inScope)⟩
      | exit id => exact ⟨.exit id, a₁, w₁, hq, fun k' hk => harr k' (by simp [exitTo, hk])⟩
      | goto l' =>
        obtain ⟨hJ', hlt⟩ := hq
        obtain ⟨e₂, a₂, w₂, hq₂, harr₂⟩ := ih _ (by omega) l' a₁ w₁ rfl hJ'
        exact ⟨e₂, a₂, w₂, hq₂, .of_steps (harr _ (hg l' a₁ w₁ hJ')) harr₂⟩
      | ret => exact ⟨_, a₁, w₁, hq, harr⟩
      | panic ch => exact ⟨_, a₁, w₁, hq, harr⟩
      | outgrown => exact ⟨_, a₁, w₁, hq, harr⟩
  obtain ⟨e, a₁, w₁, hq, harr⟩ := first b (.inScope c :: k) cs
  cases e with
  | normal => exact ⟨.normal, a₁, w₁, hq, .head step_scope (Steps.trans harr (.one step_inScope))⟩
  | exit id => exact ⟨.exit id, a₁, w₁, hq, fun k' hk => .head step_scope (harr k' (by simp [exitTo, hk]))⟩
  | goto l' =>
    have hJ' : J l' a₁ w₁ := hq
    obtain ⟨e₂, a₂, w₂, hq₂, harr₂⟩ := key _ l' a₁ w₁ rfl hJ'
    exact ⟨e₂, a₂, w₂, hq₂, .of_steps (.head step_scope (harr _ (hg l' a₁ w₁ hJ'))) harr₂⟩
  | ret => exact ⟨_, a₁, w₁, hq, .of_steps (.one step_scope) harr⟩
  | panic ch => exact ⟨_, a₁, w₁, hq, .of_steps (.one step_scope) harr⟩
  | outgrown => exact ⟨_, a₁, w₁, hq, .of_steps (.one step_scope) harr⟩
/- The same, where the code behind a label is found as one comes to it. -/
theorem wp_scope_found {P : Program} {a : Act} {w : World} {Q : Exit → Act → World → Prop} {c : Code} (J : Nat → Act → World → Prop) (μ : Nat → Act → World → Nat) (hf : ∀ l a w, J l a w → ∃ r, findLabel c l = some r)
    (first : c.wp P (jumps J Q) a w)
    (pass : ∀ l r a w, J l a w → findLabel c l = some r → r.wp P (jumps (fun l' a' w' => J l' a' w' ∧ μ l' a' w' < μ l a w) Q) a w) : (Code.scope c).wp P Q a w := by
  refine wp_scope_labels (fun l => (findLabel c l).getD c) J μ (fun l a w h => ?_) first (fun l a w h => ?_)
  · obtain ⟨r, e⟩ := hf l a w h
    rw [e]; rfl
  · obtain ⟨r, e⟩ := hf l a w h
    have := pass l r a w h e
    show ((findLabel c l).getD c).wp _ _ _ _
    rw [e]; exact this
end Go.Proofs.Ytbjdkbcfpmeneaa

/- What is proved here: a scope with several labels, in which the run also falls from one label's code into the next one's. No program is named. -/
namespace Go.Proofs.Ytbjdkbcfpmeneaa
set_option linter.unusedVariables false
set_option linter.unusedSimpArgs false
open Go

theorem jumps_mono {J J' : Nat → Act → World → Prop} {Q : Exit → Act → World → Prop} (h : ∀ l a w, J l a w → J' l a w) : ∀ e a w, jumps J Q e a w → jumps J' Q e a w := by
  intro e a w hq
  cases e with
  | goto l => exact h l a w hq
  | _ => exact hq
theorem wp_scope_fall {P : Program} {a : Act} {w : World} {Q : Exit → Act → World → Prop} {c : Code} (J : Nat → Act → World → Prop) (μ : Nat → Act → World → Nat) (ρ : Nat → Nat) (hf : ∀ l a w, J l a w → ∃ x, findLabel c l = some (.seq .skip x))
    (first : (∀ l x a w, J l a w → findLabel c l = some (.seq .skip x) → x.wp P (jumps J Q) a w) → c.wp P (jumps J Q) a w)
    (pass : ∀ l x a w, J l a w → findLabel c l = some (.seq .skip x) → (∀ l' x' a' w', ρ l' < ρ l → J l' a' w' → findLabel c l' = some (.seq .skip x') → μ l' a' w' ≤ μ l a w → x'.wp P (jumps (fun l'' a'' w'' => J l'' a'' w'' ∧ μ l'' a'' w'' < μ l a w) Q) a' w') → x.wp P (jumps (fun l' a' w' => J l' a' w' ∧ μ l' a' w' < μ l a w) Q) a w) : (Code.scope c).wp P Q a w := by
  have key : ∀ n l x a w, ρ l = n → J l a w → findLabel c l = some (.seq .skip x) → x.wp P (jumps (fun l' a' w' => J l' a' w' ∧ μ l' a' w' < μ l a w) Q) a w := by
    intro n
    induction n using Nat.strongRecOn with
    | _ n ih =>
      intro l x a w hn hJ hl
      refine pass l x a w hJ hl (fun l' x' a' w' hr hJ' hl' hm => ?_)
      exact Code.wp_mono (jumps_mono fun l2 a2 w2 h => ⟨h.1, Nat.lt_of_lt_of_le h.2 hm⟩) (ih _ (by omega) l' x' a' w' rfl hJ' hl')
  refine wp_scope_found J μ (fun l a w hJ => ?_) (first fun l x a w hJ hl => Code.wp_mono (jumps_mono fun _ _ _ h => h.1) (key _ l x a w rfl hJ hl)) (fun l r a w hJ hl => ?_)
  · obtain ⟨x, e⟩ := hf l a w hJ
    exact ⟨_, e⟩
  · obtain ⟨x, e⟩ := hf l a w hJ
    rw [e] at hl
    cases hl
    exact wp_seq (wp_skip (key _ l x a w rfl hJ e))
end Go.Proofs.Ytbjdkbcfpmeneaa

/- What is proved here: the mathematics of Scan's loop: tokens so far, the longest so far, along a right table. No program is named. -/
namespace Go.Proofs.Ytbjdkbcfpmeneaa
set_option linter.unusedVariables false
set_option linter.unusedSimpArgs false

/- The tokens up to p are those that a cut begins with. -/
structure CutTo (L : Nat → Lang) (n : Nat) (x : List Nat) (ts : List (Int × Nat × Nat)) (p : Nat) : Prop where
  le : p ≤ x.length
  few : ts.length ≤ p
  cut : ∀ us e, Cut L n x p us e → Cut L n x 0 (ts ++ us) e
theorem CutTo.start (L : Nat → Lang) (n : Nat) (x : List Nat) : CutTo L n x [] 0 := ⟨Nat.zero_le _, Nat.le_refl _, fun _ _ h => h⟩
theorem CutTo.done {L : Nat → Lang} {n : Nat} {x : List Nat} {ts : List (Int × Nat × Nat)} {p : Nat} (h : CutTo L n x ts p) (hb : (best L n (x.drop p) (x.length - p)).1 = -1) : Cut L n x 0 ts p := by
  have := h.cut [] p (cut_best h.le hb)
  rwa [List.append_nil] at this
theorem best_pos {L : Nat → Lang} {n : Nat} {x : List Nat} : ∀ m, (best L n x m).1 ≠ -1 → 0 < (best L n x m).2 := by
  intro m
  induction m with
  | zero => intro h; exact absurd rfl h
  | succ m ih =>
    intro h
    rw [best] at h ⊢
    by_cases e : firstR L n (x.take (m + 1)) ≠ -1
    · rw [if_pos e]; exact Nat.succ_pos _
    · rw [if_neg e] at h ⊢; exact ih h
theorem CutTo.token {L : Nat → Lang} {n : Nat} {x : List Nat} {ts : List (Int × Nat × Nat)} {p : Nat} (h : CutTo L n x ts p) {r : Int} {k : Nat} (hb : best L n (x.drop p) (x.length - p) = (r, k)) (hr : r ≠ -1) : CutTo L n x (ts ++ [(r, p, p + k)]) (p + k) ∧ 0 < k := by
  have hk := (best_spec L n (x.drop p) (x.length - p)).2.1
  have hp := best_pos (L := L) (n := n) (x := x.drop p) (x.length - p) (by rw [hb]; exact hr)
  rw [hb] at hk hp
  have hk' : k ≤ x.length - p := hk
  refine ⟨⟨by have := h.le; omega, by have := h.few; have hp' : 0 < k := hp; simp; omega, fun us e hc => ?_⟩, hp⟩
  rw [List.append_assoc]
  exact h.cut _ _ (cut_cons h.le hb hr hc)

/- Within a token: the state, and the longest so far. -/
structure Along (L : Nat → Lang) (n : Nat) (cls : Nat → Nat) (nx : Nat → Nat → Int) (x : List Nat) (p m : Nat) (s : Int) (r : Int) (k : Nat) : Prop where
  st : walkT cls nx ((x.drop p).take m) = s
  ne : s ≠ -1
  le : p + m ≤ x.length
  bst : best L n (x.drop p) m = (r, k)
theorem Along.start (L : Nat → Lang) (n : Nat) (cls : Nat → Nat) (nx : Nat → Nat → Int) {x : List Nat} {p : Nat} (hp : p ≤ x.length) : Along L n cls nx x p 0 0 (-1) 0 := ⟨rfl, by omega, by omega, rfl⟩
theorem Along.full {L : Nat → Lang} {n : Nat} {cls : Nat → Nat} {nx : Nat → Nat → Int} {x : List Nat} {p m : Nat} {s r : Int} {k : Nat} (h : Along L n cls nx x p m s r k) (hm : p + m = x.length) : best L n (x.drop p) (x.length - p) = (r, k) := by
  rw [← h.bst]; congr 1; omega
theorem take_more {x : List Nat} {p m : Nat} (h : p + m < x.length) : (x.drop p).take (m + 1) = (x.drop p).take m ++ [x.getD (p + m) 0] := by
  rw [List.take_add_one, List.getElem?_drop, List.getElem?_eq_getElem h, List.getD_eq_getElem?_getD, List.getElem?_eq_getElem h]
  rfl
theorem Along.next {L : Nat → Lang} {n : Nat} {cls : Nat → Nat} {nx : Nat → Nat → Int} {x : List Nat} {p m : Nat} {s r : Int} {k : Nat} (h : Along L n cls nx x p m s r k) (hm : p + m < x.length) : walkT cls nx ((x.drop p).take (m + 1)) = nx s.toNat (cls (x.getD (p + m) 0)) := by
  rw [take_more hm, walkT_snoc, h.st]
  unfold stepT
  rw [if_neg h.ne]
theorem Along.dead {L : Nat → Lang} {n : Nat} {cls : Nat → Nat} {nx : Nat → Nat → Int} {ac : Nat → Int} {N C : Nat} {x : List Nat} {p m : Nat} {s r : Int} {k : Nat} (h : Along L n cls nx x p m s r k) (ok : TableOk L n cls nx ac N C) (hx : ∀ c ∈ x, c < 256) (hm : p + m < x.length) (hd : nx s.toNat (cls (x.getD (p + m) 0)) = -1) : best L n (x.drop p) (x.length - p) = (r, k) := by
  have := ok.best_end (x.drop p) (fun c hc => hx c (List.mem_of_mem_drop hc)) m (by rw [List.length_drop]; omega) (by rw [h.next hm, hd])
  rw [List.length_drop] at this
  rw [this, h.bst]
theorem Along.step {L : Nat → Lang} {n : Nat} {cls : Nat → Nat} {nx : Nat → Nat → Int} {ac : Nat → Int} {N C : Nat} {x : List Nat} {p m : Nat} {s r : Int} {k : Nat} (h : Along L n cls nx x p m s r k) (ok : TableOk L n cls nx ac N C) (hx : ∀ c ∈ x, c < 256) (hm : p + m < x.length) {t : Int} (ht : nx s.toNat (cls (x.getD (p + m) 0)) = t) (hd : t ≠ -1) :
    (ac t.toNat ≠ -1 → Along L n cls nx x p (m + 1) t (ac t.toNat) (m + 1)) ∧ (ac t.toNat = -1 → Along L n cls nx x p (m + 1) t r k) := by
  have hn := h.next hm
  rw [ht] at hn
  have := ok.best_step (x.drop p) (fun c hc => hx c (List.mem_of_mem_drop hc)) m (by rw [List.length_drop]; omega) t hn hd
  refine ⟨fun e => ⟨hn, hd, by omega, by rw [this, if_pos e]⟩, fun e => ⟨hn, hd, by omega, by rw [this, if_neg (by simp [e]), h.bst]⟩⟩
/- Where the state lies. -/
theorem Along.lt {L : Nat → Lang} {n : Nat} {cls : Nat → Nat} {nx : Nat → Nat → Int} {ac : Nat → Int} {N C : Nat} {x : List Nat} {p m : Nat} {s r : Int} {k : Nat} (h : Along L n cls nx x p m s r k) (ok : TableOk L n cls nx ac N C) (hx : ∀ c ∈ x, c < 256) : 0 ≤ s ∧ s < N := by
  have := ok.at ((x.drop p).take m) (fun c hc => hx c (List.mem_of_mem_drop (List.mem_of_mem_take hc)))
  rw [h.st] at this
  have := h.ne
  omega
end Go.Proofs.Ytbjdkbcfpmeneaa
