/- What is proved here: what Scan does: it cuts a text as the rules say. -/
import Derived.Test.YtbjdkbcfpmeneaaRows
import Derived.Test.YtbjdkbcfpmeneaaM21
import Derived.Test.YtbjdkbcfpmeneaaM37
import Derived.Test.YtbjdkbcfpmeneaaM38
import Derived.BigQuiet
import Derived.Test.YtbjdkbcfpmeneaaM34
import Derived.Test.YtbjdkbcfpmeneaaM17
namespace Go.Proofs.Ytbjdkbcfpmeneaa
set_option linter.unusedVariables false
set_option linter.unusedSimpArgs false
open Go.RowKit

theorem infoTok : (Try.prog.info? 31).map (fun i => (i.zero, i.size, i.bytes)) = some (some (.agg #[.int .i64 0, .int .i64 0, .int .i64 0]), 3, 24) := by kernel_rfl
def tokC (t : Int × Nat × Nat) : List Value := [.int .i64 t.1, .int .i64 t.2.1, .int .i64 t.2.2]
def tokL (ts : List (Int × Nat × Nat)) : List Value := ts.flatMap tokC
/- What is known at a label: the tokens so far; the token under way. -/
structure ScW (w : World) (B : Nat) (vt : Value) (ts : List (Int × Nat × Nat)) (r : Int) (f t : Nat) (w' : World) : Prop where
  kp : Kp [] w w'
  own : w'.ownsRow 0 31 3 vt ts.length (tokL ts)
  fr : ∀ g, vt.ownBlock = some g → w.heap.size ≤ g ∧ g ≠ B
  blk : w'.heap[B]? = some (.cells #[.int .i64 r, .int .i64 f, .int .i64 t] 31 (0, 0))
def ScJ (L : Nat → Lang) (n : Nat) (U : Tab) (lb : Nat) (s : ByteArray) (B : Nat) (w : World) (l : Nat) (a : Act) (w' : World) : Prop :=
  ∃ (vt s7 : Value) (at' : Nat) (ts : List (Int × Nat × Nat)) (r : Int) (f k : Nat) (u4 u5 u10 u11 u12 u13 u14 u15 u16 u17 u18 u19 u20 u21 u22 u23 u24 u25 u26 u27 u28 u29 u30 u31 u32 u33 u34 u35 u36 u37 u38 u39 u40 u41 u42 u43 u44 u45 u46 u47 u48 u49 u50 u51 u52 u53 u54 u55 u56 u57 u58 u59 u60 u61 u62 u63 u64 u65 u66 : Value), a = ⟨#[.pointer (some ⟨lb, 0, none⟩), .string s, undef, undef, u4, u5, vt, s7, .int .i64 at', .pointer (some ⟨B, 0, none⟩), u10, u11, u12, u13, u14, u15, u16, u17, u18, u19, u20, u21, u22, u23, u24, u25, u26, u27, u28, u29, u30, u31, u32, u33, u34, u35, u36, u37, u38, u39, u40, u41, u42, u43, u44, u45, u46, u47, u48, u49, u50, u51, u52, u53, u54, u55, u56, u57, u58, u59, u60, u61, u62, u63, u64, u65, u66], []⟩ ∧ ScW w B vt ts r f (f + k) w' ∧
    ((l = 0 ∧ CutTo L n (tx s) ts (f + k)) ∨
     (l = 2 ∧ CutTo L n (tx s) ts f ∧ ∃ (m : Nat) (st : Int), s7 = .int .i64 st ∧ at' = f + m ∧ Along L n U.cls U.nx (tx s) f m st r k) ∨
     (l = 1 ∧ CutTo L n (tx s) ts f ∧ best L n ((tx s).drop f) ((tx s).length - f) = (r, k)))
/- How much is left to do. -/
def scM (len B : Nat) (l : Nat) (a : Act) (w' : World) : Nat :=
  let f := (intOf ((w'.cell? ⟨B, 1, none⟩).getD undef)).toNat
  let t := (intOf ((w'.cell? ⟨B, 2, none⟩).getD undef)).toNat
  if l = 0 then (len - t) * (2 * len + 10) + (2 * len + 9) else if l = 2 then (len - f) * (2 * len + 10) + (len - (intOf (a.tmps.getD 8 undef)).toNat) + 2 else (len - f) * (2 * len + 10) + 1


theorem ScW.drewN {w w' : World} {B : Nat} {vt : Value} {ts : List (Int × Nat × Nat)} {r : Int} {f t : Nat} (h : ScW w B vt ts r f t w') (n : Nat) : ScW w B vt ts r f t (w'.drewN n) :=
  ⟨h.kp.drewN n, owns_kp h.own ((Kp.refl [] w').drewN n) (by simp), h.fr, ((Kp.refl [] w').drewN n).keep h.blk (by simp)⟩
theorem scM0 {len B : Nat} {W : World} {r : Int} {f t : Nat} (h : W.heap[B]? = some (.cells #[.int .i64 r, .int .i64 f, .int .i64 t] 31 (0, 0))) (a : Act) : scM len B 0 a W = (len - t) * (2 * len + 10) + (2 * len + 9) := by
  have e : W.cell? ⟨B, 2, none⟩ = some (.int .i64 t) := by rw [cell_of_block h]; rfl
  simp [scM, e, intOf]
theorem scM1 {len B : Nat} {W : World} {r : Int} {f t : Nat} (h : W.heap[B]? = some (.cells #[.int .i64 r, .int .i64 f, .int .i64 t] 31 (0, 0))) (a : Act) : scM len B 1 a W = (len - f) * (2 * len + 10) + 1 := by
  have e : W.cell? ⟨B, 1, none⟩ = some (.int .i64 f) := by rw [cell_of_block h]; rfl
  simp [scM, e, intOf]
theorem scM2 {len B : Nat} {W : World} {r : Int} {f t : Nat} (h : W.heap[B]? = some (.cells #[.int .i64 r, .int .i64 f, .int .i64 t] 31 (0, 0))) (a : Act) : scM len B 2 a W = (len - f) * (2 * len + 10) + (len - (intOf (a.tmps.getD 8 undef)).toNat) + 2 := by
  have e : W.cell? ⟨B, 1, none⟩ = some (.int .i64 f) := by rw [cell_of_block h]; rfl
  simp [scM, e, intOf]
theorem infoTok1 : (Try.prog.info? 31).map (·.size) = some 3 := by kernel_rfl
theorem infoTokZ : (Try.prog.info? 31).map (fun i => i.zero) = some (some (.agg #[.int .i64 0, .int .i64 0, .int .i64 0])) := by kernel_rfl

set_option maxRecDepth 100000 in
set_option maxHeartbeats 4000000 in
theorem scan_code (lb : Nat) (s : ByteArray) (U : Tab) (L : Nat → Lang) (n : Nat) (w : World) (hL : ∃ vn va, w.heap[lb]? = some (.cells (tabArr (clArr U.cls 256) vn va) 56 (0, 0)) ∧ TabR w vn va U) (hok : TableOk L n U.cls U.nx U.ac U.N U.C) (hN : U.N ≤ 250) (hC : U.C ≤ 256) (hs : s.size ≤ 100000) :
    Calls Try.prog 12 #[.pointer (some ⟨lb, 0, none⟩), .string s] w fun e w' => Below w.heap.size w w' ∧ ∃ (ts : List (Int × Nat × Nat)) (vt : Value) (en : Nat), e = .returned (.tuple #[vt, .int .i64 en]) ∧ w'.ownsRow 0 31 3 vt ts.length (tokL ts) ∧ Cut L n (tx s) 0 ts en ∧ ∀ g, vt.ownBlock = some g → w.heap.size ≤ g := by
  obtain ⟨vn, va, bL, tr⟩ := hL
  have BL := hide bL
  have TR := hide tr
  have OK := hide hok
  clear bL tr hok
  go_enter Try.func12, Try.ntmps12
  go_wp2
  refine wp_scope_fall (ScJ L n U lb s w.heap.size w) (scM s.size w.heap.size) (fun l => if l = 0 then 2 else if l = 2 then 1 else 0) ?_ ?_ ?_
  · rintro l a w' ⟨vt, s7, at', ts, r, f, k, u4, u5, u10, u11, u12, u13, u14, u15, u16, u17, u18, u19, u20, u21, u22, u23, u24, u25, u26, u27, u28, u29, u30, u31, u32, u33, u34, u35, u36, u37, u38, u39, u40, u41, u42, u43, u44, u45, u46, u47, u48, u49, u50, u51, u52, u53, u54, u55, u56, u57, u58, u59, u60, u61, u62, u63, u64, u65, u66, rfl, _, h⟩
    rcases h with ⟨rfl, _⟩ | ⟨rfl, _⟩ | ⟨rfl, _⟩
    · exact ⟨_, rfl⟩
    · exact ⟨_, rfl⟩
    · exact ⟨_, rfl⟩
  · intro FALL
    have FA := hide FALL
    clear FALL
    go_upto_region 3 with fail
    apply wp_region_lit
    refine allocZ rfl _ rfl _ infoTokZ ?_
    have sw : ScW w w.heap.size (.slice none 0 0) [] 0 0 (0 + 0) (w.alloc (.cells #[.int .i64 0, .int .i64 0, .int .i64 0] 31 (0, 0))) := ⟨(Kp.refl [] w).alloc _, World.ownsRow_nil _ _ _ _, fun g e => by simp [Value.ownBlock] at e, by rw [blk_alloc, if_pos rfl]; rfl⟩
    have SW := hide sw
    clear sw
    go_wp2
    go_step3
    rename_i HK
    refine HK _ _ ?_
    clear HK
    refine FA.out 0 _ _ _ ⟨_, _, _, [], 0, 0, 0, _, _, _, _, _, _, _, _, _, _, _, _, _, _, _, _, _, _, _, _, _, _, _, _, _, _, _, _, _, _, _, _, _, _, _, _, _, _, _, _, _, _, _, _, _, _, _, _, _, _, _, _, _, _, _, _, _, _, _, rfl, SW.out, .inl ⟨rfl, CutTo.start _ _ _⟩⟩ rfl
  · rintro l c a w' ⟨vt, s7, at', ts, r, f, k, u4, u5, u10, u11, u12, u13, u14, u15, u16, u17, u18, u19, u20, u21, u22, u23, u24, u25, u26, u27, u28, u29, u30, u31, u32, u33, u34, u35, u36, u37, u38, u39, u40, u41, u42, u43, u44, u45, u46, u47, u48, u49, u50, u51, u52, u53, u54, u55, u56, u57, u58, u59, u60, u61, u62, u63, u64, u65, u66, rfl, sw, h⟩ hf FALL
    have c0 : w'.cell? ⟨w.heap.size, 0, none⟩ = some (.int .i64 r) := by rw [cell_of_block sw.blk]; rfl
    have c1 : w'.cell? ⟨w.heap.size, 1, none⟩ = some (.int .i64 f) := by rw [cell_of_block sw.blk]; rfl
    have c2 : w'.cell? ⟨w.heap.size, 2, none⟩ = some (.int .i64 (f + k : Nat)) := by rw [cell_of_block sw.blk]; rfl
    have SW := hide sw
    clear sw
    rcases h with ⟨rfl, h0⟩ | ⟨rfl, h1, m, st, rfl, rfl, al⟩ | ⟨rfl, h2, hb⟩
    · cases hf
      have H0 := hide h0
      have FA := hide FALL
      have hle := h0.le
      have htx : (tx s).length = s.size := by simp [tx]
      clear h0 FALL
      generalize hq : f + k = q at *
      go_upto_region 4 with fail
      go_quiet (fail)
      go_upto_region 5 with fail
      apply wp_region_lit
      iterate 9 go_step
      refine storeAll rfl _ _ _ rfl (SW.out.drewN nq).blk rfl rfl rfl infoTok1 (by simp [Value.oneCell']) ?_
      intro w3 b3 k3 _
      have sw3 : ScW w w.heap.size vt ts (-1) q (q + 0) w3 := ⟨(SW.out.kp.drewN nq).trans k3 (by simp), owns_kp (SW.out.drewN nq).own k3 (fun g e hm => (SW.out.fr g e).2 (List.mem_singleton.1 hm)), SW.out.fr, b3⟩
      have SW3 := hide sw3
      clear b3 k3 sw3 c0 c1 c2
      go_wp2
      go_step3
      rename_i HK
      refine HK _ _ ?_
      clear HK
      refine FA.out 2 _ _ _ (by decide) ⟨_, _, _, ts, -1, q, 0, _, _, _, _, _, _, _, _, _, _, _, _, _, _, _, _, _, _, _, _, _, _, _, _, _, _, _, _, _, _, _, _, _, _, _, _, _, _, _, _, _, _, _, _, _, _, _, _, _, _, _, _, _, _, _, _, _, _, _, rfl, SW3.out, .inr (.inl ⟨rfl, H0.out, 0, 0, rfl, rfl, Along.start _ _ _ _ hle⟩)⟩ rfl ?_
      rw [scM0 SW.out.blk, scM2 SW3.out.blk]
      simp [intOf]
      omega
    · cases hf
      have H1 := hide h1
      have AL := hide al
      have hle := al.le
      have htx : (tx s).length = s.size := by simp [tx]
      have hst := al.lt OK.out (fun c hc => by simp [tx] at hc; obtain ⟨y, _, rfl⟩ := hc; exact y.toNat_lt)
      clear h1 al
      by_cases hat : f + m = s.size
      · have hat' : (((f + m : Nat) : Int) == (s.size : Int)) = true := by simp [hat]
        have hold : ∀ a, scM s.size w.heap.size 1 a w' = (s.size - f) * (2 * s.size + 10) + 1 := fun a => by simp [scM, c1, intOf]
        have hnew : ∀ a : Act, (s.size - f) * (2 * s.size + 10) + 1 < scM s.size w.heap.size 2 a w' := fun a => by simp [scM, c1, intOf]; omega
        have HO := hide hold
        have HN := hide hnew
        clear hold hnew
        go_wp2
        go_step3
        refine ⟨⟨_, _, _, ts, r, f, k, _, _, _, _, _, _, _, _, _, _, _, _, _, _, _, _, _, _, _, _, _, _, _, _, _, _, _, _, _, _, _, _, _, _, _, _, _, _, _, _, _, _, _, _, _, _, _, _, _, _, _, _, _, _, _, _, _, _, _, rfl, SW.out, .inr (.inr ⟨rfl, H1.out, AL.out.full (by omega)⟩)⟩, ?_⟩
        rw [HO.out]
        exact HN.out _
      · have hlt : f + m < s.size := by omega
        have hx256 : ∀ c ∈ tx s, c < 256 := fun c hc => by simp [tx] at hc; obtain ⟨y, _, rfl⟩ := hc; exact y.toNat_lt
        obtain ⟨⟨gn, cap, rfl, lgn, hrow⟩, ⟨ga, capa, rfl, lga, hacc⟩⟩ := TR.out
        obtain ⟨hst0, hstN⟩ := hst
        obtain ⟨sn, rfl⟩ : ∃ sn : Nat, st = sn := ⟨st.toNat, by omega⟩
        obtain ⟨gr, cr, hr1, hr2, hr3⟩ := hrow sn (by omega)
        have kp := SW.out.kp
        have hb8 : gt s (f + m) < 256 := gt_lt s (f + m)
        have hg := gt_at s (f + m) hlt
        have hgx : (tx s).getD (f + m) 0 = gt s (f + m) := by
          have := congrArg List.head? (tx_drop s (f + m) hlt)
          rw [List.head?_drop] at this
          rw [List.getD_eq_getElem?_getD, this]; rfl
        have bl' := kp.keep BL.out (by simp)
        have e256 : w'.cell? ⟨lb, 256, none⟩ = some (.slice (some ⟨gn, 0, none⟩) U.N cap) := by rw [cell_of_block bl', tabArr_256 (clArr_size _ _)]
        have e257 : w'.cell? ⟨lb, 257, none⟩ = some (.slice (some ⟨ga, 0, none⟩) U.N capa) := by rw [cell_of_block bl', tabArr_257 (clArr_size _ _)]
        have ecl : w'.cell? ⟨lb, gt s (f + m), none⟩ = some (.int .i64 (U.cls (gt s (f + m)))) := by rw [cell_of_block bl', tabArr_lo (clArr_size _ _) _ _ hb8, clArr_get _ _ _ hb8, if_pos hb8]
        have hcl := OK.out.cl _ hb8
        have llb' : lb < w'.heap.size := lt_of_block bl'
        have lga' : ga < w'.heap.size := Nat.lt_of_lt_of_le lga kp.size
        have erow : w'.cell? ⟨gn, sn, none⟩ = some (.slice (some ⟨gr, 0, none⟩) U.C cr) := by rw [kp.cell lgn]; exact hr1
        have enx : w'.cell? ⟨gr, U.cls (gt s (f + m)), none⟩ = some (.int .i64 (U.nx sn (U.cls (gt s (f + m))))) := by rw [kp.cell hr2]; exact hr3 _ hcl
        have hrng := OK.out.rng sn _ (by omega) hcl
        have hdead := fun (h : U.nx sn (U.cls (gt s (f + m))) = -1) => AL.out.dead OK.out hx256 (by omega) (by rw [hgx, Int.toNat_natCast]; exact h)
        have hstep := fun (h : U.nx sn (U.cls (gt s (f + m))) ≠ -1) => AL.out.step OK.out hx256 (by omega) (t := U.nx sn (U.cls (gt s (f + m)))) (by rw [hgx, Int.toNat_natCast]) h
        have HD := hide hdead
        have HS := hide hstep
        have hac : ∀ i, i < U.N → w'.cell? ⟨ga, i, none⟩ = some (.int .i64 (U.ac i)) := fun i hi => by rw [kp.cell lga]; exact hacc i hi
        have HAC := hide hac
        clear hgx
        generalize U.nx sn (U.cls (gt s (f + m))) = t at *
        generalize U.cls (gt s (f + m)) = cl at *
        rw [hg] at ecl hb8
        have hb8' : ((s[f + m].toNat : Nat) : Int) < 256 := by omega
        clear hrow hr1 hr2 hr3 hacc kp bl' hdead hstep hac
        have hsn : ((sn : Nat) : Int) < U.N := by omega
        have hcl' : (cl : Int) < U.C := by omega
        generalize hq : f + m = q at *
        have hq' : (q : Int) < s.size := by omega
        have hat' : ((q : Int) == (s.size : Int)) = false := by simp; omega
        go_upto_region 7 with fail
        go_quiet (fail)
        have sw4 := SW.out.drewN nq
        have hW257 : (w'.drewN nq).cell? ⟨lb, 257, none⟩ = some (.slice (some ⟨ga, 0, none⟩) U.N capa) := (((Kp.refl [] w').drewN nq).cell llb').trans e257
        have hWac : ∀ i, i < U.N → (w'.drewN nq).cell? ⟨ga, i, none⟩ = some (.int .i64 (U.ac i)) := fun i hi => (((Kp.refl [] w').drewN nq).cell lga').trans (HAC.out i hi)
        generalize w'.drewN nq = W at *
        have SW4 := hide sw4
        have HWA := hide hWac
        have hw1 : IntKind.i64.wrap ((q : Int) + 1) = ((q + 1 : Nat) : Int) := by simp [IntKind.wrap, IntKind.bits, IntKind.signed]; omega
        have hH : ∀ a : Act, scM s.size w.heap.size 2 a w' = (s.size - f) * (2 * s.size + 10) + (s.size - (intOf (a.tmps.getD 8 undef)).toNat) + 2 := fun a => scM2 SW.out.blk a
        have HH := hide hH
        clear hH sw4 hWac e256 e257 ecl erow enx hb8 hb8' c0 c1 c2 HAC hat' hsn hcl' hg
        by_cases ht : t = -1
        · have ht' : (t == -1) = true := by simp [ht]
          have HT := hide (HD.out ht)
          subst ht
          go_wp2
          go_step3
          refine ⟨⟨_, _, _, ts, r, f, k, _, _, _, _, _, _, _, _, _, _, _, _, _, _, _, _, _, _, _, _, _, _, _, _, _, _, _, _, _, _, _, _, _, _, _, _, _, _, _, _, _, _, _, _, _, _, _, _, _, _, _, _, _, _, _, _, _, _, _, rfl, SW4.out, .inr (.inr ⟨rfl, H1.out, HT.out⟩)⟩, ?_⟩
          rw [scM1 SW4.out.blk, HH.out]
          omega
        · obtain ⟨tn, rfl⟩ : ∃ tn : Nat, t = tn := ⟨t.toNat, by omega⟩
          have htN : (tn : Int) < U.N := by omega
          have ht' : ((tn : Int) == -1) = false := by simp
          have eac := HWA.out tn (by omega)
          obtain ⟨hs1, hs2⟩ := HS.out ht
          rw [Int.toNat_natCast] at hs1 hs2
          have hbW := SW4.out.blk
          have d0 : W.cell? ⟨w.heap.size, 0, none⟩ = some (.int .i64 r) := by rw [cell_of_block hbW]; rfl
          have d2 : W.cell? ⟨w.heap.size, 2, none⟩ = some (.int .i64 (f + k : Nat)) := by rw [cell_of_block hbW]; rfl
          have z0 := frozen_of_block hbW 0
          have z2 := frozen_of_block hbW 2
          have HS1 := hide hs1
          have HS2 := hide hs2
          have HB := hide hbW
          clear hs1 hs2 hbW HS HD ht
          generalize U.ac tn = ac at *
          by_cases hac : ac = -1
          · have hac' : (ac != -1) = false := by simp [hac]
            have AL5 := hide (HS2.out hac)
            clear HS1 HS2
            go_wp2
            go_step3
            refine ⟨⟨_, _, q + 1, ts, r, f, k, _, _, _, _, _, _, _, _, _, _, _, _, _, _, _, _, _, _, _, _, _, _, _, _, _, _, _, _, _, _, _, _, _, _, _, _, _, _, _, _, _, _, _, _, _, _, _, _, _, _, _, _, _, _, _, _, _, _, _, rfl, SW4.out, .inr (.inl ⟨rfl, H1.out, m + 1, (tn : Int), rfl, by omega, AL5.out⟩)⟩, ?_⟩
            rw [scM2 SW4.out.blk, HH.out]
            simp [intOf]
            omega
          · have hac' : (ac != -1) = true := by simp [hac]
            have AL5 := hide (HS1.out hac)
            clear HS1 HS2
            go_wp2
            go_step3
            have sw5 : ScW w w.heap.size vt ts ac f (f + (m + 1)) ((W.setCell ⟨w.heap.size, 0, none⟩ (.int .i64 ac)).setCell ⟨w.heap.size, 2, none⟩ (.int .i64 (q + 1 : Nat))) := by
              have kk : Kp [w.heap.size] W ((W.setCell ⟨w.heap.size, 0, none⟩ (.int .i64 ac)).setCell ⟨w.heap.size, 2, none⟩ (.int .i64 (q + 1 : Nat))) := ((Kp.refl [w.heap.size] W).set (.inl (by simp)) _ _).set (.inl (by simp)) _ _
              refine ⟨SW4.out.kp.trans kk (by simp), owns_kp SW4.out.own kk (fun g e hm => (SW4.out.fr g e).2 (List.mem_singleton.1 hm)), SW4.out.fr, ?_⟩
              have e5 : f + (m + 1) = q + 1 := by omega
              rw [e5]
              simp only [blk_set, HB.out]
              simp [setObj_cells]
            have SW5 := hide sw5
            clear sw5
            refine ⟨⟨_, _, q + 1, ts, ac, f, m + 1, _, _, _, _, _, _, _, _, _, _, _, _, _, _, _, _, _, _, _, _, _, _, _, _, _, _, _, _, _, _, _, _, _, _, _, _, _, _, _, _, _, _, _, _, _, _, _, _, _, _, _, _, _, _, _, _, _, _, _, rfl, SW5.out, .inr (.inl ⟨rfl, H1.out, m + 1, (tn : Int), rfl, by omega, AL5.out⟩)⟩, ?_⟩
            rw [HH.out]
            refine Nat.lt_of_le_of_lt (Nat.le_of_eq (scM2 SW5.out.blk _)) ?_
            simp [intOf]
            omega
    · cases hf
      have H2 := hide h2
      have HB := hide hb
      clear h2 hb
      by_cases hr : r = -1
      · subst hr
        go_wp2
        go_quiet (fail)
        go_wp2
        simp only [jumps]
        refine bodyPost_ret (v := .tuple #[vt, .int .i64 f]) ?_ rfl ⟨(SW.out.kp.drewN nq).toBelow, ts, vt, f, rfl, owns_kp SW.out.own ((Kp.refl [] w').drewN nq) (by simp), H2.out.done (by rw [HB.out]), fun g e => (SW.out.fr g e).1⟩
        simp [results, Try.results12, go_sem]
      · have hr' : (r == -1) = false := by simp [hr]
        have HR := hide hr
        clear hr
        go_upto_region 15 with fail
        apply wp_region_lit
        obtain ⟨i0, hi0, hz0, hz1, hz2⟩ := info_parts infoTok
        have hfew := H2.out.few
        have hle := H2.out.le
        have htx : (tx s).length = s.size := by simp [tx]
        iterate 9 go_step
        refine appendL rfl _ _ _ rfl 31 i0 _ 3 24 Try.underlying27 hi0 hz0 hz1 hz2 rfl (by omega) vt ts.length (tokL ts) rfl (SW.out.own.alloc _) ⟨w'.heap.size, 0, none⟩ 1 1 (tokC (r, f, f + k)) rfl rfl (World.news_of_block (cs := #[.int .i64 r, .int .i64 f, .int .i64 (f + k : Nat)]) (t := 31) (fr := (0, 0)) (heap_alloc_new w' _)) (by simp [tokC, Value.oneCell']) (by omega) (by unfold maxLen; omega) (by omega) (w'.heap.size + 1) (by simp) ?_
        intro g1 cap1 w3 own1 grow1 at1 lt1
        simp only [Act.put, List.setIfInBounds_toArray, List.set_cons_zero, List.set_cons_succ]
        have lB := lt_of_block SW.out.blk
        have kA : Kp [] w w3 := ((SW.out.kp.alloc _).grew grow1 (fun g e => .inr (SW.out.fr g e).1))
        have bB : w3.heap[w.heap.size]? = some (.cells #[.int .i64 r, .int .i64 f, .int .i64 (f + k : Nat)] 31 (0, 0)) := gkeep grow1 (b := w.heap.size) (by rw [blk_alloc, if_neg (Nat.ne_of_lt lB)]; exact SW.out.blk) (fun e => (SW.out.fr _ e).2 rfl)
        have hfr : ∀ g, (Value.slice (some ⟨g1, 0, none⟩) (ts.length + 1) cap1).ownBlock = some g → w.heap.size ≤ g ∧ g ≠ w.heap.size := fun g e => by
          simp [Value.ownBlock] at e
          subst e
          rcases at1 with q | q
          · exact SW.out.fr _ q
          · omega
        obtain ⟨ct, kpos⟩ := H2.out.token HB.out HR.out
        have sw3 : ScW w w.heap.size (.slice (some ⟨g1, 0, none⟩) (ts.length + 1) cap1) (ts ++ [(r, f, f + k)]) r f (f + k) w3 := ⟨kA, by rw [List.length_append, tokL, List.flatMap_append]; simpa [tokL] using own1, hfr, bB⟩
        have hmes : scM s.size w.heap.size 0 ⟨#[], []⟩ w3 < (s.size - f) * (2 * s.size + 10) + 1 := by
          have e2 : w3.cell? ⟨w.heap.size, 2, none⟩ = some (.int .i64 (f + k : Nat)) := by rw [cell_of_block bB]; rfl
          simp only [scM, e2, if_true, Option.getD_some, intOf, Int.toNat_natCast]
          have hk := ct.le
          rw [htx] at hk
          have := Nat.mul_le_mul_right (2 * s.size + 10) (show s.size - (f + k) + 1 ≤ s.size - f by omega)
          rw [Nat.add_mul] at this
          omega
        have hold : ∀ a, scM s.size w.heap.size 1 a w' = (s.size - f) * (2 * s.size + 10) + 1 := fun a => by
          simp [scM, c1, intOf]
        have SW3 := hide sw3
        have CT := hide ct
        have HM := hide hmes
        have HO := hide hold
        clear sw3 ct hmes hold kA bB hfr own1 grow1 at1 lt1 c0 c1 c2 hi0 hz0 hz1 hz2
        go_wp2
        go_step3
        refine ⟨⟨_, _, _, ts ++ [(r, f, f + k)], r, f, k, _, _, _, _, _, _, _, _, _, _, _, _, _, _, _, _, _, _, _, _, _, _, _, _, _, _, _, _, _, _, _, _, _, _, _, _, _, _, _, _, _, _, _, _, _, _, _, _, _, _, _, _, _, _, _, _, _, _, _, rfl, SW3.out, .inl ⟨rfl, CT.out⟩⟩, ?_⟩
        rw [HO.out]
        exact HM.out
end Go.Proofs.Ytbjdkbcfpmeneaa

/- What is proved here: how the texts of awake are read and cut. No program is named. -/
namespace Go.Proofs.Ytbjdkbcfpmeneaa
set_option linter.unusedVariables false
set_option linter.unusedSimpArgs false

abbrev wAB : ByteArray := { data := #[97, 98, 63] }
abbrev wB : ByteArray := { data := #[98, 43] }
theorem rd_ab : readW wAB = ⟨0, 0, 3, lCat (lCat lEps (lSet (1 <<< 97))) (lOpt (lSet (1 <<< 98)))⟩ := by rfl
theorem rd_b : readW wB = ⟨0, 0, 2, lCat lEps (lPlus (lSet (1 <<< 98)))⟩ := by rfl
theorem rd_open : (readW { data := #[40, 97] }).err = 4 ∧ (readW { data := #[40, 97] }).pl = 2 := by constructor <;> rfl

theorem lset_one (k : Nat) (x : List Nat) : lSet (1 <<< k) x ↔ x = [k] := by
  unfold lSet
  constructor
  · rintro ⟨c, rfl, h⟩
    rw [Nat.shiftLeft_eq, Nat.one_mul, Nat.testBit_two_pow] at h
    rw [of_decide_eq_true h]
  · rintro rfl
    refine ⟨k, rfl, ?_⟩
    rw [Nat.shiftLeft_eq, Nat.one_mul, Nat.testBit_two_pow]
    simp
theorem v_ab (x : List Nat) : (readW wAB).v x ↔ x = [97] ∨ x = [97, 98] := by
  rw [rd_ab]
  show lCat (lCat lEps (lSet (1 <<< 97))) (lOpt (lSet (1 <<< 98))) x ↔ _
  constructor
  · rintro ⟨y, z, rfl, ⟨y1, y2, rfl, e1, e2⟩, e3⟩
    have e1' : y1 = [] := e1
    rw [lset_one] at e2
    rcases e3 with e3 | e3
    · left; rw [e1', e2, e3]; rfl
    · right; rw [lset_one] at e3; rw [e1', e2, e3]; rfl
  · rintro (rfl | rfl)
    · exact ⟨[97], [], rfl, ⟨[], [97], rfl, rfl, (lset_one _ _).2 rfl⟩, .inl rfl⟩
    · exact ⟨[97], [98], rfl, ⟨[], [97], rfl, rfl, (lset_one _ _).2 rfl⟩, .inr ((lset_one _ _).2 rfl)⟩
theorem pow_b : ∀ (n : Nat) (x : List Nat), lPow (lSet (1 <<< 98)) n x ↔ x = List.replicate n 98 := by
  intro n
  induction n with
  | zero => intro x; exact Iff.rfl
  | succ n ih =>
    intro x
    constructor
    · rintro ⟨y, z, rfl, e1, e2⟩
      first
        | (rw [(ih _).1 e1, (lset_one _ _).1 e2, List.replicate_succ']; done)
        | (rw [(lset_one _ _).1 e1, (ih _).1 e2]; rfl)
    · rintro rfl
      first
        | exact ⟨[98], List.replicate n 98, rfl, (lset_one _ _).2 rfl, (ih _).2 rfl⟩
        | exact ⟨List.replicate n 98, [98], List.replicate_succ', (ih _).2 rfl, (lset_one _ _).2 rfl⟩
theorem v_b (x : List Nat) : (readW wB).v x ↔ ∃ n, x = List.replicate (n + 1) 98 := by
  rw [rd_b]
  show lCat lEps (lPlus (lSet (1 <<< 98))) x ↔ _
  constructor
  · rintro ⟨y, z, rfl, e1, ⟨n, e2⟩⟩
    have e1' : y = [] := e1
    exact ⟨n, by rw [e1', (pow_b _ _).1 e2]; rfl⟩
  · rintro ⟨n, rfl⟩
    exact ⟨[], _, rfl, rfl, n, (pow_b _ _).2 rfl⟩
/- The two rules. -/
def rsA (k : Nat) : ByteArray := if k = 0 then wAB else wB
theorem rsA0 : rsA 0 = wAB := rfl
theorem rsA1 : rsA 1 = wB := rfl
noncomputable def LA (k : Nat) : Lang := (readW (rsA k)).v
theorem LA0 (x : List Nat) : LA 0 x ↔ x = [97] ∨ x = [97, 98] := by unfold LA; rw [rsA0]; exact v_ab x
theorem LA1 (x : List Nat) : LA 1 x ↔ ∃ n, x = List.replicate (n + 1) 98 := by unfold LA; rw [rsA1]; exact v_b x
theorem LA_def : (fun k => (readW (rsA k)).v) = LA := rfl
theorem fi0 {L : Nat → Lang} (g0 : ∀ x, L 0 x ↔ x = [97] ∨ x = [97, 98]) {x : List Nat} (h : x = [97] ∨ x = [97, 98]) : firstR L 2 x = 0 :=
  firstR_of (i := 0) (by omega) ((g0 x).2 h) (fun k hk => by omega)
theorem fi1 {L : Nat → Lang} (g0 : ∀ x, L 0 x ↔ x = [97] ∨ x = [97, 98]) (g1 : ∀ x, L 1 x ↔ ∃ n, x = List.replicate (n + 1) 98) : firstR L 2 [98] = 1 :=
  firstR_of (i := 1) (by omega) ((g1 [98]).2 ⟨0, rfl⟩) (fun k hk => by
    have : k = 0 := by omega
    subst this
    intro h
    have := (g0 [98]).1 h
    simp at this)
theorem fiN {L : Nat → Lang} (g0 : ∀ x, L 0 x ↔ x = [97] ∨ x = [97, 98]) (g1 : ∀ x, L 1 x ↔ ∃ n, x = List.replicate (n + 1) 98) {x : List Nat} (h0 : ¬ (x = [97] ∨ x = [97, 98])) (h1 : ∃ c ∈ x, c ≠ 98) : firstR L 2 x = -1 :=
  firstR_of_none (fun i hi => by
    match i, hi with
    | 0, _ => exact fun h => h0 ((g0 x).1 h)
    | 1, _ =>
      intro h
      obtain ⟨n, rfl⟩ := (g1 x).1 h
      obtain ⟨c, hc, hn⟩ := h1
      exact hn (List.eq_of_mem_replicate hc))
theorem cutA {L : Nat → Lang} (g0 : ∀ x, L 0 x ↔ x = [97] ∨ x = [97, 98]) (g1 : ∀ x, L 1 x ↔ ∃ n, x = List.replicate (n + 1) 98) : Cut L 2 [97, 98, 98, 97, 99] 0 [(0, 0, 2), (1, 2, 3), (0, 3, 4)] 4 := by
  refine ⟨rfl, by decide, by decide, by decide, fi0 g0 (.inr rfl), fun j h1 h2 => ?_, rfl, by decide, by decide, by decide, fi1 g0 g1, fun j h1 h2 => ?_, rfl, by decide, by decide, by decide, fi0 g0 (.inl rfl), fun j h1 h2 => ?_, rfl, fun j h1 h2 => ?_⟩
  · have h1' : 2 < j := h1
    have h2' : j ≤ 5 := h2
    rcases (show j = 3 ∨ j = 4 ∨ j = 5 by omega) with rfl | rfl | rfl
    · exact fiN g0 g1 (by decide) ⟨97, by decide, by decide⟩
    · exact fiN g0 g1 (by decide) ⟨97, by decide, by decide⟩
    · exact fiN g0 g1 (by decide) ⟨97, by decide, by decide⟩
  · have h1' : 1 < j := h1
    have h2' : j ≤ 3 := h2
    rcases (show j = 2 ∨ j = 3 by omega) with rfl | rfl
    · exact fiN g0 g1 (by decide) ⟨97, by decide, by decide⟩
    · exact fiN g0 g1 (by decide) ⟨97, by decide, by decide⟩
  · have h1' : 1 < j := h1
    have h2' : j ≤ 2 := h2
    rcases (show j = 2 by omega) with rfl
    exact fiN g0 g1 (by decide) ⟨99, by decide, by decide⟩
  · have h1' : 0 < j := h1
    have h2' : j ≤ 1 := h2
    rcases (show j = 1 by omega) with rfl
    exact fiN g0 g1 (by decide) ⟨99, by decide, by decide⟩
end Go.Proofs.Ytbjdkbcfpmeneaa
