/- What is proved here: what the methods of the positions do to memory: add, link, chain, either, repeat. -/
import Derived.Test.YtbjdkbcfpmeneaaRows
import Derived.Test.YtbjdkbcfpmeneaaM05
import Derived.Deep.RegionLaw
import Derived.Deep.DeepMust
import Derived.Test.YtbjdkbcfpmeneaaM04
namespace Go.Proofs.Ytbjdkbcfpmeneaa
set_option linter.unusedVariables false
set_option linter.unusedSimpArgs false
open Go.RowKit

/- The positions in their block: the bytes and the followers of each, in rows of their own. -/
structure PosAt (w : World) (p : Nat) (bs fs : List Nat) (vb vf : Value) : Prop where
  blk : w.heap[p]? = some (.cells #[vb, vf] 70 (0, 0))
  ob : w.ownsRow 0 62 4 vb bs.length (flat bs)
  of : w.ownsRow 0 62 4 vf fs.length (flat fs)
  len : fs.length = bs.length
  nb : vb.ownBlock ≠ some p
  nf : vf.ownBlock ≠ some p
  ne : ∀ g, vb.ownBlock = some g → vf.ownBlock ≠ some g

def foot (p : Nat) (vb vf : Value) : List Nat := p :: (vb.ownBlock.toList ++ vf.ownBlock.toList)
theorem foot_mem {p : Nat} {vb vf : Value} {k : Nat} : k ∈ foot p vb vf ↔ k = p ∨ vb.ownBlock = some k ∨ vf.ownBlock = some k := by
  unfold foot
  cases vb.ownBlock <;> cases vf.ownBlock <;> simp [eq_comm]

theorem PosAt.kp {w w' : World} {p : Nat} {bs fs : List Nat} {vb vf : Value} {xs : List Nat} (h : PosAt w p bs fs vb vf) (hk : Kp xs w w') (hx : ∀ k ∈ xs, k ∉ foot p vb vf) : PosAt w' p bs fs vb vf :=
  ⟨hk.keep h.blk (fun e => hx _ e (foot_mem.2 (.inl rfl))), owns_kp h.ob hk (fun g e hm => hx g hm (foot_mem.2 (.inr (.inl e)))), owns_kp h.of hk (fun g e hm => hx g hm (foot_mem.2 (.inr (.inr e)))), h.len, h.nb, h.nf, h.ne⟩
theorem PosAt.lt {w : World} {p : Nat} {bs fs : List Nat} {vb vf : Value} (h : PosAt w p bs fs vb vf) : ∀ k ∈ foot p vb vf, k < w.heap.size := by
  intro k hk
  rcases foot_mem.1 hk with rfl | e | e
  · exact lt_of_block h.blk
  · exact (h.ob.lt k e).2
  · exact (h.of.lt k e).2

abbrev zeroPart : Obj := .cells #[.bool false, .int .u64 0, .int .u64 0, .int .u64 0, .int .u64 0, .int .u64 0, .int .u64 0, .int .u64 0, .int .u64 0] 64 (0, 0)

theorem two {w : World} {b : Nat} {x0 x1 : Value} {e : TypeId} (h : w.heap[b]? = some (.cells #[x0, x1] e (0, 0))) :
    w.cell? ⟨b, 0, none⟩ = some x0 ∧ w.cell? ⟨b, 1, none⟩ = some x1 ∧ w.frozen? ⟨b, 0, none⟩ = false ∧ w.frozen? ⟨b, 1, none⟩ = false :=
  ⟨by rw [cell_of_block h]; rfl, by rw [cell_of_block h]; rfl, frozen_of_block h _, frozen_of_block h _⟩
theorem PosAt.apart {w : World} {p : Nat} {bs fs : List Nat} {vb vf : Value} (h : PosAt w p bs fs vb vf) : vf.ownBlock = none ∨ vf.ownBlock ≠ vb.ownBlock := by
  rcases e : vf.ownBlock with _ | g
  · exact .inl rfl
  · right; intro e2; exact h.ne g e2.symm e
theorem Kp.mono {xs ys : List Nat} {w w1 : World} (h : Kp xs w w1) (hx : ∀ x ∈ xs, x ∈ ys) : Kp ys w w1 := ⟨h.os, h.tape, h.output, h.size, fun k hk hn => h.block k hk (fun e => hn (hx k e))⟩
abbrev nineO (x0 x1 x2 x3 x4 x5 x6 x7 x8 : Value) : Obj := .cells #[x0, x1, x2, x3, x4, x5, x6, x7, x8] 64 (0, 0)
theorem nine {w : World} {b : Nat} {x0 x1 x2 x3 x4 x5 x6 x7 x8 : Value} (h : w.heap[b]? = some (nineO x0 x1 x2 x3 x4 x5 x6 x7 x8)) :
    (w.cell? ⟨b, 0, none⟩ = some x0 ∧ w.cell? ⟨b, 1, none⟩ = some x1 ∧ w.cell? ⟨b, 2, none⟩ = some x2 ∧ w.cell? ⟨b, 3, none⟩ = some x3 ∧ w.cell? ⟨b, 4, none⟩ = some x4 ∧
    w.cell? ⟨b, 5, none⟩ = some x5 ∧ w.cell? ⟨b, 6, none⟩ = some x6 ∧ w.cell? ⟨b, 7, none⟩ = some x7 ∧ w.cell? ⟨b, 8, none⟩ = some x8) ∧
    (w.frozen? ⟨b, 0, none⟩ = false ∧ w.frozen? ⟨b, 1, none⟩ = false ∧ w.frozen? ⟨b, 2, none⟩ = false ∧ w.frozen? ⟨b, 3, none⟩ = false ∧ w.frozen? ⟨b, 4, none⟩ = false ∧
    w.frozen? ⟨b, 5, none⟩ = false ∧ w.frozen? ⟨b, 6, none⟩ = false ∧ w.frozen? ⟨b, 7, none⟩ = false ∧ w.frozen? ⟨b, 8, none⟩ = false) :=
  ⟨⟨by rw [cell_of_block h]; rfl, by rw [cell_of_block h]; rfl, by rw [cell_of_block h]; rfl, by rw [cell_of_block h]; rfl, by rw [cell_of_block h]; rfl, by rw [cell_of_block h]; rfl, by rw [cell_of_block h]; rfl, by rw [cell_of_block h]; rfl, by rw [cell_of_block h]; rfl⟩,
    frozen_of_block h _, frozen_of_block h _, frozen_of_block h _, frozen_of_block h _, frozen_of_block h _, frozen_of_block h _, frozen_of_block h _, frozen_of_block h _, frozen_of_block h _⟩
theorem Kp.set9 {xs : List Nat} {w w1 : World} (h : Kp xs w w1) {b : Nat} (hb : b ∈ xs ∨ w.heap.size ≤ b) (v0 v1 v2 v3 v4 v5 v6 v7 v8 : Value) :
    Kp xs w (((((((((w1.setCell ⟨b, 0, none⟩ v0).setCell ⟨b, 1, none⟩ v1).setCell ⟨b, 2, none⟩ v2).setCell ⟨b, 3, none⟩ v3).setCell ⟨b, 4, none⟩ v4).setCell ⟨b, 5, none⟩ v5).setCell ⟨b, 6, none⟩ v6).setCell ⟨b, 7, none⟩ v7).setCell ⟨b, 8, none⟩ v8) :=
  ((((((((h.set hb _ _).set hb _ _).set hb _ _).set hb _ _).set hb _ _).set hb _ _).set hb _ _).set hb _ _).set hb _ _
/- A part that a function answers, read out of its block. -/
theorem res_part {fn : Func} {t b : Nat} {tmps : Array Value} {w : World} {x0 x1 x2 x3 x4 x5 x6 x7 x8 : Value} (hf : fn.results = #[.cell t 64]) (ht : tmps.getD t undef = .pointer (some ⟨b, 0, none⟩))
    (hw : w.heap[b]? = some (nineO x0 x1 x2 x3 x4 x5 x6 x7 x8)) : (results fn tmps).run Try.prog w = .ok (.agg #[x0, x1, x2, x3, x4, x5, x6, x7, x8]) w := by
  obtain ⟨⟨d0, d1, d2, d3, d4, d5, d6, d7, d8⟩, _⟩ := nine hw
  have ht' : tmps[t]?.getD undef = .pointer (some ⟨b, 0, none⟩) := by rw [← ht]; simp
  simp only [results, hf]
  simp [ht', go_sem, d0, d1, d2, d3, d4, d5, d6, d7, d8]
theorem flat_zero : flat [0] = [.int .u64 0, .int .u64 0, .int .u64 0, .int .u64 0] := by simp [flat, wd_zero]
theorem hide {p : Prop} (h : p) : Hid p := h
theorem PosAt.keepDA {w : World} {p : Nat} {bs fs : List Nat} {vb vf : Value} (h : PosAt w p bs fs vb vf) (o : Obj) : ((w.alloc o).drew).heap[p]? = some (.cells #[vb, vf] 70 (0, 0)) := by
  rw [blk_drew, blk_alloc, if_neg (Nat.ne_of_lt (lt_of_block h.blk))]; exact h.blk

set_option maxRecDepth 100000 in
set_option maxHeartbeats 1600000 in
theorem add_code (p s : Nat) (bs fs : List Nat) (vb vf : Value) (w : World) (h : PosAt w p bs fs vb vf) (hn : bs.length < 200) :
    Calls Try.prog 92 #[.pointer (some ⟨p, 0, none⟩), setV s] w fun x w' => x = .returned (partV false (1 <<< bs.length) (1 <<< bs.length)) ∧
      ∃ vb' vf', PosAt w' p (bs ++ [s]) (fs ++ [0]) vb' vf' ∧ Kp (foot p vb vf) w w' ∧ (∀ g ∈ foot p vb' vf', g ∈ foot p vb vf ∨ w.heap.size ≤ g) := by
  have hp := lt_of_block h.blk
  have hpne : p ≠ w.heap.size := by omega
  have hpne1 : p ≠ w.heap.size + 1 := by omega
  have c0 : w.cell? ⟨p, 0, none⟩ = some vb := by rw [cell_of_block h.blk]; rfl
  have c1 : w.cell? ⟨p, 1, none⟩ = some vf := by rw [cell_of_block h.blk]; rfl
  have f0 := frozen_of_block h.blk 0
  have f1 := frozen_of_block h.blk 1
  have HP : Hid _ := h
  obtain ⟨i0, hi0, hz0, hz1, hz2⟩ := info_parts infoSet
  have hnB : Hid (bs.length < 200) := hn
  have hvb : ∃ a cap, vb = .slice a bs.length cap := by
    rcases h.ob.2 with ⟨rfl, e⟩ | ⟨g, cap, cur, rfl, _⟩
    · rw [e]; exact ⟨_, _, rfl⟩
    · exact ⟨_, _, rfl⟩
  obtain ⟨ab, capb, rfl⟩ := hvb
  have hu8 : IntKind.u8.wrap (bs.length : Int) = bs.length := by simp [IntKind.wrap, IntKind.bits, IntKind.signed]; omega
  clear h
  go_enter Try.func92, Try.ntmps92
  go_wp2_with fail
  refine (one_any bs.length _ (by have := hnB.out; omega)).mono ?_
  rintro _ w1 ⟨rfl, h1⟩
  have k1 : Kp [] w w1 := (((Kp.refl [] w).alloc _).alloc _).below h1
  have q1 : w1.heap[w.heap.size]? = some (.cells #[.int .u64 (wd s 0), .int .u64 (wd s 1), .int .u64 (wd s 2), .int .u64 (wd s 3)] 62 (0, 0)) := bkeep h1 (by simp only [blk_alloc, size_alloc]; simp)
  have z1 : w1.heap[w.heap.size + 1]? = some zeroPart := bkeep h1 (by simp only [blk_alloc, size_alloc]; simp)
  clear h1
  go_wp2_with fail
  generalize hW : w1.alloc (Obj.cells #[.int .u64 (wd (1 <<< bs.length) 0), .int .u64 (wd (1 <<< bs.length) 1), .int .u64 (wd (1 <<< bs.length) 2), .int .u64 (wd (1 <<< bs.length) 3)] 62) = W
  have kW : Kp [] w W := by rw [← hW]; exact k1.alloc _
  have PW : PosAt W p bs fs (.slice ab bs.length capb) vf := HP.out.kp kW (by simp)
  have l1 := lt_of_block q1
  have l2 := lt_of_block z1
  have qW : W.heap[w.heap.size]? = some (.cells #[.int .u64 (wd s 0), .int .u64 (wd s 1), .int .u64 (wd s 2), .int .u64 (wd s 3)] 62 (0, 0)) := by rw [← hW, blk_alloc, if_neg (Nat.ne_of_lt l1)]; exact q1
  have zW : W.heap[w.heap.size + 1]? = some zeroPart := by rw [← hW, blk_alloc, if_neg (Nat.ne_of_lt l2)]; exact z1
  have sW : W.heap[w1.heap.size]? = some (.cells #[.int .u64 (wd (1 <<< bs.length) 0), .int .u64 (wd (1 <<< bs.length) 1), .int .u64 (wd (1 <<< bs.length) 2), .int .u64 (wd (1 <<< bs.length) 3)] 62 (0, 0)) := by rw [← hW, blk_alloc, if_pos rfl]
  generalize w1.heap.size = S1 at *
  clear hW q1 z1 k1 c0 c1 f0 f1
  have c0 : W.cell? ⟨p, 0, none⟩ = some (.slice ab bs.length capb) := by rw [cell_of_block PW.blk]; rfl
  have c1 : W.cell? ⟨p, 1, none⟩ = some vf := by rw [cell_of_block PW.blk]; rfl
  have f0 := frozen_of_block PW.blk 0
  have f1 := frozen_of_block PW.blk 1
  obtain ⟨d0, d1, d2, d3, _⟩ := four qW
  have lS := lt_of_block sW
  have lq := lt_of_block qW
  have lz := lt_of_block zW
  have lp := lt_of_block PW.blk
  have PP : Hid _ := PW
  have QW : Hid _ := qW
  have ZW : Hid _ := zW
  have SW : Hid _ := sW
  have KW : Hid _ := kW
  have nbp : Hid _ := PW.nb
  have nbq : Hid ((Value.slice ab bs.length capb).ownBlock ≠ some w.heap.size) := fun e => by have := HP.out.lt _ (foot_mem.2 (.inr (.inl e))); omega
  have hb63 : bs.length + 1 ≤ maxLen := by unfold maxLen; omega
  have hbytes : (bs.length + 1) * 32 ≤ 140737488355328 := by omega
  have hfz : ∀ o, (W.alloc o).drew.frozen? ⟨p, 0, none⟩ = false := fun o => by
    have : (W.alloc o).drew.heap[p]? = some (.cells #[Value.slice ab bs.length capb, vf] 70 (0, 0)) := by rw [blk_drew, blk_alloc, if_neg (Nat.ne_of_lt lp)]; exact PW.blk
    exact frozen_of_block this 0
  clear PW qW zW sW kW hu8
  go_region_law
    ((refine step_append_lies _ (by rfl) _ _ _ (by rfl) 0 62 i0 _ 4 32 Try.underlying68 hi0 hz0 hz1 hz2 rfl (by omega) (.slice ab bs.length capb) bs.length (flat bs) (by rfl) ((PP.out.ob.alloc _).drew) ⟨W.heap.size, 0, none⟩ 1 1 (flat [s]) (by rfl) (by rfl) (World.news_of_block (cs := (flat [s]).toArray) (t := 62) (fr := (0, 0)) (heap_alloc_new W _)) (by simp [flat, Value.oneCell']) (by omega) hb63 hbytes (by simp) (W.heap.size + 1) (by simp) ?_; intro g1 cap1 w2 own1 grow1 at1 lt1; have pb := gkeep grow1 (b := p) (PP.out.keepDA _) nbp.out; obtain ⟨e0, e1, m0, m1⟩ := two pb; have PB := hide pb; clear pb))
  all_goals
    have kA : Kp [] W ((W.alloc (.cells #[.int .u64 (wd s 0), .int .u64 (wd s 1), .int .u64 (wd s 2), .int .u64 (wd s 3)] 62)).drew) := ((Kp.refl [] W).alloc _).drew
    have of2 : w2.ownsRow 0 62 4 vf fs.length (flat fs) := (owns_kp PP.out.of kA (by simp)).kept grow1 PP.out.apart
    have k2 : Kp (foot p (.slice ab bs.length capb) vf) w w2 := by
      refine (((KW.out.mono (by simp)).trans kA (by simp)).grown grow1 (fun k e => .inl (foot_mem.2 (.inr (.inl e)))))
    have z2 : w2.heap[w.heap.size + 1]? = some zeroPart := gkeep grow1 (kA.keep ZW.out (by simp)) (fun e => by have := HP.out.lt _ (foot_mem.2 (.inr (.inl e))); omega)
    have s2 : w2.heap[S1]? = _ := gkeep grow1 (kA.keep SW.out (by simp)) (fun e => by have := HP.out.lt _ (foot_mem.2 (.inr (.inl e))); omega)
    have g1ne : g1 ≠ p := by
      rintro rfl; rcases at1 with e | e
      · exact nbp.out e
      · omega
    have k3 : Kp [p] w2 (w2.setCell ⟨p, 0, none⟩ (.slice (some ⟨g1, 0, none⟩) (bs.length + 1) cap1)) := (Kp.refl _ _).set (by simp) _ _
    have of3 := hide (owns_kp of2 k3 (by intro g e hm; simp at hm; subst hm; exact PP.out.nf e))
    have ob3 := hide (owns_kp own1 k3 (by intro g e hm; simp [Value.ownBlock] at e hm; omega))
    have PX : Hid (∀ o, ((w2.setCell ⟨p, 0, none⟩ (.slice (some ⟨g1, 0, none⟩) (bs.length + 1) cap1)).alloc o).heap[p]? = some (.cells #[.slice (some ⟨g1, 0, none⟩) (bs.length + 1) cap1, vf] 70 (0, 0))) := fun o => by
      have := lt_of_block PB.out
      rw [blk_alloc, size_set, if_neg (by omega), blk_set, if_pos rfl, PB.out]; rfl
    have ZX : Hid (∀ o, ((w2.setCell ⟨p, 0, none⟩ (.slice (some ⟨g1, 0, none⟩) (bs.length + 1) cap1)).alloc o).heap[w.heap.size + 1]? = some zeroPart) := fun o => by
      have := lt_of_block z2
      rw [blk_alloc, size_set, if_neg (by omega), blk_set, if_neg (by omega)]; exact z2
    have SX : Hid (∀ o, ((w2.setCell ⟨p, 0, none⟩ (.slice (some ⟨g1, 0, none⟩) (bs.length + 1) cap1)).alloc o).heap[S1]? = some (.cells #[.int .u64 (wd (1 <<< bs.length) 0), .int .u64 (wd (1 <<< bs.length) 1), .int .u64 (wd (1 <<< bs.length) 2), .int .u64 (wd (1 <<< bs.length) 3)] 62 (0, 0))) := fun o => by
      have := lt_of_block s2
      rw [blk_alloc, size_set, if_neg (by omega), blk_set, if_neg (by omega)]; exact s2
    have hlf : ∀ k, vf.ownBlock = some k → k < w.heap.size := fun k e => HP.out.lt _ (foot_mem.2 (.inr (.inr e)))
    have HLF := hide hlf
    have Z2 := hide z2
    have S2 := hide s2
    have K2 := hide k2
    have hlen : fs.length = bs.length := HP.out.len
    have HLEN := hide hlen
    have lz2 := lt_of_block z2
    have ls2 := lt_of_block s2
    clear kA of2 k2 z2 s2 own1 hlen hlf c0 c1 d0 d1 d2 d3 f0 f1 e0
    go_wp2_with (at_builtin; go_must (refine wpList_append_lies _ rfl _ _ _ rfl 0 62 i0 _ 4 32 Try.underlying68 hi0 hz0 hz1 hz2 rfl (by omega) vf fs.length (flat fs) rfl (by exact of3.out.alloc _) ⟨w2.heap.size, 0, none⟩ 1 1 [.int .u64 0, .int .u64 0, .int .u64 0, .int .u64 0] rfl rfl (World.news_of_block (cs := #[.int .u64 0, .int .u64 0, .int .u64 0, .int .u64 0]) (t := 62) (fr := (0, 0)) (by rw [blk_alloc, size_set, if_pos rfl])) (by simp [Value.oneCell']) (by omega) (by have := HLEN.out; have := hnB.out; unfold maxLen; omega) (by have := HLEN.out; have := hnB.out; omega) (by simp) (w2.heap.size + 1) (by simp) ?_); intro g2 cap2 w3 own2 grow2 at2 lt2; have p3 := gkeep grow2 (PX.out _) PP.out.nf; have z3 := gkeep grow2 (ZX.out _) (fun e => by have := HLF.out _ e; omega); have s3 := gkeep grow2 (SX.out _) (fun e => by have := HLF.out _ e; omega); obtain ⟨_, _, _, pf⟩ := two p3; obtain ⟨pc0, pc1, _⟩ := two p3; obtain ⟨sc0, sc1, sc2, sc3, _⟩ := four s3; obtain ⟨⟨zc0, zc1, zc2, zc3, zc4, zc5, zc6, zc7, zc8⟩, zf0, zf1, zf2, zf3, zf4, zf5, zf6, zf7, zf8⟩ := nine z3; have P3 := hide p3; have Z3 := hide z3; clear p3 z3 s3)
    have hqp : w.heap.size + 1 ≠ p := by omega
    have a1 : ∀ k, Value.ownBlock (.slice ab bs.length capb) = some k → k < w.heap.size := fun k e => HP.out.lt _ (foot_mem.2 (.inr (.inl e)))
    have a2 : ∀ k, vf.ownBlock = some k → k < w.heap.size := HLF.out
    have g1q : g1 ≠ w.heap.size + 1 := by rcases at1 with e | e; (have := a1 _ e; omega); omega
    have g2p : g2 ≠ p := by rintro rfl; rcases at2 with e | e; exact PP.out.nf e; omega
    have g2q : g2 ≠ w.heap.size + 1 := by rcases at2 with e | e; (have := a2 _ e; omega); omega
    have g1f : vf.ownBlock ≠ some g1 := fun e => by rcases at1 with e1 | e1; exact HP.out.ne _ e1 e; (have := a2 _ e; omega)
    have g12 : g1 ≠ g2 := by rintro rfl; rcases at2 with e | e; exact g1f e; omega
    have kf : ∀ x0 x1 x2 x3 x4 x5 x6 x7 x8 v, Kp [p, w.heap.size + 1] w3 ((((((((((w3.setCell ⟨p, 1, none⟩ v).setCell ⟨w.heap.size + 1, 0, none⟩ x0).setCell ⟨w.heap.size + 1, 1, none⟩ x1).setCell ⟨w.heap.size + 1, 2, none⟩ x2).setCell ⟨w.heap.size + 1, 3, none⟩ x3).setCell ⟨w.heap.size + 1, 4, none⟩ x4).setCell ⟨w.heap.size + 1, 5, none⟩ x5).setCell ⟨w.heap.size + 1, 6, none⟩ x6).setCell ⟨w.heap.size + 1, 7, none⟩ x7).setCell ⟨w.heap.size + 1, 8, none⟩ x8) :=
      fun _ _ _ _ _ _ _ _ _ _ => ((Kp.refl _ _).set (by simp) _ _).set9 (by simp) _ _ _ _ _ _ _ _ _
    have ob4 := (ob3.out.alloc (.cells #[.int .u64 0, .int .u64 0, .int .u64 0, .int .u64 0] 62)).kept grow2 (.inr (fun e => g1f e.symm))
    refine bodyPost_ret (v := partV false (1 <<< bs.length) (1 <<< bs.length)) (res_part (b := w.heap.size + 1) Try.results92 rfl (by simp only [blk_set, if_neg hqp, Z3.out]; simp [setObj_cells])) rfl ⟨rfl, .slice (some ⟨g1, 0, none⟩) (bs.length + 1) cap1, .slice (some ⟨g2, 0, none⟩) (fs.length + 1) cap2, ⟨?_, ?_, ?_, ?_, ?_, ?_, ?_⟩, ?_, ?_⟩
    · simp only [blk_set, if_neg (Ne.symm hqp), P3.out]; simp [setObj_cells]
    · rw [List.length_append, flat_append]
      exact owns_kp ob4 (kf _ _ _ _ _ _ _ _ _ _) (by intro g e; simp only [Value.ownBlock, Option.some.injEq] at e; subst e; simp [g1ne, g1q])
    · rw [List.length_append, flat_append, flat_zero]
      exact owns_kp own2 (kf _ _ _ _ _ _ _ _ _ _) (by intro g e; simp only [Value.ownBlock, Option.some.injEq] at e; subst e; simp [g2p, g2q])
    · simp [HLEN.out]
    · simp only [Value.ownBlock, ne_eq, Option.some.injEq]; exact g1ne
    · simp only [Value.ownBlock, ne_eq, Option.some.injEq]; exact g2p
    · intro g e; simp only [Value.ownBlock, ne_eq, Option.some.injEq] at *; subst e; exact fun e => g12 e.symm
    · exact ((((K2.out.set (.inl (foot_mem.2 (.inl rfl))) _ _).alloc _).grown grow2 (fun k e => .inl (foot_mem.2 (.inr (.inr e))))).set (.inl (foot_mem.2 (.inl rfl))) _ _).set9 (.inr (by omega)) _ _ _ _ _ _ _ _ _
    · intro g hg
      rcases foot_mem.1 hg with e | e | e
      · exact .inl (foot_mem.2 (.inl e))
      · simp only [Value.ownBlock, Option.some.injEq] at e; subst e
        rcases at1 with e | e
        · exact .inl (foot_mem.2 (.inr (.inl e)))
        · right; omega
      · simp only [Value.ownBlock, Option.some.injEq] at e; subst e
        rcases at2 with e | e
        · exact .inl (foot_mem.2 (.inr (.inr e)))
        · right; omega
end Go.Proofs.Ytbjdkbcfpmeneaa

/- What is proved here: things that are numbered as they come, in memory: what stays, what one more does to them. -/
namespace Go.Proofs.Ytbjdkbcfpmeneaa
set_option linter.unusedVariables false
set_option linter.unusedSimpArgs false
open Go.RowKit Go.ChangeMaps

def cellsAll (ks : List Value) : List Value := ks.flatMap fun v => v.cells.toList
theorem cellsAll_snoc (ks : List Value) (x : Value) : cellsAll (ks ++ [x]) = cellsAll ks ++ x.cells.toList := by simp [cellsAll]

theorem cellsAll_get {n : Nat} : ∀ {ks : List Value} {i j : Nat} {x : Value}, (∀ v ∈ ks, v.cells.size = n) → ks[i]? = some x → j < n → (cellsAll ks)[i * n + j]? = x.cells[j]? := by
  intro ks
  induction ks with
  | nil => intro i j x _ h; simp at h
  | cons a l ih =>
    intro i j x hn hx hj
    have ha : a.cells.toList.length = n := by rw [Array.length_toList]; exact hn a (by simp)
    have e : cellsAll (a :: l) = a.cells.toList ++ cellsAll l := by simp [cellsAll]
    rw [e]
    cases i with
    | zero =>
      simp at hx
      subst hx
      rw [Nat.zero_mul, Nat.zero_add, List.getElem?_append_left (by omega), Array.getElem?_toList]
    | succ i =>
      rw [List.getElem?_append_right (by rw [ha, Nat.succ_mul]; omega), ha]
      have := ih (fun v hv => hn v (by simp [hv])) (i := i) (by simpa using hx) hj
      rw [← this]
      congr 1
      rw [Nat.succ_mul]; omega
/- The map and the row. -/
structure NumOk (w : World) (T : TypeId) (sz : Nat) (vm vs : Value) (ks : List Value) : Prop where
  map : (vm = .map none ∧ ks = []) ∨ ∃ mb, vm = .map (some mb) ∧ NumMap w mb ks
  row : w.ownsRow 0 T sz vs ks.length (cellsAll ks)
  nodup : ks.Nodup
  key : ∀ v ∈ ks, Keyish Try.prog T v
  sizes : ∀ v ∈ ks, v.cells.size = sz

def mapBlock : Value → List Nat
  | .map (some b) => [b]
  | _ => []
def nfoot (vm vs : Value) : List Nat := mapBlock vm ++ vs.ownBlock.toList
theorem nfoot_mem {vm vs : Value} {g : Nat} : g ∈ nfoot vm vs ↔ vm = .map (some g) ∨ vs.ownBlock = some g := by
  unfold nfoot
  rw [List.mem_append]
  refine or_congr ?_ ?_
  · unfold mapBlock
    split
    · rename_i b
      rw [List.mem_singleton]
      constructor
      · rintro rfl; rfl
      · intro e; cases e; rfl
    · rename_i h
      constructor
      · intro e; simp at e
      · intro e; exact absurd e (h g)
  · cases vs.ownBlock <;> simp [eq_comm]

theorem NumOk.kp {w w' : World} {T : TypeId} {sz : Nat} {vm vs : Value} {ks : List Value} {xs : List Nat} (h : NumOk w T sz vm vs ks) (hk : Kp xs w w') (hx : ∀ k ∈ xs, k ∉ nfoot vm vs) : NumOk w' T sz vm vs ks := by
  refine ⟨?_, owns_kp h.row hk (fun g e hm => hx g hm (nfoot_mem.2 (.inr e))), h.nodup, h.key, h.sizes⟩
  rcases h.map with q | ⟨mb, rfl, q⟩
  · exact .inl q
  · exact .inr ⟨mb, rfl, q.keep (hk.block mb q.lt (fun hm => hx mb hm (nfoot_mem.2 (.inl rfl))))⟩
theorem NumOk.lt {w : World} {T : TypeId} {sz : Nat} {vm vs : Value} {ks : List Value} (h : NumOk w T sz vm vs ks) : ∀ g ∈ nfoot vm vs, g < w.heap.size := by
  intro g hg
  rcases nfoot_mem.1 hg with rfl | e
  · rcases h.map with ⟨q, _⟩ | ⟨mb, q, r⟩
    · cases q
    · cases q; exact r.lt
  · exact (h.row.lt g e).2

theorem NumOk.apart {w : World} {T : TypeId} {sz : Nat} {mb : Nat} {vs : Value} {ks : List Value} (h : NumOk w T sz (.map (some mb)) vs ks) : vs.ownBlock ≠ some mb := by
  intro e
  rcases h.map with ⟨q, _⟩ | ⟨m, q, es, cl, r, _⟩
  · cases q
  · cases q
    rcases h.row.2 with ⟨q2, _⟩ | ⟨g, cap, cur, q2, _, q3, _⟩
    · rw [q2] at e; simp [Value.ownBlock] at e
    · rw [q2] at e
      simp [Value.ownBlock] at e
      rw [e, r] at q3
      cases q3
/- One more comes. -/
open Classical in
noncomputable def addK (ks : List Value) (x : Value) : List Value := if x ∈ ks then ks else ks ++ [x]
theorem addK_old {ks : List Value} {x : Value} (h : x ∈ ks) : addK ks x = ks := if_pos h
theorem addK_new {ks : List Value} {x : Value} (h : x ∉ ks) : addK ks x = ks ++ [x] := if_neg h

theorem setBlock_kp {w : World} {b : Nat} {o : Obj} (h : b < w.heap.size) : Kp [b] w (setBlock w b o) := by
  refine ⟨rfl, rfl, rfl, by simp [setBlock], fun k hk hx => ?_⟩
  simp only [setBlock]
  rw [Array.getElem?_setIfInBounds_ne (by intro e; exact hx (by simp [e]))]

/- A number's block, with its two cells turned. -/
abbrev two2 (c : Array Value) (off : Nat) (vm vs : Value) : Array Value := (c.setIfInBounds off vm).setIfInBounds (off + 1) vs

theorem set_same {c : Array Value} {i : Nat} {v : Value} (h : c[i]? = some v) : c.setIfInBounds i v = c := by
  apply Array.ext_getElem?
  intro k
  rw [Array.getElem?_setIfInBounds]
  by_cases e : i = k
  · subst e
    rw [if_pos rfl, if_pos (Array.getElem?_eq_some_iff.1 h).1]; exact h.symm
  · rw [if_neg e]
/- What Number leaves. -/
structure NumPost (B off : Nat) (c : Array Value) (tB T : TypeId) (sz : Nat) (vm vs : Value) (ks : List Value) (w : World) (vm' vs' : Value) (ks' : List Value) (w' : World) : Prop where
  blk : w'.heap[B]? = some (.cells (two2 c off vm' vs') tB (0, 0))
  ok : NumOk w' T sz vm' vs' ks'
  kp : Kp (B :: nfoot vm vs) w w'
  foot : ∀ g ∈ nfoot vm' vs', g ∈ nfoot vm vs ∨ w.heap.size ≤ g

theorem two2_same {c : Array Value} {off : Nat} {vm vs : Value} (h0 : c[off]? = some vm) (h1 : c[off + 1]? = some vs) : two2 c off vm vs = c := by
  apply Array.ext_getElem?
  intro i
  simp only [two2, Array.getElem?_setIfInBounds]
  have l0 := (Array.getElem?_eq_some_iff.1 h0).1
  have l1 := (Array.getElem?_eq_some_iff.1 h1).1
  by_cases e : off + 1 = i
  · subst e; rw [if_pos rfl, if_pos (by simpa using l1)]; exact h1.symm
  · rw [if_neg e]
    by_cases e2 : off = i
    · subst e2; rw [if_pos rfl, if_pos l0]; exact h0.symm
    · rw [if_neg e2]

/- A new one, put at the row's end, and the row put in its place. -/
theorem num_end {B off : Nat} {c c2 : Array Value} {tB T : TypeId} {sz : Nat} {vm0 vs : Value} {ks : List Value} {x : Value} {mb : Nat} {w W2 w3 : World} {o : Obj} {g1 cap1 : Nat}
    (lB : B < w.heap.size) (kp2 : Kp (B :: nfoot vm0 vs) w W2) (fm : .map (some mb) = vm0 ∨ w.heap.size ≤ mb) (bB2 : W2.heap[B]? = some (.cells c2 tB (0, 0))) (hc : ∀ v, c2.setIfInBounds (off + 1) v = two2 c off (.map (some mb)) v)
    (nd : ks.Nodup) (ky : ∀ v ∈ ks, Keyish Try.prog T v) (ks0 : ∀ v ∈ ks, v.cells.size = sz) (hs0 : x.cells.size = sz) (MN : NumMap W2 mb (ks ++ [x])) (hx : x ∉ ks) (hk : Keyish Try.prog T x) (lv : ∀ g, vs.ownBlock = some g → g < w.heap.size) (nB : vs.ownBlock ≠ some B) (nm : vs.ownBlock ≠ some mb) (mB : mb ≠ B)
    (own1 : w3.ownsRow 0 T sz (.slice (some ⟨g1, 0, none⟩) (ks.length + 1) cap1) (ks.length + 1) (cellsAll ks ++ x.cells.toList)) (grow1 : (W2.alloc o).drew.grownBy w3 vs.ownBlock) (at1 : vs.ownBlock = some g1 ∨ g1 = W2.heap.size + 1) :
    NumPost B off c tB T sz vm0 vs ks w (.map (some mb)) (.slice (some ⟨g1, 0, none⟩) (ks.length + 1) cap1) (ks ++ [x]) (w3.setCell ⟨B, off + 1, none⟩ (.slice (some ⟨g1, 0, none⟩) (ks.length + 1) cap1)) := by
  have kA : Kp [] W2 (W2.alloc o).drew := ((Kp.refl [] W2).alloc _).drew
  have b3 := gkeep grow1 (kA.keep bB2 (by simp)) nB
  have sz2 := kp2.size
  have lm2 := MN.lt
  have g1B : g1 ≠ B := by rintro rfl; rcases at1 with e | e; exact nB e; omega
  have g1m : g1 ≠ mb := by rintro rfl; rcases at1 with e | e; exact nm e; omega
  have k3 : Kp (B :: nfoot vm0 vs) w w3 := (kp2.trans kA (by simp)).grown grow1 (fun k e => .inl (List.mem_cons_of_mem _ (nfoot_mem.2 (.inr e))))
  have kS : Kp [B] w3 (w3.setCell ⟨B, off + 1, none⟩ (.slice (some ⟨g1, 0, none⟩) (ks.length + 1) cap1)) := (Kp.refl _ _).set (by simp) _ _
  refine ⟨?_, ⟨.inr ⟨mb, rfl, ?_⟩, ?_, ?_, ?_, ?_⟩, ?_, ?_⟩
  · rw [blk_set, if_pos rfl, b3]
    show some (setObj _ _ _) = _
    rw [setObj_cells, hc]
  · refine MN.keep ?_
    rw [blk_set, if_neg mB, grow1.block mb (by rw [size_drew, size_alloc]; omega) (fun e => nm e.symm), blk_drew, blk_alloc, if_neg (Nat.ne_of_lt lm2)]
  · rw [List.length_append, cellsAll_snoc]
    exact owns_kp own1 kS (by intro g e; simp only [Value.ownBlock, Option.some.injEq] at e; subst e; simp [g1B])
  · rw [List.nodup_append]
    refine ⟨nd, by simp, fun p hp q hq e => ?_⟩
    rw [List.mem_singleton.1 hq] at e
    exact hx (e ▸ hp)
  · intro v hv
    rcases List.mem_append.1 hv with q | q
    · exact ky v q
    · rw [List.mem_singleton.1 q]; exact hk
  · intro v hv
    rcases List.mem_append.1 hv with q | q
    · exact ks0 v q
    · rw [List.mem_singleton.1 q]; exact hs0
  · exact k3.trans kS (by simp)
  · intro g hg
    rcases nfoot_mem.1 hg with e | e
    · cases e
      rcases fm with q | q
      · exact .inl (nfoot_mem.2 (.inl q.symm))
      · exact .inr q
    · simp only [Value.ownBlock, Option.some.injEq] at e
      subst e
      rcases at1 with q | q
      · exact .inl (nfoot_mem.2 (.inr q))
      · right; omega

/- .. when nothing came. -/
theorem num_still {B off : Nat} {c : Array Value} {tB T : TypeId} {sz : Nat} {vm vs : Value} {ks : List Value} {w w' : World} (hB : w.heap[B]? = some (.cells c tB (0, 0))) (h0 : c[off]? = some vm) (h1 : c[off + 1]? = some vs) (hN : NumOk w T sz vm vs ks) (hb : Below w.heap.size w w') :
    NumPost B off c tB T sz vm vs ks w vm vs ks w' := by
  have k := (Kp.refl [] w).below hb
  exact ⟨by rw [two2_same h0 h1]; exact k.keep hB (by simp), hN.kp k (by simp), k.mono (by simp), fun g hg => .inl hg⟩

abbrev pairO (a b : Int) : Obj := .cells #[.int .i64 a, .int .i64 b] 135 (0, 0)

theorem zeroInt (w : World) : (zeroValue 3).run Try.prog w = .ok (.int .i64 0) w := by
  have hz : Try.t3.zero = some (.int .i64 0) := by kernel_rfl
  simp [go_sem, zeroValue, hz]

end Go.Proofs.Ytbjdkbcfpmeneaa
