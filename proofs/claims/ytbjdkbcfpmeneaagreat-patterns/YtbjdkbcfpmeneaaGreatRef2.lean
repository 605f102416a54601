/- What is proved here: what the small methods of the document's own reader (package gleanerref) do. -/
import Derived.Test.YtbjdkbcfpmeneaaGreatRows
import Derived.Test.YtbjdkbcfpmeneaaGreatRead4
import Derived.Deep.RegionLaw
import Derived.Deep.DeepMust
import Derived.Test.YtbjdkbcfpmeneaaGreatPos1
import Derived.Deep.Cut
namespace Go.Proofs.YtbjdkbcfpmeneaaGreat
set_option linter.unusedVariables false
set_option linter.unusedSimpArgs false
open Go.RowKit

/- The document's reader in its block: the text, the place, the error, its place, the nodes, the top one. -/
abbrev rrO (s : ByteArray) (i e pl : Int) (nv : Value) (top : Int) : Obj := .cells #[.string s, .int .i64 i, .int .i64 e, .int .i64 pl, nv, .int .i64 top] 75 (0, 0)

theorem six {w : World} {b : Nat} {x0 x1 x2 x3 x4 x5 : Value} {e : TypeId} (h : w.heap[b]? = some (.cells #[x0, x1, x2, x3, x4, x5] e (0, 0))) :
    w.cell? ⟨b, 0, none⟩ = some x0 ∧ w.cell? ⟨b, 1, none⟩ = some x1 ∧ w.cell? ⟨b, 2, none⟩ = some x2 ∧ w.cell? ⟨b, 3, none⟩ = some x3 ∧ w.cell? ⟨b, 4, none⟩ = some x4 ∧ w.cell? ⟨b, 5, none⟩ = some x5 ∧
    w.frozen? ⟨b, 0, none⟩ = false ∧ w.frozen? ⟨b, 1, none⟩ = false ∧ w.frozen? ⟨b, 2, none⟩ = false ∧ w.frozen? ⟨b, 3, none⟩ = false ∧ w.frozen? ⟨b, 4, none⟩ = false ∧ w.frozen? ⟨b, 5, none⟩ = false :=
  ⟨by rw [cell_of_block h]; rfl, by rw [cell_of_block h]; rfl, by rw [cell_of_block h]; rfl, by rw [cell_of_block h]; rfl, by rw [cell_of_block h]; rfl, by rw [cell_of_block h]; rfl, frozen_of_block h _, frozen_of_block h _, frozen_of_block h _, frozen_of_block h _, frozen_of_block h _, frozen_of_block h _⟩

set_option maxHeartbeats 400000 in
theorem rnext_bad (s : ByteArray) (i : Int) (r : Nat) (e pl top : Int) (nv : Value) (w : World) (h : w.heap[r]? = some (rrO s i e pl nv top)) (he : e ≠ 0) :
    Calls Tryz.prog 22 #[.pointer (some ⟨r, 0, none⟩)] w fun x w' => x = .returned (.int .u8 0) ∧ ∃ n, w' = w.drewN n := by
  obtain ⟨c0, c1, c2, _⟩ := six h
  have q : (e != 0) = true := by simp [he]
  clear h he
  go_enter Tryz.func22, Tryz.ntmps22
  go_wp2
  go_quiet (fail)
  go_wp2
  go_ret
  exact ⟨rfl, _, rfl⟩
set_option maxHeartbeats 400000 in
theorem rnext_end (s : ByteArray) (i r : Nat) (pl top : Int) (nv : Value) (w : World) (h : w.heap[r]? = some (rrO s i 0 pl nv top)) (hi : s.size ≤ i) :
    Calls Tryz.prog 22 #[.pointer (some ⟨r, 0, none⟩)] w fun x w' => x = .returned (.int .u8 0) ∧ ∃ n, w' = w.drewN n := by
  obtain ⟨c0, c1, c2, _⟩ := six h
  have q : decide (s.size ≤ i) = true := by simp; omega
  clear h hi
  go_enter Tryz.func22, Tryz.ntmps22
  go_wp2
  go_quiet (fail)
  go_wp2
  go_ret
  exact ⟨rfl, _, rfl⟩
set_option maxHeartbeats 400000 in
theorem rnext_in (s : ByteArray) (i r : Nat) (pl top : Int) (nv : Value) (w : World) (h : w.heap[r]? = some (rrO s i 0 pl nv top)) (hi : i < s.size) :
    Calls Tryz.prog 22 #[.pointer (some ⟨r, 0, none⟩)] w fun x w' => x = .returned (.int .u8 (gt s i)) ∧ ∃ n, w' = w.drewN n := by
  obtain ⟨c0, c1, c2, _⟩ := six h
  have q : decide (s.size ≤ i) = false := by simp; omega
  have hi' : (i : Int) < s.size := by omega
  have HG : Hid _ := gt_at s i hi
  clear h
  go_enter Tryz.func22, Tryz.ntmps22
  go_wp2
  go_quiet (fail)
  go_wp2
  go_quiet (fail)
  go_wp2
  go_ret
  refine ⟨?_, _, World.drewN_drewN _ _ _⟩
  rw [HG.out]; rfl
/- Without an error: the byte at hand, 0 behind the end. -/
theorem rnext_any (s : ByteArray) (i r : Nat) (pl top : Int) (nv : Value) (w : World) (h : w.heap[r]? = some (rrO s i 0 pl nv top)) :
    Calls Tryz.prog 22 #[.pointer (some ⟨r, 0, none⟩)] w fun x w' => x = .returned (.int .u8 (gt s i)) ∧ ∃ n, w' = w.drewN n := by
  rcases Nat.lt_or_ge i s.size with hi | hi
  · exact rnext_in s i r pl top nv w h hi
  · have : gt s i = 0 := by
      unfold gt
      have : s.data.size ≤ i := hi
      rw [Array.getElem?_eq_none this]; rfl
    rw [this]
    exact rnext_end s i r pl top nv w h hi

set_option maxHeartbeats 400000 in
theorem rfail_first (s : ByteArray) (i : Int) (r : Nat) (pl top er q : Int) (nv : Value) (w : World) (h : w.heap[r]? = some (rrO s i 0 pl nv top)) :
    Calls Tryz.prog 23 #[.pointer (some ⟨r, 0, none⟩), .int .i64 er, .int .i64 q] w fun x w' => x = .returned (.tuple #[]) ∧ w'.heap[r]? = some (rrO s i er q nv top) ∧ Kp [r] w w' := by
  obtain ⟨c0, c1, c2, c3, c4, c5, f0, f1, f2, f3, f4, f5⟩ := six h
  have H : Hid _ := h
  clear h
  go_enter Tryz.func23, Tryz.ntmps23
  go_wp2
  go_end0
  refine ⟨rfl, ?_, ((Kp.refl _ _).set (by simp) _ _).set (by simp) _ _⟩
  simp only [blk_set, H.out]
  simp [setObj_cells]
set_option maxHeartbeats 400000 in
theorem rfail_later (s : ByteArray) (i : Int) (r : Nat) (e pl top er q : Int) (nv : Value) (w : World) (h : w.heap[r]? = some (rrO s i e pl nv top)) (he : e ≠ 0) :
    Calls Tryz.prog 23 #[.pointer (some ⟨r, 0, none⟩), .int .i64 er, .int .i64 q] w fun x w' => x = .returned (.tuple #[]) ∧ w' = w := by
  obtain ⟨c0, c1, c2, c3, c4, c5, f0, f1, f2, f3, f4, f5⟩ := six h
  have hb : (e == 0) = false := by simp [he]
  clear h
  go_enter Tryz.func23, Tryz.ntmps23
  go_wp2
  go_end0
  exact ⟨rfl, rfl⟩

/- What is proved here: what add of the document's reader does. -/

/- A node as it lies in memory: its kind, its bytes, its parts. -/
structure ND where
  kind : Nat
  hv : Value
  pv : Value
def ndC (n : ND) : List Value := [.int .u8 n.kind, n.hv, n.pv, .int .i64 0]
abbrev ndV (n : ND) : Value := .agg #[.int .u8 n.kind, n.hv, n.pv, .int .i64 0]
def flatN (ns : List ND) : List Value := ns.flatMap ndC
theorem flatN_len (ns : List ND) : (flatN ns).length = ns.length * 4 := by
  induction ns with
  | nil => rfl
  | cons n ns ih => simp only [flatN, List.flatMap_cons, List.length_append, List.length_cons] at *; rw [ih]; simp [ndC]; omega
theorem flatN_append (a b : List ND) : flatN (a ++ b) = flatN a ++ flatN b := by simp [flatN]

theorem infoNode : (Tryz.prog.info? 104).map (fun i => (i.zero, i.size, i.bytes)) = some (some (.agg #[.int .u8 0, .slice none 0 0, .slice none 0 0, .int .i64 0]), 4, 64) := by kernel_rfl

/- The reader with its nodes. -/
structure RSt (w : World) (s : ByteArray) (i e pl : Int) (r : Nat) (nv : Value) (ns : List ND) : Prop where
  rd : w.heap[r]? = some (rrO s i e pl nv 0)
  own : w.ownsRow 0 104 4 nv ns.length (flatN ns)
  ne : nv.ownBlock ≠ some r

def rfoot (r : Nat) (nv : Value) : List Nat := r :: nv.ownBlock.toList
theorem rfoot_mem {r : Nat} {nv : Value} {k : Nat} : k ∈ rfoot r nv ↔ k = r ∨ nv.ownBlock = some k := by
  unfold rfoot
  cases nv.ownBlock <;> simp [eq_comm]
theorem RSt.lt {w : World} {s : ByteArray} {i e pl : Int} {r : Nat} {nv : Value} {ns : List ND} (h : RSt w s i e pl r nv ns) : ∀ k ∈ rfoot r nv, k < w.heap.size := by
  intro k hk
  rcases rfoot_mem.1 hk with rfl | e
  · exact lt_of_block h.rd
  · exact (h.own.lt k e).2
theorem RSt.kp {w w' : World} {s : ByteArray} {i e pl : Int} {r : Nat} {nv : Value} {ns : List ND} {xs : List Nat} (h : RSt w s i e pl r nv ns) (hk : Kp xs w w') (hx : ∀ k ∈ xs, k ∉ rfoot r nv) : RSt w' s i e pl r nv ns :=
  ⟨hk.keep h.rd (fun e => hx _ e (rfoot_mem.2 (.inl rfl))), owns_kp h.own hk (fun g e hm => hx g hm (rfoot_mem.2 (.inr e))), h.ne⟩

set_option maxRecDepth 100000 in
set_option maxHeartbeats 1600000 in
theorem radd_code (s : ByteArray) (i e pl : Int) (r : Nat) (nv : Value) (ns : List ND) (nd : ND) (w : World) (h : RSt w s i e pl r nv ns) (hn : ns.length < 1000) (h1 : nd.hv.oneCell' = true) (h2 : nd.pv.oneCell' = true) :
    Calls Tryz.prog 36 #[.pointer (some ⟨r, 0, none⟩), ndV nd] w fun x w' => x = .returned (.int .i64 ns.length) ∧
      ∃ nv', RSt w' s i e pl r nv' (ns ++ [nd]) ∧ Kp (rfoot r nv) w w' ∧ (∀ g ∈ rfoot r nv', g ∈ rfoot r nv ∨ w.heap.size ≤ g) := by
  have hr := lt_of_block h.rd
  have HS := hide h
  obtain ⟨i0, hi0, hz0, hz1, hz2⟩ := info_parts infoNode
  have hnB : Hid (ns.length < 1000) := hn
  have H1 := hide h1
  have H2 := hide h2
  have hvb : ∃ a cap, nv = .slice a ns.length cap := by
    rcases h.own.2 with ⟨rfl, e⟩ | ⟨g, cap, cur, rfl, _⟩
    · rw [e]; exact ⟨_, _, rfl⟩
    · exact ⟨_, _, rfl⟩
  obtain ⟨ab, capb, rfl⟩ := hvb
  obtain ⟨nk, nh, np⟩ := nd
  clear h h1 h2
  go_enter Tryz.func36, Tryz.ntmps36
  go_upto_region 1 with fail
  have kW : Kp [] w (w.alloc (.cells #[.int .u8 nk, nh, np, .int .i64 0] 104)) := (Kp.refl _ _).alloc _
  have bB : (w.alloc (.cells #[.int .u8 nk, nh, np, .int .i64 0] 104)).heap[w.heap.size]? = some (.cells #[.int .u8 nk, nh, np, .int .i64 0] 104 (0, 0)) := by rw [blk_alloc, if_pos rfl]
  generalize w.alloc (.cells #[.int .u8 nk, nh, np, .int .i64 0] 104) = W at *
  have SW := HS.out.kp kW (by simp)
  have hrb : r ≠ w.heap.size := Nat.ne_of_lt hr
  obtain ⟨_, _, _, _, c4, _, _, _, _, _, f4, _⟩ := six SW.rd
  obtain ⟨d0, d1, d2, d3, _⟩ := four bB
  have lB := lt_of_block bB
  have lr := lt_of_block SW.rd
  have PP := hide SW
  have KW := hide kW
  have nbp : Hid _ := SW.ne
  have hb63 : ns.length + 1 ≤ maxLen := by unfold maxLen; omega
  have hbytes : (ns.length + 1) * 64 ≤ 140737488355328 := by omega
  have RDA : Hid (∀ o, (W.alloc o).drew.heap[r]? = some (rrO s i e pl (.slice ab ns.length capb) 0)) := fun o => by
    rw [blk_drew, blk_alloc, if_neg (Nat.ne_of_lt lr)]; exact PP.out.rd
  have hlb : ∀ k, Value.ownBlock (.slice ab ns.length capb) = some k → k < w.heap.size := fun k ek => HS.out.lt _ (rfoot_mem.2 (.inr ek))
  have HLB := hide hlb
  clear SW kW bB hlb
  go_region_law
    ((refine step_append_lies _ (by rfl) _ _ _ (by rfl) 0 104 i0 _ 4 64 Tryz.underlying71 hi0 hz0 hz1 hz2 rfl (by omega) (.slice ab ns.length capb) ns.length (flatN ns) (by rfl) ((PP.out.own.alloc _).drew) ⟨W.heap.size, 0, none⟩ 1 1 (ndC ⟨nk, nh, np⟩) (by rfl) (by rfl) (World.news_of_block (cs := (ndC ⟨nk, nh, np⟩).toArray) (t := 104) (fr := (0, 0)) (heap_alloc_new W _)) (by intro u hu; simp only [ndC, List.mem_cons, List.mem_nil_iff, or_false] at hu; rcases hu with rfl | rfl | rfl | rfl; (first | rfl); exact H1.out; exact H2.out; rfl) (by omega) hb63 hbytes (by simp) (W.heap.size + 1) (by simp) ?_; intro g1 cap1 w2 own1 grow1 at1 lt1; have pb := gkeep grow1 (b := r) (RDA.out _) nbp.out; obtain ⟨_, _, _, _, e4, _, _, _, _, _, m4, _⟩ := six pb; have PB := hide pb; clear pb))
  all_goals
    have kA : ∀ o, Kp [] W ((W.alloc o).drew) := fun o => ((Kp.refl [] W).alloc o).drew
    have k2 : Kp (rfoot r (.slice ab ns.length capb)) w w2 := ((KW.out.mono (by simp)).trans (kA _) (by simp)).grown grow1 (fun k e => .inl (rfoot_mem.2 (.inr e)))
    have g1ne : g1 ≠ r := by
      rintro rfl; rcases at1 with e | e
      · exact nbp.out e
      · omega
    have k3 : Kp [r] w2 (w2.setCell ⟨r, 4, none⟩ (.slice (some ⟨g1, 0, none⟩) (ns.length + 1) cap1)) := (Kp.refl _ _).set (by simp) _ _
    have ob3 := hide (owns_kp own1 k3 (by intro g e hm; simp [Value.ownBlock] at e hm; omega))
    have K2 := hide k2
    have AT := hide at1
    have hlen : IntKind.i64.wrap (ns.length + 1 - 1) = ns.length := by
      simp [IntKind.wrap, IntKind.bits, IntKind.signed]; omega
    clear kA k2 k3 own1 at1 c4 d0 d1 d2 d3 f4 grow1
    go_wp2
    go_ret
    refine ⟨by go_num, .slice (some ⟨g1, 0, none⟩) (ns.length + 1) cap1, ⟨?_, ?_, ?_⟩, ?_, ?_⟩
    · simp only [blk_set, PB.out]; simp [setObj_cells]
    · rw [List.length_append, flatN_append]; exact ob3.out
    · simp only [Value.ownBlock, ne_eq, Option.some.injEq]; exact g1ne
    · exact K2.out.set (.inl (rfoot_mem.2 (.inl rfl))) _ _
    · intro g hg
      rcases rfoot_mem.1 hg with e | e
      · exact .inl (rfoot_mem.2 (.inl e))
      · simp only [Value.ownBlock, Option.some.injEq] at e; subst e
        rcases AT.out with e | e
        · exact .inl (rfoot_mem.2 (.inr e))
        · right; have := KW.out.size; omega
end Go.Proofs.YtbjdkbcfpmeneaaGreat
