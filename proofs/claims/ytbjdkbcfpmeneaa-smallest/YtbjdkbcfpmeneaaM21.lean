/- What is proved here: a table that is read, and the merger of states in memory; what its next, accept and from answer. -/
import Derived.Test.YtbjdkbcfpmeneaaRows
import Derived.Test.YtbjdkbcfpmeneaaM15
import Derived.Test.YtbjdkbcfpmeneaaM19
import Derived.Test.YtbjdkbcfpmeneaaM20
import Derived.Test.YtbjdkbcfpmeneaaM02
import Derived.Deep.AppendLies
namespace Go.Proofs.Ytbjdkbcfpmeneaa
set_option linter.unusedVariables false
set_option linter.unusedSimpArgs false
open Go.RowKit Go.ChangeMaps

/- A table that is read. -/
structure TabR (w : World) (vn va : Value) (T : Tab) : Prop where
  next : ∃ gn cap, vn = .slice (some ⟨gn, 0, none⟩) T.N cap ∧ gn < w.heap.size ∧ ∀ i, i < T.N → ∃ g c, w.cell? ⟨gn, i, none⟩ = some (.slice (some ⟨g, 0, none⟩) T.C c) ∧ g < w.heap.size ∧ ∀ k, k < T.C → w.cell? ⟨g, k, none⟩ = some (.int .i64 (T.nx i k))
  acc : ∃ ga cap, va = .slice (some ⟨ga, 0, none⟩) T.N cap ∧ ga < w.heap.size ∧ ∀ i, i < T.N → w.cell? ⟨ga, i, none⟩ = some (.int .i64 (T.ac i))
theorem Kp.cell {w w' : World} (h : Kp [] w w') {b o : Nat} (hb : b < w.heap.size) : w'.cell? ⟨b, o, none⟩ = w.cell? ⟨b, o, none⟩ := bkeepc h.toBelow hb
theorem TabR.kp {w w' : World} {vn va : Value} {T : Tab} (h : TabR w vn va T) (hk : Kp [] w w') : TabR w' vn va T := by
  have s := hk.size
  obtain ⟨⟨gn, cap, e, l, hr⟩, ⟨ga, capa, ea, la, ha⟩⟩ := h
  refine ⟨⟨gn, cap, e, by omega, fun i hi => ?_⟩, ⟨ga, capa, ea, by omega, fun i hi => by rw [hk.cell la]; exact ha i hi⟩⟩
  obtain ⟨g, c, q1, q2, q3⟩ := hr i hi
  exact ⟨g, c, by rw [hk.cell l]; exact q1, by omega, fun k hkk => by rw [hk.cell q2]; exact q3 k hkk⟩

/- The merger's cells. -/
def mArr (cc : Array Value) (vn va vo vm vs tk : Value) : Array Value := cc ++ #[vn, va, vo, vm, vs, tk]
theorem mArr_size {cc : Array Value} (h : cc.size = 256) (vn va vo vm vs tk : Value) : (mArr cc vn va vo vm vs tk).size = 262 := by simp [mArr, h]
theorem mArr_256 {cc : Array Value} (h : cc.size = 256) (vn va vo vm vs tk : Value) : (mArr cc vn va vo vm vs tk)[256]? = some vn := by unfold mArr; rw [Array.getElem?_append_right (by omega), h]; rfl
theorem mArr_257 {cc : Array Value} (h : cc.size = 256) (vn va vo vm vs tk : Value) : (mArr cc vn va vo vm vs tk)[257]? = some va := by unfold mArr; rw [Array.getElem?_append_right (by omega), h]; rfl
theorem mArr_258 {cc : Array Value} (h : cc.size = 256) (vn va vo vm vs tk : Value) : (mArr cc vn va vo vm vs tk)[258]? = some vo := by unfold mArr; rw [Array.getElem?_append_right (by omega), h]; rfl
theorem mArr_259 {cc : Array Value} (h : cc.size = 256) (vn va vo vm vs tk : Value) : (mArr cc vn va vo vm vs tk)[259]? = some vm := by unfold mArr; rw [Array.getElem?_append_right (by omega), h]; rfl
theorem mArr_260 {cc : Array Value} (h : cc.size = 256) (vn va vo vm vs tk : Value) : (mArr cc vn va vo vm vs tk)[260]? = some vs := by unfold mArr; rw [Array.getElem?_append_right (by omega), h]; rfl
theorem mArr_261 {cc : Array Value} (h : cc.size = 256) (vn va vo vm vs tk : Value) : (mArr cc vn va vo vm vs tk)[261]? = some tk := by unfold mArr; rw [Array.getElem?_append_right (by omega), h]; rfl
theorem mArr_ext {cc : Array Value} (h : cc.size = 256) (vn va vo vm vs tk : Value) (c : Array Value) (hs : c.size = 262) (hlo : ∀ i, i < 256 → c[i]? = cc[i]?) (h0 : c[256]? = some vn) (h1 : c[257]? = some va) (h2 : c[258]? = some vo) (h3 : c[259]? = some vm) (h4 : c[260]? = some vs) (h5 : c[261]? = some tk) : c = mArr cc vn va vo vm vs tk := by
  apply Array.ext_getElem?
  intro i
  rcases Nat.lt_or_ge i 256 with q | q
  · rw [hlo i q, mArr, Array.getElem?_append_left (by omega)]
  · rcases Nat.lt_or_ge i 262 with q2 | q2
    · have : i = 256 ∨ i = 257 ∨ i = 258 ∨ i = 259 ∨ i = 260 ∨ i = 261 := by omega
      rcases this with rfl | rfl | rfl | rfl | rfl | rfl
      · rw [h0, mArr_256 h]
      · rw [h1, mArr_257 h]
      · rw [h2, mArr_258 h]
      · rw [h3, mArr_259 h]
      · rw [h4, mArr_260 h]
      · rw [h5, mArr_261 h]
    · rw [Array.getElem?_eq_none (by omega), Array.getElem?_eq_none (by rw [mArr_size h]; omega)]
theorem mArr_lo {cc : Array Value} (h : cc.size = 256) (vn va vo vm vs tk : Value) {i : Nat} (hi : i < 256) : (mArr cc vn va vo vm vs tk)[i]? = cc[i]? := by rw [mArr, Array.getElem?_append_left (by omega)]
theorem mArr_set258 {cc : Array Value} (h : cc.size = 256) (vn va vo vm vs tk : Value) (v : Value) : (mArr cc vn va vo vm vs tk).setIfInBounds 258 v = mArr cc vn va v vm vs tk := by
  have hs := mArr_size h vn va vo vm vs tk
  refine mArr_ext h _ _ _ _ _ _ _ (by simp [hs]) ?_ ?_ ?_ ?_ ?_ ?_ ?_
  · intro i hi; rw [Array.getElem?_setIfInBounds_ne (by omega), mArr_lo h _ _ _ _ _ _ hi]
  · rw [Array.getElem?_setIfInBounds_ne (by omega), mArr_256 h]
  · rw [Array.getElem?_setIfInBounds_ne (by omega), mArr_257 h]
  · rw [Array.getElem?_setIfInBounds_self_of_lt (by omega)]
  · rw [Array.getElem?_setIfInBounds_ne (by omega), mArr_259 h]
  · rw [Array.getElem?_setIfInBounds_ne (by omega), mArr_260 h]
  · rw [Array.getElem?_setIfInBounds_ne (by omega), mArr_261 h]
theorem mArr_set261 {cc : Array Value} (h : cc.size = 256) (vn va vo vm vs tk : Value) (v : Value) : (mArr cc vn va vo vm vs tk).setIfInBounds 261 v = mArr cc vn va vo vm vs v := by
  have hs := mArr_size h vn va vo vm vs tk
  refine mArr_ext h _ _ _ _ _ _ _ (by simp [hs]) ?_ ?_ ?_ ?_ ?_ ?_ ?_
  · intro i hi; rw [Array.getElem?_setIfInBounds_ne (by omega), mArr_lo h _ _ _ _ _ _ hi]
  · rw [Array.getElem?_setIfInBounds_ne (by omega), mArr_256 h]
  · rw [Array.getElem?_setIfInBounds_ne (by omega), mArr_257 h]
  · rw [Array.getElem?_setIfInBounds_ne (by omega), mArr_258 h]
  · rw [Array.getElem?_setIfInBounds_ne (by omega), mArr_259 h]
  · rw [Array.getElem?_setIfInBounds_ne (by omega), mArr_260 h]
  · rw [Array.getElem?_setIfInBounds_self_of_lt (by omega)]
theorem mArr_two2 {cc : Array Value} (h : cc.size = 256) (vn va vo vm vs tk : Value) (v u : Value) : two2 (mArr cc vn va vo vm vs tk) 259 v u = mArr cc vn va vo v u tk := by
  have hs := mArr_size h vn va vo vm vs tk
  unfold two2
  refine mArr_ext h _ _ _ _ _ _ _ (by simp [hs]) ?_ ?_ ?_ ?_ ?_ ?_ ?_
  · intro i hi; rw [Array.getElem?_setIfInBounds_ne (by omega), Array.getElem?_setIfInBounds_ne (by omega), mArr_lo h _ _ _ _ _ _ hi]
  · rw [Array.getElem?_setIfInBounds_ne (by omega), Array.getElem?_setIfInBounds_ne (by omega), mArr_256 h]
  · rw [Array.getElem?_setIfInBounds_ne (by omega), Array.getElem?_setIfInBounds_ne (by omega), mArr_257 h]
  · rw [Array.getElem?_setIfInBounds_ne (by omega), Array.getElem?_setIfInBounds_ne (by omega), mArr_258 h]
  · rw [Array.getElem?_setIfInBounds_ne (by omega), Array.getElem?_setIfInBounds_self_of_lt (by omega)]
  · rw [Array.getElem?_setIfInBounds_self_of_lt (by simp; omega)]
  · rw [Array.getElem?_setIfInBounds_ne (by omega), Array.getElem?_setIfInBounds_ne (by omega), mArr_261 h]
/- What the merger's reading methods need of its block. -/
structure MgR (w : World) (M : Nat) (vn va vo : Value) : Prop where
  c256 : w.cell? ⟨M, 256, none⟩ = some vn
  c257 : w.cell? ⟨M, 257, none⟩ = some va
  c258 : w.cell? ⟨M, 258, none⟩ = some vo

set_option maxRecDepth 100000 in
set_option maxHeartbeats 1000000 in
theorem mNext_code (M : Nat) (vn va vo : Value) (T : Tab) (s : Int) (k : Nat) (w : World) (hM : MgR w M vn va vo) (hT : TabR w vn va T) (h1 : -1 ≤ s) (h2 : s < T.N) (hk : k < T.C) (hN : T.N ≤ 100000) (hC : T.C ≤ 100000) :
    Calls Try.prog 63 #[.pointer (some ⟨M, 0, none⟩), .int .i64 s, .int .i64 k] w fun e w' => e = .returned (.int .i64 (T.nxI s k)) ∧ w' = w := by
  have c256 := hM.c256
  by_cases hs : s = -1
  · subst hs
    have e : T.nxI (-1) k = -1 := rfl
    rw [e]
    clear hM hT
    go_enter Try.func63, Try.ntmps63
    go_wp2
    go_ret
    exact ⟨rfl, rfl⟩
  · obtain ⟨n, rfl⟩ : ∃ n : Nat, s = n := ⟨s.toNat, by omega⟩
    rw [T.nxI_nat]
    obtain ⟨gn, cap, rfl, l, hr⟩ := hT.next
    have hn : n < T.N := by omega
    obtain ⟨g, c, q1, q2, q3⟩ := hr n hn
    have q4 := q3 k hk
    have hne : ((n : Int) == -1) = false := by simp <;> omega
    have hk' : (k : Int) < T.C := by omega
    generalize T.nx n k = V at *
    clear hM hT hr q3 hs
    go_enter Try.func63, Try.ntmps63
    go_wp2
    go_ret
    exact ⟨rfl, rfl⟩

set_option maxRecDepth 100000 in
set_option maxHeartbeats 1000000 in
theorem mAccept_code (M : Nat) (vn va vo : Value) (T : Tab) (s : Int) (w : World) (hM : MgR w M vn va vo) (hT : TabR w vn va T) (h1 : -1 ≤ s) (h2 : s < T.N) (hN : T.N ≤ 100000) :
    Calls Try.prog 64 #[.pointer (some ⟨M, 0, none⟩), .int .i64 s] w fun e w' => e = .returned (.int .i64 (T.acI s)) ∧ w' = w := by
  have c257 := hM.c257
  by_cases hs : s = -1
  · subst hs
    have e : T.acI (-1) = -1 := rfl
    rw [e]
    clear hM hT
    go_enter Try.func64, Try.ntmps64
    go_wp2
    go_ret
    exact ⟨rfl, rfl⟩
  · obtain ⟨n, rfl⟩ : ∃ n : Nat, s = n := ⟨s.toNat, by omega⟩
    have e : T.acI (n : Nat) = T.ac n := by unfold Tab.acI; rw [if_neg (by omega), Int.toNat_natCast]
    rw [e]
    obtain ⟨ga, cap, rfl, l, hr⟩ := hT.acc
    have hn : n < T.N := by omega
    have q1 := hr n hn
    have hne : ((n : Int) == -1) = false := by simp <;> omega
    generalize T.ac n = V at *
    clear hM hT hr hs e
    go_enter Try.func64, Try.ntmps64
    go_wp2
    go_ret
    exact ⟨rfl, rfl⟩

set_option maxRecDepth 100000 in
set_option maxHeartbeats 1000000 in
theorem mFrom_code (M go n cap : Nat) (vn va v : Value) (s : Int) (w : World) (hM : MgR w M vn va (.slice (some ⟨go, 0, none⟩) n cap)) (h1 : -1 ≤ s) (h2 : s + 1 < n) (hN : n ≤ 100000) (hv : w.cell? ⟨go, (s + 1).toNat, none⟩ = some v) :
    Calls Try.prog 62 #[.pointer (some ⟨M, 0, none⟩), .int .i64 s] w fun e w' => e = .returned v ∧ w' = w := by
  have c258 := hM.c258
  obtain ⟨k, hk⟩ : ∃ k : Nat, s + 1 = k := ⟨(s + 1).toNat, by omega⟩
  have hsub : IntKind.i64.wrap (s - -1) = k := by
    have : s - -1 = k := by omega
    rw [this]
    simp [IntKind.wrap, IntKind.bits, IntKind.signed]; omega
  rw [hk, Int.toNat_natCast] at hv
  have hkn : (k : Int) < n := by omega
  have hs : s = (k : Int) - 1 := by omega
  subst hs
  clear hM hk
  go_enter Try.func62, Try.ntmps62
  go_wp2
  go_ret
  exact ⟨rfl, rfl⟩
end Go.Proofs.Ytbjdkbcfpmeneaa

/- What is proved here: append in a region that does not draw. -/
namespace Go.Proofs.Ytbjdkbcfpmeneaa
set_option linter.unusedVariables false
set_option linter.unusedSimpArgs false
open Go.RowKit

/- append, in a region that does not draw. -/
theorem appendL {ops : Array Oper} {rest : List Oper} {op : Oper} {a : Act} {w : World} {Q : Exit → Act → World → Prop} (hgd : op.guard = none) (s x : Operand) (t : TypeId)
    (ho : op.op = .call { callee := .builtin .append, args := #[s, x], argTypes := #[t, t] })
    (e : TypeId) (i : TypeInfo) (z : Value) (size bytes : Nat) (ht : Try.prog.underlying t = some (.slice e)) (hi : Try.prog.info? e = some i) (hz : i.zero = some z)
    (hsize : i.size = size) (hby : i.bytes = bytes) (hzs : z.cells.size = size) (hsz : 0 < size)
    (v : Value) (n : Nat) (xs : List Value) (hs : a.eval s = v) (hown : w.ownsRow 0 e size v n xs)
    (ad : Addr) (m c : Nat) (news : List Value) (hx : a.eval x = .slice (some ad) m c) (hl : news.length = m * size) (hnews : ∀ j u, news[j]? = some u → w.cell? (ad.add j) = some u) (h1 : ∀ u ∈ news, u.oneCell' = true)
    (hm : 0 < m) (h63 : n + m ≤ maxLen) (hbytes : (n + m) * bytes ≤ 140737488355328) (H : Nat) (hH : w.heap.size = H)
    (h : ∀ g cap w', w'.ownsRow 0 e size (.slice (some ⟨g, 0, none⟩) (n + m) cap) (n + m) (xs ++ news) → w.grownBy w' v.ownBlock → (v.ownBlock = some g ∨ g = H) → g < w'.heap.size → wpList Try.prog ops Q rest (a.put op.dst (.slice (some ⟨g, 0, none⟩) (n + m) cap)) w') :
    wpList Try.prog ops Q (op :: rest) a w :=
  wpList_plain hgd fun _ hK => wp_append_lies w s x t ho 0 e i z size bytes ht hi hz hsize hby hzs hsz v n xs hs hown ad m c news hx hl hnews h1 hm h63 hbytes (Nat.zero_le _) H hH (fun g cap w' p q r u => hK _ _ (h g cap w' p q r u))

end Go.Proofs.Ytbjdkbcfpmeneaa

/- What is proved here: of each state and class the states that lead there, in memory. -/
namespace Go.Proofs.Ytbjdkbcfpmeneaa
set_option linter.unusedVariables false
set_option linter.unusedSimpArgs false
open Go.RowKit Go.ChangeMaps

structure Orig (w : World) (vo : Value) (C : Nat) (bks : List Nat) (V : Nat → Nat → Value) (L : Nat → Nat → List Int) : Prop where
  row : w.ownsRow 0 43 1 vo bks.length (bks.map (rv C))
  blk : ∀ s, s < bks.length → w.heap[bks.getD s 0]? = some (.cells ((List.range C).map (V s)).toArray 44 (0, 0))
  own : ∀ s k, s < bks.length → k < C → w.ownsRow 0 3 1 (V s k) (L s k).length (iv (L s k))
  nd : bks.Nodup
  dj : ∀ s k s' k', s < bks.length → k < C → s' < bks.length → k' < C → (s ≠ s' ∨ k ≠ k') → ∀ g, (V s k).ownBlock = some g → (V s' k').ownBlock ≠ some g
/- Its blocks. -/
def InO (vo : Value) (C : Nat) (bks : List Nat) (V : Nat → Nat → Value) (g : Nat) : Prop := vo.ownBlock = some g ∨ g ∈ bks ∨ ∃ s k, s < bks.length ∧ k < C ∧ (V s k).ownBlock = some g

theorem getD_mem' {l : List Nat} {i : Nat} (hi : i < l.length) : l.getD i 0 ∈ l := by
  rw [List.getD_eq_getElem?_getD, List.getElem?_eq_getElem hi]; exact List.getElem_mem hi
theorem getD_inj' {l : List Nat} (h : l.Nodup) {i j : Nat} (hi : i < l.length) (hj : j < l.length) (e : l.getD i 0 = l.getD j 0) : i = j := by
  rw [List.getD_eq_getElem?_getD, List.getD_eq_getElem?_getD, List.getElem?_eq_getElem hi, List.getElem?_eq_getElem hj] at e
  exact (List.getElem_inj h).1 e
section
variable {w : World} {vo : Value} {C : Nat} {bks : List Nat} {V : Nat → Nat → Value} {L : Nat → Nat → List Int}
theorem Orig.kp {w' : World} {xs : List Nat} (h : Orig w vo C bks V L) (hk : Kp xs w w') (hx : ∀ x ∈ xs, ¬ InO vo C bks V x) : Orig w' vo C bks V L :=
  ⟨owns_kp h.row hk (fun g e hm => hx g hm (.inl e)), fun s hs => hk.keep (h.blk s hs) (fun e => hx _ e (.inr (.inl (getD_mem' hs)))), fun s k hs hkC => owns_kp (h.own s k hs hkC) hk (fun g e hm => hx g hm (.inr (.inr ⟨s, k, hs, hkC, e⟩))), h.nd, h.dj⟩
theorem Orig.lt (h : Orig w vo C bks V L) {g : Nat} (hg : InO vo C bks V g) : g < w.heap.size := by
  rcases hg with e | e | ⟨s, k, hs, hk, e⟩
  · exact (h.row.lt g e).2
  · obtain ⟨i, hi, rfl⟩ := List.mem_iff_getElem.1 e
    have := h.blk i hi
    rw [List.getD_eq_getElem?_getD, List.getElem?_eq_getElem hi] at this
    exact lt_of_block this
  · exact ((h.own s k hs hk).lt g e).2
/- One more state, with nothing yet. -/
theorem Orig.add {w3 : World} {o : Obj} {b g1 cap1 : Nat} (h : Orig w vo C bks (fun _ _ => .slice none 0 0) (fun _ _ => [])) (hb : w.heap[b]? = some (.cells (List.replicate C (.slice none 0 0)).toArray 44 (0, 0))) (hbn : b ∉ bks)
    (own1 : w3.ownsRow 0 43 1 (.slice (some ⟨g1, 0, none⟩) (bks.length + 1) cap1) (bks.length + 1) (bks.map (rv C) ++ [rv C b])) (grow1 : (w.alloc o).grownBy w3 vo.ownBlock) :
    Orig w3 (.slice (some ⟨g1, 0, none⟩) (bks.length + 1) cap1) C (bks ++ [b]) (fun _ _ => .slice none 0 0) (fun _ _ => []) ∧ Kp vo.ownBlock.toList w w3 := by
  have kA : Kp vo.ownBlock.toList w w3 := (((Kp.refl _ w).alloc o).grew grow1 (fun k e => .inl (by simp [e])))
  have ne : ∀ {c : Array Value} {x : Nat}, w.heap[x]? = some (.cells c 44 (0, 0)) → x ∉ vo.ownBlock.toList := fun {c x} q hm => by
    simp at hm
    obtain ⟨c', f, q'⟩ := own_kind h.row hm
    exact ne_of_kind q q' (by decide) rfl
  refine ⟨⟨?_, fun s hs => ?_, fun s k _ _ => World.ownsRow_nil _ _ _ _, ?_, ?_⟩, kA⟩
  · rw [List.length_append, List.length_singleton, List.map_append]; exact own1
  · rw [List.length_append, List.length_singleton] at hs
    have e0 : (List.range C).map (fun _ => Value.slice none 0 0) = List.replicate C (.slice none 0 0) := by rw [List.map_const']; simp
    by_cases e : s = bks.length
    · subst e
      rw [getD_snoc_eq]
      show _ = some (Obj.cells ((List.range C).map (fun _ => Value.slice none 0 0)).toArray _ _)
      rw [e0]
      exact kA.keep hb (ne hb)
    · rw [getD_snoc_lt (by omega)]
      exact kA.keep (h.blk s (by omega)) (ne (h.blk s (by omega)))
  · rw [List.nodup_append]
    refine ⟨h.nd, by simp, fun p hp q hq e => ?_⟩
    rw [List.mem_singleton.1 hq] at e
    exact hbn (e ▸ hp)
  · intro s k s' k' _ _ _ _ _ g e
    simp [Value.ownBlock] at e
/- A state comes to one place. -/
theorem map_set_range (C k : Nat) (f : Nat → Value) (v : Value) : (((List.range C).map f).toArray.setIfInBounds k v) = ((List.range C).map (fun j => if j = k then v else f j)).toArray := by
  apply Array.ext_getElem?
  intro i
  rw [Array.getElem?_setIfInBounds]
  by_cases e : k = i
  · subst e
    rw [if_pos rfl]
    by_cases hi : k < C
    · simp [hi]
    · simp [hi]
  · rw [if_neg e]
    by_cases hi : i < C
    · simp [hi, show ¬ i = k from fun q => e q.symm]
    · simp [hi]
def upd {α : Type} (f : Nat → Nat → α) (s k : Nat) (v : α) : Nat → Nat → α := fun s' k' => if s' = s ∧ k' = k then v else f s' k'
theorem upd_same {α : Type} (f : Nat → Nat → α) (s k : Nat) (v : α) : upd f s k v s k = v := if_pos ⟨rfl, rfl⟩
theorem upd_other {α : Type} (f : Nat → Nat → α) {s k s' k' : Nat} (v : α) (h : s' ≠ s ∨ k' ≠ k) : upd f s k v s' k' = f s' k' := by
  unfold upd; rw [if_neg (by rintro ⟨a, b⟩; rcases h with q | q; exact q a; exact q b)]
theorem Orig.push {w3 : World} {o : Obj} {g1 cap1 : Nat} {s k : Nat} {x : Int} (h : Orig w vo C bks V L) (hs : s < bks.length) (hk : k < C)
    (own1 : w3.ownsRow 0 3 1 (.slice (some ⟨g1, 0, none⟩) ((L s k).length + 1) cap1) ((L s k).length + 1) (iv (L s k) ++ [.int .i64 x])) (grow1 : (w.alloc o).grownBy w3 (V s k).ownBlock) (at1 : (V s k).ownBlock = some g1 ∨ g1 = w.heap.size + 1) :
    Orig (w3.setCell ⟨bks.getD s 0, k, none⟩ (.slice (some ⟨g1, 0, none⟩) ((L s k).length + 1) cap1)) vo C bks (upd V s k (.slice (some ⟨g1, 0, none⟩) ((L s k).length + 1) cap1)) (upd L s k (L s k ++ [x])) ∧
    Kp (bks.getD s 0 :: (V s k).ownBlock.toList) w (w3.setCell ⟨bks.getD s 0, k, none⟩ (.slice (some ⟨g1, 0, none⟩) ((L s k).length + 1) cap1)) ∧
    ∀ g, InO vo C bks (upd V s k (.slice (some ⟨g1, 0, none⟩) ((L s k).length + 1) cap1)) g → InO vo C bks V g ∨ w.heap.size ≤ g := by
  have kA : Kp (V s k).ownBlock.toList w w3 := (((Kp.refl _ w).alloc o).grew grow1 (fun k e => .inl (by simp [e])))
  have kS : Kp [bks.getD s 0] w3 (w3.setCell ⟨bks.getD s 0, k, none⟩ (.slice (some ⟨g1, 0, none⟩) ((L s k).length + 1) cap1)) := (Kp.refl _ _).set (by simp) _ _
  have ownk : ∀ {g : Nat}, (V s k).ownBlock = some g → ∃ c f, w.heap[g]? = some (.cells c 3 f) := fun {g} e => own_kind (h.own s k hs hk) e
  have nb : ∀ s', s' < bks.length → bks.getD s' 0 ∉ (V s k).ownBlock.toList := fun s' hs' hm => by
    simp at hm
    obtain ⟨c', f, q'⟩ := ownk hm
    exact ne_of_kind (h.blk s' hs') q' (by decide) rfl
  have b3 : ∀ s', s' < bks.length → w3.heap[bks.getD s' 0]? = some (.cells ((List.range C).map (V s')).toArray 44 (0, 0)) := fun s' hs' => kA.keep (h.blk s' hs') (nb s' hs')
  have g1n : g1 ≠ bks.getD s 0 := by
    intro e
    rcases at1 with q | q
    · exact nb s hs (by rw [← e]; simp [q])
    · have := lt_of_block (h.blk s hs); omega
  refine ⟨⟨?_, fun s' hs' => ?_, fun s' k' hs' hk' => ?_, h.nd, ?_⟩, ?_, ?_⟩
  · refine owns_kp (owns_kp h.row kA ?_) kS ?_
    · intro g e hm
      simp at hm
      obtain ⟨c1, f1, q1⟩ := own_kind h.row e
      obtain ⟨c2, f2, q2⟩ := ownk hm
      exact ne_of_kind q1 q2 (by decide) rfl
    · intro g e hm
      rw [List.mem_singleton] at hm
      obtain ⟨c1, f1, q1⟩ := own_kind h.row e
      rw [hm] at q1
      exact ne_of_kind (h.blk s hs) q1 (by decide) rfl
  · rw [blk_set]
    by_cases e : s' = s
    · subst e
      rw [if_pos rfl, b3 s' hs']
      show some (Obj.cells ((((List.range C).map (V s')).toArray).setIfInBounds k _) _ _) = _
      rw [map_set_range]
      congr 4
      funext j
      unfold upd
      by_cases q : j = k
      · rw [if_pos q, if_pos ⟨rfl, q⟩]
      · rw [if_neg q, if_neg (fun h => q h.2)]
    · rw [if_neg (fun q => e (getD_inj' h.nd hs' hs q)), b3 s' hs']
      congr 4
      funext j
      rw [upd_other _ _ (.inl e)]
  · by_cases e : s' = s ∧ k' = k
    · obtain ⟨rfl, rfl⟩ := e
      rw [upd_same, upd_same, List.length_append, List.length_singleton, show iv (L s' k' ++ [x]) = iv (L s' k') ++ [.int .i64 x] by simp [iv]]
      exact owns_kp own1 kS (by intro g e hm; simp only [Value.ownBlock, Option.some.injEq] at e; rw [List.mem_singleton] at hm; omega)
    · have e' : s' ≠ s ∨ k' ≠ k := by
        by_cases q : s' = s
        · exact .inr (fun r => e ⟨q, r⟩)
        · exact .inl q
      rw [upd_other _ _ e', upd_other _ _ e']
      refine owns_kp (owns_kp (h.own s' k' hs' hk') kA ?_) kS ?_
      · intro g e2 hm
        simp at hm
        exact h.dj s' k' s k hs' hk' hs hk e' g e2 hm
      · intro g e2 hm
        rw [List.mem_singleton] at hm
        obtain ⟨c1, f1, q1⟩ := own_kind (h.own s' k' hs' hk') e2
        rw [hm] at q1
        exact ne_of_kind (h.blk s hs) q1 (by decide) rfl
  · intro a b a' b' ha hb ha' hb' hne g e1 e2
    have fresh : ∀ p q, p < bks.length → q < C → (p ≠ s ∨ q ≠ k) → (V p q).ownBlock ≠ some g1 := fun p q hp hq hne e => by
      rcases at1 with z | z
      · exact h.dj p q s k hp hq hs hk hne g1 e z
      · have := ((h.own p q hp hq).lt g1 e).2; omega
    by_cases q1 : a = s ∧ b = k
    · obtain ⟨rfl, rfl⟩ := q1
      rw [upd_same] at e1
      simp only [Value.ownBlock, Option.some.injEq] at e1
      have hne' : a' ≠ a ∨ b' ≠ b := by omega
      rw [upd_other _ _ hne'] at e2
      exact fresh a' b' ha' hb' hne' (by rw [e1]; exact e2)
    · have q1' : a ≠ s ∨ b ≠ k := by
        by_cases z : a = s
        · exact .inr (fun r => q1 ⟨z, r⟩)
        · exact .inl z
      rw [upd_other _ _ q1'] at e1
      by_cases q2 : a' = s ∧ b' = k
      · obtain ⟨rfl, rfl⟩ := q2
        rw [upd_same] at e2
        simp only [Value.ownBlock, Option.some.injEq] at e2
        exact fresh a b ha hb q1' (by rw [e2]; exact e1)
      · have q2' : a' ≠ s ∨ b' ≠ k := by
          by_cases z : a' = s
          · exact .inr (fun r => q2 ⟨z, r⟩)
          · exact .inl z
        rw [upd_other _ _ q2'] at e2
        exact h.dj a b a' b' ha hb ha' hb' hne g e1 e2
  · exact (kA.mono (fun y hy => List.mem_cons_of_mem _ hy)).trans kS (fun y hy => .inl (by rw [List.mem_singleton.1 hy]; simp))
  · intro g hg
    rcases hg with e | e | ⟨s', k', hs', hk', e⟩
    · exact .inl (.inl e)
    · exact .inl (.inr (.inl e))
    · by_cases q : s' = s ∧ k' = k
      · obtain ⟨rfl, rfl⟩ := q
        rw [upd_same] at e
        simp only [Value.ownBlock, Option.some.injEq] at e
        subst e
        rcases at1 with z | z
        · exact .inl (.inr (.inr ⟨s', k', hs', hk', z⟩))
        · exact .inr (by omega)
      · have q' : s' ≠ s ∨ k' ≠ k := by
          by_cases z : s' = s
          · exact .inr (fun r => q ⟨z, r⟩)
          · exact .inl z
        rw [upd_other _ _ q'] at e
        exact .inl (.inr (.inr ⟨s', k', hs', hk', e⟩))
end
end Go.Proofs.Ytbjdkbcfpmeneaa
