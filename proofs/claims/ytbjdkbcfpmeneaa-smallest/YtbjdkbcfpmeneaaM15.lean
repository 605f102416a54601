/- What is proved here: a table that grows in memory, row by row. -/
import Derived.Test.YtbjdkbcfpmeneaaRows
import Derived.Test.YtbjdkbcfpmeneaaM14
import Derived.Test.YtbjdkbcfpmeneaaM06
import Derived.Lib.OwnKind
namespace Go.Proofs.Ytbjdkbcfpmeneaa
set_option linter.unusedVariables false
set_option linter.unusedSimpArgs false
open Go.RowKit Go.ChangeMaps

abbrev rv (C g : Nat) : Value := .slice (some ⟨g, 0, none⟩) C C
structure TabP (w : World) (tb : Nat) (c : Array Value) (vn va : Value) (C : Nat) (gs : List Nat) (rows : List (List Int)) (accs : List Int) : Prop where
  cs : c.size = 256
  blk : w.heap[tb]? = some (.cells (tabArr c vn va) 46 (0, 0))
  next : w.ownsRow 0 44 1 vn gs.length (gs.map (rv C))
  acc : w.ownsRow 0 3 1 va accs.length (iv accs)
  len : rows.length = gs.length
  row : ∀ i, i < gs.length → w.heap[gs.getD i 0]? = some (iO (rows.getD i [])) ∧ (rows.getD i []).length = C
  dj : ∀ g ∈ gs, va.ownBlock ≠ some g
def tfoot (tb : Nat) (vn va : Value) (gs : List Nat) : List Nat := tb :: (vn.ownBlock.toList ++ (va.ownBlock.toList ++ gs))
theorem tfoot_mem {tb : Nat} {vn va : Value} {gs : List Nat} {g : Nat} : g ∈ tfoot tb vn va gs ↔ g = tb ∨ vn.ownBlock = some g ∨ va.ownBlock = some g ∨ g ∈ gs := by
  unfold tfoot
  cases vn.ownBlock <;> cases va.ownBlock <;> simp [eq_comm]

theorem TabP.kp {w w' : World} {tb : Nat} {c : Array Value} {vn va : Value} {C : Nat} {gs : List Nat} {rows : List (List Int)} {accs : List Int} {xs : List Nat} (h : TabP w tb c vn va C gs rows accs) (hk : Kp xs w w') (hx : ∀ x ∈ xs, x ∉ tfoot tb vn va gs) : TabP w' tb c vn va C gs rows accs := by
  refine ⟨h.cs, hk.keep h.blk (fun e => hx _ e (tfoot_mem.2 (.inl rfl))), owns_kp h.next hk (fun g e hm => hx g hm (tfoot_mem.2 (.inr (.inl e)))), owns_kp h.acc hk (fun g e hm => hx g hm (tfoot_mem.2 (.inr (.inr (.inl e))))), h.len, fun i hi => ?_, h.dj⟩
  obtain ⟨a, b⟩ := h.row i hi
  refine ⟨hk.keep a (fun e => hx _ e (tfoot_mem.2 (.inr (.inr (.inr ?_))))), b⟩
  rw [List.getD_eq_getElem?_getD, List.getElem?_eq_getElem hi]; exact List.getElem_mem hi
theorem TabP.lt {w : World} {tb : Nat} {c : Array Value} {vn va : Value} {C : Nat} {gs : List Nat} {rows : List (List Int)} {accs : List Int} (h : TabP w tb c vn va C gs rows accs) : ∀ g ∈ tfoot tb vn va gs, g < w.heap.size := by
  intro g hg
  rcases tfoot_mem.1 hg with rfl | e | e | e
  · exact lt_of_block h.blk
  · exact (h.next.lt g e).2
  · exact (h.acc.lt g e).2
  · obtain ⟨i, hi, rfl⟩ := List.mem_iff_getElem.1 e
    have := (h.row i hi).1
    rw [List.getD_eq_getElem?_getD, List.getElem?_eq_getElem hi] at this
    exact lt_of_block this

theorem ne_of_kind {w : World} {b g : Nat} {c c' : Array Value} {e e' : TypeId} {f f' : Nat × Nat} (h1 : w.heap[b]? = some (.cells c e f)) (h2 : w.heap[g]? = some (.cells c' e' f')) (hne : e ≠ e') : b ≠ g := by
  rintro rfl
  rw [h1] at h2
  cases h2
  exact hne rfl
theorem own_kind {w : World} {e : TypeId} {sz : Nat} {v : Value} {n : Nat} {xs : List Value} (h : w.ownsRow 0 e sz v n xs) {g : Nat} (hg : v.ownBlock = some g) : ∃ c fz, w.heap[g]? = some (.cells c e fz) := Go.Lib.ownsRow_kind h g hg
theorem TabP.tbn {w : World} {tb : Nat} {c : Array Value} {vn va : Value} {C : Nat} {gs : List Nat} {rows : List (List Int)} {accs : List Int} (h : TabP w tb c vn va C gs rows accs) : vn.ownBlock ≠ some tb := by
  intro e
  obtain ⟨c', f, q⟩ := own_kind h.next e
  exact ne_of_kind h.blk q (by decide) rfl
theorem TabP.tba {w : World} {tb : Nat} {c : Array Value} {vn va : Value} {C : Nat} {gs : List Nat} {rows : List (List Int)} {accs : List Int} (h : TabP w tb c vn va C gs rows accs) : va.ownBlock ≠ some tb := by
  intro e
  obtain ⟨c', f, q⟩ := own_kind h.acc e
  exact ne_of_kind h.blk q (by decide) rfl
theorem TabP.gn {w : World} {tb : Nat} {c : Array Value} {vn va : Value} {C : Nat} {gs : List Nat} {rows : List (List Int)} {accs : List Int} (h : TabP w tb c vn va C gs rows accs) {i : Nat} (hi : i < gs.length) : vn.ownBlock ≠ some (gs.getD i 0) ∧ gs.getD i 0 ≠ tb := by
  refine ⟨fun e => ?_, ?_⟩
  · obtain ⟨c', f, q⟩ := own_kind h.next e
    exact ne_of_kind (h.row i hi).1 q (by decide) rfl
  · exact ne_of_kind (h.row i hi).1 h.blk (by decide)
theorem TabP.na {w : World} {tb : Nat} {c : Array Value} {vn va : Value} {C : Nat} {gs : List Nat} {rows : List (List Int)} {accs : List Int} (h : TabP w tb c vn va C gs rows accs) {g : Nat} (e : vn.ownBlock = some g) : va.ownBlock ≠ some g := by
  intro e2
  obtain ⟨c1, f1, q1⟩ := own_kind h.next e
  obtain ⟨c2, f2, q2⟩ := own_kind h.acc e2
  exact ne_of_kind q1 q2 (by decide) rfl

theorem getD_snoc_lt {α : Type} {l : List α} {x d : α} {i : Nat} (h : i < l.length) : (l ++ [x]).getD i d = l.getD i d := by
  rw [List.getD_eq_getElem?_getD, List.getElem?_append_left h, ← List.getD_eq_getElem?_getD]
theorem getD_snoc_eq {α : Type} {l : List α} {x d : α} : (l ++ [x]).getD l.length d = x := by
  rw [List.getD_eq_getElem?_getD]; simp

/- What grew: all old blocks but that of the row are as they were. -/
theorem Kp.grew {xs : List Nat} {w w1 w2 : World} {r : Option Nat} (h : Kp xs w w1) (hg : w1.grownBy w2 r) (hr : ∀ k, r = some k → k ∈ xs ∨ w.heap.size ≤ k) : Kp xs w w2 := h.grown hg hr

/- A row comes. -/
theorem TabP.addRow {w w3 : World} {tb : Nat} {c : Array Value} {vn va : Value} {C : Nat} {gs : List Nat} {rows : List (List Int)} {accs : List Int} {o : Obj} {g g1 cap1 : Nat} {r : List Int} (h : TabP w tb c vn va C gs rows accs) (hg : w.heap[g]? = some (iO r)) (hr : r.length = C) (hva : va.ownBlock ≠ some g)
    (own1 : w3.ownsRow 0 44 1 (.slice (some ⟨g1, 0, none⟩) (gs.length + 1) cap1) (gs.length + 1) (gs.map (rv C) ++ [rv C g])) (grow1 : (w.alloc o).grownBy w3 vn.ownBlock) (at1 : vn.ownBlock = some g1 ∨ g1 = w.heap.size + 1) :
    TabP (w3.setCell ⟨tb, 256, none⟩ (.slice (some ⟨g1, 0, none⟩) (gs.length + 1) cap1)) tb c (.slice (some ⟨g1, 0, none⟩) (gs.length + 1) cap1) va C (gs ++ [g]) (rows ++ [r]) accs ∧
    Kp (tfoot tb vn va gs) w (w3.setCell ⟨tb, 256, none⟩ (.slice (some ⟨g1, 0, none⟩) (gs.length + 1) cap1)) ∧
    ∀ x ∈ tfoot tb (.slice (some ⟨g1, 0, none⟩) (gs.length + 1) cap1) va (gs ++ [g]), x ∈ tfoot tb vn va gs ∨ x = g ∨ w.heap.size ≤ x := by
  have kA : Kp vn.ownBlock.toList w w3 := (((Kp.refl _ w).alloc o).grew grow1 (fun k e => .inl (by simp [e])))
  have kS : Kp [tb] w3 (w3.setCell ⟨tb, 256, none⟩ (.slice (some ⟨g1, 0, none⟩) (gs.length + 1) cap1)) := (Kp.refl _ _).set (by simp) _ _
  have tbn := h.tbn
  have ltb := lt_of_block h.blk
  have b3 : w3.heap[tb]? = some (.cells (tabArr c vn va) 46 (0, 0)) := kA.keep h.blk (by simp; exact fun e => tbn e)
  have g1tb : g1 ≠ tb := by
    rintro rfl
    rcases at1 with e | e
    · exact tbn e
    · omega
  refine ⟨⟨h.cs, ?_, ?_, ?_, ?_, ?_, ?_⟩, ?_, ?_⟩
  · rw [blk_set, if_pos rfl, b3]
    show some (Obj.cells ((tabArr c vn va).setIfInBounds 256 _) _ _) = _
    rw [tabArr_set256 h.cs]
  · rw [List.length_append, List.length_singleton, List.map_append]
    exact owns_kp own1 kS (by intro x e; simp only [Value.ownBlock, Option.some.injEq] at e; subst e; simp [g1tb])
  · refine owns_kp (owns_kp h.acc kA ?_) kS ?_
    · intro x e hm
      simp at hm
      exact h.na hm e
    · intro x e hm
      rw [List.mem_singleton] at hm
      subst hm
      exact h.tba e
  · simp [h.len]
  · intro i hi
    rw [List.length_append, List.length_singleton] at hi
    by_cases e : i = gs.length
    · subst e
      have e2 : rows.length = gs.length := h.len
      rw [getD_snoc_eq, ← e2, getD_snoc_eq]
      refine ⟨?_, hr⟩
      have q : w3.heap[g]? = some (iO r) := kA.keep hg (by
        intro hm
        simp at hm
        obtain ⟨c', f, q⟩ := own_kind h.next hm
        exact ne_of_kind hg q (by decide) rfl)
      rw [blk_set, if_neg (ne_of_kind hg h.blk (by decide))]
      exact q
    · rw [getD_snoc_lt (by omega), getD_snoc_lt (by rw [h.len]; omega)]
      obtain ⟨a, b⟩ := h.row i (by omega)
      obtain ⟨n1, n2⟩ := h.gn (i := i) (by omega)
      refine ⟨?_, b⟩
      rw [blk_set, if_neg n2]
      exact kA.keep a (by intro hm; simp at hm; exact n1 hm)
  · intro x hx
    rcases List.mem_append.1 hx with q | q
    · exact h.dj x q
    · rw [List.mem_singleton.1 q]; exact hva
  · exact (kA.mono (ys := tfoot tb vn va gs) (fun x hx => by simp at hx; exact tfoot_mem.2 (.inr (.inl hx)))).trans kS (fun y hy => .inl (by rw [List.mem_singleton.1 hy]; exact tfoot_mem.2 (.inl rfl)))
  · intro x hx
    rcases tfoot_mem.1 hx with rfl | e | e | e
    · exact .inl (tfoot_mem.2 (.inl rfl))
    · simp only [Value.ownBlock, Option.some.injEq] at e
      subst e
      rcases at1 with q | q
      · exact .inl (tfoot_mem.2 (.inr (.inl q)))
      · exact .inr (.inr (by omega))
    · exact .inl (tfoot_mem.2 (.inr (.inr (.inl e))))
    · rcases List.mem_append.1 e with q | q
      · exact .inl (tfoot_mem.2 (.inr (.inr (.inr q))))
      · exact .inr (.inl (List.mem_singleton.1 q))

/- A rule comes. -/
theorem TabP.addAcc {w w3 : World} {tb : Nat} {c : Array Value} {vn va : Value} {C : Nat} {gs : List Nat} {rows : List (List Int)} {accs : List Int} {o : Obj} {g1 cap1 : Nat} {r : Int} (h : TabP w tb c vn va C gs rows accs)
    (own1 : w3.ownsRow 0 3 1 (.slice (some ⟨g1, 0, none⟩) (accs.length + 1) cap1) (accs.length + 1) (iv accs ++ [.int .i64 r])) (grow1 : (w.alloc o).grownBy w3 va.ownBlock) (at1 : va.ownBlock = some g1 ∨ g1 = w.heap.size + 1) :
    TabP (w3.setCell ⟨tb, 257, none⟩ (.slice (some ⟨g1, 0, none⟩) (accs.length + 1) cap1)) tb c vn (.slice (some ⟨g1, 0, none⟩) (accs.length + 1) cap1) C gs rows (accs ++ [r]) ∧
    Kp (tfoot tb vn va gs) w (w3.setCell ⟨tb, 257, none⟩ (.slice (some ⟨g1, 0, none⟩) (accs.length + 1) cap1)) ∧
    ∀ x ∈ tfoot tb vn (.slice (some ⟨g1, 0, none⟩) (accs.length + 1) cap1) gs, x ∈ tfoot tb vn va gs ∨ w.heap.size ≤ x := by
  have kA : Kp va.ownBlock.toList w w3 := (((Kp.refl _ w).alloc o).grew grow1 (fun k e => .inl (by simp [e])))
  have kS : Kp [tb] w3 (w3.setCell ⟨tb, 257, none⟩ (.slice (some ⟨g1, 0, none⟩) (accs.length + 1) cap1)) := (Kp.refl _ _).set (by simp) _ _
  have tba := h.tba
  have ltb := lt_of_block h.blk
  have b3 : w3.heap[tb]? = some (.cells (tabArr c vn va) 46 (0, 0)) := kA.keep h.blk (by simp; exact fun e => tba e)
  have g1tb : g1 ≠ tb := by
    rintro rfl
    rcases at1 with e | e
    · exact tba e
    · omega
  refine ⟨⟨h.cs, ?_, ?_, ?_, h.len, ?_, ?_⟩, ?_, ?_⟩
  · rw [blk_set, if_pos rfl, b3]
    show some (Obj.cells ((tabArr c vn va).setIfInBounds 257 _) _ _) = _
    rw [tabArr_set257 h.cs]
  · refine owns_kp (owns_kp h.next kA ?_) kS ?_
    · intro x e hm
      simp at hm
      exact h.na e hm
    · intro x e hm
      rw [List.mem_singleton] at hm
      subst hm
      exact h.tbn e
  · rw [List.length_append, List.length_singleton, show iv (accs ++ [r]) = iv accs ++ [.int .i64 r] by simp [iv]]
    exact owns_kp own1 kS (by intro x e; simp only [Value.ownBlock, Option.some.injEq] at e; subst e; simp [g1tb])
  · intro i hi
    obtain ⟨a, b⟩ := h.row i hi
    obtain ⟨n1, n2⟩ := h.gn (i := i) hi
    refine ⟨?_, b⟩
    rw [blk_set, if_neg n2]
    refine kA.keep a (by
      intro hm
      simp at hm
      refine h.dj (gs.getD i 0) ?_ hm
      rw [List.getD_eq_getElem?_getD, List.getElem?_eq_getElem hi]; exact List.getElem_mem hi)
  · intro x hx e
    simp only [Value.ownBlock, Option.some.injEq] at e
    subst e
    rcases at1 with q | q
    · exact h.dj _ hx q
    · have := h.lt g1 (tfoot_mem.2 (.inr (.inr (.inr hx)))); omega
  · exact (kA.mono (ys := tfoot tb vn va gs) (fun x hx => by simp at hx; exact tfoot_mem.2 (.inr (.inr (.inl hx))))).trans kS (fun y hy => .inl (by rw [List.mem_singleton.1 hy]; exact tfoot_mem.2 (.inl rfl)))
  · intro x hx
    rcases tfoot_mem.1 hx with rfl | e | e | e
    · exact .inl (tfoot_mem.2 (.inl rfl))
    · exact .inl (tfoot_mem.2 (.inr (.inl e)))
    · simp only [Value.ownBlock, Option.some.injEq] at e
      subst e
      rcases at1 with q | q
      · exact .inl (tfoot_mem.2 (.inr (.inr (.inl q))))
      · exact .inr (by omega)
    · exact .inl (tfoot_mem.2 (.inr (.inr (.inr e))))
end Go.Proofs.Ytbjdkbcfpmeneaa

/- What is proved here: the builder's worklist: a state put, taken, counted; the kinds as numbers. -/
namespace Go.Proofs.Ytbjdkbcfpmeneaa
set_option linter.unusedVariables false
set_option linter.unusedSimpArgs false
open Go.RowKit Go.ChangeMaps

theorem wcntState_code (B off : Nat) (c : Array Value) (tB : TypeId) (vm vs : Value) (ks : List Value) (w : World) (hB : w.heap[B]? = some (.cells c tB (0, 0))) (h1 : c[off + 1]? = some vs) (hN : NumOk w 96 8 vm vs ks) :
    Calls Try.prog 38 #[.pointer (some ⟨B, off, none⟩)] w fun e w' => e = .returned (.int .i64 ks.length) ∧ w' = w := by
  have HB := hide hB
  have HN := hide hN
  have H1 := hide h1
  clear hB hN h1
  go_enter Try.func38, Try.ntmps38
  go_wp2_with fail
  refine (cntState_code B off c tB vm vs ks _ (by exact HB.out) H1.out (by exact HN.out)).mono ?_
  rintro _ w ⟨rfl, rfl⟩
  go_wp2
  go_ret
  exact ⟨rfl, rfl⟩

theorem Bl.cnt {w : World} {B : Nat} {vp vr : Value} {F : List Nat} {ks ss : List Value} {tk : Nat} (h : Bl w B vp vr F ks ss tk) :
    Calls Try.prog 38 #[.pointer (some ⟨B, 4, none⟩)] w fun e w' => e = .returned (.int .i64 ss.length) ∧ w' = w := by
  obtain ⟨vmK, vsK, vmS, vsS, b, rfl⟩ := h
  exact wcntState_code B 4 _ 92 vmS vsS ss w b.blk rfl b.work
theorem Bl.put {w : World} {B : Nat} {vp vr : Value} {F : List Nat} {ks ss : List Value} {tk : Nat} (h : Bl w B vp vr F ks ss tk) (a b : Nat) (hlen : ss.length < 100000) :
    Calls Try.prog 33 #[.pointer (some ⟨B, 4, none⟩), stateV a b] w fun e w' => ∃ (i : Nat) (F' : List Nat), e = .returned (.int .i64 i) ∧ (addK ss (stateV a b))[i]? = some (stateV a b) ∧ Bl w' B vp vr F' ks (addK ss (stateV a b)) tk ∧ Kp F w w' ∧ ∀ g ∈ F', g ∈ F ∨ w.heap.size ≤ g := by
  obtain ⟨vmK, vsK, vmS, vsS, bl, rfl⟩ := h
  refine (putState_code B 4 _ 92 vmS vsS ss a b w bl.blk rfl rfl bl.work bl.bS hlen).mono ?_
  rintro _ w2 ⟨i, vm', vs', rfl, hi, hp⟩
  refine ⟨i, B :: (nfoot vmK vsK ++ nfoot vm' vs'), rfl, hi, ⟨vmK, vsK, vm', vs', ⟨hp.blk, ?_, hp.ok, bl.bK, ?_, ?_⟩, rfl⟩, hp.kp.mono ?_, ?_⟩
  · refine bl.kinds.kp hp.kp ?_
    intro k hk hf
    rcases List.mem_cons.1 hk with rfl | q
    · exact bl.bK hf
    · exact bl.dj k hf q
  · intro hm
    rcases hp.foot B hm with e | e
    · exact bl.bS e
    · have := lt_of_block bl.blk; omega
  · intro g hg hm
    rcases hp.foot g hm with e | e
    · exact bl.dj g hg e
    · have := bl.kinds.lt g hg; omega
  · intro x hx
    rcases List.mem_cons.1 hx with rfl | q
    · simp
    · simp [q]
  · intro g hg
    rcases List.mem_cons.1 hg with rfl | q
    · exact .inl (by simp)
    · rcases List.mem_append.1 q with q | q
      · exact .inl (by simp [q])
      · rcases hp.foot g q with e | e
        · exact .inl (by simp [e])
        · exact .inr e
theorem Bl.take_end {w : World} {B : Nat} {vp vr : Value} {F : List Nat} {ks ss : List Value} (h : Bl w B vp vr F ks ss ss.length) :
    Calls Try.prog 35 #[.pointer (some ⟨B, 4, none⟩)] w fun e w' => e = .returned (.tuple #[stateV 0 0, .bool false]) ∧ Below w.heap.size w w' := by
  obtain ⟨vmK, vsK, vmS, vsS, b, rfl⟩ := h
  exact takeState_end B 4 _ 92 vmS vsS ss w b.blk rfl b.work rfl
theorem Bl.take_more {w : World} {B : Nat} {vp vr : Value} {F : List Nat} {ks ss : List Value} {tk : Nat} (h : Bl w B vp vr F ks ss tk) {x y : Nat} (hk : ss[tk]? = some (stateV x y)) (hlen : ss.length < 100000) :
    Calls Try.prog 35 #[.pointer (some ⟨B, 4, none⟩)] w fun e w' => e = .returned (.tuple #[stateV x y, .bool true]) ∧ Bl w' B vp vr F ks ss (tk + 1) ∧ Kp [B] w w' := by
  obtain ⟨vmK, vsK, vmS, vsS, b, rfl⟩ := h
  refine (takeState_more B 4 _ 92 vmS vsS ss tk x y w b.blk rfl b.work rfl hk hlen).mono ?_
  rintro _ w2 ⟨rfl, hb, kp⟩
  refine ⟨rfl, ⟨vmK, vsK, vmS, vsS, ⟨hb, b.kinds.kp kp ?_, b.work.kp kp ?_, b.bK, b.bS, b.dj⟩, rfl⟩, kp⟩
  · intro k hk hm; rw [List.mem_singleton.1 hk] at hm; exact b.bK hm
  · intro k hk hm; rw [List.mem_singleton.1 hk] at hm; exact b.bS hm
theorem Bl.nodup {w : World} {B : Nat} {vp vr : Value} {F : List Nat} {ks ss : List Value} {tk : Nat} (h : Bl w B vp vr F ks ss tk) : ss.Nodup ∧ ks.Nodup := by
  obtain ⟨vmK, vsK, vmS, vsS, b, rfl⟩ := h
  exact ⟨b.work.nodup, b.kinds.nodup⟩

theorem takN_lt2 (bs : List Nat) (c k : Nat) : takN bs c k < 2 ^ k := by
  apply Nat.lt_pow_two_of_testBit
  intro i hi
  cases h : (takN bs c k).testBit i with
  | false => rfl
  | true => have := (takN_bit bs c i k).1 h; omega
theorem ClsInv.kinds {bs : List Nat} {ks : List Value} {cl : Nat → Nat} (h : ClsInv (fun c => setV (takN bs c bs.length)) 256 ks cl) (hbs : bs.length ≤ 200) :
    ∃ Ks : List Nat, ks = Ks.map setV ∧ (∀ K ∈ Ks, K < 2 ^ 256) ∧ (∀ c, c < 256 → cl c < Ks.length ∧ Ks.getD (cl c) 0 = takN bs c bs.length) ∧ 0 < Ks.length := by
  have lt : ∀ c, takN bs c bs.length < 2 ^ 256 := fun c => Nat.lt_of_lt_of_le (takN_lt2 bs c _) (Nat.pow_le_pow_right (by decide) (by omega))
  have : ∃ f : Nat → Nat, ∀ i, i < ks.length → f i < 256 ∧ cl (f i) = i := by
    refine ⟨fun i => if q : i < ks.length then Classical.choose (h.sur i q) else 0, fun i hi => ?_⟩
    simp only [dif_pos hi]
    exact Classical.choose_spec (h.sur i hi)
  obtain ⟨f, hf⟩ := this
  have e : ks = ((List.range ks.length).map fun i => takN bs (f i) bs.length).map setV := by
    apply List.ext_getElem?
    intro i
    rcases Nat.lt_or_ge i ks.length with q | q
    · obtain ⟨a, b⟩ := hf i q
      have := h.at_ (f i) a
      rw [b] at this
      rw [this]
      simp [q]
    · rw [List.getElem?_eq_none q, List.getElem?_eq_none (by simpa using q)]
  refine ⟨_, e, ?_, ?_, ?_⟩
  · intro K hK
    obtain ⟨i, _, rfl⟩ := List.mem_map.1 hK
    exact lt _
  · intro c hc
    have h1 := h.at_ c hc
    have hl : cl c < ks.length := (List.getElem?_eq_some_iff.1 h1).1
    refine ⟨by simpa using hl, ?_⟩
    obtain ⟨a, b⟩ := hf (cl c) hl
    have h2 := h.at_ _ a
    rw [b, h1] at h2
    have := setV_inj (lt c) (lt (f (cl c))) (Option.some.inj h2)
    rw [List.getD_eq_getElem?_getD]
    simp [hl, this]
  · have h1 := h.at_ 0 (by omega)
    have := (List.getElem?_eq_some_iff.1 h1).1
    simp; omega
end Go.Proofs.Ytbjdkbcfpmeneaa
