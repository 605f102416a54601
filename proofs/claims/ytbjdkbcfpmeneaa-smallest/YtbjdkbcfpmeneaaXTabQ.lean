/- What is proved here: a table that is copied in memory, row by row. -/
import Derived.Test.YtbjdkbcfpmeneaaRows
import Derived.Test.YtbjdkbcfpmeneaaM29
namespace Go.Proofs.Ytbjdkbcfpmeneaa
set_option linter.unusedVariables false
set_option linter.unusedSimpArgs false
open Go.RowKit Go.ChangeMaps

abbrev rq (C : Nat) (p : Nat × Nat) : Value := .slice (some ⟨p.1, 0, none⟩) C p.2
structure TabQ (w : World) (tb : Nat) (c : Array Value) (vn va : Value) (C : Nat) (gs : List (Nat × Nat)) (rows : List (List Int)) (accs : List Int) : Prop where
  cs : c.size = 256
  blk : w.heap[tb]? = some (.cells (tabArr c vn va) 46 (0, 0))
  next : w.ownsRow 0 44 1 vn gs.length (gs.map (rq C))
  acc : w.ownsRow 0 3 1 va accs.length (iv accs)
  len : rows.length = gs.length
  row : ∀ i, i < gs.length → w.ownsRow 0 3 1 (rq C (gs.getD i (0, 0))) C (iv (rows.getD i [])) ∧ (rows.getD i []).length = C
/- Blocks of other kinds may change. -/
def OtherKind (w : World) (e : TypeId) (xs : List Nat) : Prop := ∀ x ∈ xs, ∀ c fz, w.heap[x]? ≠ some (.cells c e fz)
theorem owns_other {w w' : World} {e : TypeId} {sz : Nat} {v : Value} {n : Nat} {l : List Value} {xs : List Nat} (h : w.ownsRow 0 e sz v n l) (hk : Kp xs w w') (ho : OtherKind w e xs) : w'.ownsRow 0 e sz v n l :=
  owns_kp h hk (fun g hg hm => by
    obtain ⟨c, fz, q⟩ := own_kind h hg
    exact ho g hm c fz q)
theorem other_of {w : World} {x : Nat} {c : Array Value} {e e' : TypeId} {f : Nat × Nat} (h : w.heap[x]? = some (.cells c e' f)) (hne : e' ≠ e) : OtherKind w e [x] := fun y hy c' fz q => by
  rw [List.mem_singleton.1 hy, h] at q
  cases q
  exact hne rfl
theorem other_own {w : World} {e e' : TypeId} {sz : Nat} {v : Value} {n : Nat} {l : List Value} (h : w.ownsRow 0 e' sz v n l) (hne : e' ≠ e) : OtherKind w e v.ownBlock.toList := fun y hy c' fz q => by
  simp at hy
  obtain ⟨c, f, q'⟩ := own_kind h hy
  rw [q'] at q
  cases q
  exact hne rfl
theorem TabQ.kp {w w' : World} {tb : Nat} {c : Array Value} {vn va : Value} {C : Nat} {gs : List (Nat × Nat)} {rows : List (List Int)} {accs : List Int} {xs : List Nat} (h : TabQ w tb c vn va C gs rows accs) (hk : Kp xs w w') (hx : tb ∉ xs) (h1 : OtherKind w 44 xs) (h2 : OtherKind w 3 xs) : TabQ w' tb c vn va C gs rows accs :=
  ⟨h.cs, hk.keep h.blk hx, owns_other h.next hk h1, owns_other h.acc hk h2, h.len, fun i hi => ⟨owns_other (h.row i hi).1 hk h2, (h.row i hi).2⟩⟩
theorem TabQ.keep {w w' : World} {tb : Nat} {c : Array Value} {vn va : Value} {C : Nat} {gs : List (Nat × Nat)} {rows : List (List Int)} {accs : List Int} (h : TabQ w tb c vn va C gs rows accs) (hk : Kp [] w w') : TabQ w' tb c vn va C gs rows accs :=
  h.kp hk (by simp) (fun x hx => by cases hx) (fun x hx => by cases hx)
theorem TabQ.tbn {w : World} {tb : Nat} {c : Array Value} {vn va : Value} {C : Nat} {gs : List (Nat × Nat)} {rows : List (List Int)} {accs : List Int} (h : TabQ w tb c vn va C gs rows accs) : vn.ownBlock ≠ some tb := by
  intro e
  obtain ⟨c', f, q⟩ := own_kind h.next e
  exact ne_of_kind h.blk q (by decide) rfl
/- A row comes. -/
theorem TabQ.addRow {w w3 : World} {tb : Nat} {c : Array Value} {vn va : Value} {C : Nat} {gs : List (Nat × Nat)} {rows : List (List Int)} {accs : List Int} {o : Obj} {p : Nat × Nat} {g1 cap1 : Nat} {r : List Int} (h : TabQ w tb c vn va C gs rows accs) (hg : w.ownsRow 0 3 1 (rq C p) C (iv r)) (hr : r.length = C)
    (own1 : w3.ownsRow 0 44 1 (.slice (some ⟨g1, 0, none⟩) (gs.length + 1) cap1) (gs.length + 1) (gs.map (rq C) ++ [rq C p])) (grow1 : (w.alloc o).grownBy w3 vn.ownBlock) :
    TabQ (w3.setCell ⟨tb, 256, none⟩ (.slice (some ⟨g1, 0, none⟩) (gs.length + 1) cap1)) tb c (.slice (some ⟨g1, 0, none⟩) (gs.length + 1) cap1) va C (gs ++ [p]) (rows ++ [r]) accs := by
  have kA : Kp vn.ownBlock.toList w w3 := (((Kp.refl _ w).alloc o).grew grow1 (fun k e => .inl (by simp [e])))
  have kS : Kp [tb] w3 (w3.setCell ⟨tb, 256, none⟩ (.slice (some ⟨g1, 0, none⟩) (gs.length + 1) cap1)) := (Kp.refl _ _).set (by simp) _ _
  have tbn := h.tbn
  have b3 : w3.heap[tb]? = some (.cells (tabArr c vn va) 46 (0, 0)) := kA.keep h.blk (by simp; exact fun e => tbn e)
  have oA : OtherKind w 3 vn.ownBlock.toList := other_own h.next (by decide)
  have o1 : OtherKind w3 3 [tb] := other_of b3 (by decide)
  have o2 : OtherKind w3 44 [tb] := other_of b3 (by decide)
  refine ⟨h.cs, ?_, ?_, owns_other (owns_other h.acc kA oA) kS o1, by simp [h.len], fun i hi => ?_⟩
  · rw [blk_set, if_pos rfl, b3]
    show some (Obj.cells ((tabArr c vn va).setIfInBounds 256 _) _ _) = _
    rw [tabArr_set256 h.cs]
  · rw [List.length_append, List.length_singleton, List.map_append]
    exact owns_other own1 kS o2
  · rw [List.length_append, List.length_singleton] at hi
    by_cases e : i = gs.length
    · subst e
      have e2 : (rows ++ [r]).getD gs.length [] = r := by rw [← h.len, getD_snoc_eq]
      rw [getD_snoc_eq, e2]
      exact ⟨owns_other (owns_other hg kA oA) kS o1, hr⟩
    · rw [getD_snoc_lt (by omega), getD_snoc_lt (by rw [h.len]; omega)]
      obtain ⟨a, b⟩ := h.row i (by omega)
      exact ⟨owns_other (owns_other a kA oA) kS o1, b⟩
/- A copied table, as it is read. -/
theorem TabQ.tabR {w : World} {tb : Nat} {c : Array Value} {vn va : Value} {gs : List (Nat × Nat)} {rows : List (List Int)} {accs : List Int} {U : Tab} (h : TabQ w tb c vn va U.C gs rows accs) (hN : gs.length = U.N) (hA : accs.length = U.N) (hpos : 0 < U.N) (hac : ∀ j, j < U.N → accs.getD j 0 = U.ac j) (hrw : ∀ j k, j < U.N → k < U.C → (rows.getD j []).getD k 0 = U.nx j k) :
    TabR w vn va U := by
  constructor
  · obtain ⟨g, cap, e⟩ : ∃ g cap, vn = .slice (some ⟨g, 0, none⟩) gs.length cap := by
      rcases h.next.2 with ⟨_, e⟩ | ⟨g, cap, cur, e, _⟩
      · omega
      · exact ⟨g, cap, e⟩
    subst e
    refine ⟨g, cap, by rw [hN], (h.next.lt g rfl).2, fun i hi => ?_⟩
    obtain ⟨a, b⟩ := h.row i (by omega)
    refine ⟨(gs.getD i (0, 0)).1, (gs.getD i (0, 0)).2, own_cellAt h.next rfl ?_, (a.lt _ rfl).2, fun k hk => own_cellAt a rfl ?_⟩
    · have hi' : i < gs.length := by omega
      simp [List.getD, hi', rq]
    · rw [← hrw i k hi hk]
      have hk' : k < (rows.getD i []).length := by rw [b]; exact hk
      rw [List.getElem?_map, List.getElem?_eq_getElem hk', List.getD_eq_getElem?_getD (l := rows.getD i []), List.getElem?_eq_getElem hk']
      rfl
  · obtain ⟨g, cap, e⟩ : ∃ g cap, va = .slice (some ⟨g, 0, none⟩) accs.length cap := by
      rcases h.acc.2 with ⟨_, e⟩ | ⟨g, cap, cur, e, _⟩
      · omega
      · exact ⟨g, cap, e⟩
    subst e
    refine ⟨g, cap, by rw [hA], (h.acc.lt g rfl).2, fun i hi => own_cellAt h.acc rfl ?_⟩
    have hi2 : i < accs.length := by omega
    rw [← hac i hi]
    simp [iv, List.getD, hi2]
end Go.Proofs.Ytbjdkbcfpmeneaa
