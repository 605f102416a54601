/- What is said and proved here: the document's tree in memory: each node has its language; it stays so while only the reader and its row of nodes are written. -/
import Derived.Test.YtbjdkbcfpmeneaaGreatRows
import Derived.Test.YtbjdkbcfpmeneaaGreatRef3
import Derived.Test.YtbjdkbcfpmeneaaGreatJoin
namespace Go.Proofs.YtbjdkbcfpmeneaaGreat
set_option linter.unusedVariables false
set_option linter.unusedSimpArgs false
open Go.RowKit

def lNone : Lang := fun _ => False
def intsL (ps : List Nat) : List Value := ps.map fun (p : Nat) => .int .i64 (p : Int)
def catL (Ls : List Lang) : Lang := Ls.foldl lCat lEps
def altL : List Lang → Lang
  | [] => lNone
  | L :: Ls => Ls.foldl lAlt L
theorem catL_snoc (Ls : List Lang) (L : Lang) : catL (Ls ++ [L]) = lCat (catL Ls) L := by simp [catL]
theorem altL_snoc (Ls : List Lang) (L : Lang) (h : Ls ≠ []) : altL (Ls ++ [L]) = lAlt (altL Ls) L := by
  cases Ls with
  | nil => exact absurd rfl h
  | cons M Ms => simp [altL]
def repL (k : Nat) (L : Lang) : Lang := if k = 42 then lStar L else if k = 43 then lPlus L else lOpt L

/- A node whose number is k, in memory, and the texts that it matches. -/
def NodeOk (w : World) (nd : ND) (k : Nat) (Ls : List Lang) (L : Lang) : Prop :=
  (nd.kind = 98 ∧ nd.pv = .slice none 0 0 ∧ ∃ b s, nd.hv = .slice (some ⟨b, 0, none⟩) 256 256 ∧ w.heap[b]? = some (boolsO (bitsL s)) ∧ L = lSet s) ∨
  (nd.hv = .slice none 0 0 ∧ ∃ ps : List Nat, w.ownsRow 0 3 1 nd.pv ps.length (intsL ps) ∧ (∀ p ∈ ps, p < k) ∧
    ((nd.kind = 99 ∧ L = catL (ps.map fun p => Ls.getD p lNone)) ∨ (nd.kind = 97 ∧ L = altL (ps.map fun p => Ls.getD p lNone)) ∨
      (∃ p, ps = [p] ∧ (nd.kind = 42 ∨ nd.kind = 43 ∨ nd.kind = 63) ∧ L = repL nd.kind (Ls.getD p lNone))))
structure TrOk (w : World) (ns : List ND) (Ls : List Lang) : Prop where
  len : Ls.length = ns.length
  ok : ∀ k nd, ns[k]? = some nd → NodeOk w nd k Ls (Ls.getD k lNone)

/- Blocks that hold neither bools nor ints. -/
def Far (w : World) (xs : List Nat) : Prop := ∀ b ∈ xs, ∀ c e f, w.heap[b]? = some (.cells c e f) → e ≠ 4 ∧ e ≠ 3
theorem RSt.far {w : World} {s : ByteArray} {i e pl : Int} {r : Nat} {nv : Value} {ns : List ND} (h : RSt w s i e pl r nv ns) : Far w (rfoot r nv) := by
  intro b hb c t f hc
  rcases rfoot_mem.1 hb with rfl | hb
  · rw [h.rd] at hc
    simp only [Option.some.injEq, Obj.cells.injEq] at hc
    rw [← hc.2.1]; decide
  · rcases h.own.2 with ⟨rfl, _⟩ | ⟨g, cap, cur, rfl, _, hg, _⟩
    · simp [Value.ownBlock] at hb
    · simp only [Value.ownBlock, Option.some.injEq] at hb
      subst hb
      rw [hg] at hc
      simp only [Option.some.injEq, Obj.cells.injEq] at hc
      rw [← hc.2.1]; decide
theorem Far.nil (w : World) : Far w [] := fun _ h => by cases h
theorem NodeOk.keep {w w' : World} {nd : ND} {k : Nat} {Ls : List Lang} {L : Lang} {xs : List Nat} (h : NodeOk w nd k Ls L) (hk : Kp xs w w') (hx : Far w xs) : NodeOk w' nd k Ls L := by
  rcases h with ⟨h1, h0, b, s, h2, h3, h4⟩ | ⟨h0, ps, h1, h2⟩
  · exact .inl ⟨h1, h0, b, s, h2, hk.keep h3 (fun hm => (hx b hm _ _ _ h3).1 rfl), h4⟩
  · refine .inr ⟨h0, ps, owns_kp h1 hk (fun g hg hm => ?_), h2⟩
    rcases h1.2 with ⟨e, _⟩ | ⟨g', cap, cur, e, _, hc, _⟩
    · rw [e] at hg; simp [Value.ownBlock] at hg
    · rw [e] at hg
      simp only [Value.ownBlock, Option.some.injEq] at hg
      subst hg
      exact (hx _ hm _ _ _ hc).2 rfl
theorem TrOk.keep {w w' : World} {ns : List ND} {Ls : List Lang} {xs : List Nat} (h : TrOk w ns Ls) (hk : Kp xs w w') (hx : Far w xs) : TrOk w' ns Ls :=
  ⟨h.len, fun k nd hk' => (h.ok k nd hk').keep hk hx⟩
theorem NodeOk.more {w : World} {nd : ND} {k : Nat} {Ls Lm : List Lang} {L : Lang} (h : NodeOk w nd k Ls L) (hl : k ≤ Ls.length) : NodeOk w nd k (Ls ++ Lm) L := by
  have key : ∀ p, p < k → (Ls ++ Lm).getD p lNone = Ls.getD p lNone := fun p hp => by
    rw [List.getD_eq_getElem?_getD, List.getD_eq_getElem?_getD, List.getElem?_append_left (by omega)]
  rcases h with h | ⟨h0, ps, h1, h2, h3⟩
  · exact .inl h
  · refine .inr ⟨h0, ps, h1, h2, ?_⟩
    have km : (ps.map fun p => (Ls ++ Lm).getD p lNone) = ps.map fun p => Ls.getD p lNone := List.map_congr_left fun p hp => key p (h2 p hp)
    rcases h3 with h3 | h3 | ⟨p, h3, h4⟩
    · exact .inl (by rw [km]; exact h3)
    · exact .inr (.inl (by rw [km]; exact h3))
    · exact .inr (.inr ⟨p, h3, by rw [key p (h2 p (by rw [h3]; simp))]; exact h4⟩)
theorem TrOk.snoc {w : World} {ns : List ND} {Ls : List Lang} {nd : ND} {L : Lang} (h : TrOk w ns Ls) (hn : NodeOk w nd ns.length Ls L) : TrOk w (ns ++ [nd]) (Ls ++ [L]) := by
  refine ⟨by simp [h.len], fun k nd' hk => ?_⟩
  rcases Nat.lt_or_ge k ns.length with hlt | hge
  · rw [List.getElem?_append_left hlt] at hk
    rw [show (Ls ++ [L]).getD k lNone = Ls.getD k lNone from by rw [List.getD_eq_getElem?_getD, List.getD_eq_getElem?_getD, List.getElem?_append_left (by rw [h.len]; exact hlt)]]
    exact (h.ok k nd' hk).more (by rw [h.len]; omega)
  · rw [List.getElem?_append_right hge] at hk
    have hk0 : k - ns.length = 0 := by
      rcases Nat.eq_zero_or_pos (k - ns.length) with e | e
      · exact e
      · rw [List.getElem?_eq_none (by simp; omega)] at hk; cases hk
    rw [hk0] at hk
    simp only [List.getElem?_cons_zero, Option.some.injEq] at hk
    subst hk
    have hk1 : k = ns.length := by omega
    subst hk1
    rw [show (Ls ++ [L]).getD ns.length lNone = L from by rw [List.getD_eq_getElem?_getD, List.getElem?_append_right (by rw [h.len]; exact Nat.le_refl _), h.len]; simp]
    exact hn.more (by rw [h.len]; exact Nat.le_refl _)

/- The parts of these nodes lie in blocks from B on. -/
def Fresh (B : Nat) (more : List ND) : Prop := ∀ nd ∈ more, ∀ g, nd.pv.ownBlock = some g → B ≤ g
theorem Fresh.bytes (B b : Nat) : Fresh B [⟨98, .slice (some ⟨b, 0, none⟩) 256 256, .slice none 0 0⟩] := by
  intro nd hn g hg
  simp only [List.mem_singleton] at hn
  subst hn
  simp [Value.ownBlock] at hg
theorem Fresh.mono {B C : Nat} {more : List ND} (h : Fresh B more) (hc : C ≤ B) : Fresh C more := fun nd hn g hg => Nat.le_trans hc (h nd hn g hg)
theorem Fresh.append {B : Nat} {a b : List ND} (h : Fresh B a) (k : Fresh B b) : Fresh B (a ++ b) := fun nd hn => by
  rcases List.mem_append.1 hn with e | e
  · exact h nd e
  · exact k nd e

/- What a reading of the document's reader, from place i on, leaves behind. -/
def RRP (R : PR Lang) (extra : Nat) (s : ByteArray) (i r : Nat) (nv : Value) (ns : List ND) (Ls : List Lang) (w : World) (x : Ending) (w' : World) : Prop :=
  ∃ (k : Nat) (iv : Int) (nv' : Value) (ns' : List ND), x = .returned (.int .i64 k) ∧ RSt w' s iv R.err R.pl r nv' ns' ∧ Kp (rfoot r nv) w w' ∧ (∀ g ∈ rfoot r nv', g ∈ rfoot r nv ∨ w.heap.size ≤ g) ∧
    ns'.length ≤ ns.length + 2 * (R.j - i) + extra ∧
    (R.err = 0 → iv = R.j ∧ ∃ Lm more, ns' = ns ++ more ∧ Fresh w.heap.size more ∧ TrOk w' ns' (Ls ++ Lm) ∧ k < ns'.length ∧ (Ls ++ Lm).getD k lNone = R.v)

theorem Kp.inner {w w1 w2 : World} {r : Nat} {nv nv' : Value} (h : Kp (rfoot r nv) w w1) (h2 : Kp (rfoot r nv') w1 w2) (hf : ∀ g ∈ rfoot r nv', g ∈ rfoot r nv ∨ w.heap.size ≤ g) : Kp (rfoot r nv) w w2 := h.trans h2 hf
theorem rfoot_self (r : Nat) (nv : Value) : r ∈ rfoot r nv := rfoot_mem.2 (.inl rfl)
theorem RSt.seti {w : World} {s : ByteArray} {i e pl : Int} {r : Nat} {nv : Value} {ns : List ND} (h : RSt w s i e pl r nv ns) (j : Int) : RSt (w.setCell ⟨r, 1, none⟩ (.int .i64 j)) s j e pl r nv ns :=
  ⟨rset1 h.rd, owns_kp h.own ((Kp.refl [r] w).set (.inl (by simp)) _ _) (fun g hg hm => by simp at hm; subst hm; exact h.ne hg), h.ne⟩
theorem TrOk.seti {w : World} {s : ByteArray} {i e pl : Int} {r : Nat} {nv : Value} {ns ns' : List ND} {Ls : List Lang} (t : TrOk w ns' Ls) (h : RSt w s i e pl r nv ns) (j : Int) : TrOk (w.setCell ⟨r, 1, none⟩ (.int .i64 j)) ns' Ls :=
  t.keep ((Kp.refl [r] w).set (.inl (by simp)) _ _) (fun b hb => h.far b (by simp at hb; subst hb; exact rfoot_self _ _))
theorem RSt.kr {w w' : World} {s : ByteArray} {i e pl i' e' pl' : Int} {r : Nat} {nv : Value} {ns : List ND} (h : RSt w s i e pl r nv ns) (hk : Kp [r] w w') (hr : w'.heap[r]? = some (rrO s i' e' pl' nv 0)) : RSt w' s i' e' pl' r nv ns :=
  ⟨hr, owns_kp h.own hk (fun g hg hm => by simp at hm; subst hm; exact h.ne hg), h.ne⟩
theorem RSt.farR {w : World} {s : ByteArray} {i e pl : Int} {r : Nat} {nv : Value} {ns : List ND} (h : RSt w s i e pl r nv ns) : Far w [r] := fun b hb => h.far b (by simp at hb; subst hb; exact rfoot_self _ _)
theorem Kp.ofR {w w' : World} {r : Nat} {nv : Value} (h : Kp [r] w w') : Kp (rfoot r nv) w w' := h.mono (by intro x hx; simp at hx; subst hx; exact rfoot_self _ _)
theorem Kp.ofN {w w' : World} {r : Nat} {nv : Value} (h : Kp [] w w') : Kp (rfoot r nv) w w' := h.mono (by simp)

/- A node with a set of bytes is added. -/
theorem radd_bytes (s : ByteArray) (i e pl : Int) (r : Nat) (nv : Value) (ns : List ND) (Ls : List Lang) (b : Nat) (l : List Bool) (w : World) (h : RSt w s i e pl r nv ns) (hn : ns.length < 1000) (_hl : w.heap[b]? = some (boolsO l)) :
    Calls Tryz.prog 36 #[.pointer (some ⟨r, 0, none⟩), .agg #[.int .u8 98, .slice (some ⟨b, 0, none⟩) 256 256, .slice none 0 0, .int .i64 0]] w fun x w' => x = .returned (.int .i64 ns.length) ∧
      ∃ nv', RSt w' s i e pl r nv' (ns ++ [⟨98, .slice (some ⟨b, 0, none⟩) 256 256, .slice none 0 0⟩]) ∧ Kp (rfoot r nv) w w' ∧ (∀ g ∈ rfoot r nv', g ∈ rfoot r nv ∨ w.heap.size ≤ g) ∧
        (∀ q, l = bitsL q → TrOk w ns Ls → TrOk w' (ns ++ [⟨98, .slice (some ⟨b, 0, none⟩) 256 256, .slice none 0 0⟩]) (Ls ++ [lSet q])) := by
  refine (radd_code s i e pl r nv ns ⟨98, .slice (some ⟨b, 0, none⟩) 256 256, .slice none 0 0⟩ w h hn rfl rfl).mono ?_
  rintro _ w' ⟨rfl, nv', h1, h2, h3⟩
  refine ⟨rfl, nv', h1, h2, h3, fun q hq t => ?_⟩
  refine (t.snoc (.inl ⟨rfl, rfl, b, q, rfl, ?_, rfl⟩)).keep h2 h.far
  rw [← hq]; exact _hl
theorem getD_last (Ls : List Lang) (L : Lang) (n : Nat) (h : Ls.length = n) : (Ls ++ [L]).getD n lNone = L := by
  subst h; simp
end Go.Proofs.YtbjdkbcfpmeneaaGreat
