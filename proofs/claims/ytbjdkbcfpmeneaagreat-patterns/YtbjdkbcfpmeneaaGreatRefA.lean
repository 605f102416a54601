/- What is proved here: a node that cat and alt of the document's reader put together in a variable of their own: how it stays while others write, and how a part is put behind its list. -/
import Derived.Test.YtbjdkbcfpmeneaaGreatRows
import Derived.Test.YtbjdkbcfpmeneaaGreatRef6
namespace Go.Proofs.YtbjdkbcfpmeneaaGreat
set_option linter.unusedVariables false
set_option linter.unusedSimpArgs false
open Go.RowKit

abbrev ndO (kd : Nat) (pv : Value) : Obj := .cells #[.int .u8 kd, .slice none 0 0, pv, .int .i64 0] 104 (0, 0)
structure Lo (kd T : Nat) (pv : Value) (ps : List Nat) (r : Nat) (nv nv' : Value) (w w' : World) : Prop where
  nd : w'.heap[T]? = some (ndO kd pv)
  own : w'.ownsRow w.heap.size 3 1 pv ps.length (intsL ps)
  kp : Kp (rfoot r nv) w w'
  fr : ∀ g ∈ rfoot r nv', g ∈ rfoot r nv ∨ w.heap.size ≤ g
  tn : T ∉ rfoot r nv'
  ge : w.heap.size ≤ T

theorem own_block {w : World} {base : Nat} {v : Value} {n : Nat} {xs : List Value} {g : Nat} (h : w.ownsRow base 3 1 v n xs) (hg : v.ownBlock = some g) : ∃ c, w.heap[g]? = some (.cells c 3 (0, 0)) ∧ base ≤ g := by
  rcases h.2 with ⟨rfl, _⟩ | ⟨g', cap, cur, rfl, hb, hc, _⟩
  · simp [Value.ownBlock] at hg
  · simp only [Value.ownBlock, Option.some.injEq] at hg
    subst hg
    exact ⟨cur, hc, hb⟩
theorem Far.int {w : World} {xs : List Nat} (h : Far w xs) {g : Nat} {c : Array Value} {f : Nat × Nat} (hg : w.heap[g]? = some (.cells c 3 f)) : g ∉ xs := fun hm => (h g hm _ _ _ hg).2 rfl

theorem Lo.start (kd r : Nat) (nv : Value) (w : World) (h : ∀ g ∈ rfoot r nv, g < w.heap.size) : Lo kd w.heap.size (.slice none 0 0) [] r nv nv w (w.alloc (ndO kd (.slice none 0 0))) :=
  ⟨by rw [blk_alloc, if_pos rfl], ⟨rfl, .inl ⟨rfl, rfl⟩⟩, (Kp.refl _ _).alloc _, fun g hg => .inl hg, fun hm => by have := h _ hm; omega, Nat.le_refl _⟩
theorem Lo.step {kd T : Nat} {pv : Value} {ps : List Nat} {r : Nat} {nv nv' nv'' : Value} {w w' w'' : World} {s : ByteArray} {i e pl : Int} {ns : List ND} (h : Lo kd T pv ps r nv nv' w w') (hs : RSt w' s i e pl r nv' ns) (hk : Kp (rfoot r nv') w' w'')
    (hf : ∀ g ∈ rfoot r nv'', g ∈ rfoot r nv' ∨ w'.heap.size ≤ g) : Lo kd T pv ps r nv nv'' w w'' := by
  refine ⟨hk.keep h.nd h.tn, owns_kp h.own hk (fun g hg => ?_), h.kp.trans hk h.fr, fun g hg => ?_, fun hm => ?_, h.ge⟩
  · obtain ⟨c, hc, _⟩ := own_block h.own hg
    exact hs.far.int hc
  · rcases hf g hg with e | e
    · exact h.fr g e
    · exact .inr (by have := h.kp.size; omega)
  · rcases hf T hm with e | e
    · exact h.tn e
    · have := lt_of_block h.nd; omega
theorem Lo.drewN {kd T : Nat} {pv : Value} {ps : List Nat} {r : Nat} {nv nv' : Value} {w w' : World} (h : Lo kd T pv ps r nv nv' w w') (n : Nat) : Lo kd T pv ps r nv nv' w (w'.drewN n) :=
  ⟨h.nd, h.own, h.kp.drewN n, h.fr, h.tn, h.ge⟩
theorem Lo.kr {kd T : Nat} {pv : Value} {ps : List Nat} {r : Nat} {nv nv' : Value} {w w' w'' : World} {s : ByteArray} {i e pl : Int} {ns : List ND} (h : Lo kd T pv ps r nv nv' w w') (hs : RSt w' s i e pl r nv' ns) (hk : Kp [r] w' w'') : Lo kd T pv ps r nv nv' w w'' :=
  h.step hs hk.ofR (fun g hg => .inl hg)
theorem Lo.k0 {kd T : Nat} {pv : Value} {ps : List Nat} {r : Nat} {nv nv' : Value} {w w' w'' : World} {s : ByteArray} {i e pl : Int} {ns : List ND} (h : Lo kd T pv ps r nv nv' w w') (hs : RSt w' s i e pl r nv' ns) (hk : Kp [] w' w'') : Lo kd T pv ps r nv nv' w w'' :=
  h.step hs hk.ofN (fun g hg => .inl hg)

/- No node of the tree has this list for its parts. -/
def NP (pv : Value) (ns : List ND) : Prop := ∀ nd ∈ ns, ∀ g, nd.pv.ownBlock = some g → pv.ownBlock ≠ some g
theorem NP.nil (n c : Nat) (ns : List ND) : NP (.slice none n c) ns := fun _ _ _ _ h => by simp [Value.ownBlock] at h
theorem NP.more {pv : Value} {ns more : List ND} (h : NP pv ns) {B : Nat} (hf : Fresh B more) (hb : ∀ g, pv.ownBlock = some g → g < B) : NP pv (ns ++ more) := fun nd hn g hg e => by
  rcases List.mem_append.1 hn with hn | hn
  · exact h nd hn g hg e
  · have := hf nd hn g hg; have := hb g e; omega
theorem Lo.pvlt {kd T : Nat} {pv : Value} {ps : List Nat} {r : Nat} {nv nv' : Value} {w w' : World} (h : Lo kd T pv ps r nv nv' w w') : ∀ g, pv.ownBlock = some g → g < w'.heap.size := fun g hg => by
  obtain ⟨c, hc, _⟩ := own_block h.own hg
  exact lt_of_block hc

theorem NodeOk.keep2 {w w' : World} {nd : ND} {k : Nat} {Ls : List Lang} {L : Lang} {xs : List Nat} (h : NodeOk w nd k Ls L) (hk : Kp xs w w') (hb : ∀ b l, w.heap[b]? = some (boolsO l) → b ∉ xs) (hp : ∀ g c, nd.pv.ownBlock = some g → w.heap[g]? = some (.cells c 3 (0, 0)) → g ∉ xs) : NodeOk w' nd k Ls L := by
  rcases h with ⟨h1, h0, b, s, h2, h3, h4⟩ | ⟨h0, ps, h1, h2⟩
  · exact .inl ⟨h1, h0, b, s, h2, hk.keep h3 (hb _ _ h3), h4⟩
  · refine .inr ⟨h0, ps, owns_kp h1 hk (fun g hg => ?_), h2⟩
    obtain ⟨c, hc, _⟩ := own_block h1 hg
    exact hp g c hg hc
theorem mem_of_get {ns : List ND} {k : Nat} {nd : ND} (h : ns[k]? = some nd) : nd ∈ ns := List.mem_of_getElem? h

/- A part is put behind the list. -/
theorem Lo.app {kd T : Nat} {pv : Value} {ps : List Nat} {r : Nat} {nv nv' : Value} {w w' w9 : World} {s : ByteArray} {i e pl : Int} {ns : List ND} {k g cap : Nat} (h : Lo kd T pv ps r nv nv' w w') (hs : RSt w' s i e pl r nv' ns)
    (own9 : w9.ownsRow w.heap.size 3 1 (.slice (some ⟨g, 0, none⟩) (ps.length + 1) cap) (ps.length + 1) (intsL ps ++ [.int .i64 k])) (gr : (w'.alloc (.cells #[.int .i64 k] 3)).grownBy w9 pv.ownBlock) (hat : pv.ownBlock = some g ∨ g = w'.heap.size + 1) :
    Lo kd T (.slice (some ⟨g, 0, none⟩) (ps.length + 1) cap) (ps ++ [k]) r nv nv' w (w9.setCell ⟨T, 2, none⟩ (.slice (some ⟨g, 0, none⟩) (ps.length + 1) cap)) ∧ RSt (w9.setCell ⟨T, 2, none⟩ (.slice (some ⟨g, 0, none⟩) (ps.length + 1) cap)) s i e pl r nv' ns ∧
    (∀ Lc, TrOk w' ns Lc → NP pv ns → TrOk (w9.setCell ⟨T, 2, none⟩ (.slice (some ⟨g, 0, none⟩) (ps.length + 1) cap)) ns Lc) ∧ (NP pv ns → (∀ nd ∈ ns, ∀ x, nd.pv.ownBlock = some x → x < w'.heap.size) → NP (.slice (some ⟨g, 0, none⟩) (ps.length + 1) cap) ns) := by
  have hT := lt_of_block h.nd
  have k9 : Kp pv.ownBlock.toList w' w9 := ((Kp.refl _ w').alloc _).grown gr (fun k hk => .inl (by rw [hk]; simp))
  have hpv : ∀ x ∈ pv.ownBlock.toList, ∃ c, w'.heap[x]? = some (.cells c 3 (0, 0)) := fun x hx => by
    rw [Option.mem_toList] at hx
    obtain ⟨c, hc, _⟩ := own_block h.own hx
    exact ⟨c, hc⟩
  have hTp : T ∉ pv.ownBlock.toList := fun hm => by
    obtain ⟨c, hc⟩ := hpv T hm
    rw [h.nd] at hc
    simp only [Option.some.injEq, Obj.cells.injEq] at hc
    exact absurd hc.2.1 (by decide)
  have nd9 : w9.heap[T]? = some (ndO kd pv) := k9.keep h.nd hTp
  have gT : g ≠ T := by
    rintro rfl
    rcases hat with e | e
    · exact hTp (by rw [e]; simp)
    · omega
  have kW : Kp (T :: pv.ownBlock.toList) w' (w9.setCell ⟨T, 2, none⟩ (.slice (some ⟨g, 0, none⟩) (ps.length + 1) cap)) := (k9.mono (fun x hx => List.mem_cons_of_mem _ hx)).set (.inl (by simp)) _ _
  have hfo : ∀ x ∈ T :: pv.ownBlock.toList, x ∉ rfoot r nv' := fun x hx hm => by
    rcases List.mem_cons.1 hx with rfl | hx
    · exact h.tn hm
    · obtain ⟨c, hc⟩ := hpv x hx
      exact hs.far.int hc hm
  refine ⟨⟨?_, ?_, ?_, h.fr, h.tn, h.ge⟩, hs.kp kW hfo, fun Lc t np => ⟨t.len, fun q nd hq => (t.ok q nd hq).keep2 kW (fun b l hb hm => ?_) (fun x c hx hc hm => ?_)⟩, fun np hlt nd hn x hx e => ?_⟩
  · rw [blk_set, if_pos rfl, nd9]; simp [setObj_cells]
  · have : intsL (ps ++ [k]) = intsL ps ++ [.int .i64 k] := by simp [intsL]
    rw [this, List.length_append]
    exact owns_kp own9 ((Kp.refl [T] w9).set (.inl (by simp)) _ _) (fun x hx hm => by simp [Value.ownBlock] at hx hm; omega)
  · refine h.kp.trans kW (fun y hy => ?_)
    rcases List.mem_cons.1 hy with rfl | hy
    · exact .inr h.ge
    · rw [Option.mem_toList] at hy
      obtain ⟨c, _, hb⟩ := own_block h.own hy
      exact .inr hb
  · rcases List.mem_cons.1 hm with rfl | hm
    · rw [h.nd] at hb; simp only [Option.some.injEq, Obj.cells.injEq] at hb; exact absurd hb.2.1 (by decide)
    · obtain ⟨c, hc⟩ := hpv b hm
      rw [hb] at hc; simp only [Option.some.injEq, Obj.cells.injEq] at hc; exact absurd hc.2.1 (by decide)
  · rcases List.mem_cons.1 hm with rfl | hm
    · rw [h.nd] at hc; simp only [Option.some.injEq, Obj.cells.injEq] at hc; exact absurd hc.2.1 (by decide)
    · rw [Option.mem_toList] at hm
      exact np nd (mem_of_get hq) x hx hm
  · simp only [Value.ownBlock, Option.some.injEq] at e
    subst e
    rcases hat with e | e
    · exact np nd hn _ hx e
    · have := hlt nd hn _ hx; omega
theorem TrOk.plt {w : World} {ns : List ND} {Ls : List Lang} (t : TrOk w ns Ls) : ∀ nd ∈ ns, ∀ x, nd.pv.ownBlock = some x → x < w.heap.size := fun nd hn x hx => by
  obtain ⟨k, hk⟩ := List.getElem?_of_mem hn
  rcases t.ok k nd hk with ⟨_, h0, _⟩ | ⟨_, ps, h1, _⟩
  · rw [h0] at hx; simp [Value.ownBlock] at hx
  · obtain ⟨c, hc, _⟩ := own_block h1 hx
    exact lt_of_block hc

theorem own_mono {w : World} {base : Nat} {v : Value} {n : Nat} {xs : List Value} (h : w.ownsRow base 3 1 v n xs) : w.ownsRow 0 3 1 v n xs := by
  refine ⟨h.1, ?_⟩
  rcases h.2 with a | ⟨g, cap, cur, a, _, b⟩
  · exact .inl a
  · exact .inr ⟨g, cap, cur, a, Nat.zero_le _, b⟩

/- A node with a list of parts is added. -/
theorem radd_node (s : ByteArray) (i e pl : Int) (r : Nat) (nv : Value) (ns : List ND) (kd : Nat) (pv : Value) (ps : List Nat) (w : World) (h : RSt w s i e pl r nv ns) (hn : ns.length < 1000) {base : Nat} (own : w.ownsRow base 3 1 pv ps.length (intsL ps)) :
    Calls Tryz.prog 36 #[.pointer (some ⟨r, 0, none⟩), .agg #[.int .u8 kd, .slice none 0 0, pv, .int .i64 0]] w fun x w' => x = .returned (.int .i64 ns.length) ∧
      ∃ nv', RSt w' s i e pl r nv' (ns ++ [⟨kd, .slice none 0 0, pv⟩]) ∧ Kp (rfoot r nv) w w' ∧ (∀ g ∈ rfoot r nv', g ∈ rfoot r nv ∨ w.heap.size ≤ g) ∧
        (∀ Lc L, TrOk w ns Lc → (∀ p ∈ ps, p < ns.length) → ((kd = 99 ∧ L = catL (ps.map fun p => Lc.getD p lNone)) ∨ (kd = 97 ∧ L = altL (ps.map fun p => Lc.getD p lNone)) ∨ (∃ p, ps = [p] ∧ (kd = 42 ∨ kd = 43 ∨ kd = 63) ∧ L = repL kd (Lc.getD p lNone))) → TrOk w' (ns ++ [⟨kd, .slice none 0 0, pv⟩]) (Lc ++ [L])) ∧
        (∀ B, (∀ g, pv.ownBlock = some g → B ≤ g) → Fresh B [⟨kd, .slice none 0 0, pv⟩]) := by
  have h1 : pv.oneCell' = true := by
    rcases own.2 with ⟨rfl, _⟩ | ⟨g, cap, cur, rfl, _⟩ <;> rfl
  refine (radd_code s i e pl r nv ns ⟨kd, .slice none 0 0, pv⟩ w h hn rfl h1).mono ?_
  rintro _ w' ⟨rfl, nv', a1, a2, a3⟩
  refine ⟨rfl, nv', a1, a2, a3, fun Lc L t hp hk => (t.snoc (.inr ⟨rfl, ps, own_mono own, hp, hk⟩)).keep a2 h.far, fun B hB nd hn g hg => ?_⟩
  simp only [List.mem_singleton] at hn
  subst hn
  exact hB g hg
theorem one_row {w : World} {b k : Nat} (h : w.heap[b]? = some (.cells #[.int .i64 k] 3 (0, 0))) : w.ownsRow 0 3 1 (.slice (some ⟨b, 0, none⟩) 1 1) [k].length (intsL [k]) :=
  ⟨rfl, .inr ⟨b, 1, _, rfl, Nat.zero_le _, h, by simp, by decide, rfl, rfl⟩⟩
theorem infoInt : (Tryz.prog.info? 3).map (fun i => (i.zero, i.size, i.bytes)) = some (some (.int .i64 0), 1, 8) := by kernel_rfl
theorem pre_get {Ls Lm : List Lang} {k : Nat} (h : k < Ls.length) : (Ls ++ Lm).getD k lNone = Ls.getD k lNone := by
  rw [List.getD_eq_getElem?_getD, List.getD_eq_getElem?_getD, List.getElem?_append_left h]
theorem map_pre {Ls Lm : List Lang} {ps : List Nat} (h : ∀ p ∈ ps, p < Ls.length) : (ps.map fun p => (Ls ++ Lm).getD p lNone) = ps.map fun p => Ls.getD p lNone := List.map_congr_left fun p hp => pre_get (h p hp)
end Go.Proofs.YtbjdkbcfpmeneaaGreat
