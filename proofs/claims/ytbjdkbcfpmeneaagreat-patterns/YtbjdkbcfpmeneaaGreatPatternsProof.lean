/- What is proved here: the statement Patterns, for every script, without a condition: Right and Match answer as the document says. -/
import Derived.Test.YtbjdkbcfpmeneaaGreatRows
import Derived.Test.YtbjdkbcfpmeneaaGreatLaw2
import Derived.ProofKit
import Derived.OpenShut
import Derived.ShutString
import Derived.ChangeOld
import Derived.Below
import Derived.SizedLaws
import Derived.Deep.Slices
import Derived.Lib.SmallJoins
namespace Go.Proofs.YtbjdkbcfpmeneaaGreat
set_option linter.unusedVariables false
set_option linter.unusedSimpArgs false
open Go.ChangeShapes Go.WideShapes Go.ChangeAt Go.RowKit
open Go.ChangeMaps (open_string shut_string)
set_option linter.unusedVariables false

theorem own : ownKnob Tryz.prog.godebug = none := by kernel_rfl
theorem laidOut : laidOutB Tryz.prog = true := by kernel_rfl
theorem cellsOp : Tryz.prog.cellsOf 34 = 5 := by kernel_rfl
theorem cellsInt : Tryz.prog.cellsOf 3 = 1 := by kernel_rfl
theorem cellsStr : Tryz.prog.cellsOf 9 = 1 := by kernel_rfl
theorem cellsStrs : Tryz.prog.cellsOf 32 = 1 := by kernel_rfl
theorem bytesOp : Tryz.prog.bytesOf 34 = 72 := by kernel_rfl

/- One step, read out of five cells. -/
set_option maxRecDepth 100000 in
theorem open_op {H : Type} {enc : TypeId × Value → H} {w : World} {base fuel : Nat} {spare : Nat → Bool} {held : Bool} {cs : List Value} {x : DataW H × List MemPlace} (h : DataW.trod enc Tryz.prog w base spare held fuel 34 cs = some x) : ∃ d : OpD, cs = opC d ∧ d.v.oneCell' = true := by
  obtain ⟨xs, n, _, _, hl, hx, hf⟩ := DataW.trod_struct Tryz.underlying34 h
  rw [cellsOp] at hl
  match cs, hl with
  | [c0, c1, c2, c3, c4], _ =>
    have g0 : DataW.trod enc Tryz.prog w base spare held n 3 (List.take (Tryz.prog.cellsOf 3) [c0, c1, c2, c3, c4]) = xs[0]? := hf 0 _ rfl
    have g1 : DataW.trod enc Tryz.prog w base spare held n 3 (List.take (Tryz.prog.cellsOf 3) [c1, c2, c3, c4]) = xs[1]? := hf 1 _ rfl
    have g2 : DataW.trod enc Tryz.prog w base spare held n 9 (List.take (Tryz.prog.cellsOf 9) [c2, c3, c4]) = xs[2]? := hf 2 _ rfl
    have g3 : DataW.trod enc Tryz.prog w base spare held n 9 (List.take (Tryz.prog.cellsOf 9) [c3, c4]) = xs[3]? := hf 3 _ rfl
    have g4 : DataW.trod enc Tryz.prog w base spare held n 32 (List.take (Tryz.prog.cellsOf 32) [c4]) = xs[4]? := hf 4 _ rfl
    have hxl : xs.length = 5 := hx
    rw [cellsInt] at g0 g1
    rw [cellsStr] at g2 g3
    rw [cellsStrs] at g4
    simp only [List.take_succ_cons, List.take_zero] at g0 g1 g2 g3 g4
    rw [List.getElem?_eq_getElem (by omega)] at g0 g1 g2 g3 g4
    obtain ⟨k, e0, _, _⟩ := DataW.trod_int Tryz.underlying3 g0
    obtain ⟨o, e1, _, _⟩ := DataW.trod_int Tryz.underlying3 g1
    obtain ⟨p, e2, _, _⟩ := DataW.trod_string Tryz.underlying9 g2
    obtain ⟨t, e3, _, _⟩ := DataW.trod_string Tryz.underlying9 g3
    obtain ⟨a, l, c, e4⟩ := Go.Joins.slice_form Tryz.underlying32 g4
    simp only [List.cons.injEq, and_true] at e0 e1 e2 e3 e4
    exact ⟨⟨k, o, p, t, .slice a l c⟩, by rw [e0, e1, e2, e3, e4]; rfl, rfl⟩

set_option maxRecDepth 100000 in
theorem lifted (os : Os) (started : os.Started) (H : Type) (enc : TypeId × Value → H) :
    ReturnsInHanded {} Tryz.checked os 3 .any (Rows.patternsSpec.pre6 enc Tryz.prog Tryz.f3 Rows.patternsRow.domain false) (Rows.patternsSpec.post enc Tryz.prog Tryz.f3 false true false false) := by
  refine returnsInHanded_of_change_sized (C := Tryz.checked) own started (by kernel_rfl) Tryz.func3
    (ChangeSpec.witness6 (enc := enc) (C := Tryz.checked) false ⟨#[], #[.slice none 0 0], []⟩ 8 (by kernel_rfl) (by kernel_rfl) (by kernel_rfl) (by kernel_rfl)) ?_
  intro W base args ds gs before hval0 hW hcnd hsz0 _
  have hval : ∀ (j : Nat) t v, Tryz.f3.params[j]? = some t → args[j]? = some v → Value.okWide Tryz.prog W .any base t v := hval0
  have hsz : (DataW.weightsEach Tryz.prog (Tryz.f3.params.toList ++ Rows.patternsSpec.plain.varTypes Tryz.prog) (ds ++ gs)).all (· ≤ reachBytes) = true := hsz0
  have hW' := hW
  obtain ⟨p, q, hA0, hV, rfl, hfz, hnd⟩ := hW
  have hA : DataW.TrodAll enc Tryz.prog W 0 (fun _ => true) true Tryz.f3.params.toList args.toList ds p := hA0
  rw [Tryz.params3] at hA hval hsz
  obtain ⟨v0, vs0, d0, ds0, p0, q0, hargs, rfl, rfl, h0, r0⟩ := trodAll_cons hA
  obtain ⟨rfl, rfl, rfl⟩ := trodAll_nil r0
  obtain rfl : args = #[v0] := by cases args; simp_all
  obtain ⟨rfl, rfl⟩ := trodVars_none hV
  obtain ⟨a0, len0, cap0, rfl⟩ := okWide_slice Tryz.underlying22 (hval 0 22 v0 rfl rfl)
  have k0 := h0
  have lt0 : ∀ x ∈ p0, x.block < W.heap.size := by obtain ⟨m, hm⟩ := k0; exact DataW.trod_lt m _ _ _ hm
  obtain ⟨ops, hscript, hbound⟩ : ∃ ops, Script W a0 len0 ops ∧ (len0 + 3) * 72 ≤ 140737488355328 := by
    obtain ⟨fuel, hf⟩ := h0
    rcases Go.Deep.open_slice Tryz.underlying22 hf with ⟨hcs, _⟩ | ⟨a, len, cap, m, n, D, Pl, hcs, _, hle, hmx, hmm, hx, hel⟩
    · simp [Value.cells] at hcs
      obtain ⟨rfl, rfl, rfl⟩ := hcs
      exact ⟨[], ⟨rfl, .inl rfl, fun d hd => by cases hd⟩, by decide⟩
    · simp [Value.cells] at hcs
      obtain ⟨rfl, rfl, rfl⟩ := hcs
      have hd0 : d0 = .slice ((List.range len0).map D) ((List.range (m - len0)).map fun j => D (len0 + j)) := by
        have := congrArg Prod.fst hx; exact this
      have hbytes := sized_slice hsz (j := 0) (t := 22) (e := 34) rfl (by rw [hd0]; rfl) Tryz.underlying22
      rw [bytesOp] at hbytes
      simp only [List.length_map, List.length_range, reachBytes] at hbytes
      have hm0 : len0 ≤ m := by rw [hmm]; split <;> omega
      have hop : ∀ i, i < len0 → ∃ d : OpD, (∀ j, j < 5 → W.cell? (a.add (i * 5 + j)) = (opC d)[j]?) ∧ d.v.oneCell' = true := fun i hi => by
        obtain ⟨cs', h1, h2⟩ := hel i (by omega)
        obtain ⟨d, rfl, hd⟩ := open_op h2
        rw [cellsOp] at h1
        obtain ⟨_, _, h3⟩ := World.cells?_some h1
        refine ⟨d, fun j hj => ?_, hd⟩
        rw [← Addr.add_add]; exact h3 j hj
      have hch : ∃ f : Nat → OpD, ∀ i, i < len0 → (∀ j, j < 5 → W.cell? (a.add (i * 5 + j)) = (opC (f i))[j]?) ∧ (f i).v.oneCell' = true := by
        classical
        exact ⟨fun i => if hi : i < len0 then Classical.choose (hop i hi) else ⟨0, 0, ⟨#[]⟩, ⟨#[]⟩, .slice none 0 0⟩, fun i hi => by simp only [dif_pos hi]; exact Classical.choose_spec (hop i hi)⟩
      obtain ⟨f, hfs⟩ := hch
      have hlen : ((List.range len0).map f).length = len0 := by simp
      refine ⟨(List.range len0).map f, ⟨hlen, .inr ⟨a, rfl, fun j u hu => ?_⟩, fun d hd => ?_⟩, by omega⟩
      · have hj : j < len0 * 5 := by
          rcases Nat.lt_or_ge j (len0 * 5) with x | x
          · exact x
          · rw [List.getElem?_eq_none (by rw [flatO_len, hlen]; exact x)] at hu; cases hu
        have hi : j / 5 < len0 := by omega
        have e : j = j / 5 * 5 + j % 5 := by omega
        have h5 : j % 5 < 5 := by omega
        have hg : ((List.range len0).map f)[j / 5]? = some (f (j / 5)) := by simp [List.getElem?_range hi]
        have hfl := flatO_get _ _ _ hg (j % 5) h5
        rw [← e] at hfl
        have hc := (hfs (j / 5) hi).1 (j % 5) h5
        rw [← e] at hc
        rw [hc, ← hfl]; exact hu
      · obtain ⟨i, hi, rfl⟩ := List.mem_map.1 hd
        exact (hfs i (by simpa using hi)).2
  clear hA0 hval0 hsz0
  refine (patterns_any a0 len0 cap0 ops W hscript hbound).mono fun e W' ⟨he, bel⟩ => ?_
  subst he
  exact ⟨_, rfl, _, _, _, [], _, [], hW', trodAll_mk1 (shut_bool Tryz.underlying4 _), (trodAll_cons_mk (Below.trod laidOut (by kernel_rfl) (of_decide_eq_true (by kernel_rfl)) k0 bel lt0) trodAll_mk0), rfl, bel.frame _, fun h => by cases h⟩

theorem over : Rows.patternsRow.holds Tryz.pinned (OpenSpec.ofChange Rows.patternsSpec) :=
  OpenClaim.holds_of_wide 3 Tryz.f3 rfl rfl rfl rfl rfl rfl rfl ⟨rfl, rfl, rfl, rfl, rfl⟩ rfl rfl rfl rfl rfl (by kernel_rfl) Tryz.func3 (by kernel_rfl)
    (of_decide_eq_true (by kernel_rfl)) (by unfold Func.isWrapper; first | (rw [if_pos (by decide +kernel)]; kernel_rfl) | (rw [if_neg (by decide +kernel)]; exact ⟨rfl, rfl⟩))
    (fun os started H enc _ => lifted os started H enc)

theorem patterns_proved : Rows.PatternsSaid := over
#print axioms patterns_proved
end Go.Proofs.YtbjdkbcfpmeneaaGreat
