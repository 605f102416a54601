/- What is proved here: plays, where only Right and Match are asked, and Patterns: every script is as the document says. -/
import Derived.Test.YtbjdkbcfpmeneaaGreatRows
import Derived.Test.YtbjdkbcfpmeneaaGreatLaw1
import Derived.Deep.Upon
namespace Go.Proofs.YtbjdkbcfpmeneaaGreat
set_option linter.unusedVariables false
set_option linter.unusedSimpArgs false
open Go.RowKit

/- A step as it lies in memory. -/
structure OpD where
  k : Int
  o : Int
  p : ByteArray
  t : ByteArray
  v : Value
def opC (d : OpD) : List Value := [.int .i64 d.k, .int .i64 d.o, .string d.p, .string d.t, d.v]
def flatO (ds : List OpD) : List Value := ds.flatMap opC
theorem flatO_len (ds : List OpD) : (flatO ds).length = ds.length * 5 := by
  induction ds with
  | nil => rfl
  | cons n ns ih => simp only [flatO, List.flatMap_cons, List.length_append, List.length_cons] at *; rw [ih]; simp [opC]; omega
theorem flatO_append (a b : List OpD) : flatO (a ++ b) = flatO a ++ flatO b := by simp [flatO]
theorem flatO_get : ∀ (ds : List OpD) (k : Nat) (d : OpD), ds[k]? = some d → ∀ i, i < 5 → (flatO ds)[k * 5 + i]? = (opC d)[i]? := by
  intro ds
  induction ds with
  | nil => intro k d h; simp at h
  | cons n ns ih =>
    intro k d h i hi
    have e : flatO (n :: ns) = opC n ++ flatO ns := by simp [flatO]
    rw [e]
    cases k with
    | zero =>
      simp only [List.getElem?_cons_zero, Option.some.injEq] at h
      subst h
      rw [List.getElem?_append_left (by simp [opC]; omega)]; simp
    | succ k =>
      rw [List.getElem?_cons_succ] at h
      rw [List.getElem?_append_right (by simp [opC]; omega), show (k + 1) * 5 + i - (opC n).length = k * 5 + i by simp [opC]; omega]
      exact ih k d h i hi
theorem infoOp : (Tryz.prog.info? 34).map (fun i => (i.zero, i.size, i.bytes)) = some (some (.agg #[.int .i64 0, .int .i64 0, .string ⟨#[]⟩, .string ⟨#[]⟩, .slice none 0 0]), 5, 72) := by kernel_rfl

/- A list of steps that came in. -/
structure Script (w : World) (a : Option Addr) (n : Nat) (ops : List OpD) : Prop where
  len : ops.length = n
  src : n = 0 ∨ ∃ ad, a = some ad ∧ ∀ j u, (flatO ops)[j]? = some u → w.cell? (ad.add j) = some u
  one : ∀ d ∈ ops, d.v.oneCell' = true
def ops3 (B : Nat) : List OpD := [⟨2, 0, ⟨#[97, 43, 98]⟩, ⟨#[97, 97, 98]⟩, .slice none 0 0⟩, ⟨3, 0, ⟨#[]⟩, ⟨#[]⟩, .slice (some ⟨B, 0, none⟩) 3 3⟩, ⟨4, 0, ⟨#[]⟩, ⟨#[105, 102, 32, 105, 102, 102, 121, 32, 57]⟩, .slice none 0 0⟩]

theorem cell_kp {w w' : World} (h : Kp [] w w') {a : Addr} {u : Value} (hc : w.cell? a = some u) : w'.cell? a = some u := by
  have hlt : a.block < w.heap.size := by
    rcases Nat.lt_or_ge a.block w.heap.size with x | x
    · exact x
    · have : w.heap[a.block]? = none := Array.getElem?_eq_none x
      simp [World.cell?, this] at hc
  have := h.block a.block hlt (by simp)
  unfold World.cell? at hc ⊢
  rw [this]; exact hc

/- Nothing is put behind a list. -/
theorem step_append0 {ops : Array Oper} {rest : List Oper} {o : Oper} {a : Act} {Q : Exit → Act → World → Prop} {w : World} (hgd : o.guard = none) (s x : Operand) (t : TypeId)
    (ho : o.op = .call { callee := .builtin .append, args := #[s, x], argTypes := #[t, t] }) (v u : Value) (hs : a.eval s = v) (hx : a.eval x = u) (hrun : (Builtin.append_ #[t, t] o.type #[v, u]).run Tryz.prog w = .ok v w)
    (h : wpList Tryz.prog ops Q rest (a.put o.dst v) w) : wpList Tryz.prog ops Q (o :: rest) a w := by
  refine wpList_plain hgd fun K hK => ?_
  unfold Oper.wp
  simp [execOp, ho, resolve, invoke, builtin, hs, hx, hrun, Result.andThen]
  exact hK _ _ h

set_option maxRecDepth 100000 in
set_option maxHeartbeats 4000000 in
theorem plays_any (a0 : Option Addr) (n cap : Nat) (ops : List OpD) (w : World) (h : Script w a0 n ops) (hb : (n + 3) * 72 ≤ 140737488355328) :
    Calls Tryz.prog 6 #[.slice a0 n cap, .int .i64 2] w fun x w' => x = .returned (.bool true) ∧ Below w.heap.size w w' := by
  have HS := hide h
  obtain ⟨i0, hi0, hz0, hz1, hz2⟩ := info_parts infoOp
  clear h
  go_enter Tryz.func6, Tryz.ntmps6
  go_upto_region 3 with fail
  have kW : Kp [] w (((w.alloc worldO).alloc (.cells #[.string ⟨#[105, 102]⟩, .string ⟨#[91, 97, 45, 122, 93, 43]⟩, .string ⟨#[32, 43]⟩] 9)).alloc (.cells #[.int .i64 2, .int .i64 0, .string ⟨#[97, 43, 98]⟩, .string ⟨#[97, 97, 98]⟩, .slice none 0 0, .int .i64 3, .int .i64 0, .string ⟨#[]⟩, .string ⟨#[]⟩, .slice (some ⟨w.heap.size + 1, 0, none⟩) 3 3, .int .i64 4, .int .i64 0, .string ⟨#[]⟩, .string ⟨#[105, 102, 32, 105, 102, 102, 121, 32, 57]⟩, .slice none 0 0] 34)) := (((Kp.refl _ _).alloc _).alloc _).alloc _
  have bO : (((w.alloc worldO).alloc (.cells #[.string ⟨#[105, 102]⟩, .string ⟨#[91, 97, 45, 122, 93, 43]⟩, .string ⟨#[32, 43]⟩] 9)).alloc (.cells #[.int .i64 2, .int .i64 0, .string ⟨#[97, 43, 98]⟩, .string ⟨#[97, 97, 98]⟩, .slice none 0 0, .int .i64 3, .int .i64 0, .string ⟨#[]⟩, .string ⟨#[]⟩, .slice (some ⟨w.heap.size + 1, 0, none⟩) 3 3, .int .i64 4, .int .i64 0, .string ⟨#[]⟩, .string ⟨#[105, 102, 32, 105, 102, 102, 121, 32, 57]⟩, .slice none 0 0] 34)).heap[w.heap.size]? = some worldO := by
    rw [blk_alloc, size_alloc, size_alloc, if_neg (by omega), blk_alloc, size_alloc, if_neg (by omega), blk_alloc, if_pos rfl]
  have bA : (((w.alloc worldO).alloc (.cells #[.string ⟨#[105, 102]⟩, .string ⟨#[91, 97, 45, 122, 93, 43]⟩, .string ⟨#[32, 43]⟩] 9)).alloc (.cells #[.int .i64 2, .int .i64 0, .string ⟨#[97, 43, 98]⟩, .string ⟨#[97, 97, 98]⟩, .slice none 0 0, .int .i64 3, .int .i64 0, .string ⟨#[]⟩, .string ⟨#[]⟩, .slice (some ⟨w.heap.size + 1, 0, none⟩) 3 3, .int .i64 4, .int .i64 0, .string ⟨#[]⟩, .string ⟨#[105, 102, 32, 105, 102, 102, 121, 32, 57]⟩, .slice none 0 0] 34)).heap[w.heap.size + 1 + 1]? = some (.cells (flatO (ops3 (w.heap.size + 1))).toArray 34 (0, 0)) := by
    rw [blk_alloc, size_alloc, size_alloc, if_pos rfl]; rfl
  generalize (((w.alloc worldO).alloc (.cells #[.string ⟨#[105, 102]⟩, .string ⟨#[91, 97, 45, 122, 93, 43]⟩, .string ⟨#[32, 43]⟩] 9)).alloc (.cells #[.int .i64 2, .int .i64 0, .string ⟨#[97, 43, 98]⟩, .string ⟨#[97, 97, 98]⟩, .slice none 0 0, .int .i64 3, .int .i64 0, .string ⟨#[]⟩, .string ⟨#[]⟩, .slice (some ⟨w.heap.size + 1, 0, none⟩) 3 3, .int .i64 4, .int .i64 0, .string ⟨#[]⟩, .string ⟨#[105, 102, 32, 105, 102, 102, 121, 32, 57]⟩, .slice none 0 0] 34)) = W at *
  have own : W.ownsRow 0 34 5 (.slice (some ⟨w.heap.size + 1 + 1, 0, none⟩) 3 3) 3 (flatO (ops3 (w.heap.size + 1))) := ⟨rfl, .inr ⟨_, 3, _, rfl, Nat.zero_le _, bA, by decide, by decide, rfl, rfl⟩⟩
  have KW := hide kW
  have BO := hide bO
  have BA := hide bA
  have OWN := hide own
  have h1 : Hid (∀ u ∈ flatO ops, u.oneCell' = true) := fun u hu => by
    obtain ⟨d, hd, hu⟩ := List.mem_flatMap.1 hu
    simp only [opC, List.mem_cons, List.mem_nil_iff, or_false] at hu
    rcases hu with rfl | rfl | rfl | rfl | rfl
    · rfl
    · rfl
    · rfl
    · rfl
    · exact HS.out.one d hd
  clear kW bO bA own
  have key : ∀ (g cap9 : Nat) (w9 : World), w9.ownsRow 0 34 5 (.slice (some ⟨g, 0, none⟩) (3 + n) cap9) (3 + n) (flatO (ops3 (w.heap.size + 1) ++ ops)) → Kp [] w w9 → w9.heap[w.heap.size]? = some worldO → True := fun _ _ _ _ _ _ => trivial
  clear key
  by_cases hn0 : n = 0
  · have hops : ops = [] := List.eq_nil_of_length_eq_zero (by rw [HS.out.len]; exact hn0)
    subst hn0
    have hap : (Builtin.append_ #[22, 22] 22 #[.slice (some ⟨w.heap.size + 1 + 1, 0, none⟩) 3 3, .slice a0 0 cap]).run Tryz.prog W = .ok (.slice (some ⟨w.heap.size + 1 + 1, 0, none⟩) 3 3) W :=
      run_append_nothing W 22 22 22 34 i0 Tryz.underlying22 hi0 _ 3 3 (by decide) _ (by cases a0 with | none => exact Src.ofNil W Tryz.underlying22 cap | some ad => exact Src.ofSlice W Tryz.underlying22 ad 0 cap [] (by simp) (by simp) (by simp))
    have own9 : Hid (W.ownsRow 0 34 5 (.slice (some ⟨w.heap.size + 1 + 1, 0, none⟩) (3 + 0) 3) (3 + 0) (flatO (ops3 (w.heap.size + 1) ++ ops))) := by
      show World.ownsRow _ _ _ _ _ _ _
      rw [hops, List.append_nil]; exact OWN.out
    have hl9 : (ops3 (w.heap.size + 1) ++ ops).length = 3 + 0 := by rw [hops]; rfl
    generalize ops3 (w.heap.size + 1) ++ ops = A at *
    clear hops HS h1 OWN BA
    have HAP := hide hap
    clear hap
    go_wp2_with (at_builtin; go_must (refine step_append0 rfl _ _ _ rfl _ _ rfl rfl (by exact HAP.out) ?_))
    go_loopw [7] (fun c w' => ∃ j : Nat, j ≤ 3 + 0 ∧ c = .int .i64 j ∧ w'.ownsRow 0 34 5 (.slice (some ⟨w.heap.size + 1 + 1, 0, none⟩) (3 + 0) 3) (3 + 0) (flatO A) ∧ w'.heap[w.heap.size]? = some worldO ∧ Kp [] w w') (fun c _ => 3 + 0 - (intOf c).toNat)
    case atStart => exact ⟨0, by omega, rfl, own9.out, BO.out, KW.out⟩
    case round =>
      obtain ⟨j, hj, rfl, ow, bo, kk⟩ := hrel
      have OW := hide ow
      have BOr := hide bo
      have KK := hide kk
      clear ow bo kk
      by_cases hlt : j < 3 + 0
      · have hget : A[j]? = some A[j] := List.getElem?_eq_getElem (by omega)
        have hc : ∀ i, i < 5 → wr.cell? ⟨w.heap.size + 1 + 1, j * 5 + i, none⟩ = (opC A[j])[i]? := fun i hi => by
          rw [OW.out.cellAt (j * 5 + i) (by omega)]; exact flatO_get A j _ hget i hi
        have e0 := hc 0 (by omega)
        have e1 := hc 1 (by omega)
        have e2 := hc 2 (by omega)
        have e3 := hc 3 (by omega)
        have e4 := hc 4 (by omega)
        simp only [opC, List.getElem?_cons_zero, List.getElem?_cons_succ, Nat.add_zero] at e0 e1 e2 e3 e4
        generalize A[j] = d at *
        obtain ⟨dk, dO, dp, dt, dv⟩ := d
        simp only at e0 e1 e2 e3 e4
        have hlt' : (j : Int) < (3 : Int) := by omega
        have hlt2 : (j : Int) < 3 := by omega
        have hwj := wrapB j (by omega)
        clear hc hget
        by_cases hk : 2 < dk
        · go_wp2
          refine ⟨⟨j + 1, by omega, by go_num, OW.out, BOr.out, KK.out⟩, by simp [intOf]; omega⟩
        · have hk' : dk ≤ 2 := by omega
          go_wp2_with fail
          refine (step_code w.heap.size dk dO dp dt dv _ (by exact BOr.out) hk').mono ?_
          rintro _ w5 ⟨rfl, h5⟩
          have OW5 := hide (owns_kp OW.out (Below.toKp h5) (by simp))
          have B5 := hide (bkeep h5 BOr.out)
          have K5 := hide (KK.out.below h5)
          clear h5 e0 e1 e2 e3 e4
          by_cases hj0 : j = 0
          · have hj0' : ¬ ((0 : Int) < j) := by omega
            clear hj0
            go_wp2_with fail
            refine (looks_any w.heap.size _ (by exact B5.out)).mono ?_
            rintro _ w6 ⟨rfl, rfl⟩
            go_wp2
            refine ⟨⟨j + 1, by omega, by go_num, OW5.out, B5.out, K5.out⟩, by simp [intOf]; omega⟩
          · have hj0' : (0 : Int) < j := by omega
            clear hj0
            go_wp2_with fail
            refine (looks_any w.heap.size _ (by exact B5.out)).mono ?_
            rintro _ w6 ⟨rfl, rfl⟩
            go_wp2
            refine ⟨⟨j + 1, by omega, by go_num, OW5.out, B5.out, K5.out⟩, by simp [intOf]; omega⟩
      · have hjE : j = 3 + 0 := by omega
        subst hjE
        clear hlt
        go_wp2
        go_ret
        exact ⟨rfl, KK.out.toBelow⟩
  · obtain ⟨ad, rfl, hsrc⟩ : ∃ ad, a0 = some ad ∧ ∀ j u, (flatO ops)[j]? = some u → w.cell? (ad.add j) = some u := by
      rcases HS.out.src with e | e
      · exact absurd e hn0
      · exact e
    have HSRC : Hid (∀ j u, (flatO ops)[j]? = some u → W.cell? (ad.add j) = some u) := fun j u hu => cell_kp KW.out (hsrc j u hu)
    have hn1 : Hid (0 < n) := by show 0 < n; omega
    have hfl : Hid ((flatO ops).length = n * 5) := by show _ = _; rw [flatO_len, HS.out.len]
    have hl9 : (ops3 (w.heap.size + 1) ++ ops).length = 3 + n := by rw [List.length_append, HS.out.len]; rfl
    have hfa : Hid (flatO (ops3 (w.heap.size + 1) ++ ops) = flatO (ops3 (w.heap.size + 1)) ++ flatO ops) := flatO_append _ _
    clear hsrc hn0
    go_wp2_with (at_builtin; go_must (refine wpList_append_lies _ rfl _ _ _ rfl 0 34 i0 _ 5 72 Tryz.underlying22 hi0 hz0 hz1 hz2 rfl (by omega) (.slice (some ⟨w.heap.size + 1 + 1, 0, none⟩) 3 3) 3 (flatO (ops3 (w.heap.size + 1))) rfl (by exact OWN.out) ad n cap (flatO ops) rfl hfl.out HSRC.out h1.out hn1.out (by unfold maxLen; omega) (by omega) (by simp) _ rfl ?_); intro g9 cap9 w9 own9 grow9 at9 lt9; rw [← hfa.out] at own9; have O9 := hide own9; have K9 : Hid (Kp [] w w9) := (KW.out.grown grow9 (fun k hk => by simp [Value.ownBlock] at hk; right; omega)); have B9 : Hid (w9.heap[w.heap.size]? = some worldO) := gkeep grow9 BO.out (by simp [Value.ownBlock]; omega); clear own9 grow9 at9 lt9)
    generalize ops3 (w.heap.size + 1) ++ ops = A at *
    clear HSRC hfl hfa HS h1 OWN BA hn1
    go_loopw [7] (fun c w' => ∃ j : Nat, j ≤ 3 + n ∧ c = .int .i64 j ∧ w'.ownsRow 0 34 5 (.slice (some ⟨g9, 0, none⟩) (3 + n) cap9) (3 + n) (flatO A) ∧ w'.heap[w.heap.size]? = some worldO ∧ Kp [] w w') (fun c _ => 3 + n - (intOf c).toNat)
    case atStart => exact ⟨0, by omega, rfl, O9.out, B9.out, K9.out⟩
    case round =>
      obtain ⟨j, hj, rfl, ow, bo, kk⟩ := hrel
      have OW := hide ow
      have BOr := hide bo
      have KK := hide kk
      clear ow bo kk
      by_cases hlt : j < 3 + n
      · have hget : A[j]? = some A[j] := List.getElem?_eq_getElem (by omega)
        have hc : ∀ i, i < 5 → wr.cell? ⟨g9, j * 5 + i, none⟩ = (opC A[j])[i]? := fun i hi => by
          rw [OW.out.cellAt (j * 5 + i) (by omega)]; exact flatO_get A j _ hget i hi
        have e0 := hc 0 (by omega)
        have e1 := hc 1 (by omega)
        have e2 := hc 2 (by omega)
        have e3 := hc 3 (by omega)
        have e4 := hc 4 (by omega)
        simp only [opC, List.getElem?_cons_zero, List.getElem?_cons_succ, Nat.add_zero] at e0 e1 e2 e3 e4
        generalize A[j] = d at *
        obtain ⟨dk, dO, dp, dt, dv⟩ := d
        simp only at e0 e1 e2 e3 e4
        have hlt' : (j : Int) < ((3 + n : Nat) : Int) := by omega
        have hlt2 : (j : Int) < 3 + (n : Int) := by omega
        have hwj := wrapB j (by omega)
        clear hc hget
        by_cases hk : 2 < dk
        · go_wp2
          refine ⟨⟨j + 1, by omega, by go_num, OW.out, BOr.out, KK.out⟩, by simp [intOf]; omega⟩
        · have hk' : dk ≤ 2 := by omega
          go_wp2_with fail
          refine (step_code w.heap.size dk dO dp dt dv _ (by exact BOr.out) hk').mono ?_
          rintro _ w5 ⟨rfl, h5⟩
          have OW5 := hide (owns_kp OW.out (Below.toKp h5) (by simp))
          have B5 := hide (bkeep h5 BOr.out)
          have K5 := hide (KK.out.below h5)
          clear h5 e0 e1 e2 e3 e4
          by_cases hj0 : j = 0
          · have hj0' : ¬ ((0 : Int) < j) := by omega
            clear hj0
            go_wp2_with fail
            refine (looks_any w.heap.size _ (by exact B5.out)).mono ?_
            rintro _ w6 ⟨rfl, rfl⟩
            go_wp2
            refine ⟨⟨j + 1, by omega, by go_num, OW5.out, B5.out, K5.out⟩, by simp [intOf]; omega⟩
          · have hj0' : (0 : Int) < j := by omega
            clear hj0
            go_wp2_with fail
            refine (looks_any w.heap.size _ (by exact B5.out)).mono ?_
            rintro _ w6 ⟨rfl, rfl⟩
            go_wp2
            refine ⟨⟨j + 1, by omega, by go_num, OW5.out, B5.out, K5.out⟩, by simp [intOf]; omega⟩
      · have hjE : j = 3 + n := by omega
        subst hjE
        clear hlt
        go_wp2
        go_ret
        exact ⟨rfl, KK.out.toBelow⟩
theorem patterns_any (a0 : Option Addr) (n cap : Nat) (ops : List OpD) (w : World) (h : Script w a0 n ops) (hb : (n + 3) * 72 ≤ 140737488355328) :
    Calls Tryz.prog 3 #[.slice a0 n cap] w fun x w' => x = .returned (.bool true) ∧ Below w.heap.size w w' := by
  have H := hide h
  clear h
  go_enter Tryz.func3, Tryz.ntmps3
  go_wp2_with fail
  refine (plays_any a0 n cap ops _ (by exact H.out) hb).mono ?_
  rintro _ w1 ⟨rfl, h1⟩
  have H1 := hide h1
  clear h1
  go_wp2
  go_ret
  exact ⟨rfl, H1.out⟩
end Go.Proofs.YtbjdkbcfpmeneaaGreat
