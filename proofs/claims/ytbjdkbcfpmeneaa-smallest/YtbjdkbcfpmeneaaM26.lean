/- What is proved here: what merged of package smallest answers: the classes that lead from each state to the same one have one number. -/
import Derived.Test.YtbjdkbcfpmeneaaRows
import Derived.Test.YtbjdkbcfpmeneaaM25
import Derived.Test.YtbjdkbcfpmeneaaM24
namespace Go.Proofs.Ytbjdkbcfpmeneaa
set_option linter.unusedVariables false
set_option linter.unusedSimpArgs false
open Go.RowKit Go.ChangeMaps

def numL (C : Nat) (f : Nat → Nat) : List Int := (List.range C).map fun k => (f k : Int)
theorem numL_len (C : Nat) (f : Nat → Nat) : (numL C f).length = C := by simp [numL]
theorem numL_get (C : Nat) (f : Nat → Nat) {k : Nat} (hk : k < C) : (numL C f).getD k 0 = f k := by
  rw [List.getD_eq_getElem?_getD]; simp [numL, hk]
theorem numL_set (C : Nat) (f f' : Nat → Nat) (k v : Nat) (h1 : f' k = v) (h2 : ∀ j, j ≠ k → f' j = f j) : (numL C f).set k (v : Int) = numL C f' := by
  apply List.ext_getElem?
  intro i
  rcases Nat.lt_or_ge i C with hi | hi
  · by_cases e : k = i
    · subst e
      rw [List.getElem?_set_self (by rw [numL_len]; exact hi)]
      simp [numL, hi, h1]
    · rw [List.getElem?_set_ne e]
      simp [numL, hi, h2 i (fun q => e q.symm)]
  · rw [List.getElem?_eq_none (by rw [List.length_set, numL_len]; exact hi), List.getElem?_eq_none (by rw [numL_len]; exact hi)]

set_option maxRecDepth 100000 in
set_option maxHeartbeats 4000000 in
theorem merged_code (vr : Value) (N C : Nat) (nx : Nat → Nat → Int) (w : World) (hR : RowsR w vr N C nx) (hN : 0 < N) (hNl : N ≤ 250) (hC : 0 < C) (hCl : C ≤ 256) (hnx : ∀ j k, j < N → k < C → -1 ≤ nx j k ∧ nx j k < 1000) :
    Calls Try.prog 43 #[vr] w fun e w' => ∃ (g : Nat) (num : Nat → Nat), e = .returned (.slice (some ⟨g, 0, none⟩) C C) ∧ w.heap.size ≤ g ∧ w'.heap[g]? = some (iO (numL C num)) ∧ JInv C nx N num ∧ Below w.heap.size w w' := by
  have HR := hide hR
  obtain ⟨gr, capr, rfl, lgr, hrow⟩ := hR.rows
  have HROW := hide hrow
  have HNX := hide hnx
  obtain ⟨g0, c0, r0, lg0, _⟩ := hrow 0 hN
  have hN' : (0 : Int) < N := by omega
  have hmk := fun w => run_make_ints C (by omega) w
  clear hR hrow hnx
  go_enter Try.func43, Try.ntmps43
  go_upto_region 2 with fail
  have kW : Kp [] w (w.alloc (iO (List.replicate C 0))) := (Kp.refl _ w).alloc _
  have bG : (w.alloc (iO (List.replicate C 0))).heap[w.heap.size]? = some (iO (List.replicate C 0)) := by rw [blk_alloc, if_pos rfl]
  generalize (w.alloc (iO (List.replicate C 0))) = W at *
  have KW := hide kW
  have BG := hide bG
  clear kW bG hmk r0
  go_wp2_with fail
  go_loopw [16] (fun s w' => ∃ (r : Nat) (num : Nat → Nat), r ≤ N ∧ s = .int .i64 r ∧ JInv C nx r num ∧ Kp [] w w' ∧ w'.heap[w.heap.size]? = some (iO (numL C num)))
    (fun s _ => N - (intOf s).toNat)
  case atStart =>
    refine ⟨0, fun _ => 0, by omega, rfl, ⟨fun k k' _ _ => ⟨fun _ j hj => by omega, fun _ => rfl⟩, fun k m _ hm => by omega⟩, KW.out, ?_⟩
    have e : numL C (fun _ => 0) = List.replicate C 0 := by
      apply List.ext_getElem
      · rw [numL_len]; simp
      · intro i h1 h2; simp [numL]
    rw [e]; exact BG.out
  case round =>
    obtain ⟨r, num, hr, rfl, jinv, kp, bg⟩ := hrel
    have JV := hide jinv
    have KP := hide kp
    have BGr := hide bg
    have lG := lt_of_block bg
    by_cases hrl : r < N
    · have hrl' : (r : Int) < N := by omega
      obtain ⟨gj, cj, q1, q2, q3⟩ := HROW.out r hrl
      have q1' : wr.cell? ⟨gr, r, none⟩ = some (.slice (some ⟨gj, 0, none⟩) C cj) := by rw [bkeepc' kp lgr]; exact q1
      have Q3 := hide q3
      clear q1 q3 jinv kp bg
      go_upto_region 6 with fail
      have kA : Kp [] wr (wr.alloc (.cells #[.map none, .slice none 0 0] 106 (0, 0))) := (Kp.refl _ wr).alloc _
      have bA : (wr.alloc (.cells #[.map none, .slice none 0 0] 106 (0, 0))).heap[wr.heap.size]? = some (.cells #[.map none, .slice none 0 0] 106 (0, 0)) := by rw [blk_alloc, if_pos rfl]
      generalize (wr.alloc (.cells #[.map none, .slice none 0 0] 106 (0, 0))) = WA at *
      have KA : Hid (Kp [] w WA) := KP.out.trans kA (by simp)
      have BA := hide bA
      have BGA := hide (kA.keep BGr.out (by simp))
      have hPB : w.heap.size < wr.heap.size := lG
      generalize wr.heap.size = PB at *
      clear kA bA q1'
      go_wp2_with fail
      go_loopw [22] (fun s w' => ∃ (c : Nat) (cl : Nat → Nat) (vm vs : Value) (ks : List Value), c ≤ C ∧ s = .int .i64 c ∧ ClsInv (fun k => pairV (num k) (nx r k)) c ks cl ∧ ks.length ≤ c ∧ NumOk w' 135 2 vm vs ks ∧ w'.heap[PB]? = some (.cells #[vm, vs] 106 (0, 0)) ∧ PB ∉ nfoot vm vs ∧ (∀ x ∈ nfoot vm vs, w.heap.size < x) ∧ Kp [] w w' ∧ w'.heap[w.heap.size]? = some (iO (numL C (fun k => if k < c then cl k else num k))))
        (fun s _ => C - (intOf s).toNat)
      case atStart =>
        refine ⟨0, fun _ => 0, .map none, .slice none 0 0, [], by omega, rfl, ⟨fun c hc => by omega, fun i hi => by simp at hi, fun c i hc => by omega⟩, by simp, ⟨.inl ⟨rfl, rfl⟩, World.ownsRow_nil _ _ _ _, by simp, by simp, by simp⟩, BA.out, by simp [nfoot, mapBlock, Value.ownBlock], by simp [nfoot, mapBlock, Value.ownBlock], KA.out, ?_⟩
        have e : (fun k => if k < 0 then (fun _ => 0) k else num k) = num := by funext k; simp
        rw [e]; exact BGA.out
      case round =>
        obtain ⟨c, cl, vm, vs, ks, hc, rfl, ci, hkl, hN1, bP, hPn, hfr, kp, bg⟩ := hrel
        have CI := hide ci
        have HN1 := hide hN1
        have BP := hide bP
        have HPN := hide hPn
        have HFR := hide hfr
        have KP2 := hide kp
        have BG2 := hide bg
        by_cases hcl : c < C
        · have hcl' : (c : Int) < C := by omega
          have ck : wr.cell? ⟨gj, c, none⟩ = some (.int .i64 (nx r c)) := by rw [bkeepc' kp q2]; exact Q3.out c hcl
          have cn : wr.cell? ⟨w.heap.size, c, none⟩ = some (.int .i64 (num c)) := by
            rw [icell bg c (by rw [numL_len]; exact hcl), numL_get _ _ hcl, if_neg (by omega)]
          have hrng := HNX.out r c hrl hcl
          have hnc := JV.out.le c hcl
          have hkey : Keyish Try.prog 135 (pairV (num c) (nx r c)) := pair_key (wf64 (by omega) (by omega)) (wf64 (by omega) (by omega))
          have hst : ∀ i, (addK ks (pairV (num c) (nx r c)))[i]? = some (pairV (num c) (nx r c)) → ClsInv (fun k => pairV (num k) (nx r k)) (c + 1) (addK ks (pairV (num c) (nx r c))) (fun k => if k = c then i else cl k) := fun i hi => ci.step hi
          have HST := hide hst
          have HKEY := hide hkey
          generalize hX : (num c : Int) = X at *
          generalize hY : nx r c = Y at *
          clear ci hN1 bP hPn hfr kp bg hst hkey hX hY hrng
          go_wp2_with fail
          refine (numPair_code PB 0 _ 106 vm vs ks X Y _ BP.out rfl rfl HN1.out HKEY.out HPN.out (by omega)).mono ?_
          rintro _ w3 ⟨i, vm', vs', rfl, hi, hp⟩
          have k3 : Kp (PB :: nfoot vm vs) wr w3 := hp.kp
          have sK := KP2.out.size
          have bg3 : w3.heap[w.heap.size]? = some (iO (numL C (fun k => if k < c then cl k else num k))) := k3.keep BG2.out (fun hm => by
            rcases List.mem_cons.1 hm with e | e
            · omega
            · have := HFR.out _ e; omega)
          have c3 := icell bg3 c (by rw [numL_len]; exact hcl)
          have f3 := ifroz bg3 c
          have BG3 := hide bg3
          have HP := hide hp
          have HI := hide hi
          have K3 : Hid (Kp [] w w3) := (KP2.out.mono (ys := []) (by simp)).trans k3 (fun y hy => .inr (by
            rcases List.mem_cons.1 hy with e | e
            · omega
            · exact Nat.le_of_lt (HFR.out y e)))
          clear bg3 hp hi k3 ck cn
          go_wp2
          have kS : Kp [w.heap.size] w3 (w3.setCell ⟨w.heap.size, c, none⟩ (.int .i64 i)) := (Kp.refl _ w3).set (by simp) _ _
          have fr3 : ∀ x ∈ nfoot vm' vs', w.heap.size < x := fun x hx => by
            rcases HP.out.foot x hx with e | e
            · exact HFR.out x e
            · have := lt_of_block BG2.out; omega
          have hPBn : PB ∉ nfoot vm' vs' := fun hm => by
            rcases HP.out.foot PB hm with e | e
            · exact HPN.out e
            · have := lt_of_block BP.out; omega
          refine ⟨⟨c + 1, fun k => if k = c then i else cl k, vm', vs', addK ks (pairV X Y), by omega, by go_num, HST.out i HI.out, Nat.le_trans (addK_length _ _) (by omega), HP.out.ok.kp kS (fun x hx hm => by rw [List.mem_singleton.1 hx] at hm; have := fr3 _ hm; omega), ?_, hPBn, fr3, K3.out.set (.inr (Nat.le_refl _)) _ _, ?_⟩, by simp [intOf]; omega⟩
          · rw [blk_set, if_neg (by omega)]
            exact HP.out.blk
          · have := iset BG3.out c (i : Int)
            rw [numL_set C _ (fun k => if k < c + 1 then (if k = c then i else cl k) else num k) c i (by simp) (fun j hj => by
              by_cases z : j < c
              · simp [z, hj, show j < c + 1 by omega]
              · simp [z, show ¬ j < c + 1 by omega])] at this
            exact this
        · have hcN : c = C := by omega
          subst hcN
          have hnd := hN1.nodup
          have HND := hide hnd
          clear ci hN1 bP hPn hfr kp bg hnd
          go_wp2
          refine ⟨⟨r + 1, cl, by omega, by go_num, JV.out.step HND.out CI.out, KP2.out, ?_⟩, by simp [intOf]; omega⟩
          have e : numL c (fun k => if k < c then cl k else num k) = numL c cl := by
            unfold numL
            apply List.map_congr_left
            intro k hk
            show ((if k < c then cl k else num k : Nat) : Int) = _
            rw [if_pos (List.mem_range.1 hk)]
          rw [← e]; exact BG2.out
    · have hrN : r = N := by omega
      subst hrN
      clear jinv kp bg
      go_wp2
      go_ret
      exact ⟨w.heap.size, num, rfl, Nat.le_refl _, BGr.out, JV.out, KP.out.toBelow⟩
end Go.Proofs.Ytbjdkbcfpmeneaa

/- What is proved here: the states that are left, numbered as they are come to: the mathematics of the merger's walk (no program), and its worklist in memory. -/
namespace Go.Proofs.Ytbjdkbcfpmeneaa
set_option linter.unusedVariables false
set_option linter.unusedSimpArgs false
open Go.RowKit Go.ChangeMaps

/- The worklist of integers. -/
def WlI (w : World) (B : Nat) (F : List Nat) (ks : List Value) (tk : Nat) : Prop :=
  ∃ vm vs, w.heap[B]? = some (.cells #[vm, vs, .int .i64 tk] 143 (0, 0)) ∧ NumOk w 3 1 vm vs ks ∧ B ∉ nfoot vm vs ∧ F = B :: nfoot vm vs
section
variable {w : World} {B : Nat} {F : List Nat} {ks : List Value} {tk : Nat}
theorem WlI.kp {w' : World} {xs : List Nat} (h : WlI w B F ks tk) (hk : Kp xs w w') (hx : ∀ x ∈ xs, x ∉ F) : WlI w' B F ks tk := by
  obtain ⟨vm, vs, b, n, m, rfl⟩ := h
  exact ⟨vm, vs, hk.keep b (fun e => hx _ e (by simp)), n.kp hk (fun k hm hf => hx k hm (by simp [hf])), m, rfl⟩
theorem WlI.lt (h : WlI w B F ks tk) : ∀ g ∈ F, g < w.heap.size := by
  obtain ⟨vm, vs, b, n, m, rfl⟩ := h
  intro g hg
  rcases List.mem_cons.1 hg with rfl | hg
  · exact lt_of_block b
  · exact n.lt g hg
theorem WlI.mem (h : WlI w B F ks tk) : B ∈ F := by obtain ⟨vm, vs, b, n, m, rfl⟩ := h; simp
theorem WlI.nodup (h : WlI w B F ks tk) : ks.Nodup := by obtain ⟨vm, vs, b, n, m, rfl⟩ := h; exact n.nodup
theorem WlI.taken (h : WlI w B F ks tk) : w.cell? ⟨B, 2, none⟩ = some (.int .i64 tk) := by
  obtain ⟨vm, vs, b, n, m, rfl⟩ := h
  rw [cell_of_block b]; rfl
theorem WlI.put (h : WlI w B F ks tk) (a : Int) (hk : Keyish Try.prog 3 (intV a)) (hlen : ks.length < 100000) :
    Calls Try.prog 68 #[.pointer (some ⟨B, 0, none⟩), intV a] w fun e w' => ∃ (i : Nat) (F' : List Nat), e = .returned (.int .i64 i) ∧ (addK ks (intV a))[i]? = some (intV a) ∧ WlI w' B F' (addK ks (intV a)) tk ∧ Kp F w w' ∧ ∀ g ∈ F', g ∈ F ∨ w.heap.size ≤ g := by
  obtain ⟨vm, vs, bl, n, m, rfl⟩ := h
  refine (putInt_code B 0 _ 143 vm vs ks a w bl rfl rfl n hk m hlen).mono ?_
  rintro _ w2 ⟨i, vm', vs', rfl, hi, hp⟩
  refine ⟨i, B :: nfoot vm' vs', rfl, hi, ⟨vm', vs', hp.blk, hp.ok, ?_, rfl⟩, hp.kp, ?_⟩
  · intro hm
    rcases hp.foot B hm with e | e
    · exact m e
    · have := lt_of_block bl; omega
  · intro g hg
    rcases List.mem_cons.1 hg with rfl | q
    · exact .inl (by simp)
    · rcases hp.foot g q with e | e
      · exact .inl (by simp [e])
      · exact .inr e
theorem WlI.take (h : WlI w B F ks tk) (hle : tk ≤ ks.length) (hin : ∀ x ∈ ks, ∃ n : Nat, x = intV n) (hlen : ks.length < 100000) :
    Calls Try.prog 69 #[.pointer (some ⟨B, 0, none⟩)] w fun e w' => ∃ (a : Nat) (more : Bool), e = .returned (.tuple #[intV a, .bool more]) ∧ Kp [B] w w' ∧ ((more = true ∧ ks[tk]? = some (intV a) ∧ WlI w' B F ks (tk + 1)) ∨ (more = false ∧ tk = ks.length ∧ WlI w' B F ks tk)) := by
  by_cases e : tk < ks.length
  · obtain ⟨a, ex⟩ := hin ks[tk] (List.getElem_mem e)
    have hk : ks[tk]? = some (intV a) := by rw [List.getElem?_eq_getElem e, ex]
    obtain ⟨vm, vs, bl, n, m, rfl⟩ := h
    refine (takeInt_more B 0 _ 143 vm vs ks tk a w bl rfl n rfl hk hlen).mono ?_
    rintro _ w2 ⟨rfl, hb, kp⟩
    refine ⟨a, true, rfl, kp, .inl ⟨rfl, hk, ⟨vm, vs, hb, n.kp kp ?_, m, rfl⟩⟩⟩
    intro k hk hm; rw [List.mem_singleton.1 hk] at hm; exact m hm
  · have e' : tk = ks.length := by omega
    subst e'
    have h0 := h
    obtain ⟨vm, vs, bl, n, m, rfl⟩ := h
    refine (takeInt_end B 0 _ 143 vm vs ks w bl rfl n rfl).mono ?_
    rintro _ w2 ⟨rfl, h2⟩
    have k2 : Kp [] w w2 := (Kp.refl [] w).below h2
    exact ⟨0, false, rfl, k2.mono (by simp), .inr ⟨rfl, rfl, h0.kp k2 (by simp)⟩⟩
end

/- What a class leads to, among the states that are left: -1 or the least one's number. -/
def leadTo (T : Tab) (ls : List Int) (s k : Nat) : Int := if T.nx s k = -1 then -1 else ls.getD (T.nx s k).toNat 0
/- The rows so far: all of the first n, and the first c classes of the next. -/
def Past (n c : Nat) (j k : Nat) : Prop := j < n ∨ (j = n ∧ k < c)
structure WInv (T : Tab) (ls : List Int) (ws : List Nat) (nx : Nat → Nat → Int) (n c : Nat) : Prop where
  first : ws[0]? = some 0
  nodup : ws.Nodup
  lt : ∀ s ∈ ws, s < T.N
  row : ∀ j k, Past n c j k → k < T.C → (leadTo T ls (ws.getD j 0) k = -1 ∧ nx j k = -1) ∨ (∃ i : Nat, nx j k = i ∧ ∃ v : Nat, leadTo T ls (ws.getD j 0) k = v ∧ ws[i]? = some v)
  isl : ∀ i, 0 < i → i < ws.length → ∃ s : Nat, s < T.N ∧ ls.getD s 0 = (ws.getD i 0 : Nat)
  sfrom : ∀ t : Nat, 0 < t → t < ws.length → ∃ s k, s < t ∧ Past n c s k ∧ k < T.C ∧ nx s k = t
  sord : ∀ s k (t u : Nat), Past n c s k → k < T.C → nx s k = t → 0 < u → u < t → ∃ s' k', Past n c s' k' ∧ k' < T.C ∧ (s' < s ∨ s' = s ∧ k' < k) ∧ nx s' k' = u
theorem WInv.stepN {T : Tab} {ls : List Int} {ws : List Nat} {nx nx' : Nat → Nat → Int} {n c : Nat} (h : WInv T ls ws nx n c) (hn : n < ws.length) (hl : leadTo T ls (ws.getD n 0) c = -1) (h1 : nx' n c = -1) (h2 : ∀ j k, Past n c j k → nx' j k = nx j k) : WInv T ls ws nx' n (c + 1) := by
  have past : ∀ j k, Past n (c + 1) j k → Past n c j k ∨ (j = n ∧ k = c) := fun j k hp => by
    rcases hp with z | ⟨z, y⟩
    · exact .inl (.inl z)
    · by_cases e : k = c
      · exact .inr ⟨z, e⟩
      · exact .inl (.inr ⟨z, by omega⟩)
  have up : ∀ j k, Past n c j k → Past n (c + 1) j k := fun j k hp => by
    rcases hp with z | ⟨z, y⟩
    · exact .inl z
    · exact .inr ⟨z, by omega⟩
  refine ⟨h.first, h.nodup, h.lt, fun j k hp hk => ?_, h.isl, fun t h3 h4 => ?_, fun s k t u hp hk e h3 h4 => ?_⟩
  · rcases past j k hp with z | ⟨rfl, rfl⟩
    · rw [h2 j k z]; exact h.row j k z hk
    · exact .inl ⟨hl, h1⟩
  · obtain ⟨s, k, a, b, c', d⟩ := h.sfrom t h3 h4
    exact ⟨s, k, a, up s k b, c', by rw [h2 s k b]; exact d⟩
  · rcases past s k hp with z | ⟨rfl, rfl⟩
    · rw [h2 s k z] at e
      obtain ⟨s', k', a, b, c', d⟩ := h.sord s k t u z hk e h3 h4
      exact ⟨s', k', up s' k' a, b, c', by rw [h2 s' k' a]; exact d⟩
    · rw [h1] at e; omega
theorem WInv.stepS {T : Tab} {ls : List Int} {ws ws' : List Nat} {nx nx' : Nat → Nat → Int} {n c v i : Nat} (h : WInv T ls ws nx n c) (hn : n < ws.length) (hc : c < T.C) (hl : leadTo T ls (ws.getD n 0) c = v) (hls : ∃ s : Nat, s < T.N ∧ ls.getD s 0 = (v : Nat)) (hv : v < T.N)
    (hw : (v ∈ ws ∧ ws' = ws) ∨ (v ∉ ws ∧ ws' = ws ++ [v])) (hi : ws'[i]? = some v) (h1 : nx' n c = i) (h2 : ∀ j k, Past n c j k → nx' j k = nx j k) : WInv T ls ws' nx' n (c + 1) := by
  have past : ∀ j k, Past n (c + 1) j k → Past n c j k ∨ (j = n ∧ k = c) := fun j k hp => by
    rcases hp with z | ⟨z, y⟩
    · exact .inl (.inl z)
    · by_cases e : k = c
      · exact .inr ⟨z, e⟩
      · exact .inl (.inr ⟨z, by omega⟩)
  have up : ∀ j k, Past n c j k → Past n (c + 1) j k := fun j k hp => by
    rcases hp with z | ⟨z, y⟩
    · exact .inl z
    · exact .inr ⟨z, by omega⟩
  have pre : ws <+: ws' := by
    rcases hw with ⟨_, e⟩ | ⟨_, e⟩
    · rw [e]; exact ⟨[], by simp⟩
    · rw [e]; exact ⟨_, rfl⟩
  have keep : ∀ j x, ws[j]? = some x → ws'[j]? = some x := fun j x e => by
    obtain ⟨t, rfl⟩ := pre
    rw [List.getElem?_append_left (List.getElem?_eq_some_iff.1 e).1]; exact e
  have keepD : ∀ j, j < ws.length → ws'.getD j 0 = ws.getD j 0 := fun j hj => by
    obtain ⟨t, rfl⟩ := pre
    rw [List.getD_eq_getElem?_getD, List.getElem?_append_left hj, ← List.getD_eq_getElem?_getD]
  have pn : ∀ j k, Past n (c + 1) j k → j < ws.length := fun j k hp => by rcases hp with z | ⟨z, _⟩ <;> omega
  have il := (List.getElem?_eq_some_iff.1 hi).1
  -- all numbers below this one had come
  have below : ∀ u, 0 < u → u < i → ∃ s k, s < u ∧ Past n c s k ∧ k < T.C ∧ nx s k = u := fun u h3 h4 => by
    refine h.sfrom u h3 ?_
    rcases hw with ⟨_, e⟩ | ⟨_, e⟩
    · rw [e] at il; omega
    · rw [e, List.length_append, List.length_singleton] at il; omega
  refine ⟨keep 0 0 h.first, ?_, ?_, fun j k hp hk => ?_, ?_, fun t h3 h4 => ?_, fun s k t u hp hk e h3 h4 => ?_⟩
  · rcases hw with ⟨_, e⟩ | ⟨q, e⟩
    · rw [e]; exact h.nodup
    · rw [e, List.nodup_append]
      refine ⟨h.nodup, by simp, fun p hp r hr e2 => ?_⟩
      rw [List.mem_singleton.1 hr] at e2
      exact q (e2 ▸ hp)
  · intro s hs
    rcases hw with ⟨_, e⟩ | ⟨q, e⟩
    · rw [e] at hs; exact h.lt s hs
    · rw [e] at hs
      rcases List.mem_append.1 hs with z | z
      · exact h.lt s z
      · rw [List.mem_singleton.1 z]; exact hv
  · rw [keepD j (pn j k hp)]
    rcases past j k hp with z | ⟨rfl, rfl⟩
    · rw [h2 j k z]
      rcases h.row j k z hk with y | ⟨i', y1, v', y2, y3⟩
      · exact .inl y
      · exact .inr ⟨i', y1, v', y2, keep _ _ y3⟩
    · exact .inr ⟨i, h1, v, hl, hi⟩
  · intro i' h3 h4
    by_cases e : i' < ws.length
    · rw [keepD i' e]; exact h.isl i' h3 e
    · rcases hw with ⟨_, q⟩ | ⟨_, q⟩
      · rw [q] at h4; omega
      · rw [q, List.length_append, List.length_singleton] at h4
        have : i' = ws.length := by omega
        subst this
        rw [q, getD_snoc_eq]; exact hls
  · by_cases e : t < ws.length
    · obtain ⟨s, k, a, b, c', d⟩ := h.sfrom t h3 e
      exact ⟨s, k, a, up s k b, c', by rw [h2 s k b]; exact d⟩
    · refine ⟨n, c, by omega, .inr ⟨rfl, by omega⟩, hc, ?_⟩
      have : i = t := by
        rcases hw with ⟨_, q⟩ | ⟨qn, q⟩
        · rw [q] at h4; omega
        · rw [q, List.length_append, List.length_singleton] at h4
          have ht : t = ws.length := by omega
          rw [q, List.getElem?_append] at hi
          split at hi
          · exact absurd (List.mem_of_getElem? hi) qn
          · have := (List.getElem?_eq_some_iff.1 hi).1
            simp at this; omega
      rw [h1, this]
  · rcases past s k hp with z | ⟨rfl, rfl⟩
    · rw [h2 s k z] at e
      obtain ⟨s', k', a, b, c', d⟩ := h.sord s k t u z hk e h3 h4
      exact ⟨s', k', up s' k' a, b, c', by rw [h2 s' k' a]; exact d⟩
    · rw [h1] at e
      obtain ⟨s', k', a, b, c', d⟩ := below u h3 (by omega)
      refine ⟨s', k', up s' k' b, c', ?_, by rw [h2 s' k' b]; exact d⟩
      rcases b with y | ⟨y, y2⟩
      · exact .inl y
      · exact .inr ⟨y, y2⟩
theorem WInv.next {T : Tab} {ls : List Int} {ws : List Nat} {nx : Nat → Nat → Int} {n : Nat} (h : WInv T ls ws nx n T.C) : WInv T ls ws nx (n + 1) 0 := by
  have past : ∀ j k, k < T.C → (Past (n + 1) 0 j k ↔ Past n T.C j k) := fun j k hk => by
    constructor
    · rintro (z | ⟨_, y⟩)
      · by_cases e : j = n
        · exact .inr ⟨e, hk⟩
        · exact .inl (by omega)
      · omega
    · rintro (z | ⟨z, _⟩)
      · exact .inl (by omega)
      · exact .inl (by omega)
  refine ⟨h.first, h.nodup, h.lt, fun j k hp hk => h.row j k ((past j k hk).1 hp) hk, h.isl, fun t h3 h4 => ?_, fun s k t u hp hk e h3 h4 => ?_⟩
  · obtain ⟨s, k, a, b, c', d⟩ := h.sfrom t h3 h4
    exact ⟨s, k, a, (past s k c').2 b, c', d⟩
  · obtain ⟨s', k', a, b, c', d⟩ := h.sord s k t u ((past s k hk).1 hp) hk e h3 h4
    exact ⟨s', k', (past s' k' b).2 a, b, c', d⟩

/- All rows are there: the states that are left. -/
theorem WInv.shrunk {T : Tab} {ls : List Int} {ws : List Nat} {nx : Nat → Nat → Int} {ks : List Value} (hT : Plain T) (h : WInv T ls ws nx ws.length 0) (hp : Parted T (fun a b => pairV a b ∈ ks)) (hls : ∀ s, s < T.N → LeastOf ks s (ls.getD s 0)) : Shrunk T ws nx := by
  have p0 : ∀ j k, j < ws.length → Past ws.length 0 j k := fun j k hj => .inl hj
  have pl : 0 < ws.length := (List.getElem?_eq_some_iff.1 h.first).1
  -- a state and its least one
  have same : ∀ s : Nat, s < T.N → Same T (ls.getD s 0) s := fun s hs => by
    obtain ⟨a, b, c, d⟩ := hls s hs
    by_cases e : ls.getD s 0 = s
    · rw [e]; exact fun z _ => rfl
    · apply Classical.byContradiction
      intro n
      exact c ((hp.iff hT a (by omega) (by omega)).2 n)
  have getD : ∀ i v, ws[i]? = some v → ws.getD i 0 = v := fun i v e => by rw [List.getD_eq_getElem?_getD, e]; rfl
  have memD : ∀ j, j < ws.length → ws.getD j 0 ∈ ws := fun j hj => getD_mem' hj
  refine ⟨getD 0 0 h.first, pl, h.nodup, h.lt, fun j k hj hk => ?_, fun i h1 h2 t h3 h4 hs => ?_, fun t h1 h2 => ?_, fun s k t u h1 h2 h3 h4 h5 => ?_⟩
  · have hN := h.lt _ (memD j hj)
    have rg := hT.rng _ k hN hk
    have hrow := h.row j k (p0 j k hj) hk
    generalize ws.getD j 0 = s at *
    unfold leadTo at hrow
    by_cases e : T.nx s k = -1
    · rw [if_pos e] at hrow
      rcases hrow with ⟨_, z⟩ | ⟨i, _, v, z, _⟩
      · exact .inl ⟨by rw [e]; exact fun z _ => rfl, z⟩
      · omega
    · rw [if_neg e] at hrow
      obtain ⟨n, hn⟩ : ∃ n : Nat, T.nx s k = n := ⟨(T.nx s k).toNat, by omega⟩
      rw [hn, Int.toNat_natCast] at hrow
      rw [hn]
      have hnN : n < T.N := by omega
      have sm := same n hnN
      rcases hrow with ⟨z1, z2⟩ | ⟨i, z1, v, z2, z3⟩
      · rw [z1] at sm; exact .inl ⟨sm, z2⟩
      · refine .inr ⟨fun q => ?_, i, z1, (List.getElem?_eq_some_iff.1 z3).1, ?_⟩
        · have := (hls n hnN).2.2.2 (-1) (by omega) (by omega)
          exact (hp.sound _ _ this).2.2.2 q
        · rw [getD i v z3, ← z2]; exact sm
  · obtain ⟨s, hs1, hs2⟩ := h.isl i h1 h2
    have sm := same s hs1
    rw [hs2] at sm
    have := (hls s hs1).2.2.2 t h3 (by rw [hs2]; exact h4)
    exact (hp.sound _ _ this).2.2.2 (hs.trans sm)
  · obtain ⟨s, k, a, b, c, d⟩ := h.sfrom t h1 h2
    exact ⟨s, k, a, c, d⟩
  · obtain ⟨s', k', a, b, c, d⟩ := h.sord s k t u (p0 s k h1) h2 h3 h4 h5
    refine ⟨s', k', ?_, b, c, d⟩
    rcases a with z | ⟨z, y⟩
    · exact z
    · omega
end Go.Proofs.Ytbjdkbcfpmeneaa
