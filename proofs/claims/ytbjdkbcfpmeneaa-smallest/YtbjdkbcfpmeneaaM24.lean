/- What is proved here: what the merger's part does: just the pairs are held apart from which some text leads to different rules. -/
import Derived.Test.YtbjdkbcfpmeneaaRows
import Derived.Test.YtbjdkbcfpmeneaaM23
namespace Go.Proofs.Ytbjdkbcfpmeneaa
set_option linter.unusedVariables false
set_option linter.unusedSimpArgs false
open Go.RowKit Go.ChangeMaps

def Snd (T : Tab) (ks : List Value) : Prop := ∀ x ∈ ks, ∃ a b : Int, x = pairV a b ∧ -1 ≤ a ∧ a < b ∧ b < T.N ∧ ¬ Same T a b
theorem Snd.pin {T : Tab} {ks : List Value} (h : Snd T ks) : ∀ x ∈ ks, PairIn T.N x := fun x hx => by
  obtain ⟨a, b, e, h1, h2, h3, _⟩ := h x hx
  exact ⟨a, b, e, h1, h2, h3⟩
theorem Same.minmax {T : Tab} {a b : Int} (h : Same T (min a b) (max a b)) : Same T a b := by
  rcases Int.le_total a b with e | e
  · rw [Int.min_eq_left e, Int.max_eq_right e] at h; exact h
  · rw [Int.min_eq_right e, Int.max_eq_left e] at h; exact h.symm
theorem same_step {T : Tab} (hT : Plain T) {a b : Int} {k : Nat} (hk : k < T.C) (h : Same T a b) : Same T (T.nxI a k) (T.nxI b k) := by
  intro z hz
  obtain ⟨c, hc, rfl⟩ := hT.csur k hk
  have := h (c :: z) (hz.cons hc)
  rw [T.out_consI, T.out_consI] at this
  exact this
theorem PO.snd {T : Tab} {L : Nat → Nat → List Int} {p q : Int} {ks ks' : List Value} {D : Int → Int → Nat → Prop} (h : PO T L p q ks ks' D) (hs : Snd T ks) (hT : Plain T) (hL : OrigOf T L) (hp : -1 ≤ p) (hpN : p < T.N) (hq : -1 ≤ q) (hqN : q < T.N) (hn : ¬ Same T p q) : Snd T ks' := by
  intro x hx
  rcases h.new x hx with z | ⟨a, b, k, hk, ha, hb, rfl⟩
  · exact hs x z
  · have ra := (hL (p + 1).toNat k (by omega) hk a).1 ha
    have rb := (hL (q + 1).toNat k (by omega) hk b).1 hb
    have ea : T.nxI a k = p := by have := ra.2.2; omega
    have eb : T.nxI b k = q := by have := rb.2.2; omega
    have ns : ¬ Same T a b := fun s => hn (by have := same_step hT hk s; rw [ea, eb] at this; exact this)
    have hne : a ≠ b := fun e => ns (by rw [e]; exact fun z _ => rfl)
    exact ⟨min a b, max a b, rfl, by omega, by omega, by omega, fun s => ns s.minmax⟩
/- A pair's origins are all there. -/
def Clo (T : Tab) (ks : List Value) (x : Value) : Prop := ∀ p q : Int, x = pairV p q → ∀ (a b : Int) (k : Nat), k < T.C → -1 ≤ a → a < T.N → -1 ≤ b → b < T.N → T.nxI a k = p → T.nxI b k = q → pairV (min a b) (max a b) ∈ ks
theorem Clo.mono {T : Tab} {ks ks' : List Value} {x : Value} (h : Clo T ks x) (hp : ks <+: ks') : Clo T ks' x := fun p q e a b k h1 h2 h3 h4 h5 h6 h7 => by
  obtain ⟨t, rfl⟩ := hp
  exact List.mem_append_left _ (h p q e a b k h1 h2 h3 h4 h5 h6 h7)
theorem PO.clo {T : Tab} {L : Nat → Nat → List Int} {p q : Int} {ks ks' : List Value} (h : PO T L p q ks ks' (fun _ _ _ => True)) (hL : OrigOf T L) (hp : -1 ≤ p) (hpN : p < T.N) (hq : -1 ≤ q) (hqN : q < T.N) : Clo T ks' (pairV p q) := by
  intro p' q' e a b k hk h1 h2 h3 h4 h5 h6
  obtain ⟨rfl, rfl⟩ := pairV_inj e
  exact h.all a b k hk ((hL _ k (by omega) hk a).2 ⟨h1, h2, by omega⟩) ((hL _ k (by omega) hk b).2 ⟨h3, h4, by omega⟩) trivial
theorem parted_of {T : Tab} {ks : List Value} (hs : Snd T ks) (ha : ∀ a b : Int, -1 ≤ a → a < b → b < T.N → T.acI a ≠ T.acI b → pairV a b ∈ ks) (hc : ∀ x ∈ ks, Clo T ks x) : Parted T (fun a b => pairV a b ∈ ks) := by
  refine ⟨fun a b h => ?_, ha, fun a b k h1 h2 h3 hk h => ?_⟩
  · obtain ⟨c, d, e, h1, h2, h3, h4⟩ := hs _ h
    obtain ⟨rfl, rfl⟩ := pairV_inj e
    exact ⟨h1, h2, h3, h4⟩
  · have := hc _ h _ _ rfl
    rcases Int.le_total (T.nxI a k) (T.nxI b k) with e | e
    · have z := this a b k hk h1 (by omega) (by omega) h3 (Int.min_eq_left e).symm (Int.max_eq_right e).symm
      rw [Int.min_eq_left (by omega), Int.max_eq_right (by omega)] at z
      exact z
    · have z := this b a k hk (by omega) h3 h1 (by omega) (Int.min_eq_right e).symm (Int.max_eq_left e).symm
      rw [Int.min_eq_right (by omega), Int.max_eq_left (by omega)] at z
      exact z

theorem Apt.take {w : World} {M : Nat} {cc : Array Value} {vn va vo : Value} {F : List Nat} {ks : List Value} {tk N : Nat} (hcc : cc.size = 256) (h : Apt w M cc vn va vo F ks tk) (hle : tk ≤ ks.length) (hin : ∀ x ∈ ks, PairIn N x) (hlen : ks.length < 100000) :
    Calls Try.prog 66 #[.pointer (some ⟨M, 259, none⟩)] w fun e w' => ∃ (a b : Int) (more : Bool), e = .returned (.tuple #[pairV a b, .bool more]) ∧ Kp [M] w w' ∧ ((more = true ∧ ks[tk]? = some (pairV a b) ∧ Apt w' M cc vn va vo F ks (tk + 1)) ∨ (more = false ∧ tk = ks.length ∧ Apt w' M cc vn va vo F ks tk)) := by
  by_cases e : tk < ks.length
  · obtain ⟨a, b, ex, _⟩ := hin ks[tk] (List.getElem_mem e)
    have hk : ks[tk]? = some (pairV a b) := by rw [List.getElem?_eq_getElem e, ex]
    refine (h.take_more hcc hk hlen).mono ?_
    rintro _ w2 ⟨rfl, a2, k2⟩
    exact ⟨a, b, true, rfl, k2, .inl ⟨rfl, hk, a2⟩⟩
  · have e' : tk = ks.length := by omega
    subst e'
    refine (h.take_end hcc).mono ?_
    rintro _ w2 ⟨rfl, h2⟩
    have k2 : Kp [] w w2 := (Kp.refl [] w).below h2
    exact ⟨0, 0, false, rfl, k2.mono (by simp), .inr ⟨rfl, rfl, h.kp k2 (by simp)⟩⟩
def more2 : Value → Nat
  | .bool true => 1
  | _ => 0

set_option maxRecDepth 100000 in
set_option maxHeartbeats 4000000 in
theorem part_code (M : Nat) (cc : Array Value) (vn va vo : Value) (T : Tab) (bks : List Nat) (V : Nat → Nat → Value) (L : Nat → Nat → List Int) (F : List Nat) (w : World) (hcc : cc.size = 256) (h : Apt w M cc vn va vo F [] 0)
    (hO : ∀ w', Kp F w w' → Orig w' vo T.C bks V L) (hTR : ∀ w', Kp F w w' → TabR w' vn va T) (hb : bks.length = T.N + 1) (hL : OrigOf T L) (hpl : Plain T) (hN : T.N ≤ 250) (hC : T.C ≤ 256) :
    Calls Try.prog 40 #[.pointer (some ⟨M, 0, none⟩)] w fun e w' => e = .returned (.tuple #[]) ∧ ∃ (F' : List Nat) (ks : List Value) (tk : Nat), Parted T (fun a b => pairV a b ∈ ks) ∧ (∀ x ∈ ks, PairIn T.N x) ∧ Apt w' M cc vn va vo F' ks tk ∧ Kp F w w' ∧ ∀ g ∈ F', g ∈ F ∨ w.heap.size ≤ g := by
  have HH := hide h
  have HO := hide hO
  have HTR := hide hTR
  have HLO := hide hL
  have lF := hide h.lt
  have mF := h.mem
  obtain ⟨⟨gn, capn, rfl, lgn, _⟩, _⟩ := hTR w (Kp.refl _ _)
  have c256 := (h.mgr hcc).c256
  have hpos := hpl.pos
  clear h hO hTR hL
  go_enter Try.func40, Try.ntmps40
  go_wp2_with fail
  go_loopw [12] (fun s w' => ∃ (n : Nat) (F' : List Nat) (ks : List Value), n ≤ T.N ∧ s = .int .i64 n ∧ Snd T ks ∧ (∀ a b : Int, -1 ≤ a → a < b → b < n → T.acI a ≠ T.acI b → pairV a b ∈ ks) ∧ Apt w' M cc (.slice (some ⟨gn, 0, none⟩) T.N capn) va vo F' ks 0 ∧ Kp F w w' ∧ (∀ g ∈ F', g ∈ F ∨ w.heap.size ≤ g))
    (fun s _ => T.N - (intOf s).toNat)
  case atStart => exact ⟨0, F, [], by omega, rfl, fun x hx => by simp at hx, fun a b h1 h2 h3 => by omega, HH.out, Kp.refl _ _, fun g hg => .inl hg⟩
  case round =>
    obtain ⟨n, F1, ks1, hn, rfl, snd, hac, ap, kp, fr⟩ := hrel
    have SND := hide snd
    have HAC := hide hac
    have AP := hide ap
    have KP := hide kp
    have FR := hide fr
    clear snd hac ap kp fr c256
    by_cases hnl : n < T.N
    · have hnl' : (n : Int) < T.N := by omega
      go_wp2_with fail
      go_loopw [3] (fun s w' => ∃ (m : Nat) (F' : List Nat) (ks : List Value), m ≤ n + 1 ∧ s = .int .i64 ((m : Int) - 1) ∧ Snd T ks ∧ (∀ a b : Int, -1 ≤ a → a < b → (b < n ∨ (b = n ∧ a < (m : Int) - 1)) → T.acI a ≠ T.acI b → pairV a b ∈ ks) ∧ Apt w' M cc (.slice (some ⟨gn, 0, none⟩) T.N capn) va vo F' ks 0 ∧ Kp F w w' ∧ (∀ g ∈ F', g ∈ F ∨ w.heap.size ≤ g))
        (fun s _ => n + 1 - (intOf s + 1).toNat)
      case atStart => exact ⟨0, F1, ks1, by omega, rfl, SND.out, fun a b h1 h2 h3 h4 => by rcases h3 with z | z; exact HAC.out a b h1 h2 z h4; omega, AP.out, KP.out, FR.out⟩
      case round =>
        obtain ⟨m, F2, ks2, hm, rfl, snd, hac, ap, kp, fr⟩ := hrel
        have SND2 := hide snd
        have HAC2 := hide hac
        have AP2 := hide ap
        have KP2 := hide kp
        have FR2 := hide fr
        clear snd hac ap kp fr
        by_cases hml : m < n + 1
        · have hml' : (m : Int) - 1 < n := by omega
          have ha1 := mAccept_code M _ va vo T ((m : Int) - 1) wr (AP2.out.mgr hcc) (HTR.out wr KP2.out) (by omega) (by omega) (by omega)
          have ha2 := mAccept_code M _ va vo T (n : Int) wr (AP2.out.mgr hcc) (HTR.out wr KP2.out) (by omega) (by omega) (by omega)
          have HA1 := hide ha1
          have HA2 := hide ha2
          clear ha1 ha2
          generalize hx1 : T.acI ((m : Int) - 1) = x1 at *
          generalize hx2 : T.acI (n : Int) = x2 at *
          have HX1 := hide hx1
          have HX2 := hide hx2
          clear hx1 hx2
          go_wp2_with fail
          refine HA1.out.mono ?_
          rintro _ w1 ⟨rfl, rfl⟩
          go_wp2_with fail
          refine HA2.out.mono ?_
          rintro _ w2 ⟨rfl, rfl⟩
          by_cases hne : x1 = x2
          · have hne' : (x1 != x2) = false := by simp [hne]
            have HNE := hide hne
            clear hne
            go_wp2
            refine ⟨⟨m + 1, F2, ks2, by omega, by go_num, SND2.out, fun a b h1 h2 h3 h4 => ?_, AP2.out, KP2.out, FR2.out⟩, by simp [intOf]; omega⟩
            by_cases e : b = n ∧ a = (m : Int) - 1
            · exfalso
              apply h4
              rw [e.1, e.2, HX1.out, HX2.out]; exact HNE.out
            · exact HAC2.out a b h1 h2 (by omega) h4
          · have hne' : (x1 != x2) = true := by simp [hne]
            have HNE := hide hne
            have hns : ¬ Same T ((m : Int) - 1) (n : Int) := fun s => by
              have := s [] (fun c hc => by simp at hc)
              rw [T.out_nilI, T.out_nilI, HX1.out, HX2.out] at this
              exact HNE.out this
            have HNS := hide hns
            have hkey : Keyish Try.prog 135 (pairV ((m : Int) - 1) n) := pair_key' (N := T.N) (by omega) (by omega) (by omega) (by omega) (by omega)
            have HKEY := hide hkey
            have hfew := pairs_few ks2 AP2.out.nodup SND2.out.pin
            have hf2 : (T.N + 1) * (T.N + 1) ≤ 251 * 251 := Nat.mul_le_mul (by omega) (by omega)
            have hlen2 : ks2.length < 100000 := by omega
            clear hne hns hkey hfew hf2
            go_wp2_with fail
            refine (AP2.out.put hcc _ _ HKEY.out hlen2).mono ?_
            rintro _ w5 ⟨n5, F5, rfl, a5, kp5, fr5⟩
            have A5 := hide a5
            have K5 := hide kp5
            have FR5 := hide fr5
            clear a5 kp5 fr5
            go_wp2
            refine ⟨⟨m + 1, F5, addK ks2 (pairV ((m : Int) - 1) n), by omega, by go_num, fun x hx => ?_, fun a b h1 h2 h3 h4 => ?_, A5.out, KP2.out.trans K5.out (fun y hy => FR2.out y hy), fun g hg => ?_⟩, by simp [intOf]; omega⟩
            · have : x ∈ ks2 ∨ x = pairV ((m : Int) - 1) n := by
                by_cases e : pairV ((m : Int) - 1) n ∈ ks2
                · rw [addK_old e] at hx; exact .inl hx
                · rw [addK_new e] at hx
                  rcases List.mem_append.1 hx with z | z
                  · exact .inl z
                  · exact .inr (List.mem_singleton.1 z)
              rcases this with z | z
              · exact SND2.out x z
              · exact ⟨_, _, z, by omega, by omega, by omega, HNS.out⟩
            · by_cases e : b = n ∧ a = (m : Int) - 1
              · rw [e.1, e.2]
                by_cases e2 : pairV ((m : Int) - 1) n ∈ ks2
                · rw [addK_old e2]; exact e2
                · rw [addK_new e2]; simp
              · have z := HAC2.out a b h1 h2 (by omega) h4
                by_cases e2 : pairV ((m : Int) - 1) n ∈ ks2
                · rw [addK_old e2]; exact z
                · rw [addK_new e2]; simp [z]
            · rcases FR5.out g hg with e | e
              · exact FR2.out g e
              · right; have := KP2.out.size; omega
        · have hmN : m = n + 1 := by omega
          subst hmN
          have hml' : ¬ ((n + 1 : Nat) : Int) - 1 < n := by omega
          go_wp2
          refine ⟨⟨n + 1, F2, ks2, by omega, by go_num, SND2.out, fun a b h1 h2 h3 h4 => HAC2.out a b h1 h2 (by omega) h4, AP2.out, KP2.out, FR2.out⟩, by simp [intOf]; omega⟩
    · have hnN : n = T.N := by omega
      subst hnN
      have hnl' : ¬ (T.N : Int) < T.N := by omega
      have hfew0 : ∀ ks : List Value, ks.Nodup → Snd T ks → ks.length ≤ 63001 := fun ks h1 h2 => by
        have h3 := pairs_few ks h1 h2.pin
        have hf2 : (T.N + 1) * (T.N + 1) ≤ 251 * 251 := Nat.mul_le_mul (by omega) (by omega)
        omega
      have HFEW := hide hfew0
      have hl1 : ks1.length < 100000 := by have := hfew0 ks1 AP.out.nodup SND.out; omega
      clear hfew0
      go_wp2_with fail
      refine (AP.out.take hcc (by omega) SND.out.pin hl1).mono ?_
      rintro _ w2 ⟨a0, b0, more0, rfl, k2, hm0⟩
      have K2 := hide k2
      have HM0 := hide hm0
      clear k2 hm0
      go_upto_region 10 with fail
      have kA : Kp [] w2 (w2.alloc (pairO a0 b0)) := (Kp.refl [] w2).alloc _
      have bA : (w2.alloc (pairO a0 b0)).heap[w2.heap.size]? = some (pairO a0 b0) := by rw [blk_alloc, if_pos rfl]
      generalize (w2.alloc (pairO a0 b0)) = W3 at *
      have hsb : ∀ tk, Apt w2 M cc (.slice (some ⟨gn, 0, none⟩) T.N capn) va vo F1 ks1 tk → w2.heap.size ∉ F1 := fun tk a' hm => by have := a'.lt _ hm; omega
      have hws : w.heap.size ≤ w2.heap.size := Nat.le_trans KP.out.size K2.out.size
      generalize w2.heap.size = sb0 at *
      have KA := hide kA
      have BA := hide bA
      have HSB := hide hsb
      clear kA bA hsb
      go_loopw [4, 5] (fun s4 s5 w' => ∃ (sb : Nat) (more : Bool) (a b : Int) (F' : List Nat) (ks : List Value) (tk n : Nat), s4 = .pointer (some ⟨sb, 0, none⟩) ∧ s5 = .bool more ∧ Snd T ks ∧ (∀ a b : Int, -1 ≤ a → a < b → b < T.N → T.acI a ≠ T.acI b → pairV a b ∈ ks) ∧ (∀ i, i < n → ∀ x, ks[i]? = some x → Clo T ks x) ∧ Apt w' M cc (.slice (some ⟨gn, 0, none⟩) T.N capn) va vo F' ks tk ∧ sb ∉ F' ∧ w.heap.size ≤ sb ∧ w'.heap[sb]? = some (pairO a b) ∧
          ((more = true ∧ tk = n + 1 ∧ ks[n]? = some (pairV a b)) ∨ (more = false ∧ tk = n ∧ n = ks.length)) ∧ Kp F w w' ∧ (∀ g ∈ F', g ∈ F ∨ w.heap.size ≤ g))
        (fun _ s5 w' => 2 * (63010 - (intOf ((w'.cell? ⟨M, 261, none⟩).getD undef)).toNat) + more2 s5)
      case atStart =>
        rcases HM0.out with ⟨rfl, h1, h2⟩ | ⟨rfl, h1, h2⟩
        · exact ⟨sb0, true, a0, b0, F1, ks1, 1, 0, rfl, rfl, SND.out, HAC.out, fun i hi => by omega, h2.kp KA.out (by simp), HSB.out _ h2, hws, BA.out, .inl ⟨rfl, rfl, h1⟩, (KP.out.trans K2.out (by simp [mF])).trans KA.out (by simp), FR.out⟩
        · exact ⟨sb0, false, a0, b0, F1, ks1, 0, 0, rfl, rfl, SND.out, HAC.out, fun i hi => by omega, h2.kp KA.out (by simp), HSB.out _ h2, hws, BA.out, .inr ⟨rfl, rfl, h1⟩, (KP.out.trans K2.out (by simp [mF])).trans KA.out (by simp), FR.out⟩
      case round =>
        obtain ⟨sb, more, a, b, F2, ks2, tk, n, rfl, rfl, snd, hac, hclo, ap, hsF, hws2, bsb, hm, kp, fr⟩ := hrel
        have SND2 := hide snd
        have HAC2 := hide hac
        have HCLO := hide hclo
        have AP2 := hide ap
        have SBF := hide hsF
        have BSB := hide bsb
        have KP2 := hide kp
        have FR2 := hide fr
        have HTK := hide (ap.taken hcc)
        have lsb := lt_of_block bsb
        clear snd hac hclo ap hsF kp fr
        rcases hm with ⟨rfl, rfl, hx⟩ | ⟨rfl, rfl, hn2⟩
        · obtain ⟨a', b', e', h1, h2, h3, hns⟩ := SND2.out _ (List.mem_of_getElem? hx)
          obtain ⟨rfl, rfl⟩ := pairV_inj e'
          have HX := hide hx
          have HNS := hide hns
          obtain ⟨y0, y1, yr⟩ := two bsb
          clear hx hns e' bsb yr
          go_wp2_with fail
          refine (partO_code M cc (.slice (some ⟨gn, 0, none⟩) T.N capn) va vo T bks V L F2 ks2 (n + 1) a b wr hcc AP2.out (fun w' k' => HO.out w' (KP2.out.trans k' (fun y hy => FR2.out y hy))) hb HLO.out h1 h2 h3 hN hC SND2.out.pin).mono ?_
          rintro _ w5 ⟨rfl, F5, ks5, po, hin5, a5, kp5, fr5⟩
          have snd5 := po.snd SND2.out hpl HLO.out h1 (by omega) (by omega) h3 HNS.out
          have clo5 := po.clo HLO.out h1 (by omega) (by omega) h3
          have SND5 := hide snd5
          have CLO5 := hide clo5
          have PRE5 := hide po.pre
          have A5 := hide a5
          have K5 := hide kp5
          have FR5 := hide fr5
          have bs5 : w5.heap[sb]? = some (pairO a b) := kp5.keep BSB.out SBF.out
          obtain ⟨z0, z1, zr⟩ := two bs5
          have hl5 : ks5.length < 100000 := by have := HFEW.out ks5 a5.nodup snd5; omega
          have hl5' : ks5.length ≤ 63001 := HFEW.out ks5 a5.nodup snd5
          clear po hin5 a5 kp5 fr5 snd5 clo5 bs5 zr y0 y1
          go_upto_region 11 with fail
          have kB : Kp [] w5 (w5.alloc (pairO a b)) := (Kp.refl [] w5).alloc _
          have bB : (w5.alloc (pairO a b)).heap[w5.heap.size]? = some (pairO a b) := by rw [blk_alloc, if_pos rfl]
          have AB := hide (A5.out.kp kB (by simp))
          have nB : w5.heap.size ∉ F5 := fun hm => by have := A5.out.lt _ hm; omega
          have hwB : w.heap.size ≤ w5.heap.size := Nat.le_trans KP2.out.size K5.out.size
          have KB : Hid (Kp F w (w5.alloc (pairO a b))) := (KP2.out.trans K5.out (fun y hy => FR2.out y hy)).trans kB (by simp)
          generalize (w5.alloc (pairO a b)) = WB at *
          generalize w5.heap.size = sb2 at *
          have BB := hide bB
          have NB := hide nB
          clear kB bB nB z0 z1
          have hnl : n + 1 ≤ ks5.length := by
            have := (List.getElem?_eq_some_iff.1 HX.out).1
            have := PRE5.out.length_le
            omega
          go_wp2_with fail
          refine (AB.out.take hcc hnl SND5.out.pin hl5).mono ?_
          rintro _ wC ⟨a6, b6, more6, rfl, k6, hm6⟩
          have K6 := hide k6
          have HM6 := hide hm6
          have nMs : sb2 ≠ M := fun e => NB.out (by rw [e]; exact AB.out.mem)
          have bC : wC.heap[sb2]? = some (pairO a b) := k6.keep BB.out (by simpa using nMs)
          have BC := hide bC
          obtain ⟨z0, z1, q0, q1⟩ := two bC
          clear k6 hm6 bC
          go_wp2
          have kS : Kp [sb2] wC ((wC.setCell ⟨sb2, 0, none⟩ (.int .i64 a6)).setCell ⟨sb2, 1, none⟩ (.int .i64 b6)) := (Kp.refl [sb2] wC).set2 (by simp) _ _
          have bS : ((wC.setCell ⟨sb2, 0, none⟩ (.int .i64 a6)).setCell ⟨sb2, 1, none⟩ (.int .i64 b6)).heap[sb2]? = some (pairO a6 b6) := blk_set2 BC.out _ _
          have nS : ∀ x ∈ [sb2], x ∉ F5 := fun x hx => by rw [List.mem_singleton.1 hx]; exact NB.out
          have kT : Kp F w ((wC.setCell ⟨sb2, 0, none⟩ (.int .i64 a6)).setCell ⟨sb2, 1, none⟩ (.int .i64 b6)) := (KB.out.trans K6.out (by simp [mF])).trans kS (fun y hy => .inr (by rw [List.mem_singleton.1 hy]; exact hwB))
          have frT : ∀ g ∈ F5, g ∈ F ∨ w.heap.size ≤ g := fun g hg => by
            rcases FR5.out g hg with e | e
            · exact FR2.out g e
            · right; have := KP2.out.size; omega
          have acT : ∀ a b : Int, -1 ≤ a → a < b → b < T.N → T.acI a ≠ T.acI b → pairV a b ∈ ks5 := fun a b h1 h2 h3 h4 => by
            obtain ⟨t, e⟩ := PRE5.out
            rw [← e]; exact List.mem_append_left _ (HAC2.out a b h1 h2 h3 h4)
          have cloT : ∀ i, i < n + 1 → ∀ x, ks5[i]? = some x → Clo T ks5 x := fun i hi x hx => by
            by_cases e : i = n
            · subst e
              obtain ⟨t, e2⟩ := PRE5.out
              have : ks5[i]? = some (pairV a b) := by rw [← e2, List.getElem?_append_left (List.getElem?_eq_some_iff.1 HX.out).1]; exact HX.out
              rw [this] at hx
              cases hx
              exact CLO5.out
            · obtain ⟨t, e2⟩ := PRE5.out
              have hil : i < ks2.length := by have := (List.getElem?_eq_some_iff.1 HX.out).1; omega
              have hx2 : ks2[i]? = some x := by rw [← e2, List.getElem?_append_left hil] at hx; exact hx
              exact (HCLO.out i (by omega) x hx2).mono PRE5.out
          have e1 := HTK.out
          rcases HM6.out with ⟨rfl, g1, g2⟩ | ⟨rfl, g1, g2⟩
          · have aT := g2.kp kS nS
            refine ⟨⟨sb2, true, a6, b6, F5, ks5, n + 1 + 1, n + 1, rfl, rfl, SND5.out, acT, cloT, aT, NB.out, hwB, bS, .inl ⟨rfl, rfl, g1⟩, kT, frT⟩, ?_⟩
            have gl := (List.getElem?_eq_some_iff.1 g1).1
            rw [aT.taken hcc, e1]
            simp [intOf, more2]
            omega
          · have aT := g2.kp kS nS
            refine ⟨⟨sb2, false, a6, b6, F5, ks5, n + 1, n + 1, rfl, rfl, SND5.out, acT, cloT, aT, NB.out, hwB, bS, .inr ⟨rfl, rfl, g1⟩, kT, frT⟩, ?_⟩
            rw [aT.taken hcc, e1]
            simp [intOf, more2]
        · clear bsb
          go_wp2
          go_end0
          refine ⟨rfl, F2, ks2, tk, ?_, SND2.out.pin, AP2.out, KP2.out, FR2.out⟩
          refine parted_of SND2.out HAC2.out fun x hx => ?_
          obtain ⟨i, hi⟩ := List.getElem?_of_mem hx
          exact HCLO.out i (by have := (List.getElem?_eq_some_iff.1 hi).1; omega) x hi
end Go.Proofs.Ytbjdkbcfpmeneaa

/- What is proved here: what the merger's leasts answers: of each state the least that is one with it. -/
namespace Go.Proofs.Ytbjdkbcfpmeneaa
set_option linter.unusedVariables false
set_option linter.unusedSimpArgs false
open Go.RowKit Go.ChangeMaps

/- The least one that is not held apart. -/
def LeastOf (ks : List Value) (s : Nat) (l : Int) : Prop := -1 ≤ l ∧ l ≤ s ∧ pairV l s ∉ ks ∧ ∀ l', -1 ≤ l' → l' < l → pairV l' s ∈ ks

set_option maxRecDepth 100000 in
set_option maxHeartbeats 4000000 in
theorem leasts_code (M : Nat) (cc : Array Value) (vn va vo : Value) (N capn gn : Nat) (F : List Nat) (ks : List Value) (tk : Nat) (w : World) (hcc : cc.size = 256) (h : Apt w M cc (.slice (some ⟨gn, 0, none⟩) N capn) va vo F ks tk) (hin : ∀ x ∈ ks, PairIn N x) (hN : N ≤ 250) :
    Calls Try.prog 42 #[.pointer (some ⟨M, 0, none⟩)] w fun e w' => ∃ (g : Nat) (ls : List Int), e = .returned (.slice (some ⟨g, 0, none⟩) N N) ∧ w.heap.size ≤ g ∧ w'.heap[g]? = some (iO ls) ∧ ls.length = N ∧ (∀ s, s < N → LeastOf ks s (ls.getD s 0)) ∧ Below w.heap.size w w' := by
  have HH := hide h
  have HIN := hide hin
  have c256 := (h.mgr hcc).c256
  have hmk := fun w => run_make_ints N (by omega) w
  clear h hin
  go_enter Try.func42, Try.ntmps42
  go_upto_region 2 with fail
  have kW : Kp [] w (w.alloc (iO (List.replicate N 0))) := (Kp.refl _ w).alloc _
  have bG : (w.alloc (iO (List.replicate N 0))).heap[w.heap.size]? = some (iO (List.replicate N 0)) := by rw [blk_alloc, if_pos rfl]
  generalize (w.alloc (iO (List.replicate N 0))) = W at *
  have KW := hide kW
  have BG := hide bG
  clear kW bG hmk c256
  go_wp2_with fail
  go_loopw [15] (fun i w' => ∃ (k : Nat) (ls : List Int), k ≤ N ∧ i = .int .i64 k ∧ ls.length = N ∧ (∀ s, s < k → LeastOf ks s (ls.getD s 0)) ∧ Kp [] w w' ∧ w'.heap[w.heap.size]? = some (iO ls))
    (fun i _ => N - (intOf i).toNat)
  case atStart => exact ⟨0, List.replicate N 0, by omega, rfl, by simp, fun s hs => by omega, KW.out, BG.out⟩
  case round =>
    obtain ⟨k, ls, hk, rfl, hll, hls, kp, bg⟩ := hrel
    have HLS := hide hls
    have HLL := hide hll
    have KP := hide kp
    have BGr := hide bg
    clear hls hll kp bg
    by_cases hlt : k < N
    · have hlt' : (k : Int) < N := by omega
      go_wp2_with fail
      go_loopw [5] (fun i w' => ∃ (m : Nat), m ≤ k + 1 ∧ i = .int .i64 ((m : Int) - 1) ∧ (∀ l', -1 ≤ l' → l' < (m : Int) - 1 → pairV l' k ∈ ks) ∧ Kp [] w w' ∧ w'.heap[w.heap.size]? = some (iO ls))
        (fun i _ => k + 1 - (intOf i + 1).toNat)
      case atStart => exact ⟨0, by omega, rfl, fun l' h1 h2 => by omega, KP.out, BGr.out⟩
      case round =>
        obtain ⟨m, hm, rfl, hap, kp, bg⟩ := hrel
        have HAP := hide hap
        have KP2 := hide kp
        have BG2 := hide bg
        clear hap kp bg
        have hkey : Keyish Try.prog 135 (pairV ((m : Int) - 1) k) := pair_key' (N := N) (by omega) (by omega) (by omega) (by omega) (by omega)
        have HKEY := hide hkey
        have AP := hide (HH.out.kp KP2.out (by simp))
        clear hkey
        by_cases hmem : pairV ((m : Int) - 1) k ∈ ks
        · have hml : m < k + 1 := by
            obtain ⟨a, b, e, h1, h2, h3⟩ := HIN.out _ hmem
            obtain ⟨rfl, rfl⟩ := pairV_inj e
            omega
          have HMEM := hide hmem
          clear hmem
          go_wp2_with fail
          refine (AP.out.has hcc ((m : Int) - 1) k true HKEY.out ⟨fun _ => HMEM.out, fun _ => rfl⟩).mono ?_
          rintro _ w3 ⟨rfl, h3⟩
          have K3 := hide (KP2.out.below h3)
          have BG3 := hide (bkeep h3 BG2.out)
          clear h3
          go_wp2
          refine ⟨⟨m + 1, by omega, by go_num, fun l' h1 h2 => ?_, K3.out, BG3.out⟩, by simp [intOf]; omega⟩
          by_cases e : l' = (m : Int) - 1
          · rw [e]; exact HMEM.out
          · exact HAP.out l' h1 (by omega)
        · have HMEM := hide hmem
          clear hmem
          go_wp2_with fail
          refine (AP.out.has hcc ((m : Int) - 1) k false HKEY.out ⟨fun h => (by cases h), fun h => absurd h HMEM.out⟩).mono ?_
          rintro _ w3 ⟨rfl, h3⟩
          have K3 := hide (KP2.out.below h3)
          have bg3 := bkeep h3 BG2.out
          have BG3 := hide bg3
          have c3 := icell bg3 k (by rw [HLL.out]; exact hlt)
          have f3 := ifroz bg3 k
          clear h3 bg3
          go_wp2
          refine ⟨⟨k + 1, ls.set k ((m : Int) - 1), by omega, by go_num, by rw [List.length_set]; exact HLL.out, fun s hs => ?_, K3.out.set (.inr (Nat.le_refl _)) _ _, iset BG3.out k _⟩, by simp [intOf]; omega⟩
          by_cases e : s = k
          · subst e
            rw [getD_set_self _ _ _ (by rw [HLL.out]; exact hlt)]
            exact ⟨by omega, by omega, HMEM.out, HAP.out⟩
          · rw [getD_set_other _ _ _ _ (fun q => e q.symm)]
            exact HLS.out s (by omega)
    · have hkN : k = N := by omega
      subst hkN
      go_wp2
      go_ret
      exact ⟨w.heap.size, ls, rfl, Nat.le_refl _, BGr.out, HLL.out, HLS.out, KP.out.toBelow⟩
end Go.Proofs.Ytbjdkbcfpmeneaa
