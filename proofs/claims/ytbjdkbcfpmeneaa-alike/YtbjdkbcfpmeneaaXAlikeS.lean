/- What is proved here: the patterns that Alike puts together match the same texts. No program is named. -/
import Derived.Test.YtbjdkbcfpmeneaaM43
import Derived.Test.YtbjdkbcfpmeneaaM20
namespace Go.Proofs.Ytbjdkbcfpmeneaa
set_option linter.unusedVariables false
set_option linter.unusedSimpArgs false

/- A pattern that is right and matches the same texts. -/
def SameP (s r : ByteArray) : Prop := (readW s).err = 0 ∧ (readW s).v = (readW r).v
theorem SameP.of {s r : ByteArray} {n : Nat} {v : Lang} (h : readW s = good n v) (e : v = (readW r).v) : SameP s r := by
  unfold SameP; rw [h]; exact ⟨rfl, e⟩
theorem same_paren {a : ByteArray} (ha : (readW a).err = 0) (h16 : a.size + 2 ≤ 16) : SameP ({ data := #[40] } ++ a ++ { data := #[41] }) a := by
  obtain ⟨_, hz, _⟩ := right_of a ha
  have hs : (({ data := #[40] } : ByteArray) ++ a ++ { data := #[41] }).size = a.size + 2 := by
    rw [sz_app, sz_app]
    show 1 + a.size + 1 = _
    omega
  refine SameP.of (read_paren ha hs (by omega) (inbr_first rfl hz (by decide) rfl) ?_) rfl
  rw [gt_l (by rw [sz_app]; show 0 < 1 + a.size; omega), gt_l (by decide)]; rfl
theorem read_bars {a b : ByteArray} (ha : (readW a).err = 0) (hb : (readW b).err = 0) (h16 : a.size + b.size + 1 ≤ 16) : readW (a ++ { data := #[124] } ++ b) = good (a ++ { data := #[124] } ++ b).size (lAlt (readW a).v (readW b).v) := by
  obtain ⟨_, hz, _⟩ := right_of a ha
  obtain ⟨_, hzb, _⟩ := right_of b hb
  have h1 : (({ data := #[124] } : ByteArray)).size = 1 := rfl
  have hs : (a ++ { data := #[124] } ++ b).size = a.size + b.size + 1 := by rw [sz_app, sz_app, h1]; omega
  have hbar : gt (a ++ { data := #[124] } ++ b) a.size = 124 := by
    rw [gt_l (by rw [sz_app, h1]; omega), gt_r (Nat.le_refl _), Nat.sub_self]; rfl
  refine read_bar ha hb hs (by omega) ⟨fun i hi => ?_, .inr (.inl (by rw [Nat.zero_add]; exact hbar)), hz⟩ hbar ⟨fun i hi => ?_, .inr (.inr ?_), hzb⟩
  · rw [Nat.zero_add, gt_l (by rw [sz_app, h1]; omega), gt_l hi]
  · rw [gt_r (by rw [sz_app, h1]; omega), sz_app, h1, show a.size + 1 + i - (a.size + 1) = i by omega]
  · exact gt_out _ _ (by omega)
theorem same_twice {a : ByteArray} (ha : (readW a).err = 0) (h16 : a.size + a.size + 1 ≤ 16) : SameP (a ++ { data := #[124] } ++ a) a :=
  SameP.of (read_bars ha ha h16) (lAlt_self _)
theorem same_opt {a : ByteArray} (ha : (readW a).err = 0) (h0 : (readW a).v []) (h16 : a.size + 4 ≤ 16) : SameP ({ data := #[40, 124] } ++ a ++ { data := #[124, 41] }) a := by
  have h1 : (({ data := #[124] } : ByteArray)).size = 1 := rfl
  have he : readW (ByteArray.mk #[]) = good 0 lEps := read_empty rfl
  have he0 : (readW (ByteArray.mk #[])).err = 0 := by rw [he]; rfl
  have e0 : (ByteArray.mk #[]).size = 0 := rfl
  have r1 := read_bars (a := a) (b := ByteArray.mk #[]) ha he0 (by rw [e0]; omega)
  have hs1 : (a ++ { data := #[124] } ++ ByteArray.mk #[]).size = a.size + 1 := by rw [sz_app, sz_app, h1, e0]
  have r2 := read_bars (a := ByteArray.mk #[]) (b := a ++ { data := #[124] } ++ ByteArray.mk #[]) he0 (by rw [r1]; rfl) (by rw [hs1, e0]; omega)
  have hs2 : (ByteArray.mk #[] ++ { data := #[124] } ++ (a ++ { data := #[124] } ++ ByteArray.mk #[])).size = a.size + 2 := by rw [sz_app, sz_app, hs1, h1, e0]; omega
  have r3 := same_paren (a := ByteArray.mk #[] ++ { data := #[124] } ++ (a ++ { data := #[124] } ++ ByteArray.mk #[])) (by rw [r2]; rfl) (by rw [hs2]; omega)
  have eq : (({ data := #[40, 124] } : ByteArray) ++ a ++ { data := #[124, 41] }) = { data := #[40] } ++ (ByteArray.mk #[] ++ { data := #[124] } ++ (a ++ { data := #[124] } ++ ByteArray.mk #[])) ++ { data := #[41] } := by
    apply ByteArray.ext
    simp only [ByteArray.data_append]
    apply Array.ext'
    simp
  rw [eq]
  refine ⟨r3.1, r3.2.trans ?_⟩
  rw [r2]
  show lAlt (readW (ByteArray.mk #[])).v (readW (a ++ { data := #[124] } ++ ByteArray.mk #[])).v = _
  rw [r1, he]
  show lAlt lEps (lAlt (readW a).v lEps) = _
  rw [← lAlt_assoc]
  exact lAlt_eps _ h0
/- What rules tell stays. -/
theorem told_same {rs os : Nat → ByteArray} {n : Nat} (h : ∀ i, i < n → SameP (os i) (rs i)) : told (fun k => (readW (os k)).v) n = told (fun k => (readW (rs k)).v) n :=
  told_congr fun i x hi => by show (readW (os i)).v x ↔ (readW (rs i)).v x; rw [(h i hi).2]
theorem told_more {rs os : Nat → ByteArray} {n k : Nat} (h : ∀ i, i < n → SameP (os i) (rs i)) (hk : k < n) (hn : SameP (os n) (rs k)) : told (fun k => (readW (os k)).v) (n + 1) = told (fun k => (readW (rs k)).v) n := by
  rw [← told_same h]
  funext x
  unfold told
  split
  · rfl
  · exact firstR_more hk (fun q => by
      show (readW (os k)).v x
      rw [(h k hk).2, ← hn.2]
      exact q)
end Go.Proofs.Ytbjdkbcfpmeneaa
