/- What is proved here: Composed is true, as soon as awake is, where a pattern is wrong or where they are too long to be put together. -/
import Derived.Test.YtbjdkbcfpmeneaaRows
import Derived.Test.YtbjdkbcfpmeneaaM43
namespace Go.Proofs.Ytbjdkbcfpmeneaa
set_option linter.unusedVariables false
set_option linter.unusedSimpArgs false
open Go.RowKit

set_option maxRecDepth 100000 in
set_option maxHeartbeats 2000000 in
theorem composed_wrong (a b t : ByteArray) (w : World) (haw : ∀ w : World, Calls Try.prog 14 #[] w fun x w' => x = .returned (.bool true) ∧ Below w.heap.size w w') (h : (readW a).err ≠ 0 ∨ (readW b).err ≠ 0) :
    Calls Try.prog 4 #[.string a, .string b, .string t] w fun x w' => x = .returned (.bool true) ∧ Below w.heap.size w w' := by
  have hA := fun w2 => right_code a w2
  have hB := fun w2 => right_code b w2
  have h' : ((readW a).err != 0) = true ∨ (((readW a).err != 0) = false ∧ ((readW b).err != 0) = true) := by
    by_cases q : (readW a).err = 0
    · rcases h with z | z
      · exact absurd q z
      · exact .inr ⟨by simp [q], by simp [z]⟩
    · exact .inl (by simp [q])
  generalize (readW a).err = E at *
  generalize (readW b).err = F at *
  generalize (readW a).pl = P at *
  generalize (readW b).pl = Q at *
  have hS := fun w2 => kshort_code t 60 (by omega) w2
  generalize (if t.size ≤ 60 then t else t.extract 0 60) = T at *
  clear h
  rcases h' with h | ⟨h, g⟩
  all_goals
    go_enter Try.func4, Try.ntmps4
    go_wp2_with fail
    refine (hS _).mono ?_
    rintro _ w ⟨rfl, rfl⟩
    go_wp2_with fail
    refine (haw _).mono ?_
    rintro _ w2 ⟨rfl, k2⟩
    go_wp2_with fail
    refine (hA _).mono ?_
    rintro _ w3 ⟨rfl, k3⟩
    have K3 : Hid (Below w.heap.size w w3) := k2.trans (k3.mono k2.size)
    clear k2 k3
    go_wp2_with fail
    refine (hB _).mono ?_
    rintro _ w4 ⟨rfl, k4⟩
    have K4 : Hid (Below w.heap.size w w4) := K3.out.trans (k4.mono K3.out.size)
    clear k4
    go_wp2
    go_ret
    exact ⟨rfl, K4.out⟩

set_option maxRecDepth 100000 in
set_option maxHeartbeats 2000000 in
theorem composed_long (a b t : ByteArray) (w : World) (haw : ∀ w : World, Calls Try.prog 14 #[] w fun x w' => x = .returned (.bool true) ∧ Below w.heap.size w w') (ha : (readW a).err = 0) (hb : (readW b).err = 0) (h : 16 < a.size + 3) :
    Calls Try.prog 4 #[.string a, .string b, .string t] w fun x w' => x = .returned (.bool true) ∧ Below w.heap.size w w' := by
  have hA := fun w2 => right_code a w2
  have hB := fun w2 => right_code b w2
  have sa := (right_of a ha).1
  have sb := (right_of b hb).1
  rw [ha] at hA
  rw [hb] at hB
  generalize (readW a).pl = P at *
  generalize (readW b).pl = Q at *
  have hS := fun w2 => kshort_code t 60 (by omega) w2
  generalize (if t.size ≤ 60 then t else t.extract 0 60) = T at *
  have h1 : IntKind.i64.wrap ((a.size : Int) + b.size) = (a.size : Int) + b.size := by simp [IntKind.wrap, IntKind.bits, IntKind.signed]; omega
  have h2 : IntKind.i64.wrap ((a.size : Int) + b.size + 4) = (a.size : Int) + b.size + 4 := by simp [IntKind.wrap, IntKind.bits, IntKind.signed]; omega
  have h3 : IntKind.i64.wrap ((a.size : Int) + 3) = (a.size : Int) + 3 := by simp [IntKind.wrap, IntKind.bits, IntKind.signed]; omega
  have h4 : ¬ ((a.size : Int) + b.size + 4 ≤ 16) := by omega
  have h5 : (16 : Int) < (a.size : Int) + 3 := by omega
  clear h ha hb sa sb
  go_enter Try.func4, Try.ntmps4
  go_wp2_with fail
  refine (hS _).mono ?_
  rintro _ w ⟨rfl, rfl⟩
  go_wp2_with fail
  refine (haw _).mono ?_
  rintro _ w2 ⟨rfl, k2⟩
  go_wp2_with fail
  refine (hA _).mono ?_
  rintro _ w3 ⟨rfl, k3⟩
  have K3 : Hid (Below w.heap.size w w3) := k2.trans (k3.mono k2.size)
  clear k2 k3
  go_wp2_with fail
  refine (hB _).mono ?_
  rintro _ w4 ⟨rfl, k4⟩
  have K4 : Hid (Below w.heap.size w w4) := K3.out.trans (k4.mono K3.out.size)
  clear k4
  go_wp2
  go_ret
  exact ⟨rfl, K4.out⟩
end Go.Proofs.Ytbjdkbcfpmeneaa
