/- What is proved here: Placed is true, as soon as awake is. -/
import Derived.Test.YtbjdkbcfpmeneaaRows
import Derived.Test.YtbjdkbcfpmeneaaM40
import Derived.Test.YtbjdkbcfpmeneaaM42
namespace Go.Proofs.Ytbjdkbcfpmeneaa
set_option linter.unusedVariables false
set_option linter.unusedSimpArgs false
open Go.RowKit

theorem readW_pl0 (s : ByteArray) (h : (readW s).err = 0) : (readW s).pl = 0 := by
  obtain ⟨_, hz, _, h1, _, h3⟩ := right_of s h
  rw [h3]
  rcases aR_shape s hz 40 0 (by omega) with ⟨_, q, _⟩ | ⟨q, _⟩
  · exact q
  · exact absurd h1 q

set_option maxRecDepth 100000 in
set_option maxHeartbeats 2000000 in
theorem placed_code (s : ByteArray) (w : World) (haw : ∀ w : World, Calls Try.prog 14 #[] w fun x w' => x = .returned (.bool true) ∧ Below w.heap.size w w') :
    Calls Try.prog 6 #[.string s] w fun x w' => x = .returned (.bool true) ∧ Below w.heap.size w w' := by
  have hR := fun w2 => right_code s w2
  rcases readW_errs s with a | ⟨a, b, c⟩ | ⟨a, b, c, d⟩ | ⟨a, b, c, d, e, g⟩
  · have a2 := readW_pl0 s a
    rw [a, a2] at hR
    clear a a2
    go_enter Try.func6, Try.ntmps6
    go_wp2_with fail
    refine (haw _).mono ?_
    rintro _ w2 ⟨rfl, k2⟩
    go_wp2_with fail
    refine (hR _).mono ?_
    rintro _ w3 ⟨rfl, k3⟩
    have K3 : Hid (Below w.heap.size w w3) := k2.trans (k3.mono k2.size)
    clear k2 k3
    go_wp2
    go_ret
    exact ⟨rfl, K3.out⟩
  · rw [a, c] at hR
    have b' : (16 : Int) < s.size := by omega
    clear a c b
    go_enter Try.func6, Try.ntmps6
    go_wp2_with fail
    refine (haw _).mono ?_
    rintro _ w2 ⟨rfl, k2⟩
    go_wp2_with fail
    refine (hR _).mono ?_
    rintro _ w3 ⟨rfl, k3⟩
    have K3 : Hid (Below w.heap.size w w3) := k2.trans (k3.mono k2.size)
    clear k2 k3
    go_wp2
    go_ret
    exact ⟨by simp [b'], K3.out⟩
  · rw [a] at hR
    have b' : (s.size : Int) ≤ 16 := by omega
    have b2 : ¬ (16 : Int) < s.size := by omega
    generalize (readW s).pl = p at *
    clear a b
    go_enter Try.func6, Try.ntmps6
    go_wp2_with fail
    refine (haw _).mono ?_
    rintro _ w2 ⟨rfl, k2⟩
    go_wp2_with fail
    refine (hR _).mono ?_
    rintro _ w3 ⟨rfl, k3⟩
    have K3 : Hid (Below w.heap.size w w3) := k2.trans (k3.mono k2.size)
    clear k2 k3
    go_wp2
    go_ret
    exact ⟨by simp [b2, c, d], K3.out⟩
  · obtain ⟨n, hn⟩ : ∃ n : Nat, (readW s).pl = n := ⟨_, (Int.toNat_of_nonneg d).symm⟩
    have hu := readW_ahead s c n hn (s.extract 0 n) (pref_extract s n (by omega))
    have hR2 := fun w2 => right_code (s.extract 0 n) w2
    rw [hn] at hR d e g
    have key : ∀ w3 : World, Calls Try.prog 15 #[.string (s.extract 0 n)] w3 fun x w' => ∃ f q : Int, x = .returned (.tuple #[.int .i64 f, .int .i64 q]) ∧ (f = 0 ∨ (f = 4 ∧ q = n)) ∧ Below w3.heap.size w3 w' := fun w3 => (hR2 w3).mono fun x w' h => ⟨_, _, h.1, hu, h.2⟩
    have d1 : ¬ ((n : Int) < 0) := by omega
    have d2 : ¬ ((s.size : Int) < n) := by omega
    have d3 : ((n : Int) ≤ s.size) := by omega
    rcases c with q | q | q
    all_goals
      rw [q] at hR g
      have nn : ((n : Int) == s.size) = (if (readW s).err = 4 then true else false) := by
        rw [q]
        first
          | (have := g.1 rfl; simp [this]; done)
          | (have : (n : Int) ≠ s.size := fun z => by have := g.2 z; omega
             simp [this])
      rw [q] at nn
      first | rw [if_pos rfl] at nn | rw [if_neg (by decide)] at nn
      clear a b q g hn hu hR2
      go_enter Try.func6, Try.ntmps6
      go_wp2_with fail
      refine (haw _).mono ?_
      rintro _ w2 ⟨rfl, k2⟩
      go_wp2_with fail
      refine (hR _).mono ?_
      rintro _ w3 ⟨rfl, k3⟩
      have K3 : Hid (Below w.heap.size w w3) := k2.trans (k3.mono k2.size)
      clear k2 k3
      go_wp2_with fail
      refine (key _).mono ?_
      rintro _ w4 ⟨f, r, rfl, hf, k4⟩
      have K4 : Hid (Below w.heap.size w w4) := K3.out.trans (k4.mono K3.out.size)
      clear k4
      rcases hf with rfl | ⟨rfl, rfl⟩
      · go_wp2
        go_ret
        exact ⟨by simp, K4.out⟩
      · go_wp2
        go_ret
        exact ⟨by simp, K4.out⟩
end Go.Proofs.Ytbjdkbcfpmeneaa
