/-
  Contracts of Mod, Max and the tests of ranges, of the model and of the program, where the divisor is in range: the remainder that is never negative.
-/
import Derived.Test.YtkofmllikneleaaDoorProg
import Derived.Test.YtkofmllikneleaaDoorKit
import Derived.WalkKit
import Derived.WalkLawsBesides
import Derived.WalkSpells
import Derived.WalkSmall
import Derived.Outline
import Derived.Lib.Hide
import Derived.IntWalk
namespace Go.Proofs.YtkofmllikneleaaDoor
open Go.RowKit

theorem inr_yes (n lo hi : Int) (h1 : lo ≤ n) (h2 : n ≤ hi) (w : World) :
    Calls Tryd.prog 22 #[.int .i64 n, .int .i64 lo, .int .i64 hi] w fun e w' => e = .returned (.bool true) ∧ w = w' := by
  go_enter Tryd.func22, Tryd.ntmps22
  go_wp2
  go_ret
  exact ⟨rfl, rfl⟩
theorem inr_no (n lo hi : Int) (h : ¬ (lo ≤ n ∧ n ≤ hi)) (w : World) :
    Calls Tryd.prog 22 #[.int .i64 n, .int .i64 lo, .int .i64 hi] w fun e w' => e = .returned (.bool false) ∧ w = w' := by
  by_cases h1 : lo ≤ n
  · have hd : decide (n ≤ hi) = false := decide_eq_false (by omega)
    clear h
    go_enter Tryd.func22, Tryd.ntmps22
    go_wp2
    go_ret
    exact ⟨rfl, rfl⟩
  · have hd : decide (lo ≤ n) = false := decide_eq_false h1
    clear h
    go_enter Tryd.func22, Tryd.ntmps22
    go_wp2
    go_ret
    exact ⟨rfl, rfl⟩
/-- impl.InRange at every three ints. -/
theorem inr_any (n lo hi : Int) (w : World) :
    Calls Tryd.prog 22 #[.int .i64 n, .int .i64 lo, .int .i64 hi] w fun e w' => e = .returned (.bool (decide (lo ≤ n ∧ n ≤ hi))) ∧ w = w' := by
  by_cases h : lo ≤ n ∧ n ≤ hi
  · rw [decide_eq_true h]; exact inr_yes n lo hi h.1 h.2 w
  · rw [decide_eq_false h]; exact inr_no n lo hi h w
theorem lin_yes (n lo hi : Int) (h1 : lo ≤ n) (h2 : n ≤ hi) (w : World) :
    Calls Tryd.prog 20 #[.int .i64 n, .int .i64 lo, .int .i64 hi] w fun e w' => e = .returned (.bool true) ∧ w = w' := by
  go_enter Tryd.func20, Tryd.ntmps20
  go_wp2
  go_ret
  exact ⟨rfl, rfl⟩
theorem lin_no (n lo hi : Int) (h : ¬ (lo ≤ n ∧ n ≤ hi)) (w : World) :
    Calls Tryd.prog 20 #[.int .i64 n, .int .i64 lo, .int .i64 hi] w fun e w' => e = .returned (.bool false) ∧ w = w' := by
  by_cases h1 : lo ≤ n
  · have hd : decide (n ≤ hi) = false := decide_eq_false (by omega)
    clear h
    go_enter Tryd.func20, Tryd.ntmps20
    go_wp2
    go_ret
    exact ⟨rfl, rfl⟩
  · have hd : decide (lo ≤ n) = false := decide_eq_false h1
    clear h
    go_enter Tryd.func20, Tryd.ntmps20
    go_wp2
    go_ret
    exact ⟨rfl, rfl⟩
/-- spec.l1In at every three ints. -/
theorem lin_any (n lo hi : Int) (w : World) :
    Calls Tryd.prog 20 #[.int .i64 n, .int .i64 lo, .int .i64 hi] w fun e w' => e = .returned (.bool (decide (lo ≤ n ∧ n ≤ hi))) ∧ w = w' := by
  by_cases h : lo ≤ n ∧ n ≤ hi
  · rw [decide_eq_true h]; exact lin_yes n lo hi h.1 h.2 w
  · rw [decide_eq_false h]; exact lin_no n lo hi h w

theorem tmod_emod (n m : Int) : n.tmod m % m = n % m := by
  rw [Int.tmod_def]
  exact Int.sub_mul_emod_self_left ..
theorem tmod_neg_bounds {n m : Int} (h : n < 0) (hm : 0 < m) : -m < n.tmod m ∧ n.tmod m ≤ 0 :=
  ⟨by have := Int.lt_tmod_of_pos n hm; omega, by have := Int.tmod_nonneg m (show 0 ≤ -n by omega); rw [Int.neg_tmod] at this; omega⟩
/-- spec.Mod where the divisor is in range. -/
theorem smod_any (n m : Int) (h1 : 1 ≤ m) (h2 : m ≤ 1000000000000) (w : World) :
    Calls Tryd.prog 10 #[.int .i64 n, .int .i64 m] w fun e w' => e = .returned (.int .i64 (n % m)) ∧ w = w' := by
  by_cases h3 : 0 ≤ n
  · have b1 : 0 ≤ n % m := Int.emod_nonneg _ (by omega)
    have b2 : n % m < m := Int.emod_lt_of_pos _ (by omega)
    have HE : Hid ((n % m + m) % m = n % m) := Lib.hid (by rw [Int.add_emod_right, Int.emod_emod])
    go_enter Tryd.func10, Tryd.ntmps10
    go_wp2_with (go_at_call 20; refine (lin_yes _ _ _ (by omega) (by omega) _).mono ?_; rintro e w1 ⟨rfl, rfl⟩)
    go_ret
    exact ⟨by first | rfl | (rw [← HE.out]; rfl) | simp, rfl⟩
  · obtain ⟨b1, b2⟩ := tmod_neg_bounds (show n < 0 by omega) (show 0 < m by omega)
    have HE : Hid ((n.tmod m + m) % m = n % m) := Lib.hid (by rw [Int.add_emod_right, tmod_emod])
    go_enter Tryd.func10, Tryd.ntmps10
    go_wp2_with (go_at_call 20; refine (lin_yes _ _ _ (by omega) (by omega) _).mono ?_; rintro e w1 ⟨rfl, rfl⟩)
    go_ret
    exact ⟨by rw [← HE.out]; rfl, rfl⟩
/-- spec.Max at every two ints. -/
theorem smax_any (a b : Int) (w : World) :
    Calls Tryd.prog 25 #[.int .i64 a, .int .i64 b] w fun e w' => e = .returned (.int .i64 (if a < b then b else a)) ∧ w = w' := by
  by_cases h : a < b
  · rw [if_pos h]
    go_enter Tryd.func25, Tryd.ntmps25
    go_wp2
    go_ret
    exact ⟨rfl, rfl⟩
  · rw [if_neg h]
    go_enter Tryd.func25, Tryd.ntmps25
    go_wp2
    go_ret
    exact ⟨rfl, rfl⟩
end Go.Proofs.YtkofmllikneleaaDoor
