/- Chapter 1: counts, heights and staircases. No condition. -/
import Derived.Test.YtbkihnejgcebpaaBase
import Derived.Test.YtbkihnejgcebpaaGa
import Derived.Test.YtbkihnejgcebpaaPileA
import Derived.Test.YtbkihnejgcebpaaHelp
namespace Go.Proofs.Ytbkihnejgcebpaa
open Go.RowKit
set_option linter.unusedVariables false
set_option linter.unusedSimpArgs false

theorem inRange_any (n most : Int) (w : World) :
    Calls Try.prog 35 #[.int .i64 n, .int .i64 most] w fun e w' => e = .returned (.bool (decide (0 ≤ n ∧ n ≤ most))) ∧ w = w' := by
  go_enter Try.func35, Try.ntmps35
  go_wp2
  all_goals (go_ret; exact ⟨by congr 2; simp; omega, rfl⟩)

theorem piCards_any (n : Int) (w : World) :
    Calls Try.prog 62 #[.int .i64 n] w fun e w' => e = .returned (.bool (decide (0 ≤ n ∧ n ≤ 28))) ∧ w = w' := by
  go_enter Try.func62, Try.ntmps62
  go_wp2_with (go_at_call 64; refine (l1In_any _ _ _ _).mono ?_; rintro e w' ⟨rfl, rfl⟩)
  go_ret
  exact ⟨retB (by simp), rfl⟩

theorem inRange_yes (n most : Int) (w : World) (h : 0 ≤ n ∧ n ≤ most) : Calls Try.prog 35 #[.int .i64 n, .int .i64 most] w fun e w' => e = .returned (.bool true) ∧ w = w' := by
  have := inRange_any n most w; rw [decide_eq_true h] at this; exact this
theorem inRange_no (n most : Int) (w : World) (h : ¬ (0 ≤ n ∧ n ≤ most)) : Calls Try.prog 35 #[.int .i64 n, .int .i64 most] w fun e w' => e = .returned (.bool false) ∧ w = w' := by
  have := inRange_any n most w; rw [decide_eq_false h] at this; exact this
theorem piCards_yes (n : Int) (w : World) (h : 0 ≤ n ∧ n ≤ 28) : Calls Try.prog 62 #[.int .i64 n] w fun e w' => e = .returned (.bool true) ∧ w = w' := by
  have := piCards_any n w; rw [decide_eq_true h] at this; exact this
theorem piCards_no (n : Int) (w : World) (h : ¬ (0 ≤ n ∧ n ≤ 28)) : Calls Try.prog 62 #[.int .i64 n] w fun e w' => e = .returned (.bool false) ∧ w = w' := by
  have := piCards_any n w; rw [decide_eq_false h] at this; exact this

theorem l1Least_any (a b : Int) (w : World) :
    Calls Try.prog 78 #[.int .i64 a, .int .i64 b] w fun e w' => e = .returned (.int .i64 (min a b)) ∧ w = w' := by
  go_enter Try.func78, Try.ntmps78
  go_wp2
  all_goals (go_ret; exact ⟨retI (by omega), rfl⟩)

/-! ### Heights -/
def mHeightFor (n : Int) : Int × Int × Bool := if 0 ≤ n ∧ n ≤ 28 then (hgt n.toNat, n - tri (hgt n.toNat), true) else (0, 0, false)

end Go.Proofs.Ytbkihnejgcebpaa
