/- Chapter 1: counts, heights and staircases. No condition. -/
import Derived.Test.YtbkihnejgcebpaaGreatDoorBase
import Derived.Test.YtbkihnejgcebpaaGreatDoorGa
import Derived.Test.YtbkihnejgcebpaaGreatDoorPileA
import Derived.Test.YtbkihnejgcebpaaGreatDoorHelp
namespace Go.Proofs.YtbkihnejgcebpaaGreatDoor
open Go.RowKit
set_option linter.unusedVariables false
set_option linter.unusedSimpArgs false

theorem inRange_any (n most : Int) (w : World) :
    Calls Tryz.prog 73 #[.int .i64 n, .int .i64 most] w fun e w' => e = .returned (.bool (decide (0 ≤ n ∧ n ≤ most))) ∧ w = w' := by
  go_enter Tryz.func73, Tryz.ntmps73
  go_wp2
  all_goals (go_ret; exact ⟨by congr 2; simp; omega, rfl⟩)

theorem inRange_yes (n most : Int) (w : World) (h : 0 ≤ n ∧ n ≤ most) : Calls Tryz.prog 73 #[.int .i64 n, .int .i64 most] w fun e w' => e = .returned (.bool true) ∧ w = w' := by
  have := inRange_any n most w; rw [decide_eq_true h] at this; exact this
theorem inRange_no (n most : Int) (w : World) (h : ¬ (0 ≤ n ∧ n ≤ most)) : Calls Tryz.prog 73 #[.int .i64 n, .int .i64 most] w fun e w' => e = .returned (.bool false) ∧ w = w' := by
  have := inRange_any n most w; rw [decide_eq_false h] at this; exact this
theorem l1Least_any (a b : Int) (w : World) :
    Calls Tryz.prog 120 #[.int .i64 a, .int .i64 b] w fun e w' => e = .returned (.int .i64 (min a b)) ∧ w = w' := by
  go_enter Tryz.func120, Tryz.ntmps120
  go_wp2
  all_goals (go_ret; exact ⟨retI (by omega), rfl⟩)

/-! ### Heights -/
def mHeightFor (n : Int) : Int × Int × Bool := if 0 ≤ n ∧ n ≤ 28 then (hgt n.toNat, n - tri (hgt n.toNat), true) else (0, 0, false)

end Go.Proofs.YtbkihnejgcebpaaGreatDoor
