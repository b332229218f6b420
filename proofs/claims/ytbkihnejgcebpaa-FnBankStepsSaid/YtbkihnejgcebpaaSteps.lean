/- Chapter 1: StepPiles, StepsFrom, PlayOf, by the model and by the program. No condition. -/
import Derived.Test.YtbkihnejgcebpaaStep
import Derived.Test.YtbkihnejgcebpaaHelp
namespace Go.Proofs.Ytbkihnejgcebpaa
open Go.RowKit
set_option linter.unusedVariables false
set_option maxRecDepth 20000
set_option linter.unusedSimpArgs false

theorem stepsL_add (k : Nat) (xs : List Int) : stepsL (k + 1) xs = stepL (stepsL k xs) := rfl
def mStepPiles (xs : List Int) : List Int × Bool := (if goodB xs then stepL xs else [], goodB xs)
theorem mStep_yes {xs : List Int} (h : goodB xs = true) : mStepPiles xs = (stepL xs, true) := by unfold mStepPiles; rw [h]; rfl
theorem mStep_no {xs : List Int} (h : goodB xs = false) : mStepPiles xs = ([], false) := by unfold mStepPiles; rw [h]; rfl
theorem mStepPiles_bound (xs : List Int) : (mStepPiles xs).1.length ≤ 1048576 := by
  cases h : goodB xs
  · rw [mStep_no h]; simp
  · rw [mStep_yes h]; have := (stepL_good (good_iff.1 h)).len; show (stepL xs).length ≤ _; omega
def mStepsFrom (xs : List Int) (k : Int) : List Int × Bool := if goodB xs = true ∧ 0 ≤ k ∧ k ≤ 1000 then (stepsL k.toNat xs, true) else ([], false)
theorem mSteps_yes {xs : List Int} {k : Nat} (h : goodB xs = true) (hk : k ≤ 1000) : mStepsFrom xs k = (stepsL k xs, true) := by unfold mStepsFrom; rw [if_pos ⟨h, by omega, by omega⟩]; rfl
theorem mSteps_no1 {xs : List Int} {k : Int} (h : goodB xs = false) : mStepsFrom xs k = ([], false) := by unfold mStepsFrom; rw [if_neg (by rw [h]; simp)]
theorem mSteps_no2 {xs : List Int} {k : Int} (h : ¬ (0 ≤ k ∧ k ≤ 1000)) : mStepsFrom xs k = ([], false) := by unfold mStepsFrom; rw [if_neg (fun hh => h hh.2)]
theorem mStepsFrom_bound (xs : List Int) (k : Int) : (mStepsFrom xs k).1.length ≤ 1048576 := by
  unfold mStepsFrom
  split
  · next h => have := (stepsL_good (good_iff.1 h.1) k.toNat).len; show (stepsL k.toNat xs).length ≤ _; omega
  · simp

theorem l1In_yes (n lo hi : Int) (w : World) (h : lo ≤ n ∧ n ≤ hi) : Calls Try.prog 64 #[.int .i64 n, .int .i64 lo, .int .i64 hi] w fun e w' => e = .returned (.bool true) ∧ w = w' := by
  have := l1In_any n lo hi w; rw [decide_eq_true h] at this; exact this
theorem l1In_no (n lo hi : Int) (w : World) (h : ¬ (lo ≤ n ∧ n ≤ hi)) : Calls Try.prog 64 #[.int .i64 n, .int .i64 lo, .int .i64 hi] w fun e w' => e = .returned (.bool false) ∧ w = w' := by
  have := l1In_any n lo hi w; rw [decide_eq_false h] at this; exact this

end Go.Proofs.Ytbkihnejgcebpaa
