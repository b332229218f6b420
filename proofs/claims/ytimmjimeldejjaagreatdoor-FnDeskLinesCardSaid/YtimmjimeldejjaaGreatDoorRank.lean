/- Chapter 1: ranks of piles. No condition. -/
import Derived.Test.YtimmjimeldejjaaGreatDoorGb
import Derived.Test.YtimmjimeldejjaaGreatDoorGa
namespace Go.Proofs.YtimmjimeldejjaaGreatDoor
open Go.RowKit
set_option linter.unusedVariables false
set_option linter.unusedSimpArgs false

def mRankPiles (xs : List Int) : Int × Bool := (if goodB xs then rankL xs else 0, goodB xs)
theorem mRank_yes {xs : List Int} (h : goodB xs = true) : mRankPiles xs = (rankL xs, true) := by unfold mRankPiles; rw [h]; rfl
theorem mRank_no {xs : List Int} (h : goodB xs = false) : mRankPiles xs = (0, false) := by unfold mRankPiles; rw [h]; rfl
end Go.Proofs.YtimmjimeldejjaaGreatDoor
