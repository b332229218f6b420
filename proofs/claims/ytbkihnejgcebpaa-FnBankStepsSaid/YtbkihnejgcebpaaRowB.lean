/- Chapter 5: CountRows, RowPastCount, by the model and by the program. No condition. -/
import Derived.Test.YtbkihnejgcebpaaRowA
namespace Go.Proofs.Ytbkihnejgcebpaa
open Go.RowKit
set_option linter.unusedVariables false
set_option linter.unusedSimpArgs false
set_option maxRecDepth 20000

theorem pow_fin : ∀ m : Nat, m < 28 → wrap64 (2 ^ m) = (cntR (m + 1) : Int) := by decide +kernel
/-! ### Ways to choose -/
end Go.Proofs.Ytbkihnejgcebpaa
