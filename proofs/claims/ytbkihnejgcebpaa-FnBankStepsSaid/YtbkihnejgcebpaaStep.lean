/- Chapter 1: steps of piles, by the model and by the program. No condition. -/
import Derived.Test.YtbkihnejgcebpaaPut
import Derived.Test.YtbkihnejgcebpaaGa
namespace Go.Proofs.Ytbkihnejgcebpaa
open Go.RowKit
set_option linter.unusedVariables false
set_option maxRecDepth 20000
set_option linter.unusedSimpArgs false

end Go.Proofs.Ytbkihnejgcebpaa
