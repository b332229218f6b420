/- Chapter 1: steps of piles, by the model and by the program. No condition. -/
import Derived.Test.YtbkihnejgcebpaaGreatDoorPut
import Derived.Test.YtbkihnejgcebpaaGreatDoorGa
namespace Go.Proofs.YtbkihnejgcebpaaGreatDoor
open Go.RowKit
set_option linter.unusedVariables false
set_option maxRecDepth 20000
set_option linter.unusedSimpArgs false

end Go.Proofs.YtbkihnejgcebpaaGreatDoor
