/- Nothing of the shelf is called here. -/
import Derived.Test.YtbkihnejgcebpaaProg
namespace Go.Shelf
end Go.Shelf
namespace Go.Sort
end Go.Sort
namespace Go.Lib
end Go.Lib
namespace Go.Proofs
end Go.Proofs
