/- Nothing is sorted here. -/
import Derived.Test.YtbkihnejgcebpaaPush
import Derived.Test.YtbkihnejgcebpaaGa
import Derived.Test.YtbkihnejgcebpaaShelf
import Derived.Lib.SortBridge
namespace Go.Proofs.Ytbkihnejgcebpaa
end Go.Proofs.Ytbkihnejgcebpaa
