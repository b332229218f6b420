/- BankPasts: both sides. No condition. -/
import Derived.Test.YtbkihnejgcebpaaBcI
import Derived.Test.YtbkihnejgcebpaaBcS
namespace Go.Proofs.Ytbkihnejgcebpaa
open Go.RowKit
theorem BksOwn.drew {B E w ao n cap bs} (h : BksOwn B E w ao n cap bs) : BksOwn B E w.drew ao n cap bs := h
end Go.Proofs.Ytbkihnejgcebpaa
