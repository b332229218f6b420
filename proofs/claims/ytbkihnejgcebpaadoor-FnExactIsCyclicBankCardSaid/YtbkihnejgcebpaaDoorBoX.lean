/- BankOrbit and IsCyclicBank: both sides. No condition. -/
import Derived.Test.YtbkihnejgcebpaaDoorBoS
import Derived.Test.YtbkihnejgcebpaaDoorBoI
namespace Go.Proofs.YtbkihnejgcebpaaDoor
end Go.Proofs.YtbkihnejgcebpaaDoor
