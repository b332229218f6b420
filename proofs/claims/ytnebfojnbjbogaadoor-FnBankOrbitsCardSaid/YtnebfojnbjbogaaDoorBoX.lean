/- BankOrbit and IsCyclicBank: both sides. No condition. -/
import Derived.Test.YtnebfojnbjbogaaDoorBoS
import Derived.Test.YtnebfojnbjbogaaDoorBoI
namespace Go.Proofs.YtnebfojnbjbogaaDoor
end Go.Proofs.YtnebfojnbjbogaaDoor
