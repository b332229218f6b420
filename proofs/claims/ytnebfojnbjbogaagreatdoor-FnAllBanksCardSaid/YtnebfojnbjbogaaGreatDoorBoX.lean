/- BankOrbit and IsCyclicBank: both sides. No condition. -/
import Derived.Test.YtnebfojnbjbogaaGreatDoorBoS
import Derived.Test.YtnebfojnbjbogaaGreatDoorBoI
namespace Go.Proofs.YtnebfojnbjbogaaGreatDoor
end Go.Proofs.YtnebfojnbjbogaaGreatDoor
