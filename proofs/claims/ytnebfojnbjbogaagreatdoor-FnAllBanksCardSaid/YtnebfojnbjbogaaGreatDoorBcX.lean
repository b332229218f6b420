/- BankPasts: both sides. No condition. -/
import Derived.Test.YtnebfojnbjbogaaGreatDoorBcI
import Derived.Test.YtnebfojnbjbogaaGreatDoorBcS
namespace Go.Proofs.YtnebfojnbjbogaaGreatDoor
open Go.RowKit
theorem BksOwn.drew {B E w ao n cap bs} (h : BksOwn B E w ao n cap bs) : BksOwn B E w.drew ao n cap bs := h
end Go.Proofs.YtnebfojnbjbogaaGreatDoor
