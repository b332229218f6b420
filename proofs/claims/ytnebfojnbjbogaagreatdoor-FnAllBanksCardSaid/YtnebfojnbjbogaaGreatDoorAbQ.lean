/- What FnAllBanks calls, in one. No condition. -/
import Derived.Test.YtnebfojnbjbogaaGreatDoorAbM
import Derived.Test.YtnebfojnbjbogaaGreatDoorAbD
import Derived.Test.YtnebfojnbjbogaaGreatDoorGu
import Derived.Test.YtnebfojnbjbogaaGreatDoorBoX
import Derived.Test.YtnebfojnbjbogaaGreatDoorBcX
namespace Go.Proofs.YtnebfojnbjbogaaGreatDoor
end Go.Proofs.YtnebfojnbjbogaaGreatDoor
