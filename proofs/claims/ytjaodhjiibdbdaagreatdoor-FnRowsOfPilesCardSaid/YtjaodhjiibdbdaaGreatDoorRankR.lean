/- Chapter 5: RankRow by the model and by the program. No condition. -/
import Derived.Test.YtjaodhjiibdbdaaGreatDoorGm
import Derived.Test.YtjaodhjiibdbdaaGreatDoorRankM
namespace Go.Proofs.YtjaodhjiibdbdaaGreatDoor
open Go.RowKit
set_option linter.unusedVariables false
set_option linter.unusedSimpArgs false
set_option maxRecDepth 20000

end Go.Proofs.YtjaodhjiibdbdaaGreatDoor
