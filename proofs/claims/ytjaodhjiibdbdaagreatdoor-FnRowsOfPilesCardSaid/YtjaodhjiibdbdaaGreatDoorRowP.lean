/- Chapter 5 by the program: RowOrbit, IsCyclicRow. No condition. -/
import Derived.Test.YtjaodhjiibdbdaaGreatDoorRowO
import Derived.WalkMore
namespace Go.Proofs.YtjaodhjiibdbdaaGreatDoor
open Go.RowKit
set_option linter.unusedVariables false
set_option linter.unusedSimpArgs false
set_option maxRecDepth 20000

end Go.Proofs.YtjaodhjiibdbdaaGreatDoor
