/- One case of the finite fact. No condition. -/
import Derived.Test.YtdfmljkjidepeaaGreatDoorFpA
namespace Go.Proofs.YtdfmljkjidepeaaGreatDoor
set_option linter.unusedVariables false
set_option linter.unusedSimpArgs false

set_option maxRecDepth 100000 in
theorem srcs_24 : srcOk 24 = true := by decide +kernel
end Go.Proofs.YtdfmljkjidepeaaGreatDoor
