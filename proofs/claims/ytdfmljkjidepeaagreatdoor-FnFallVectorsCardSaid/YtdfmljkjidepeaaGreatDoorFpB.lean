/- Two cases of the finite fact. No condition. -/
import Derived.Test.YtdfmljkjidepeaaGreatDoorFpA
namespace Go.Proofs.YtdfmljkjidepeaaGreatDoor
set_option linter.unusedVariables false
set_option linter.unusedSimpArgs false

set_option maxRecDepth 100000 in
theorem srcs_22 : srcOk 22 = true := by decide +kernel
set_option maxRecDepth 100000 in
theorem srcs_23 : srcOk 23 = true := by decide +kernel
end Go.Proofs.YtdfmljkjidepeaaGreatDoor
