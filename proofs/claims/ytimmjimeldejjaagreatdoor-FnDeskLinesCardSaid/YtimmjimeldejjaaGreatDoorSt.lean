/- Several texts in one: StH, StI. No condition. -/
import Derived.Test.YtimmjimeldejjaaGreatDoorHelp
import Derived.Test.YtimmjimeldejjaaGreatDoorGk
import Derived.Test.YtimmjimeldejjaaGreatDoorGj
import Derived.Test.YtimmjimeldejjaaGreatDoorGu
namespace Go.Proofs.YtimmjimeldejjaaGreatDoor
section
open Go.RowKit
set_option linter.unusedVariables false
set_option linter.unusedSimpArgs false
set_option maxRecDepth 20000

theorem ValsAt.drewN {w ao n cap vs} (h : ValsAt w ao n cap vs) (q : Nat) : ValsAt (w.drewN q) ao n cap vs := ⟨h.length, h.le, h.max, h.isNil, h.cell⟩
/-! ### Marks -/
end
end Go.Proofs.YtimmjimeldejjaaGreatDoor
namespace Go.Proofs.YtimmjimeldejjaaGreatDoor
section
open Go.RowKit
set_option linter.unusedVariables false
set_option linter.unusedSimpArgs false
set_option maxRecDepth 20000

end
end Go.Proofs.YtimmjimeldejjaaGreatDoor
