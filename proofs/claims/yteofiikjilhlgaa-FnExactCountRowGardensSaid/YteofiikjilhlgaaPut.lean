/- spec: one number put in its place, a step, steps. No condition. -/
import Derived.Test.YteofiikjilhlgaaOrder
namespace Go.Proofs.Yteofiikjilhlgaa
open Go.RowKit Go.Shelf
set_option linter.unusedVariables false
set_option linter.unusedSimpArgs false

end Go.Proofs.Yteofiikjilhlgaa
