/- Chapter 1: the side. No condition. -/
import Derived.Test.YteofiikjilhlgaaPileE
import Derived.Test.YteofiikjilhlgaaGa
namespace Go.Proofs.Yteofiikjilhlgaa
open Go.RowKit
set_option linter.unusedVariables false
set_option linter.unusedSimpArgs false

end Go.Proofs.Yteofiikjilhlgaa
