/- Chapter 2: states of plays; IsCyclic, BitsOf, FromBits, TurnBits by the program. No condition. -/
import Derived.Test.YtkhphdohdnfplaaRingE
namespace Go.Proofs.Ytkhphdohdnfplaa
open Go.RowKit
set_option linter.unusedVariables false
set_option linter.unusedSimpArgs false
set_option maxRecDepth 20000

/-! ### The methods -/
end Go.Proofs.Ytkhphdohdnfplaa
