/- How many ones a number below 256 has: math/bits.OnesCount, by its own text. No condition. -/
import Derived.Test.YtmfdimdcoeapoaaGreatRingF
namespace Go.Proofs.YtmfdimdcoeapoaaGreat
open Go.RowKit
set_option linter.unusedVariables false
set_option linter.unusedSimpArgs false
set_option maxRecDepth 20000

def popN : Nat → Nat → Nat
  | 0, _ => 0
  | k + 1, m => m % 2 + popN k (m / 2)

end Go.Proofs.YtmfdimdcoeapoaaGreat
