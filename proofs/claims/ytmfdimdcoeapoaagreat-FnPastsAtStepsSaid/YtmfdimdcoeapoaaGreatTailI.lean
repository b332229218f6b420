/- Chapter 2: tails and cycles by the program. No condition. -/
import Derived.Test.YtmfdimdcoeapoaaGreatTail
import Derived.Test.YtmfdimdcoeapoaaGreatRingF
namespace Go.Proofs.YtmfdimdcoeapoaaGreat
open Go.RowKit
set_option linter.unusedVariables false
set_option linter.unusedSimpArgs false
set_option maxRecDepth 20000

theorem tail_least {xs : List Int} (hg : Good xs) {j : Nat} (h : ∀ i, i < j → ¬ Cyc (stepsL i xs)) : j ≤ tailL xs :=
  Nat.le_of_not_lt fun hl => h _ hl (tailL_spec hg).2.1

end Go.Proofs.YtmfdimdcoeapoaaGreat
