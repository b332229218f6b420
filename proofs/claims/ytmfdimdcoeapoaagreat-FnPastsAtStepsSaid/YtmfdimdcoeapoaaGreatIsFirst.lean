/- Chapter 2: does a ring come first of all its turns. No condition. -/
import Derived.Test.YtmfdimdcoeapoaaGreatCmp
import Derived.Test.YtmfdimdcoeapoaaGreatGr
namespace Go.Proofs.YtmfdimdcoeapoaaGreat
open Go.RowKit
set_option linter.unusedVariables false
set_option linter.unusedSimpArgs false
set_option maxRecDepth 20000

theorem isFirst_iff (bs : List Int) : isFirstB bs = true ↔ ∀ k, k < bs.length → cmpL (rotN k bs) bs ≤ 0 := by
  unfold isFirstB
  rw [List.all_eq_true]
  constructor
  · intro h k hk; simpa using h k (List.mem_range.2 hk)
  · intro h k hk; simpa using h k (List.mem_range.1 hk)

end Go.Proofs.YtmfdimdcoeapoaaGreat
