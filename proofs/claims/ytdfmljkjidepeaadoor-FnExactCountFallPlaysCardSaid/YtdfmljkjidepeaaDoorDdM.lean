/- Numbers that are read back: mathematics. No condition. -/
import Derived.Test.YtdfmljkjidepeaaDoorParse
namespace Go.Proofs.YtdfmljkjidepeaaDoor
open Go.RowKit
set_option linter.unusedVariables false
set_option linter.unusedSimpArgs false

theorem read_ddI {x : Int} (h0 : 0 ≤ x) (h1 : x ≤ 28) : readL (dd x) = x := by
  unfold dd
  rw [read_dd _ (by omega)]
  omega
theorem atoi_ddI {x : Int} (h0 : 0 ≤ x) (h1 : x ≤ 28) : Lib.atoiAll (dd x) = .ok x := by
  unfold dd
  rw [atoi_dd _ (by omega)]
  congr 1
  omega
end Go.Proofs.YtdfmljkjidepeaaDoor
