/- Rows are told, without what plays need. No condition. -/
import Derived.Test.YtjaodhjiibdbdaaGreatDoorGm
namespace Go.Proofs.YtjaodhjiibdbdaaGreatDoor
open Go.RowKit
set_option linter.unusedVariables false
set_option linter.unusedSimpArgs false

theorem row_farT {xs : List Int} (h : 28 < xs.length) : rowB xs = false := by
  cases hr : rowB xs
  · rfl
  · have := (row_iff.1 hr).len; omega
end Go.Proofs.YtjaodhjiibdbdaaGreatDoor
