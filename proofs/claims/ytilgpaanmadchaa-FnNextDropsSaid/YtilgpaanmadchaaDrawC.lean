/- The draws of chapter 1's laws. No condition but sizes. -/
import Derived.Test.YtilgpaanmadchaaDrawB
namespace Go.Proofs.Ytilgpaanmadchaa
open Go.RowKit
set_option linter.unusedVariables false
set_option linter.unusedSimpArgs false

theorem curSize (w : World) (o : Obj) : w.heap.size ≤ (w.alloc o).heap.size := by simp

end Go.Proofs.Ytilgpaanmadchaa
