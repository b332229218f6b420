/- Chapter 1: copies and sides. No condition but a bound on lengths. -/
import Derived.Test.YthmaggmhcfcojaaDoorPileD
namespace Go.Proofs.YthmaggmhcfcojaaDoor
open Go.RowKit
set_option linter.unusedVariables false
set_option linter.unusedSimpArgs false

theorem belowAlloc (w : World) (o : Obj) : Below w.heap.size w (w.alloc o) := (Below.refl _ _).alloc (Nat.le_refl _) o

end Go.Proofs.YthmaggmhcfcojaaDoor
