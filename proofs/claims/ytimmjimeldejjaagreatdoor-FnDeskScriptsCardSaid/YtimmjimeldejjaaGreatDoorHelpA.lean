/- The laws' own helpers: a copy and an equality. No condition but a bound on lengths. -/
import Derived.Test.YtimmjimeldejjaaGreatDoorBase
namespace Go.Proofs.YtimmjimeldejjaaGreatDoor
open Go.RowKit
set_option linter.unusedVariables false
set_option linter.unusedSimpArgs false

theorem madeZeros (n : Nat) : (madeCells #[Value.int .i64 0] n).toList = (List.replicate n (0 : Int)).map (Value.int .i64) := by
  apply List.ext_getElem
  · simp [size_madeCells]
  · intro i h1 h2
    simp [madeCells, Value.cells, Nat.mod_one]

theorem IntsAt.drewN {w ao n cap xs} (h : IntsAt w ao n cap xs) (q : Nat) : IntsAt (w.drewN q) ao n cap xs := ⟨h.length, h.le, h.max, h.isNil, h.cell⟩

end Go.Proofs.YtimmjimeldejjaaGreatDoor
