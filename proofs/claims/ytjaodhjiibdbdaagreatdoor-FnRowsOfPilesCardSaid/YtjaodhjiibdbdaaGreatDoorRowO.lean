/- Chapter 5 by the program: StepRow, RowSteps, PlayRow, RowOrbit, IsCyclicRow. No condition. -/
import Derived.Test.YtjaodhjiibdbdaaGreatDoorRowW
import Derived.Test.YtjaodhjiibdbdaaGreatDoorRingC
namespace Go.Proofs.YtjaodhjiibdbdaaGreatDoor
open Go.RowKit
set_option linter.unusedVariables false
set_option linter.unusedSimpArgs false
set_option maxRecDepth 20000

theorem chgBelowG {g B : Nat} {w w' : World} (h : Chg (fun k => k = g) w w') (hB : B ≤ w.heap.size) (hg : B ≤ g) : Below B w w' := h.below hB (fun k hk => by omega)
theorem cellsAt {w : World} {g : Nat} {cs : Array Value} {ty : TypeId} (h : w.heap[g]? = some (.cells cs ty (0, 0))) (i : Nat) (v : Value) (hv : cs[i]? = some v) : w.cell? ⟨g, i, none⟩ = some v := by
  unfold World.cell?
  simp [h, hv]
end Go.Proofs.YtjaodhjiibdbdaaGreatDoor
