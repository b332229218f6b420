/- slices.SortFunc over numbers from 0 to 63, and slices.Index: the shelf's contracts in this seat's words. No condition but the range. -/
import Derived.Test.YtdfmljkjidepeaaGreatDoorGb
import Derived.Test.YtdfmljkjidepeaaGreatDoorGa
import Derived.Test.YtdfmljkjidepeaaGreatDoorShelf
import Derived.Lib.SortBridge
namespace Go.Proofs.YtdfmljkjidepeaaGreatDoor
open Go.RowKit Go.Shelf Go.Lib Go.Sort
set_option linter.unusedVariables false
set_option maxRecDepth 20000
set_option linter.unusedSimpArgs false

def encF (i : Fin 64) : Value := .int .i64 (i.val : Int)
def cfD (x y : Fin 64) : Int := (y.val : Int) - x.val
theorem ltD (x y : Fin 64) : ltOf cfD x y = decide (y.val < x.val) := by
  unfold ltOf cfD
  by_cases h : y.val < x.val
  · simp [h]; omega
  · simp [h]; omega
theorem swoD : SWO (ltOf cfD) where
  irrefl x := by rw [ltD]; simp
  trans x y z h1 h2 := by rw [ltD] at *; simp at *; omega
  ntrans x y z h1 h2 := by rw [ltD] at *; simp at *; omega
theorem totD (x y : Fin 64) (h1 : ltOf cfD x y = false) (h2 : ltOf cfD y x = false) : x = y := by
  rw [ltD] at *; simp at *; apply Fin.ext; omega

theorem toFin (xs : List Int) (h : ∀ x ∈ xs, 0 ≤ x ∧ x < 64) : ∃ d : List (Fin 64), d.map (fun i => (i.val : Int)) = xs := by
  induction xs with
  | nil => exact ⟨[], rfl⟩
  | cons x xs ih =>
    obtain ⟨d, hd⟩ := ih (fun y hy => h y (by simp [hy]))
    have hx := h x (by simp)
    exact ⟨⟨x.toNat, by omega⟩ :: d, by simp [hd]; omega⟩

end Go.Proofs.YtdfmljkjidepeaaGreatDoor
