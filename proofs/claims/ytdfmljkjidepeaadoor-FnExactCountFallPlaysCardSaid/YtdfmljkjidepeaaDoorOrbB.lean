/- Chapter 2: what the model says of cyclic piles and bits. No condition. -/
import Derived.Test.YtdfmljkjidepeaaDoorOrbA
import Derived.Test.YtdfmljkjidepeaaDoorGh
namespace Go.Proofs.YtdfmljkjidepeaaDoor
open Go.RowKit
set_option linter.unusedVariables false
set_option linter.unusedSimpArgs false
set_option maxRecDepth 20000

theorem tmod_nat (a b : Nat) : Int.tmod (a : Int) (b : Int) = ((a % b : Nat) : Int) := by
  rw [Int.natCast_emod]; exact Int.tmod_eq_emod_of_nonneg (by omega)

theorem goodBF {xs : List Int} (h : ¬ Good xs) : goodB xs = false := by
  cases hb : goodB xs with
  | false => rfl
  | true => exact absurd (good_iff.1 hb) h
theorem cycBF {xs : List Int} (h : ¬ Cyc xs) : cycB xs = false := by
  cases hb : cycB xs with
  | false => rfl
  | true => exact absurd (cyc_iff.1 hb) h
theorem sum_toNat {xs : List Int} (h : Good xs) : ∃ s : Nat, xs.sum = s ∧ s ≤ 28 := by
  have := sum_nonneg h.1; have := h.2.2
  exact ⟨xs.sum.toNat, by omega, by omega⟩

end Go.Proofs.YtdfmljkjidepeaaDoor
