/- Chapter 7: the bank state at the start. No condition. -/
import Derived.Test.YtbkihnejgcebpaaDoorBaF
namespace Go.Proofs.YtbkihnejgcebpaaDoor
open Go.RowKit
set_option linter.unusedVariables false
set_option linter.unusedSimpArgs false
set_option maxRecDepth 20000

theorem fill_nat (H C : Nat) (xs : List Int) : fillB (H : Int) (C : Int) xs = ⟨(H : Int), ((C % H : Nat) : Int), List.replicate (C / H) (H : Int) ++ xs⟩ := by
  unfold fillB
  rw [← Int.natCast_ediv, ← Int.natCast_emod, Int.toNat_natCast]
theorem mStartBank_bound (h n : Int) : (mStartBank h n).1.p.length ≤ 1048576 := by
  unfold mStartBank
  split
  · next q =>
    obtain ⟨H, rfl⟩ := Int.eq_ofNat_of_zero_le (show 0 ≤ h by omega)
    obtain ⟨C, rfl⟩ := Int.eq_ofNat_of_zero_le (show 0 ≤ n by omega)
    rw [fill_nat]
    have := Nat.div_le_self C H
    simp
    omega
  · simp [noBk]
end Go.Proofs.YtbkihnejgcebpaaDoor
