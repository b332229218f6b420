/- Chapter 1: the side. No condition. -/
import Derived.Test.YtbkihnejgcebpaaPileE
import Derived.Test.YtbkihnejgcebpaaGa
namespace Go.Proofs.Ytbkihnejgcebpaa
open Go.RowKit
set_option linter.unusedVariables false
set_option linter.unusedSimpArgs false

theorem isPiles_yes (ao : Option Addr) (n cap : Nat) (xs : List Int) (w : World) (h : IntsAt w ao n cap xs) (hg : Good xs) :
    Calls Try.prog 53 #[.slice ao n cap] w fun e w' => e = .returned (.bool true) ∧ w = w' := by
  have := isPiles_any ao n cap xs w h; rw [good_iff.2 hg] at this; exact this
theorem isPiles_no (ao : Option Addr) (n cap : Nat) (xs : List Int) (w : World) (h : IntsAt w ao n cap xs) (hg : goodB xs = false) :
    Calls Try.prog 53 #[.slice ao n cap] w fun e w' => e = .returned (.bool false) ∧ w = w' := by
  have := isPiles_any ao n cap xs w h; rw [hg] at this; exact this
theorem piGood_yes (ao : Option Addr) (n cap : Nat) (xs : List Int) (w : World) (h : IntsAt w ao n cap xs) (hg : Good xs) :
    Calls Try.prog 69 #[.slice ao n cap] w fun e w' => e = .returned (.bool true) ∧ w = w' := by
  have := piGood_any ao n cap xs w h; rw [good_iff.2 hg] at this; exact this
theorem piGood_no (ao : Option Addr) (n cap : Nat) (xs : List Int) (w : World) (h : IntsAt w ao n cap xs) (hg : goodB xs = false) :
    Calls Try.prog 69 #[.slice ao n cap] w fun e w' => e = .returned (.bool false) ∧ w = w' := by
  have := piGood_any ao n cap xs w h; rw [hg] at this; exact this

end Go.Proofs.Ytbkihnejgcebpaa
