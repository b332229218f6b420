/- Chapter 2: the first piles of each cycle, counted out for all numbers of cards. No condition. -/
import Derived.Test.YtedldgpbphbijaaFirstM
namespace Go.Proofs.Ytedldgpbphbijaa
set_option linter.unusedVariables false
set_option linter.unusedSimpArgs false
def choiceX : Nat → Nat → List (List Int)
  | 0, o => if o = 0 then [[]] else []
  | n + 1, o => (if 1 ≤ o then (choiceX n (o - 1)).map ((1 : Int) :: ·) else []) ++ (choiceX n o).map ((0 : Int) :: ·)
theorem firsts_eq : ∀ n, n < 29 → (foldF (choiceX (hgt n + 1) (n - tri (hgt n)))).1 = (choiceX (hgt n + 1) (n - tri (hgt n))).filter isFirstB := by decide +kernel
theorem firsts_seen : ∀ n, n < 29 → (foldF (choiceX (hgt n + 1) (n - tri (hgt n)))).2.length ≤ 256 := by decide +kernel
end Go.Proofs.Ytedldgpbphbijaa
