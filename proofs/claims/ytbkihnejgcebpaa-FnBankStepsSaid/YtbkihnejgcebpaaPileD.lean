/- Chapter 1: staircases. No condition. -/
import Derived.Test.YtbkihnejgcebpaaPileC
import Derived.Test.YtbkihnejgcebpaaPush
namespace Go.Proofs.Ytbkihnejgcebpaa
open Go.RowKit
set_option linter.unusedVariables false
set_option linter.unusedSimpArgs false

theorem fill_set (xs : List Int) (k n : Nat) (x : Int) (hx : xs.getD k 0 = x) (hk : k < n) (hl : xs.length = n) :
    (xs.take k ++ List.replicate (n - k) 0).set k x = xs.take (k + 1) ++ List.replicate (n - (k + 1)) 0 := by
  subst hx
  apply List.ext_getElem
  · simp; omega
  · intro i h1 h2
    simp at h1
    rw [List.getElem_set]
    split
    · next h => subst h; simp [List.getElem_append, List.getElem_take, show k < min (k+1) xs.length by omega, List.getD_eq_getElem?_getD, show k < xs.length by omega]
    · next h =>
      simp only [List.getElem_append, List.length_take, List.getElem_take, List.getElem_replicate]
      by_cases hi : i < k
      · simp [show i < min k xs.length by omega, show i < min (k+1) xs.length by omega]
      · simp [show ¬ i < min k xs.length by omega, show ¬ i < min (k+1) xs.length by omega]
theorem fill_all (xs : List Int) (n : Nat) (hl : xs.length = n) : xs.take n ++ List.replicate (n - n) 0 = xs := by
  simp [List.take_of_length_le (Nat.le_of_eq hl)]

theorem stairs_getD (k i : Nat) (h : i < k) : (stairs k).getD i 0 = (k : Int) - i := by
  unfold stairs
  rw [List.getD_eq_getElem?_getD, List.getElem?_map, List.getElem?_range h]
  simp; omega

end Go.Proofs.Ytbkihnejgcebpaa
