/- Joined piles: mathematics. No condition. -/
import Derived.Test.YtbkihnejgcebpaaGreatDoorJoin
import Derived.Test.YtbkihnejgcebpaaGreatDoorPpM
namespace Go.Proofs.YtbkihnejgcebpaaGreatDoor
open Go.RowKit
set_option linter.unusedVariables false
set_option linter.unusedSimpArgs false

theorem join_good {xs ys : List Int} (h : JoinOk xs ys) : Good (sortD (xs ++ ys)) := by
  have gx := good_iff.1 h.1
  have gy := good_iff.1 h.2.1
  refine ⟨fun x hx => ?_, sortD_sorted _, ?_⟩
  · rcases List.mem_append.1 ((sortD_perm _).mem_iff.1 hx) with q | q
    · exact gx.1 x q
    · exact gy.1 x q
  · rw [perm_sum (sortD_perm _), List.sum_append]; exact h.2.2
theorem side_all {xs : List Int} (h : Good xs) (i : Nat) : (sideL xs).getD i 0 = ((above xs i : Nat) : Int) := by
  by_cases hi : i < (xs.headD 0).toNat
  · exact sideL_getD xs i hi
  · have hl := sideL_length xs
    have hz : above xs i = 0 := by
      unfold above
      rw [List.countP_eq_zero]
      intro x hx
      have hle : x ≤ xs.headD 0 := by
        cases xs with
        | nil => cases hx
        | cons a l =>
          rcases List.mem_cons.1 hx with rfl | hm
          · exact Int.le_refl _
          · exact (List.pairwise_cons.1 h.2.1).1 x hm
      simp only [decide_eq_true_eq]
      omega
    rw [List.getD_eq_getElem?_getD, List.getElem?_eq_none (by omega), hz]
    rfl
/-- the sides of two piles add up -/
theorem side_join {xs ys : List Int} (h : JoinOk xs ys) (i : Nat) : (sideL (sortD (xs ++ ys))).getD i 0 = (sideL xs).getD i 0 + (sideL ys).getD i 0 := by
  rw [side_all (join_good h), side_all (good_iff.1 h.1), side_all (good_iff.1 h.2.1)]
  unfold above
  rw [(sortD_perm (xs ++ ys)).countP_eq, List.countP_append]
  push_cast
  rfl
theorem join_length (xs ys : List Int) : (sortD (xs ++ ys)).length = xs.length + ys.length := by rw [sortD_length, List.length_append]
theorem text_back {s : ByteArray} (h : (mParsePiles s).2 = true) : (⟨(textL (mParsePiles s).1).toArray⟩ : ByteArray) = s := by
  rw [(mPP_cases s h).1]
theorem parse_text {p : List Int} (h : Good p) : mParsePiles ⟨(textL p).toArray⟩ = (p, true) := mPP_of h rfl
end Go.Proofs.YtbkihnejgcebpaaGreatDoor
