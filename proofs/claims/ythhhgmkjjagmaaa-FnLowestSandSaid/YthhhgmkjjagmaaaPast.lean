/- Chapter 1: one past, by the model and by the program. No condition. -/
import Derived.Test.YthhhgmkjjagmaaaSteps
import Derived.Lib.Slices
import Derived.IntWalk
namespace Go.Proofs.Ythhhgmkjjagmaaa
open Go.RowKit
set_option linter.unusedVariables false
set_option linter.unusedSimpArgs false

theorem first_at (xs : List Int) (x : Int) (h : x ∈ xs) : ∃ k, k < xs.length ∧ xs.getD k 0 = x ∧ (∀ j, j < k → xs.getD j 0 ≠ x) ∧ xs.erase x = xs.eraseIdx k := by
  induction xs with
  | nil => cases h
  | cons a l ih =>
    by_cases ha : a = x
    · subst ha
      exact ⟨0, by simp, rfl, fun j hj => absurd hj (Nat.not_lt_zero _), by rw [List.erase_cons_head]; rfl⟩
    · have hx : x ∈ l := by
        rcases List.mem_cons.1 h with e | e
        · exact absurd e.symm ha
        · exact e
      obtain ⟨k, h1, h2, h3, h4⟩ := ih hx
      refine ⟨k + 1, by simp; exact h1, by simpa using h2, fun j hj => ?_, ?_⟩
      · cases j with
        | zero => simpa using ha
        | succ j => simpa using h3 j (by omega)
      · rw [List.erase_cons_tail (by simpa using ha), h4]; rfl
theorem idx_of (xs : List Int) (x : Int) (h : x ∈ xs) : ∃ k, k < xs.length ∧ xs.getD k 0 = x ∧ Lib.idxOf xs x = k ∧ xs.erase x = xs.eraseIdx k := by
  obtain ⟨k, h1, h2, h3, h4⟩ := first_at xs x h
  have := Lib.idxOf_hit xs xs.length k x h1 (Nat.le_refl _) h2 h3
  rw [List.take_length] at this
  exact ⟨k, h1, h2, this, h4⟩
theorem idx_no (xs : List Int) (x : Int) (h : x ∉ xs) : Lib.idxOf xs x = -1 := by
  have := Lib.idxOf_miss xs xs.length x (fun j hj e => h (getD_mem e hj rfl))
  rwa [List.take_length] at this
theorem eraseIdx_next {xs : List Int} {j n at_ : Nat} {x : Int} (hx : xs.getD j 0 = x) (hj : j < n) (hl : xs.length = n) (h : j ≠ at_) : (xs.take (j + 1)).eraseIdx at_ = (xs.take j).eraseIdx at_ ++ [x] := by
  have hlen : (xs.take j).length = j := by simp; omega
  rw [take_snoc hx hj hl]
  by_cases h' : at_ < j
  · rw [List.eraseIdx_append_of_lt_length (by omega)]
  · rw [List.eraseIdx_of_length_le (by simp; omega), List.eraseIdx_of_length_le (by omega)]
theorem eraseIdx_here {xs : List Int} {j n : Nat} {x : Int} (hx : xs.getD j 0 = x) (hj : j < n) (hl : xs.length = n) : (xs.take (j + 1)).eraseIdx j = (xs.take j).eraseIdx j := by
  have hlen : (xs.take j).length = j := by simp; omega
  rw [take_snoc hx hj hl, List.eraseIdx_append_of_length_le (by omega), List.eraseIdx_of_length_le (l := xs.take j) (by omega), hlen]
  simp

def PastOk (xs : List Int) (x : Int) : Prop := x ∈ xs ∧ (xs.length : Int) - 1 ≤ x
instance (xs : List Int) (x : Int) : Decidable (PastOk xs x) := by unfold PastOk; infer_instance
/-- what pastBy comes to -/
def mPast (xs : List Int) (x : Int) : List Int × Bool := if PastOk xs x then (pastL xs x, true) else ([], false)
theorem mPast_yes {xs : List Int} {x : Int} (h : PastOk xs x) : mPast xs x = (pastL xs x, true) := by unfold mPast; rw [if_pos h]
theorem mPast_no {xs : List Int} {x : Int} (h : ¬ PastOk xs x) : mPast xs x = ([], false) := by unfold mPast; rw [if_neg h]

/-! ### The model's -/
def mPastBy (xs : List Int) (x : Int) : List Int × Bool := if goodB xs = true then mPast xs x else ([], false)
theorem mPastBy_yes {xs : List Int} {x : Int} (h : goodB xs = true) : mPastBy xs x = mPast xs x := by unfold mPastBy; rw [if_pos h]
theorem mPastBy_no {xs : List Int} {x : Int} (h : goodB xs = false) : mPastBy xs x = ([], false) := by unfold mPastBy; rw [if_neg (by rw [h]; simp)]
theorem mPast_bound {xs : List Int} (hg : Good xs) (x : Int) : (mPast xs x).1.length ≤ 28 := by
  unfold mPast
  split
  · next h => exact (past_good hg x h.1 h.2).len
  · simp
theorem mPastBy_bound (xs : List Int) (x : Int) : (mPastBy xs x).1.length ≤ 1048576 := by
  cases h : goodB xs
  · rw [mPastBy_no h]; simp
  · rw [mPastBy_yes h]; have := mPast_bound (good_iff.1 h) x; omega

end Go.Proofs.Ythhhgmkjjagmaaa
