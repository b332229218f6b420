/- Chapter 1: PlayOf, by the model and by the program. No condition. -/
import Derived.Test.YtbkihnejgcebpaaPastsB
namespace Go.Proofs.Ytbkihnejgcebpaa
open Go.RowKit
set_option linter.unusedVariables false
set_option linter.unusedSimpArgs false

def playL (k : Nat) (xs : List Int) : List (List Int) := (List.range (k + 1)).map fun i => stepsL i xs
theorem playL_length (k : Nat) (xs : List Int) : (playL k xs).length = k + 1 := by simp [playL]
theorem playL_succ (k : Nat) (xs : List Int) : playL k xs ++ [stepL (stepsL k xs)] = playL (k + 1) xs := by
  unfold playL
  rw [List.range_succ (n := k + 1), List.map_append]
  rfl
theorem playL_getD (k i : Nat) (xs : List Int) (h : i ≤ k) : (playL k xs).getD i [] = stepsL i xs := by
  unfold playL
  rw [List.getD_eq_getElem?_getD, List.getElem?_map, List.getElem?_range (by omega)]
  rfl
def mPlayOf (xs : List Int) (k : Int) : List (List Int) × Bool := if goodB xs = true ∧ 0 ≤ k ∧ k ≤ 1000 then (playL k.toNat xs, true) else ([], false)
theorem mPlay_yes {xs : List Int} {k : Nat} (h : goodB xs = true) (hk : k ≤ 1000) : mPlayOf xs k = (playL k xs, true) := by unfold mPlayOf; rw [if_pos ⟨h, by omega, by omega⟩]; rfl
theorem mPlay_no1 {xs : List Int} {k : Int} (h : goodB xs = false) : mPlayOf xs k = ([], false) := by unfold mPlayOf; rw [if_neg (by rw [h]; simp)]
theorem mPlay_no2 {xs : List Int} {k : Int} (h : ¬ (0 ≤ k ∧ k ≤ 1000)) : mPlayOf xs k = ([], false) := by unfold mPlayOf; rw [if_neg (fun hh => h hh.2)]
theorem playL_good {xs : List Int} (hg : Good xs) (k : Nat) : ∀ ys ∈ playL k xs, Good ys := by
  intro ys hy
  unfold playL at hy
  obtain ⟨i, _, rfl⟩ := List.mem_map.1 hy
  exact stepsL_good hg i
theorem mPlayOf_bound (xs : List Int) (k : Int) : (mPlayOf xs k).1.length ≤ 1048576 ∧ total (mPlayOf xs k).1 ≤ 1048576 := by
  unfold mPlayOf
  split
  · next h =>
    have h1 := playL_length k.toNat xs
    have h3 := total_le (playL k.toNat xs) 28 (fun ys hy => (playL_good (good_iff.1 h.1) _ ys hy).len)
    exact ⟨by show (playL k.toNat xs).length ≤ _; omega, by show total (playL k.toNat xs) ≤ _; omega⟩
  · simp [total]

end Go.Proofs.Ytbkihnejgcebpaa
