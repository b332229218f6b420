/- Chapter 2: FirstOfCycles, CountCycles by the program. No condition. -/
import Derived.Test.YtmfdimdcoeapoaaGreatIsFirst
namespace Go.Proofs.YtmfdimdcoeapoaaGreat
open Go.RowKit
set_option linter.unusedVariables false
set_option linter.unusedSimpArgs false
set_option maxRecDepth 20000

def firstsL (n : Nat) : List (List Int) := ((choiceL (hgt n + 1) (n - tri (hgt n))).filter isFirstB).map fromB
theorem firsts_sub {n : Nat} (h : n ≤ 28) {xs : List Int} (hx : xs ∈ firstsL n) : xs ∈ allC n := by
  unfold firstsL at hx
  obtain ⟨bs, hb, rfl⟩ := List.mem_map.1 hx
  exact List.mem_map.2 ⟨bs, (List.mem_filter.1 hb).1, rfl⟩
theorem firsts_length {n : Nat} (h : n ≤ 28) : (firstsL n).length ≤ 256 := by
  unfold firstsL
  rw [List.length_map]
  exact Nat.le_trans (List.length_filter_le _ _) (choice_count n (by omega))
def mFirstOfCycles (n : Int) : List (List Int) × Bool := if 0 ≤ n ∧ n ≤ 28 then (firstsL n.toNat, true) else ([], false)
theorem mFirst_yes (n : Nat) (h : n ≤ 28) : mFirstOfCycles n = (firstsL n, true) := by unfold mFirstOfCycles; rw [if_pos (by omega)]; rfl
theorem mFirst_no (n : Int) (h : ¬ (0 ≤ n ∧ n ≤ 28)) : mFirstOfCycles n = ([], false) := by unfold mFirstOfCycles; rw [if_neg h]
theorem mFirstOfCycles_bound (n : Int) : (mFirstOfCycles n).1.length ≤ 1048576 ∧ total (mFirstOfCycles n).1 ≤ 1048576 := by
  by_cases h : 0 ≤ n ∧ n ≤ 28
  · obtain ⟨m, rfl⟩ := Int.eq_ofNat_of_zero_le h.1
    rw [mFirst_yes m (by omega)]
    have h1 := firsts_length (n := m) (by omega)
    have h2 := total_le (firstsL m) 28 (fun ys hy => (allC_good (by omega) (firsts_sub (by omega) hy)).1.len)
    refine ⟨by show (firstsL m).length ≤ _; omega, ?_⟩
    show total (firstsL m) ≤ _
    omega
  · rw [mFirst_no n h]; simp [total]
def mCountCycles (n : Int) : Int × Bool := if 0 ≤ n ∧ n ≤ 28 then (((firstsL n.toNat).length : Int), true) else (0, false)
theorem mCountC_yes (n : Nat) (h : n ≤ 28) : mCountCycles n = (((firstsL n).length : Int), true) := by unfold mCountCycles; rw [if_pos (by omega)]; rfl
theorem mCountC_no (n : Int) (h : ¬ (0 ≤ n ∧ n ≤ 28)) : mCountCycles n = (0, false) := by unfold mCountCycles; rw [if_neg h]

end Go.Proofs.YtmfdimdcoeapoaaGreat
