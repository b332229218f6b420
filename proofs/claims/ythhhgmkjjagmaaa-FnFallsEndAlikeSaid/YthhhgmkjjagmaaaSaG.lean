/- Chapter 6's laws in mathematics: what a fall does, what settles. No condition. -/
import Derived.Test.YthhhgmkjjagmaaaGf
import Derived.Test.YthhhgmkjjagmaaaSaF
namespace Go.Proofs.Ythhhgmkjjagmaaa
set_option linter.unusedVariables false
set_option linter.unusedSimpArgs false

theorem grain_cases {xs : List Int} (hs : sandB xs = true) (i : Int) : mFallGrain xs i = ([], false) ∨ ∃ ys, mFallGrain xs i = (ys, true) ∧ Sand ys ∧ wt 0 ys = wt 0 xs + 1 ∧ ys.sum = xs.sum ∧ befB xs ys = true ∧ fallsL xs ≠ [] := by
  have e : mFallGrain xs i = ifSand (fall1 xs i) := mPlayF_yes hs (by simp)
  rw [e]
  cases hf : fall1 xs i with
  | none => exact .inl rfl
  | some ys =>
    obtain ⟨k, rfl, k1, k2, rfl⟩ := fall1_to hf
    cases hy : sandB (fallL xs k)
    · exact .inl (ifSand_no hy)
    · refine .inr ⟨_, ifSand_yes hy, sand_iff.1 hy, fall_wt k1 0, fall_sum k1, fall_before k1, fun h => ?_⟩
      have := mem_fallsL.2 ⟨k, rfl, k1, k2⟩
      rw [h] at this; cases this
theorem shape_zero : mSettledShape 0 = ([], true) := by
  have h := shape_of (n := 0) (by omega)
  rw [show (if 0 < restI 0 then stairs (hgt 0) ++ [restI 0] else stairs (hgt 0)) = [] by decide +kernel, sortD_nil] at h
  exact h
theorem shape_cases {n : Int} (h : 0 ≤ n ∧ n ≤ 24) : ∃ Z, mSettledShape n = (Z, true) ∧ mSettleSand (oneCol n) = (Z, true) := by
  obtain ⟨N, rfl⟩ := Int.eq_ofNat_of_zero_le h.1
  have h1 := shape_of (n := N) (by omega)
  have h2 := mShape_yes h
  exact ⟨_, h1, h2 ▸ h1⟩
theorem sand_wt {xs : List Int} (h : Sand xs) : 0 ≤ wt 0 xs ∧ wt 0 xs ≤ 576 := h.grains.wt
theorem sand_sum {xs : List Int} (h : Sand xs) : 0 ≤ xs.sum ∧ xs.sum ≤ 24 := ⟨by have := sum_nonneg h.good.1; omega, h.2.2⟩
end Go.Proofs.Ythhhgmkjjagmaaa
