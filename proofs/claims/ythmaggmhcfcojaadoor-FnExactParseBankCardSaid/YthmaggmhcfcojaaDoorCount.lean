/- How many piles some cards make: plain mathematics. No condition. -/
import Derived.Test.YthmaggmhcfcojaaDoorMath
namespace Go.Proofs.YthmaggmhcfcojaaDoor
set_option linter.unusedVariables false
set_option linter.unusedSimpArgs false

/-- the next row of the table: piles of p cards more -/
def stepC (l : List Nat) (p : Nat) : List Nat := (List.range 29).foldl (fun acc c => acc ++ [l.getD c 0 + if p ≤ c then acc.getD (c - p) 0 else 0]) []
def crow : Nat → List Nat
  | 0 => 1 :: List.replicate 28 0
  | m + 1 => stepC (crow m) (m + 1)
/-- how many piles of n cards there are, none greater than m (m, n at most 28) -/
def cnt (m n : Nat) : Nat := (crow m).getD n 0

theorem cnt_rec : ∀ m, m < 28 → ∀ n, n < 29 → cnt (m + 1) n = cnt m n + if m + 1 ≤ n then cnt (m + 1) (n - (m + 1)) else 0 := by decide +kernel
theorem cnt_le : ∀ m, m < 29 → ∀ n, n < 29 → cnt m n ≤ 3718 := by decide +kernel
theorem cnt_zero : ∀ m, m < 29 → cnt m 0 = 1 := by decide +kernel
theorem cnt_none : ∀ n, n < 29 → cnt 0 n = if n = 0 then 1 else 0 := by decide +kernel
/-- a greater bound than the cards changes nothing -/
theorem cnt_big : ∀ m, m < 29 → ∀ n, n ≤ m → cnt m n = cnt n n := by decide +kernel
theorem cnt_mono : ∀ m, m < 28 → ∀ n, n < 29 → cnt m n ≤ cnt (m + 1) n := by decide +kernel

/-- the table in the round (p, c) -/
def tabP (p c n : Nat) : List Int := (List.range (n + 1)).map fun i => ((if i < c then cnt p i else cnt (p - 1) i : Nat) : Int)
theorem tabP_length (p c n : Nat) : (tabP p c n).length = n + 1 := by simp [tabP]
theorem tabP_getD (p c n i : Nat) (h : i ≤ n) : (tabP p c n).getD i 0 = ((if i < c then cnt p i else cnt (p - 1) i : Nat) : Int) := by
  unfold tabP
  rw [List.getD_eq_getElem?_getD, List.getElem?_map, List.getElem?_range (by omega)]
  rfl
theorem tabP_set (p c n : Nat) (h1 : 1 ≤ p) (hp : p < 29) (hpc : p ≤ c) (hc : c ≤ n) (hn : n < 29) (q : Int) (hq : q = (cnt (p - 1) c : Int) + (cnt p (c - p) : Int)) :
    (tabP p c n).set c q = tabP p (c + 1) n := by
  have hr := cnt_rec (p - 1) (by omega) c (by omega)
  rw [show p - 1 + 1 = p by omega, if_pos hpc] at hr
  apply List.ext_getElem
  · simp [tabP_length]
  · intro i h2 h3
    simp [tabP_length] at h2
    rw [List.getElem_set]
    split
    · next e => subst e; simp only [tabP, List.getElem_map, List.getElem_range]; rw [if_pos (by omega), hq, hr]; simp
    · next e =>
      simp only [tabP, List.getElem_map, List.getElem_range]
      by_cases hi : i < c
      · rw [if_pos hi, if_pos (by omega)]
      · rw [if_neg hi, if_neg (by omega)]
theorem tabP_start (p n : Nat) (h1 : 1 ≤ p) (hp : p < 29) (hn : n < 29) : tabP p p n = tabP (p - 1) (n + 1) n := by
  apply List.ext_getElem
  · simp [tabP_length]
  · intro i h2 h3
    simp [tabP_length] at h2
    simp only [tabP, List.getElem_map, List.getElem_range]
    rw [if_pos (show i < n + 1 by omega)]
    by_cases hi : i < p
    · have hr := cnt_rec (p - 1) (by omega) i (by omega)
      rw [show p - 1 + 1 = p by omega, if_neg (by omega)] at hr
      rw [if_pos hi, hr]; simp
    · rw [if_neg hi]
theorem tabP_high (p c n : Nat) (h : n < c) : tabP p c n = tabP p (n + 1) n := by
  apply List.ext_getElem
  · simp [tabP_length]
  · intro i h2 h3
    simp [tabP_length] at h2
    simp only [tabP, List.getElem_map, List.getElem_range]
    rw [if_pos (by omega), if_pos (by omega)]
theorem tabP_zero (n : Nat) (hn : n < 29) : (List.replicate (n + 1) (0 : Int)).set 0 1 = tabP 0 (n + 1) n := by
  apply List.ext_getElem
  · simp [tabP_length]
  · intro i h2 h3
    simp [tabP_length] at h2 h3
    simp only [tabP, List.getElem_map, List.getElem_range]
    rw [if_pos (by omega), cnt_none i (by omega), List.getElem_set]
    by_cases h : i = 0
    · subst h; rfl
    · rw [if_neg (by omega), if_neg h]; simp

/-! ### Staircases -/
def hgt (n : Nat) : Nat := if n < 1 then 0 else if n < 3 then 1 else if n < 6 then 2 else if n < 10 then 3 else if n < 15 then 4 else if n < 21 then 5 else if n < 28 then 6 else 7
theorem hgt_cases (n : Nat) (h : n ≤ 28) : (n < 1 ∧ hgt n = 0) ∨ (1 ≤ n ∧ n < 3 ∧ hgt n = 1) ∨ (3 ≤ n ∧ n < 6 ∧ hgt n = 2) ∨ (6 ≤ n ∧ n < 10 ∧ hgt n = 3) ∨ (10 ≤ n ∧ n < 15 ∧ hgt n = 4) ∨ (15 ≤ n ∧ n < 21 ∧ hgt n = 5) ∨ (21 ≤ n ∧ n < 28 ∧ hgt n = 6) ∨ (n = 28 ∧ hgt n = 7) := by
  unfold hgt
  repeat' (first | omega | split)
def tri (k : Nat) : Nat := k * (k + 1) / 2
theorem hgt_le (n : Nat) : hgt n ≤ 7 := by unfold hgt; repeat' (first | omega | split)
theorem tri_hgt : ∀ n, n < 29 → tri (hgt n) ≤ n ∧ n - tri (hgt n) ≤ hgt n := by decide

end Go.Proofs.YthmaggmhcfcojaaDoor
